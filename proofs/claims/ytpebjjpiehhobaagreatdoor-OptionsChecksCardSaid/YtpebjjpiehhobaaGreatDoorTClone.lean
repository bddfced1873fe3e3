/- Clone, IndexFunc, DeleteFunc of terms. -/
import Derived.Test.YtpebjjpiehhobaaGreatDoorTSort
import Derived.Lib.AppendZeros
import Derived.Laws.AppendOwnNone
import Derived.Lib.SliceRun
namespace Go.Proofs.YtpebjjpiehhobaaGreatDoor
open Go Go.RowKit Go.WideMaps Go.Maps
set_option linter.unusedSimpArgs false
set_option linter.unusedVariables false

theorem infoTerm : (Tryz.prog.info? 129).map (fun i => (i.zero, i.size, i.bytes)) = some (some (.agg #[.int .i32 0, .int .i64 0]), 2, 16) := by kernel_rfl

theorem terms_news {w : World} {ad : Addr} {ts : List (Nat × Int)} (h : TermsAt w (some ad) ts) : ∀ j u, (ts.flatMap tmCells)[j]? = some u → w.cell? (ad.add j) = some u := by
  intro j u hu
  have hl := flat2_len ts
  obtain ⟨hj, _⟩ := List.getElem?_eq_some_iff.1 hu
  obtain ⟨g, e, hc⟩ := h.cells (by omega)
  cases e
  have hadd : (⟨g, 0, none⟩ : Addr).add j = ⟨g, j, none⟩ := by unfold Addr.add; split <;> simp_all
  rw [hadd]
  have hk : j / 2 < ts.length := by omega
  obtain ⟨f0, f1⟩ := flat2_at ts (j / 2) hk
  obtain ⟨c0, c1⟩ := hc (j / 2) hk
  rcases Nat.mod_two_eq_zero_or_one j with h0 | h0
  · have e2 : j / 2 * 2 = j := by omega
    rw [e2] at f0 c0
    rw [hu] at f0
    rw [c0, ← f0]
  · have e2 : j / 2 * 2 + 1 = j := by omega
    rw [e2] at f1 c1
    rw [hu] at f1
    rw [c1, ← f1]
theorem tm_one (ts : List (Nat × Int)) : ∀ u ∈ ts.flatMap tmCells, u.oneCell' = true := by
  intro u hu
  obtain ⟨t, _, ht⟩ := List.mem_flatMap.1 hu
  simp [tmCells] at ht
  rcases ht with rfl | rfl <;> rfl

def TCloneEnd (w : World) (ts : List (Nat × Int)) (e : Ending) (w' : World) : Prop := ∃ g cap, e = .returned (.slice (some ⟨g, 0, none⟩) ts.length cap) ∧ TRow w' w.heap.size g ts.length cap ts ∧ Keeps (fun _ => False) w w'

set_option maxHeartbeats 800000 in
set_option maxRecDepth 100000 in
theorem tclone_any (ad : Addr) (cap : Nat) (ts : List (Nat × Int)) (w : World) (ht : TermsAt w (some ad) ts) :
    Calls Tryz.prog 124 #[.slice (some ad) ts.length cap] w (TCloneEnd w ts) := by
  obtain ⟨i0, hi0, hz0, hz1, hz2⟩ := info_parts infoTerm
  have hl := ht.len
  have hl2 := flat2_len ts
  have hnews := terms_news (ht.keeps (S := fun _ => False) ((Keeps.refl _ w).alloc (.cells #[] 129)) (fun _ _ _ e => e))
  have hrow : (w.alloc (.cells #[] 129)).ownsRow w.heap.size 129 2 (.slice (some ⟨w.heap.size, 0, none⟩) 0 0) 0 [] := ⟨rfl, .inr ⟨w.heap.size, 0, #[], rfl, Nat.le_refl _, heap_alloc_new _ _, Nat.le_refl _, by unfold maxLen; omega, rfl, rfl⟩⟩
  have heq := Lib.run_eql_slice_nil (P := Tryz.prog) w 127 129 (some ad) ts.length cap 0 0 Tryz.underlying127
  simp only [Option.isNone_some] at heq
  have hk1 : Keeps (fun _ => False) w (w.alloc (.cells #[] 129)) := (Keeps.refl _ w).alloc _
  have Hn := Lib.hid hnews; have Hr := Lib.hid hrow; have Hk := Lib.hid hk1
  clear hnews hrow hk1 ht
  go_enter Tryz.func124, Tryz.ntmps124
  go_wp2_with (at_builtin; refine wpList_append_own _ rfl _ _ 127 rfl w.heap.size 129 i0 (.agg #[.int .i32 0, .int .i64 0]) 2 16 Tryz.underlying127 hi0 hz0 hz1 hz2 rfl (by decide) _ 0 [] rfl Hr.out ad ts.length cap (ts.flatMap tmCells) rfl hl2 Hn.out (tm_one ts) (by unfold maxLen; omega) (by omega) (by simp) ?_; intro v' w' hown hgrow hnil)
  have hv : ∃ g cap, v' = .slice (some ⟨g, 0, none⟩) ts.length cap := by
    rcases hown.2 with ⟨e, _⟩ | ⟨g, cap', cur, e, _⟩
    · have := hnil.1 e; cases this.1
    · exact ⟨g, cap', by rw [e]; congr 1; omega⟩
  obtain ⟨g, cap', rfl⟩ := hv
  have hrow2 : TRow w' w.heap.size g ts.length cap' ts := ⟨by simpa using hown⟩
  have hg' : (w.alloc (.cells #[] 129)).grownBy w' (some w.heap.size) := hgrow
  have hk2 : Keeps (fun _ => False) w w' := by
    have := (Hk.out.mono (S' := fun b => b = w.heap.size) (fun _ e => e.elim)).grown hg' (fun k e => by cases e; exact Or.inl rfl)
    exact this.mono (fun k e => Or.inr (by omega))
  have Hr2 := Lib.hid hrow2; have Hk2 := Lib.hid hk2
  clear hrow2 hk2 hown hgrow hnil hg'
  go_ret
  exact ⟨g, cap', rfl, Hr2.out, Hk2.out⟩
end Go.Proofs.YtpebjjpiehhobaaGreatDoor
