/- The reference's Ranked. -/
import Derived.Test.YtcelbmpdnkaamaaByB
namespace Go.Proofs.Ytcelbmpdnkaamaa
open Go Go.RowKit Go.WideMaps Go.Maps
set_option linter.unusedSimpArgs false
set_option linter.unusedVariables false

theorem FBox.set4 {w : World} {b : Nat} {f : Fr} (h : FBox w b f) (x : Int) : FBox (w.setCell ⟨b, 4, none⟩ (.int .i64 x)) b ⟨f.s, f.e, f.j, f.d, x⟩ := heap_setCell_same w b 4 _ _ (.int .i64 x) h
theorem FBox.frozen {w : World} {b : Nat} {f : Fr} (h : FBox w b f) (j : Nat) : w.frozen? ⟨b, j, none⟩ = false := by
  unfold FBox at h
  simp [World.frozen?, h]
theorem OwnF.late {w w' : World} {B : Nat} {a : Option Addr} {c : Nat} {ls : List Fr} (h : OwnF w B a c ls) (k : Keeps (fun j => w.heap.size ≤ j) w w') : OwnF w' B a c ls := by
  have h0 : w.ownsRow B 56 5 (.slice a ls.length c) ls.length (ls.flatMap frCells) := h
  exact ownsRow_of_block h0 (fun j e => k.block j (h0.lt j e).2 (fun hj => by have := (h0.lt j e).2; omega))
def RankedEnd (w : World) (L : List Fr) (n : Nat) (e : Ending) (w' : World) : Prop := ∃ a c, e = .returned (.slice a n c) ∧ OwnF w' w.heap.size a c L ∧ Kp w w'

set_option maxRecDepth 100000 in
set_option maxHeartbeats 6400000 in
theorem ranked_any (la ra : Option Addr) (lc rc : Nat) (ls : List Fr) (rk : List Int) (w : World) (h : FramesAt w la ls) (hr : IntsAt w ra rk) (hrl : rk.length = ls.length) (hl40 : ls.length ≤ 40) :
    Calls Try.prog 34 #[.slice la ls.length lc, .slice ra ls.length rc] w (RankedEnd w (rankedL ls rk ls.length) ls.length) := by
  obtain ⟨i0, hi0, hz0, hz1, hz2⟩ := info_parts infoFrame
  have H := Lib.hid h; have Hr := Lib.hid hr
  clear h hr
  go_enter Try.func34, Try.ntmps34
  go_wp2_with fail
  go_loopw [5, 6] (fun l i wq => ∃ (k : Nat) (a : Option Addr) (c : Nat), k ≤ ls.length ∧ i = .int .i64 k ∧ l = .slice a k c ∧ OwnF wq w.heap.size a c (rankedL ls rk k) ∧ Kp w wq) (fun _ i _ => ls.length - (intOf i).toNat)
  case atStart => exact ⟨0, none, 0, Nat.zero_le _, rfl, rfl, OwnF.nil _ _, Kp.refl _⟩
  case round =>
    obtain ⟨w3, rfl⟩ : ∃ w3, w3 = wr := ⟨wr, rfl⟩
    obtain ⟨k, a, c, hk, rfl, rfl, hown, kp⟩ := hrel
    by_cases hlt : k < ls.length
    case neg =>
      obtain rfl : k = ls.length := by omega
      go_wp2_with fail
      go_ret
      exact ⟨a, c, rfl, hown, kp⟩
    case pos =>
      obtain ⟨b1, o1, rfl, hc1⟩ := H.out.cells (by omega)
      obtain ⟨b2, o2, rfl, hc2⟩ := Hr.out.cells (by omega)
      have c0 := kp.cell (hc1 k hlt).1; have c1 := kp.cell (hc1 k hlt).2.1; have c2 := kp.cell (hc1 k hlt).2.2.1; have c3 := kp.cell (hc1 k hlt).2.2.2.1; have c4 := kp.cell (hc1 k hlt).2.2.2.2
      have e0 := kp.cell (hc2 k (by omega))
      have i1 : (k : Int) < (ls.length : Int) := by omega
      have ka := kp_alloc w3 (.cells #[.int .i64 (frAt ls k).s, .int .i64 (frAt ls k).e, .int .i64 (frAt ls k).j, .int .i64 (frAt ls k).d, .int .i64 (frAt ls k).r] 56)
      have hfb := FBox.new w3 (frAt ls k)
      have e1 := ka.cell e0
      have hsz := kp.size
      have hrs := rankedL_succ ls rk k
      have hLl : (rankedL ls rk k).length = k := rankedL_len ls rk k
      have f1 := hfb.frozen 4
      have g4 := hfb.c4
      have hbl : w3.heap.size < (w3.alloc (.cells #[.int .i64 (frAt ls k).s, .int .i64 (frAt ls k).e, .int .i64 (frAt ls k).j, .int .i64 (frAt ls k).d, .int .i64 (frAt ls k).r] 56)).heap.size := by simp
      have hb2 := World.block_lt_of_cell? _ _ e1
      generalize rankedL ls rk k = L at *
      generalize rk.getD k 0 = x at *
      generalize frAt ls k = f at *
      have hW4 : (w3.alloc (.cells #[.int .i64 f.s, .int .i64 f.e, .int .i64 f.j, .int .i64 f.d, .int .i64 x] 56)).heap.size = w3.heap.size + 1 := by simp
      have ks4 : Keeps (fun j => w3.heap.size ≤ j) w3 ((w3.alloc (.cells #[.int .i64 f.s, .int .i64 f.e, .int .i64 f.j, .int .i64 f.d, .int .i64 x] 56)).alloc (.cells #[.int .i64 f.s, .int .i64 f.e, .int .i64 f.j, .int .i64 f.d, .int .i64 x] 56)) := ((Keeps.refl (fun j => w3.heap.size ≤ j) w3).alloc _).alloc _
      have hnb := heap_alloc_new (w3.alloc (.cells #[.int .i64 f.s, .int .i64 f.e, .int .i64 f.j, .int .i64 f.d, .int .i64 x] 56)) (.cells #[.int .i64 f.s, .int .i64 f.e, .int .i64 f.j, .int .i64 f.d, .int .i64 x] 56)
      rw [hW4] at hnb
      have hone : ∀ u ∈ frCells ⟨f.s, f.e, f.j, f.d, x⟩, u.oneCell' = true := by intro u hu; simp [frCells] at hu; rcases hu with rfl | rfl | rfl | rfl | rfl <;> rfl
      have ho7 : ((w3.alloc (.cells #[.int .i64 f.s, .int .i64 f.e, .int .i64 f.j, .int .i64 f.d, .int .i64 x] 56)).alloc (.cells #[.int .i64 f.s, .int .i64 f.e, .int .i64 f.j, .int .i64 f.d, .int .i64 x] 56)).ownsRow w.heap.size 56 5 (.slice a k c) k (L.flatMap frCells) := by
        have := hown.late ks4
        unfold OwnF at this
        rw [hLl] at this
        exact this
      have hkw : Kp w ((w3.alloc (.cells #[.int .i64 f.s, .int .i64 f.e, .int .i64 f.j, .int .i64 f.d, .int .i64 x] 56)).alloc (.cells #[.int .i64 f.s, .int .i64 f.e, .int .i64 f.j, .int .i64 f.d, .int .i64 x] 56)) := kp.trans ks4 (fun j e => Or.inr (by omega))
      have hlt0 : ∀ j, (Value.slice a k c).ownBlock = some j → w.heap.size ≤ j := fun j e => (ho7.lt j e).1
      have Hrs := Lib.hid hrs; have Ho7 := Lib.hid ho7; have Hnb := Lib.hid hnb; have Hone := Lib.hid hone; have Hkw := Lib.hid hkw; have Hlt0 := Lib.hid hlt0
      clear hrs hown kp ka hfb hc1 hc2 e0 ho7 hnb hone hkw ks4 hW4 hlt0
      go_wp2_with (at_builtin; go_loud (refine wpList_append_lies _ rfl (.tmp 23) (.tmp 25) 22 rfl w.heap.size 56 i0 (.agg #[.int .i64 0, .int .i64 0, .int .i64 0, .int .i64 0, .int .i64 0]) 5 40 Try.underlying22 hi0 hz0 hz1 hz2 rfl (by decide) (.slice a k c) k (L.flatMap frCells) (by rfl) Ho7.out ⟨w3.heap.size + 1, 0, none⟩ 1 1 (frCells ⟨f.s, f.e, f.j, f.d, x⟩) (by rfl) rfl (World.news_of_block (cs := #[.int .i64 f.s, .int .i64 f.e, .int .i64 f.j, .int .i64 f.d, .int .i64 x]) (t := 56) (fr := (0, 0)) Hnb.out) Hone.out (by omega) (by unfold maxLen; omega) (by omega) (by have := Hkw.out.size; omega) _ rfl ?_); intro g2 cap2 w7 hown7 hgrow hat hlt7)
      have kp7 : Kp w w7 := Hkw.out.grown hgrow (fun j e => Or.inr (Hlt0.out j e))
      have hown8 : OwnF w7 w.heap.size (some ⟨g2, 0, none⟩) cap2 (L ++ [⟨f.s, f.e, f.j, f.d, x⟩]) := by
        unfold OwnF
        rw [List.length_append, List.flatMap_append, hLl]
        simpa using hown7
      have K7 := Lib.hid kp7; have Ho8 := Lib.hid hown8
      clear kp7 hown8 hown7 hgrow hat
      go_wp2_with fail
      go_roundw
      case rel => exact ⟨k + 1, some ⟨g2, 0, none⟩, cap2, by omega, by go_num, rfl, by rw [Hrs.out]; exact Ho8.out, K7.out⟩
      case measure => simp [intOf]; omega
end Go.Proofs.Ytcelbmpdnkaamaa
