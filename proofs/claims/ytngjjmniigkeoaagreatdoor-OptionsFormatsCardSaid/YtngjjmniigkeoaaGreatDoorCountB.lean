/- options.Count, where nothing is wrong and the first attempt suffices. -/
import Derived.Test.YtngjjmniigkeoaaGreatDoorAskB
import Derived.Test.YtngjjmniigkeoaaGreatDoorL5
namespace Go.Proofs.YtngjjmniigkeoaaGreatDoor
open Go Go.RowKit Go.WideMaps Go.Maps
set_option linter.unusedSimpArgs false
set_option linter.unusedVariables false

/-- How many variants Count says. -/
def counted (n : Nat) (fs : List (List Int)) : Nat := num (fun σ => fs.all (fun f => evalF (byLev (List.range n) σ) f)) n 0 zeroσ

theorem count_work {w0 w : World} {n cb : Nat} {v : Value} {fs : List (List Int)} (hn : n ≤ 40) (hb0 : Below w0.heap.size w0 w) (hcb : w0.heap.size ≤ cb) (hc : w.cell? ⟨cb, 0, none⟩ = some v) (hf : w.frozen? ⟨cb, 0, none⟩ = false) (W : World) (hW : Below w.heap.size w W) :
    WorkOn W.heap.size W n fs 47 #[.pointer (some ⟨cb, 0, none⟩)] (fun w' => w'.cell? ⟨cb, 0, none⟩ = some (.int .i64 (counted n fs : Nat)) ∧ Below w0.heap.size w0 w') := by
  intro h s k w1 hm
  have lc := World.block_lt_of_cell? w _ hc
  have hb : Below w.heap.size w w1 := hW.trans (hm.below.mono hW.size)
  have c1 : w1.cell? ⟨cb, 0, none⟩ = some v := cell_kept hc hb (Nat.le_refl _)
  have f1 : w1.frozen? ⟨cb, 0, none⟩ = false := (hb.frozen (p := ⟨cb, 0, none⟩) lc).trans hf
  refine (count1_any h s k w1 cb v hm.dia hm.hk (by rw [hm.hn]; exact hn) hm.cnt c1 f1).mono ?_
  rintro e w2 ⟨he, hc2, hk2⟩
  refine ⟨he, ?_, ?_⟩
  · show w2.cell? ⟨cb, 0, none⟩ = _
    rw [hc2, hm.hn]
    unfold counted
    rw [num_congr hm.mean]
  · have h1 := hb0.trans (hb.mono hb0.size)
    exact h1.trans (hk2.below h1.size (fun j e => by omega))

set_option maxRecDepth 100000 in
set_option maxHeartbeats 3200000 in
theorem count_all (ao ar af : Option Addr) (ca cr cf : Nat) (ss : List ByteArray) (fs : List (List Int)) (f : List Int) (w : World) (h : ModelAt w ao ar ss fs) (hf : IntsAt w af cf f) (hcr : ar = none → cr = 0)
    (hok : checkErr ss fs [f] = 0) (hn : ss.length ≤ 40) (hlen : (fs ++ [f]).length < 20) (hv : ∀ k, k < (fs ++ [f]).length → validB ((fs ++ [f]).getD k []) ss.length = true) (hst : (fs ++ [f]).length * (101 * 2 ^ ss.length) ≤ 524288) :
    Calls Tryz.prog 29 #[.agg #[.slice ao ss.length ca, .slice ar fs.length cr], .slice af f.length cf] w fun e w' => e = .returned (.tuple #[.int .i64 (counted ss.length (fs ++ [f]) : Nat), .int .i64 0]) ∧ Below w.heap.size w w' := by
  have hmf : ∀ (fn : Fn) (first cap : Array Value) (w : World), (Instr.makeFunc fn first cap).run Tryz.prog w = .ok (.func fn first cap) w := fun _ _ _ _ => rfl
  have hM : ∀ o o', ModelAt ((w.alloc o).alloc o') ao ar ss fs := fun o o' => (h.kept (below_alloc w o) (Nat.le_refl _)).kept (below_alloc _ o') (Nat.le_refl _)
  have hF : ∀ o, IntsAt (w.alloc o) af cf f := fun o => hf.kept (below_alloc w o) (Nat.le_refl _)
  have HM := Lib.hid hM; have HF := Lib.hid hF; have Hm := Lib.hid h; have Hf := Lib.hid hf; have Hv := Lib.hid hv; have Hst := Lib.hid hst; have Hlen := Lib.hid hlen; have Hcr := Lib.hid hcr
  clear h hM hf hF hv hst hlen hcr
  have c0 : ∀ (w1 : World), Below ((w.alloc (.cells #[.slice ao ss.length ca, .slice ar fs.length cr] 25)).alloc (.cells #[.slice af f.length cf] 27)).heap.size ((w.alloc (.cells #[.slice ao ss.length ca, .slice ar fs.length cr] 25)).alloc (.cells #[.slice af f.length cf] 27)) w1 → w1.cell? ⟨w.heap.size, 0, none⟩ = some (.slice ao ss.length ca) ∧ w1.cell? ⟨w.heap.size, 1, none⟩ = some (.slice ar fs.length cr) ∧ Below w.heap.size w w1 := fun w1 hb => ⟨cell_kept (alloc_cell (box_at0 rfl) _) hb (Nat.le_refl _), cell_kept (alloc_cell (box_at1 rfl) _) hb (Nat.le_refl _), ((below_alloc w _).trans ((below_alloc _ _).mono (by simp))).trans (hb.mono (by simp; omega))⟩
  have C0 := Lib.hid c0
  clear c0
  go_enter Tryz.func29, Tryz.ntmps29
  go_wp2_with fail
  have hc := check_any ao ar (some ⟨w.heap.size + 1, 0, none⟩) ca cr 1 ss fs [f] ((w.alloc (.cells #[.slice ao ss.length ca, .slice ar fs.length cr] 25)).alloc (.cells #[.slice af f.length cf] 27)) (HM.out _ _) (by have := formsAt_one (HF.out (.cells #[.slice ao ss.length ca, .slice ar fs.length cr] 25)) 27; simpa using this)
  rw [hok] at hc
  refine hc.mono ?_
  rintro e w1 ⟨rfl, hb1⟩
  obtain ⟨q0, q1, hb⟩ := C0.out w1 hb1
  have Hb := Lib.hid hb
  clear hb hb1 hc C0
  have q0' := alloc_cell q0
  have q1' := alloc_cell q1
  have l1 : w.heap.size < w1.heap.size := World.block_lt_of_cell? w1 _ q0
  go_wp2_with fail
  have hM1 := ((Hm.out.kept Hb.out (Nat.le_refl _)).kept (below_alloc w1 (.cells #[.int .i64 0] 3)) (Nat.le_refl _)).kept (below_alloc _ (.cells #[.slice af f.length cf] 27)) (Nat.le_refl _)
  have hG := formsAt_one (((Hf.out.kept Hb.out (Nat.le_refl _))).kept (below_alloc w1 (.cells #[.int .i64 0] 3)) (Nat.le_refl _)) 27
  have hcb : ((w1.alloc (.cells #[.int .i64 0] 3)).alloc (.cells #[.slice af f.length cf] 27)).cell? ⟨w1.heap.size, 0, none⟩ = some (.int .i64 0) := alloc_cell (box_one rfl) _
  have hfz : ((w1.alloc (.cells #[.int .i64 0] 3)).alloc (.cells #[.slice af f.length cf] 27)).frozen? ⟨w1.heap.size, 0, none⟩ = false := by simp
  have hask := ask_any ao ar (some ⟨w1.heap.size + 1, 0, none⟩) ca cr 1 47 ss fs [f] #[.pointer (some ⟨w1.heap.size, 0, none⟩)] _ ((w1.alloc (.cells #[.int .i64 0] 3)).alloc (.cells #[.slice af f.length cf] 27)) hM1 (by simpa using hG) Hcr.out (fun e => by cases e) hn Hlen.out Hv.out Hst.out enters_count1 (fun W hW => count_work (w0 := w) hn ((Hb.out.trans ((below_alloc w1 _).mono Hb.out.size)).trans ((below_alloc _ _).mono (by have := Hb.out.size; simp; omega))) Hb.out.size hcb hfz W hW)
  refine hask.mono ?_
  rintro e w2 ⟨rfl, hr, hbl⟩
  have Hbl := Lib.hid hbl
  clear hask hM1 hG hbl
  go_wp2_with fail
  refine bodyPost_ret (results_tmp2 rfl _ _ _) rfl ?_
  exact ⟨rfl, Hbl.out⟩
end Go.Proofs.YtngjjmniigkeoaaGreatDoor
