/- ask. -/
import Derived.Test.YtngjjmniigkeoaaGreatDoorAsk
import Derived.Test.YtngjjmniigkeoaaGreatDoorConcat
namespace Go.Proofs.YtngjjmniigkeoaaGreatDoor
open Go Go.RowKit Go.WideMaps Go.Maps
set_option linter.unusedSimpArgs false
set_option linter.unusedVariables false

theorem alloc_cell {w : World} {p : Addr} {v : Value} (h : w.cell? p = some v) (o : Obj) : (w.alloc o).cell? p = some v :=
  ((below_alloc w o).cell (World.block_lt_of_cell? w _ h)).trans h
theorem box_at0 {W : World} {a b : Value} {t : TypeId} {B : Nat} (e : W.heap.size = B) : (W.alloc (.cells #[a, b] t)).cell? ⟨B, 0, none⟩ = some a := by subst e; exact box0 W a b t
theorem box_at1 {W : World} {a b : Value} {t : TypeId} {B : Nat} (e : W.heap.size = B) : (W.alloc (.cells #[a, b] t)).cell? ⟨B, 1, none⟩ = some b := by subst e; exact box1 W a b t
theorem box_one {W : World} {a : Value} {t : TypeId} {B : Nat} (e : W.heap.size = B) : (W.alloc (.cells #[a] t)).cell? ⟨B, 0, none⟩ = some a := by subst e; simp

set_option maxRecDepth 100000 in
set_option maxHeartbeats 3200000 in
theorem ask_any (ao ar al : Option Addr) (ca cr cl K : Nat) (ss : List ByteArray) (fs gs : List (List Int)) (caps : Array Value) (R : World → Prop) (w : World) (hm : ModelAt w ao ar ss fs) (hg : FormsAt w al gs)
    (hcr : ar = none → cr = 0) (hcl : al = none → cl = 0) (hn : ss.length ≤ 40) (hlen : (fs ++ gs).length < 20) (hv : ∀ k, k < (fs ++ gs).length → validB ((fs ++ gs).getD k []) ss.length = true)
    (hst : (fs ++ gs).length * (101 * 2 ^ ss.length) ≤ 524288) (hK : Enters K) (hw : ∀ W, Below w.heap.size w W → WorkOn W.heap.size W ss.length (fs ++ gs) K caps R) :
    Calls Tryz.prog 46 #[.agg #[.slice ao ss.length ca, .slice ar fs.length cr], .slice al gs.length cl, .func (Fn.func K) #[] caps] w fun e w' => e = .returned (.tuple #[]) ∧ R w' := by
  have hmf : ∀ (fn : Fn) (first cap : Array Value) (w : World), (Instr.makeFunc fn first cap).run Tryz.prog w = .ok (.func fn first cap) w := fun _ _ _ _ => rfl
  have hj : joined [(ar, cr, fs), (al, cl, gs)] = fs ++ gs := by simp [joined]
  have hcat : ∀ (W : World) (pb : Nat), Below w.heap.size w W → W.cell? ⟨pb, 0, none⟩ = some (.slice ar fs.length cr) → W.cell? ⟨pb, 1, none⟩ = some (.slice al gs.length cl) → Calls Tryz.prog 51 #[.slice (some ⟨pb, 0, none⟩) 2 2] W (ConcatEnd W (fs ++ gs)) := by
    intro W pb hb h0 h1
    have := concat_any pb 2 [(ar, cr, fs), (al, cl, gs)] W (fun k hk => by
      have : k = 0 ∨ k = 1 := by simp at hk; omega
      rcases this with rfl | rfl
      · exact ⟨ar, cr, fs, rfl, h0, hm.forms.kept hb (Nat.le_refl _), hcr⟩
      · exact ⟨al, cl, gs, rfl, h1, hg.kept hb (Nat.le_refl _), hcl⟩) (by simp) (by rw [hj]; omega)
    rw [hj] at this
    exact this
  have Hcat := Lib.hid hcat; have Hw := Lib.hid hw; have Hst := Lib.hid hst; have Hv := Lib.hid hv; have HK := Lib.hid hK
  clear hcat hw hst hv hj hm hg hcr hcl hK
  go_enter Tryz.func46, Tryz.ntmps46
  go_wp2_with fail
  refine Calls.mono (Hcat.out _ _ ?_ ?_ ?_) ?_
  · exact ((below_alloc _ _).alloc (by simp) _).alloc (by simp; omega) _
  · exact box_at0 (by simp)
  · exact box_at1 (by simp)
  rintro e w1 ⟨a, c, rfl, hf, _, hb⟩
  have q0 : w1.cell? ⟨w.heap.size, 0, none⟩ = some (.slice ao ss.length ca) := (hb.cell (by simp; omega)).trans (alloc_cell (alloc_cell (box_at0 rfl) _) _)
  have q5 : w1.cell? ⟨w.heap.size + 1, 0, none⟩ = some (.func (Fn.func K) #[] caps) := (hb.cell (by simp)).trans (alloc_cell (box_one (by simp)) _)
  have hbw : Below w.heap.size w w1 := (((below_alloc _ _).alloc (by simp) _).alloc (by simp; omega) _).trans (hb.mono (by simp; omega))
  have l1 : w.heap.size + 1 < w1.heap.size := World.block_lt_of_cell? w1 _ q5
  have q0' := alloc_cell q0
  have q6 : (w1.alloc (.cells #[.slice a (fs ++ gs).length c] 23)).cell? ⟨w1.heap.size, 0, none⟩ = some (.slice a (fs ++ gs).length c) := box_one rfl
  generalize hF : fs ++ gs = F at *
  have Hf := Lib.hid hf; have Hb := Lib.hid hbw
  clear hf hb hbw
  go_wp2_with fail
  have q5' := alloc_cell q5 (.cells #[.slice a F.length c] 23)
  have hsol := solve_any ss.length a F.length c 67 #[.pointer (some ⟨w.heap.size + 1, 0, none⟩), .pointer (some ⟨w1.heap.size, 0, none⟩)] R (w1.alloc (.cells #[.slice a F.length c] 23)) hn enters_ask1
    (ask1_any ss.length F _ (w.heap.size + 1) w1.heap.size K c a caps R hn hlen Hv.out Hst.out (Hf.out.kept (below_alloc _ _) (Nat.le_refl _)) q5' q6 HK.out (Hw.out _ (Hb.out.alloc (Nat.le_trans (by omega) (Nat.le_refl _)) _)))
  refine hsol.mono ?_
  rintro e w2 ⟨rfl, hr⟩
  have Hr := Lib.hid hr
  clear hr hsol
  go_wp2_with fail
  refine bodyPost_end (results_none rfl _ _ _) rfl ?_
  exact ⟨rfl, Hr.out⟩
end Go.Proofs.YtngjjmniigkeoaaGreatDoor
