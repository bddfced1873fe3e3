/- CheckModel, CheckFormula and their kin. -/
import Derived.Test.YtngjjmniigkeoaaGreatDoorL3
namespace Go.Proofs.YtngjjmniigkeoaaGreatDoor
open Go.RowKit Go.WideMaps Go.Maps
set_option linter.unusedSimpArgs false
set_option linter.unusedVariables false

theorem box0 (w : World) (a b : Value) (t : TypeId) : (w.alloc (.cells #[a, b] t)).cell? ⟨w.heap.size, 0, none⟩ = some a := by simp
theorem box1 (w : World) (a b : Value) (t : TypeId) : (w.alloc (.cells #[a, b] t)).cell? ⟨w.heap.size, 1, none⟩ = some b := by simp

/-- A model in memory. -/
structure ModelAt (w : World) (ao ar : Option Addr) (ss : List ByteArray) (fs : List (List Int)) : Prop where
  strs : StrsAt w ao ss
  forms : FormsAt w ar fs

theorem ModelAt.kept {w w' : World} {ao ar : Option Addr} {B : Nat} {ss : List ByteArray} {fs : List (List Int)} (h : ModelAt w ao ar ss fs) (hb : Below B w w') (hB : w.heap.size ≤ B) : ModelAt w' ao ar ss fs :=
  ⟨h.strs.kept hb hB, h.forms.kept hb hB⟩

theorem modelErr_many {ss : List ByteArray} {fs : List (List Int)} (h : 40 < ss.length ∨ 60 < fs.length) : modelErr ss fs = 2 := if_pos h
theorem modelErr_names {ss : List ByteArray} {fs : List (List Int)} (h : ¬ (40 < ss.length ∨ 60 < fs.length)) (hn : ¬ namesOk ss) : modelErr ss fs = 10 := by unfold modelErr; rw [if_neg h, if_pos hn]
theorem modelErr_forms {ss : List ByteArray} {fs : List (List Int)} (h : ¬ (40 < ss.length ∨ 60 < fs.length)) (hn : namesOk ss) : modelErr ss fs = formsErr fs ss.length := by unfold modelErr; rw [if_neg h, if_neg (by simpa using hn)]

set_option maxHeartbeats 1600000 in
theorem checkModel_any (ao ar : Option Addr) (ca cr : Nat) (ss : List ByteArray) (fs : List (List Int)) (w : World) (h : ModelAt w ao ar ss fs) :
    Calls Tryz.prog 8 #[.agg #[.slice ao ss.length ca, .slice ar fs.length cr]] w fun e w' => e = .returned (.int .i64 (modelErr ss fs)) ∧ Below w.heap.size w w' := by
  have hl1 := h.strs.len
  have hl2 := h.forms.len
  unfold maxLen at hl1 hl2
  by_cases h40 : 40 < ss.length
  · have he := modelErr_many (fs := fs) (Or.inl h40)
    have He := Lib.hid he
    clear he
    go_enter Tryz.func8, Tryz.ntmps8
    go_wp2
    go_ret
    exact ⟨by rw [He.out]; rfl, below_alloc _ _⟩
  by_cases h60 : 60 < fs.length
  · have he := modelErr_many (ss := ss) (Or.inr h60)
    have h40' : decide (40 < (ss.length : Int)) = false := decide_eq_false (by omega)
    have He := Lib.hid he
    clear he
    go_enter Tryz.func8, Tryz.ntmps8
    go_wp2
    go_ret
    exact ⟨by rw [He.out]; rfl, below_alloc _ _⟩
  have h40' : decide (40 < (ss.length : Int)) = false := decide_eq_false (by omega)
  have h60' : decide (60 < (fs.length : Int)) = false := decide_eq_false (by omega)
  have hnot : ¬ (40 < ss.length ∨ 60 < fs.length) := by omega
  have hM : ∀ o, ModelAt (w.alloc o) ao ar ss fs := fun o => h.kept (below_alloc w o) (Nat.le_refl _)
  by_cases hn : namesOk ss
  · have he := modelErr_forms hnot hn
    have hne := namesErr_yes hn
    have He := Lib.hid he; have Hne := Lib.hid hne; have HM := Lib.hid hM
    clear he hne hn h hM hnot
    go_enter Tryz.func8, Tryz.ntmps8
    go_wp2_with fail
    refine (checkNames_any _ _ _ _ (HM.out _).strs).mono ?_
    rintro e w1 ⟨rfl, hb1⟩
    rw [Hne.out]
    have hc0 := cell_kept (box0 w (.slice ao ss.length ca) (.slice ar fs.length cr) 25) hb1 (Nat.le_refl _)
    have hc1 := cell_kept (box1 w (.slice ao ss.length ca) (.slice ar fs.length cr) 25) hb1 (Nat.le_refl _)
    go_wp2_with fail
    refine (checkFormulas_any _ _ _ _ _ ((HM.out _).kept hb1 (Nat.le_refl _)).forms (by omega)).mono ?_
    rintro e w2 ⟨rfl, rfl⟩
    go_wp2_with fail
    go_ret
    exact ⟨by rw [He.out]; rfl, ((below_alloc w _).trans (hb1.mono (by simp)))⟩
  · have he := modelErr_names hnot hn
    have hne := namesErr_no hn
    have He := Lib.hid he; have Hne := Lib.hid hne; have HM := Lib.hid hM
    clear he hne hn h hM hnot
    go_enter Tryz.func8, Tryz.ntmps8
    go_wp2_with fail
    refine (checkNames_any _ _ _ _ (HM.out _).strs).mono ?_
    rintro e w1 ⟨rfl, hb1⟩
    rw [Hne.out]
    go_wp2_with fail
    go_ret
    exact ⟨by rw [He.out]; rfl, ((below_alloc w _).trans (hb1.mono (by simp)))⟩
end Go.Proofs.YtngjjmniigkeoaaGreatDoor
