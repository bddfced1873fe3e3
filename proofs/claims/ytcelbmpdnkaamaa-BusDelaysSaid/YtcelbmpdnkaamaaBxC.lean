/- The reference's order of gates (plain). -/
import Derived.Test.YtcelbmpdnkaamaaBxB
namespace Go.Proofs.Ytcelbmpdnkaamaa
open Go Go.RowKit
set_option linter.unusedSimpArgs false
set_option linter.unusedVariables false

/-- Step m of flow i does not lead to g, or comes from a gate that is out. -/
def stepOk (fs : List Fl) (out : List Int) (g : Int) (i m : Nat) : Bool := !(pt fs i (m + 1) == g) || hasI out (pt fs i m)
/-- All steps of flow i, as far as n. -/
def flowOk (fs : List Fl) (out : List Int) (g : Int) (i : Nat) : Bool := allR (pl fs i - 1) (stepOk fs out g i)
def readyB (fs : List Fl) (out : List Int) (g : Nat) : Bool := !hasI out g && allR fs.length (flowOk fs out g)
def nextO (ng : Nat) (fs : List Fl) (out : List Int) : Option Nat := (List.range ng).find? (readyB fs out)
def refOrd (ng : Nat) (fs : List Fl) : Nat → Option (List Int)
  | 0 => some []
  | k + 1 => (refOrd ng fs k).bind (fun out => (nextO ng fs out).map (fun (g : Nat) => out ++ [(g : Int)]))
theorem next_none {ng : Nat} {fs : List Fl} {out : List Int} (h : ∀ j, j < ng → readyB fs out j = false) : nextO ng fs out = none := by
  unfold nextO
  rw [List.find?_eq_none]
  intro x hx
  have := h x (by simpa using hx)
  simp [this]
theorem next_at {ng : Nat} {fs : List Fl} {out : List Int} {k : Nat} (hk : k < ng) (h1 : readyB fs out k = true) (h2 : ∀ j, j < k → readyB fs out j = false) : nextO ng fs out = some k := by
  unfold nextO
  rw [List.find?_eq_some_iff_getElem]
  refine ⟨h1, k, by simpa using hk, by simp, fun j hj => ?_⟩
  have := h2 j hj
  simp [this]
theorem next_some {ng : Nat} {fs : List Fl} {out : List Int} {k : Nat} (h : nextO ng fs out = some k) : k < ng ∧ readyB fs out k = true := by
  unfold nextO at h
  rw [List.find?_eq_some_iff_getElem] at h
  obtain ⟨h1, i, hi, e, h2⟩ := h
  simp at hi e
  subst e
  exact ⟨hi, h1⟩
theorem getD_app {xs : List Int} {x : Int} {j : Nat} : (xs ++ [x]).getD j 0 = if j < xs.length then xs.getD j 0 else if j = xs.length then x else 0 := by
  simp only [List.getD, List.getElem?_append]
  by_cases h : j < xs.length
  · simp [h]
  · rw [if_neg h, if_neg h]
    by_cases h2 : j = xs.length
    · subst h2; simp
    · rw [if_neg h2]
      have : ([x] : List Int)[j - xs.length]? = none := by simp; omega
      rw [this]; rfl
theorem Topo.nil (ng : Nat) (fs : List Fl) : Topo ng fs [] := ⟨fun j hj => by simp at hj, fun j j' hj => by simp at hj, fun k hk => by simp at hk⟩
theorem Topo.app {ng : Nat} {fs : List Fl} {o : List Int} (h : Topo ng fs o) {g : Nat} (hg : g < ng) (hr : readyB fs o g = true) : Topo ng fs (o ++ [(g : Int)]) := by
  unfold readyB at hr
  simp only [Bool.and_eq_true, Bool.not_eq_true'] at hr
  obtain ⟨h1, h2⟩ := hr
  have hlen : (o ++ [(g : Int)]).length = o.length + 1 := by simp
  have hno : ∀ j, j < o.length → o.getD j 0 ≠ g := fun j hj e => by
    have : hasI o g = true := hasI_iff.2 ⟨j, hj, e⟩
    rw [h1] at this; cases this
  refine ⟨fun j hj => ?_, fun j j' hj hj' e => ?_, fun k hk i hi m hm e => ?_⟩
  · rw [getD_app]
    by_cases e : j < o.length
    · rw [if_pos e]; exact h.gate j e
    · rw [if_neg e, if_pos (by omega)]; exact ⟨g, rfl, hg⟩
  · rw [getD_app, getD_app] at e
    by_cases e1 : j < o.length
    · by_cases e2 : j' < o.length
      · rw [if_pos e1, if_pos e2] at e
        exact h.inj j j' e1 e2 e
      · rw [if_pos e1, if_neg e2, if_pos (by omega)] at e
        exact absurd e (hno j e1)
    · by_cases e2 : j' < o.length
      · rw [if_neg e1, if_pos (by omega), if_pos e2] at e
        exact absurd e.symm (hno j' e2)
      · omega
  · rw [getD_app] at e
    by_cases e1 : k < o.length
    · rw [if_pos e1] at e
      obtain ⟨j, hj, e2⟩ := h.pre k e1 i hi m hm e
      exact ⟨j, hj, by rw [getD_app, if_pos (by omega)]; exact e2⟩
    · rw [if_neg e1, if_pos (by omega)] at e
      have h3 := allR_get h2 hi
      unfold flowOk at h3
      have h4 := allR_get h3 (show m < pl fs i - 1 by omega)
      unfold stepOk at h4
      rw [e] at h4
      simp only [beq_self_eq_true, Bool.not_true, Bool.false_or] at h4
      obtain ⟨j, hj, e2⟩ := hasI_iff.1 h4
      exact ⟨j, by omega, by rw [getD_app, if_pos hj]; exact e2⟩
theorem refOrd_topo {ng : Nat} {fs : List Fl} : ∀ k o, refOrd ng fs k = some o → Topo ng fs o ∧ o.length = k
  | 0, o, e => by
    simp only [refOrd, Option.some.injEq] at e
    subst e
    exact ⟨Topo.nil _ _, rfl⟩
  | k + 1, o, e => by
    simp only [refOrd] at e
    cases h1 : refOrd ng fs k with
    | none => rw [h1] at e; cases e
    | some o1 =>
      rw [h1] at e
      simp only [Option.bind_some] at e
      cases h2 : nextO ng fs o1 with
      | none => rw [h2] at e; cases e
      | some g =>
        rw [h2] at e
        simp only [Option.map_some, Option.some.injEq] at e
        subst e
        obtain ⟨h3, h4⟩ := refOrd_topo k o1 h1
        obtain ⟨h5, h6⟩ := next_some h2
        exact ⟨h3.app h5 h6, by simp [h4]⟩
/-- A gate is ready when all that lead to it are out. -/
theorem ready_of {fs : List Fl} {out : List Int} {g : Nat} (h1 : hasI out g = false) (h2 : ∀ i, i < fs.length → ∀ m, m + 1 < pl fs i → pt fs i (m + 1) = g → hasI out (pt fs i m) = true) : readyB fs out g = true := by
  unfold readyB
  rw [h1]
  simp only [Bool.not_false, Bool.true_and]
  refine allR_good (fun i hi => allR_good (fun m hm => ?_))
  unfold stepOk
  by_cases e : pt fs i (m + 1) = g
  · rw [h2 i hi m (by omega) e]; simp
  · have : (pt fs i (m + 1) == (g : Int)) = false := beq_eq_false_iff_ne.2 e
    rw [this]; rfl
/-- Where there is a whole order, the reference is never stuck. -/
theorem refOrd_go {ng : Nat} {fs : List Fl} {w : List Int} (hw : Topo ng fs w) (hl : w.length = ng) : ∀ k, k ≤ ng → ∃ o, refOrd ng fs k = some o
  | 0, _ => ⟨[], rfl⟩
  | k + 1, hk => by
    obtain ⟨o, h1⟩ := refOrd_go hw hl k (by omega)
    obtain ⟨ht, hol⟩ := refOrd_topo k o h1
    have hex : ∃ j, j < w.length ∧ hasI o (w.getD j 0) = false := by
      apply Classical.byContradiction
      intro hno
      have hall : ∀ j, j < w.length → hasI o (w.getD j 0) = true := fun j hj => by
        cases e : hasI o (w.getD j 0) with
        | true => rfl
        | false => exact absurd ⟨j, hj, e⟩ hno
      -- as many as ng different gates in a shorter list
      have h2 := nodup_len (n := k) (l := (List.range ng).map (fun j => o.findIdx (· == w.getD j 0))) (by
        rw [List.Nodup, List.pairwise_iff_getElem]
        intro i j hi hj hij
        simp at hi hj
        simp only [List.getElem_map, List.getElem_range]
        intro e
        have f1 : o.findIdx (· == w.getD i 0) < o.length := List.findIdx_lt_length.2 (by obtain ⟨m, hm, e3⟩ := hasI_iff.1 (hall i (by omega)); exact ⟨o[m], List.getElem_mem hm, by simpa [List.getD, hm] using e3⟩)
        have f2 : o.findIdx (· == w.getD j 0) < o.length := List.findIdx_lt_length.2 (by obtain ⟨m, hm, e3⟩ := hasI_iff.1 (hall j (by omega)); exact ⟨o[m], List.getElem_mem hm, by simpa [List.getD, hm] using e3⟩)
        have g1 := List.findIdx_getElem (w := f1)
        have g2 := List.findIdx_getElem (w := f2)
        simp only [e] at g1
        have g3 : w.getD i 0 = w.getD j 0 := by
          have a1 := eq_of_beq g1
          have a2 := eq_of_beq g2
          exact a1.symm.trans a2
        have := hw.inj i j (by omega) (by omega) g3
        omega) (fun x hx => by
        obtain ⟨j, hj, e⟩ := List.mem_map.1 hx
        have hj2 := List.mem_range.1 hj
        have f1 : o.findIdx (· == w.getD j 0) < o.length := List.findIdx_lt_length.2 (by obtain ⟨m, hm, e3⟩ := hasI_iff.1 (hall j (by omega)); exact ⟨o[m], List.getElem_mem hm, by simpa [List.getD, hm] using e3⟩)
        omega)
      simp at h2
      omega
    -- the first of w that is not out is ready
    obtain ⟨j, ⟨hj, hout⟩, hmin⟩ : ∃ j, (j < w.length ∧ hasI o (w.getD j 0) = false) ∧ ∀ i, i < j → ¬ (i < w.length ∧ hasI o (w.getD i 0) = false) := by
      obtain ⟨j0, h0⟩ := hex
      induction j0 using Nat.strongRecOn with
      | _ n ih =>
        by_cases hm : ∃ i, i < n ∧ (i < w.length ∧ hasI o (w.getD i 0) = false)
        · obtain ⟨i, hi, h2⟩ := hm
          exact ih i hi h2
        · exact ⟨n, h0, fun i hi h2 => hm ⟨i, hi, h2⟩⟩
    obtain ⟨g, e, hg⟩ := hw.gate j hj
    rw [e] at hout
    have hr := ready_of (fs := fs) hout (fun i hi m hm e2 => by
      obtain ⟨j2, hj2, e3⟩ := hw.pre j hj i hi m hm (by rw [e2, e])
      have h3 := hmin j2 hj2
      rw [e3] at h3
      cases e4 : hasI o (pt fs i m) with
      | true => rfl
      | false => exact absurd ⟨by omega, e4⟩ h3)
    cases h2 : nextO ng fs o with
    | none =>
      unfold nextO at h2
      rw [List.find?_eq_none] at h2
      exact absurd hr (h2 g (List.mem_range.2 hg))
    | some g2 =>
      refine ⟨o ++ [(g2 : Int)], ?_⟩
      simp only [refOrd, h1, Option.bind_some, h2, Option.map_some]
end Go.Proofs.Ytcelbmpdnkaamaa
