/- Giving ranks: plain. -/
import Derived.Test.YtcelbmpdnkaamaaBwH
namespace Go.Proofs.Ytcelbmpdnkaamaa
open Go Go.RowKit Go.WideMaps Go.Maps
set_option linter.unusedSimpArgs false
set_option linter.unusedVariables false

/-! ### A response does not see the ranks -/
def er (f : Fr) : Fr := ⟨f.s, f.e, f.j, f.d, 0⟩
theorem frAt_map (g : Fr → Fr) {ab : List Fr} {k : Nat} (h : k < ab.length) : frAt (ab.map g) k = g (frAt ab k) := by
  simp [frAt, List.getD, h]
theorem busyG_er (rest : Int) (ab : List Fr) (f : Fr) : busyG rest (ab.map er) (er f) = busyG rest ab f := by
  funext t
  unfold busyG
  rw [List.length_map, sumN_same (f := fun k => upT (frAt (ab.map er) k) t) (g := fun k => upT (frAt ab k) t) (fun j hj => by show upT _ t = _; rw [frAt_map er hj]; rfl)]
  rfl
theorem waitG_er (rest q : Int) (ab : List Fr) (f : Fr) : waitG rest q (ab.map er) (er f) = waitG rest q ab f := by
  funext t
  unfold waitG
  rw [List.length_map, sumN_same (f := fun k => wtT (frAt (ab.map er) k) t) (g := fun k => wtT (frAt ab k) t) (fun j hj => by show wtT _ t = _; rw [frAt_map er hj]; rfl)]
  rfl
theorem respTo_er (rest : Int) (ab : List Fr) (f : Fr) (lim : Int) : ∀ q, respTo rest (ab.map er) (er f) lim q = respTo rest ab f lim q
  | 0 => rfl
  | q + 1 => by
    show (respTo rest (ab.map er) (er f) lim q).bind _ = (respTo rest ab f lim q).bind _
    rw [respTo_er rest ab f lim q, waitG_er]
    rfl
theorem respOf_er (rest : Int) (ab : List Fr) (f : Fr) (lim : Int) : respOf rest (ab.map er) (er f) lim = respOf rest ab f lim := by
  unfold respOf
  rw [busyG_er]
  simp only [respTo_er]
  rfl
theorem respOf_same {rest lim : Int} {ab ab2 : List Fr} {f f2 : Fr} (h : ab.map er = ab2.map er) (hf : er f = er f2) : respOf rest ab f lim = respOf rest ab2 f2 lim := by
  rw [← respOf_er rest ab, ← respOf_er rest ab2, h, hf]

/-! ### With ranks given to some -/
/-- The frames without a rank, but for one, as far as k. -/
def abF (ls : List Fr) (rk : List Int) (i : Nat) : Nat → List Fr
  | 0 => []
  | k + 1 => if k ≠ i ∧ rk.getD k 0 = -1 then abF ls rk i k ++ [frAt ls k] else abF ls rk i k
def restF (ls : List Fr) (rk : List Int) (i : Nat) : Nat → Int
  | 0 => 0
  | k + 1 => if k ≠ i ∧ rk.getD k 0 ≠ -1 then max (restF ls rk i k) ((frAt ls k).s - 1) else restF ls rk i k
theorem abF_len (ls : List Fr) (rk : List Int) (i : Nat) : ∀ k, (abF ls rk i k).length ≤ k
  | 0 => Nat.le_refl _
  | k + 1 => by
    have := abF_len ls rk i k
    unfold abF; split
    · simp; omega
    · omega
theorem restF_bd {ls : List Fr} (h : FrsOk ls) (rk : List Int) (i : Nat) : ∀ k, k ≤ ls.length → 0 ≤ restF ls rk i k ∧ restF ls rk i k ≤ 1000
  | 0, _ => by simp [restF]
  | k + 1, hk => by
    have h1 := restF_bd h rk i k (by omega)
    have h2 := (h.2 k (by omega)).s
    unfold restF; split <;> omega
theorem abF_ok {ls : List Fr} (h : FrsOk ls) (rk : List Int) (i : Nat) : ∀ k, k ≤ ls.length → ∀ f ∈ abF ls rk i k, FrOk f
  | 0, _, f, hf => by simp [abF] at hf
  | k + 1, hk, f, hf => by
    unfold abF at hf
    split at hf
    · rcases List.mem_append.1 hf with h1 | h1
      · exact abF_ok h rk i k (by omega) f h1
      · simp at h1; subst h1; exact h.2 k (by omega)
    · exact abF_ok h rk i k (by omega) f hf
theorem rivF_ok {ls : List Fr} (h : FrsOk ls) (rk : List Int) {i : Nat} (hi : i < ls.length) : RivOk (frAt ls i) (abF ls rk i ls.length) (restF ls rk i ls.length) := by
  refine ⟨h.2 i hi, fun k hk => ?_, ?_, restF_bd h _ _ _ (Nat.le_refl _)⟩
  · refine abF_ok h rk i ls.length (Nat.le_refl _) _ ?_
    have : (abF ls rk i ls.length)[k] = frAt (abF ls rk i ls.length) k := by simp [frAt, List.getD, hk]
    rw [← this]; exact List.getElem_mem _
  · have := abF_len ls rk i ls.length
    have := h.1
    omega
def lateF (ls : List Fr) (rk : List Int) (i : Nat) : Bool := !(respOf (restF ls rk i ls.length) (abF ls rk i ls.length) (frAt ls i) (frAt ls i).d).isSome
/-- A frame without a rank that is not late if all others without one are above it. -/
def okF (ls : List Fr) (rk : List Int) (i : Nat) : Bool := (rk.getD i 0 == -1) && !(lateF ls rk i)
def firstO (ls : List Fr) (rk : List Int) : Option Nat := (List.range ls.length).find? (okF ls rk)
def firstI (ls : List Fr) (rk : List Int) : Int := match firstO ls rk with | some i => i | none => -1
theorem first_none {ls : List Fr} {rk : List Int} (h : ∀ j, j < ls.length → okF ls rk j = false) : firstO ls rk = none := by
  unfold firstO
  rw [List.find?_eq_none]
  intro x hx
  have := h x (by simpa using hx)
  simp [this]
theorem first_at {ls : List Fr} {rk : List Int} {k : Nat} (hk : k < ls.length) (h1 : okF ls rk k = true) (h2 : ∀ j, j < k → okF ls rk j = false) : firstO ls rk = some k := by
  unfold firstO
  rw [List.find?_eq_some_iff_getElem]
  refine ⟨h1, k, by simpa using hk, by simp, fun j hj => ?_⟩
  have := h2 j hj
  simp [this]
theorem first_some {ls : List Fr} {rk : List Int} {k : Nat} (h : firstO ls rk = some k) : k < ls.length ∧ okF ls rk k = true ∧ ∀ j, j < k → okF ls rk j = false := by
  unfold firstO at h
  rw [List.find?_eq_some_iff_getElem] at h
  obtain ⟨h1, i, hi, e, h2⟩ := h
  simp at hi e
  subst e
  refine ⟨hi, h1, fun j hj => ?_⟩
  have := h2 j hj
  simpa using this
/-- The ranks m - 1 .. 0 are given, one after the other. -/
def rankTo (ls : List Fr) : Nat → List Int → Option (List Int)
  | 0, rk => some rk
  | m + 1, rk => match firstO ls rk with | some i => rankTo ls m (rk.set i (m : Int)) | none => none
def rankOf (ls : List Fr) : Option (List Int) := rankTo ls ls.length (List.replicate ls.length (-1))
theorem rankTo_len (ls : List Fr) : ∀ m rk r, rankTo ls m rk = some r → r.length = rk.length
  | 0, rk, r, e => by simp [rankTo] at e; rw [e]
  | m + 1, rk, r, e => by
    unfold rankTo at e
    cases h : firstO ls rk with
    | none => rw [h] at e; cases e
    | some i =>
      rw [h] at e
      have := rankTo_len ls m _ r e
      simpa using this
/-- What Rank answers. -/
def rankErr (ls : List Fr) : Int := if frErr ls = 0 then (if (rankOf ls).isSome = true then 0 else 42) else frErr ls
def rankL (ls : List Fr) : List Int := (rankOf ls).getD []

/-! ### The reference's frames with ranks -/
def rankedL (ls : List Fr) (rk : List Int) (n : Nat) : List Fr := (List.range n).map (fun k => (⟨(frAt ls k).s, (frAt ls k).e, (frAt ls k).j, (frAt ls k).d, rk.getD k 0⟩ : Fr))
theorem rankedL_succ (ls : List Fr) (rk : List Int) (n : Nat) : rankedL ls rk (n + 1) = rankedL ls rk n ++ [⟨(frAt ls n).s, (frAt ls n).e, (frAt ls n).j, (frAt ls n).d, rk.getD n 0⟩] := by
  unfold rankedL; rw [List.range_succ, List.map_append]; rfl
theorem rankedL_len (ls : List Fr) (rk : List Int) (n : Nat) : (rankedL ls rk n).length = n := by simp [rankedL]
theorem rankedL_at (ls : List Fr) (rk : List Int) {n k : Nat} (h : k < n) : frAt (rankedL ls rk n) k = ⟨(frAt ls k).s, (frAt ls k).e, (frAt ls k).j, (frAt ls k).d, rk.getD k 0⟩ := by
  simp [frAt, rankedL, List.getD, h]
theorem rankedL_ok {ls : List Fr} (h : FrsOk ls) (rk : List Int) : FrsOk (rankedL ls rk ls.length) := by
  refine ⟨by rw [rankedL_len]; exact h.1, fun k hk => ?_⟩
  rw [rankedL_len] at hk
  rw [rankedL_at ls rk hk]
  have := h.2 k hk
  exact ⟨this.s, this.e, this.j, this.d⟩
/-- Ranks from m on, or none. -/
def RkOk (ls : List Fr) (m : Nat) (rk : List Int) : Prop := rk.length = ls.length ∧ ∀ k, k < ls.length → rk.getD k 0 = -1 ∨ (m : Int) ≤ rk.getD k 0
theorem getD_setI {rk : List Int} {i k : Nat} {x : Int} (hi : i < rk.length) : (rk.set i x).getD k 0 = if k = i then x else rk.getD k 0 := by
  simp only [List.getD, List.getElem?_set]
  by_cases e : i = k
  · subst e; simp [hi]
  · rw [if_neg e, if_neg (fun e2 => e e2.symm)]
theorem RkOk.set {ls : List Fr} {m : Nat} {rk : List Int} (h : RkOk ls (m + 1) rk) {i : Nat} (hi : i < ls.length) : RkOk ls m (rk.set i (m : Int)) := by
  refine ⟨by simp [h.1], fun k hk => ?_⟩
  rw [getD_setI (by rw [h.1]; exact hi)]
  by_cases e : k = i
  · rw [if_pos e]; exact Or.inr (Int.le_refl _)
  · rw [if_neg e]
    rcases h.2 k hk with h1 | h1
    · exact Or.inl h1
    · exact Or.inr (by omega)
theorem RkOk.start (ls : List Fr) : RkOk ls ls.length (List.replicate ls.length (-1)) := ⟨by simp, fun k hk => Or.inl (by simp [List.getD, hk])⟩
section trial
variable {ls : List Fr} {m : Nat} {rk : List Int} {i : Nat}
theorem trial_rank (h : RkOk ls (m + 1) rk) (hi : i < ls.length) : RankAt (rankedL ls (rk.set i (m : Int)) ls.length) i := by
  intro k hk e
  rw [rankedL_len] at hk
  rw [rankedL_at _ _ hk, rankedL_at _ _ hi] at e
  dsimp only at e
  rw [getD_setI (by rw [h.1]; exact hi), getD_setI (by rw [h.1]; exact hi), if_pos rfl] at e
  by_cases e2 : k = i
  · exact e2
  · rw [if_neg e2] at e
    rcases h.2 k hk with h1 | h1 <;> omega
theorem trial_ab (h : RkOk ls (m + 1) rk) (hi : i < ls.length) : ∀ k, k ≤ ls.length → (abTo (rankedL ls (rk.set i (m : Int)) ls.length) (m : Int) k).map er = (abF ls rk i k).map er
  | 0, _ => rfl
  | k + 1, hk => by
    have ih := trial_ab h hi k (by omega)
    unfold abTo abF
    rw [rankedL_at _ _ (show k < ls.length by omega), getD_setI (by rw [h.1]; exact hi)]
    dsimp only
    by_cases e : k = i
    · rw [if_pos e, if_neg (Int.lt_irrefl _), if_neg (fun hh => hh.1 e)]
      exact ih
    · rw [if_neg e]
      rcases h.2 k (by omega) with h1 | h1
      · rw [if_pos (by omega), if_pos ⟨e, h1⟩, List.map_append, List.map_append, ih]
        rfl
      · rw [if_neg (by omega), if_neg (fun hh => by omega)]
        exact ih
theorem trial_rest (h : RkOk ls (m + 1) rk) (hi : i < ls.length) : ∀ k, k ≤ ls.length → restTo (rankedL ls (rk.set i (m : Int)) ls.length) (m : Int) k = restF ls rk i k
  | 0, _ => rfl
  | k + 1, hk => by
    have ih := trial_rest h hi k (by omega)
    unfold restTo restF
    rw [rankedL_at _ _ (show k < ls.length by omega), getD_setI (by rw [h.1]; exact hi), ih]
    dsimp only
    by_cases e : k = i
    · rw [if_pos e, if_neg (Int.lt_irrefl _), if_neg (fun hh => hh.1 e)]
    · rw [if_neg e]
      rcases h.2 k (by omega) with h1 | h1
      · rw [if_neg (by omega), if_neg (fun hh => hh.2 h1)]
      · rw [if_pos (by omega), if_pos ⟨e, by omega⟩]
theorem trial_late (ok : FrsOk ls) (h : RkOk ls (m + 1) rk) (hi : i < ls.length) : lateB (rankedL ls (rk.set i (m : Int)) ls.length) i = lateF ls rk i := by
  have h1 := late_eq (rankedL_ok ok (rk.set i (m : Int))) (i := i) (by rw [rankedL_len]; exact hi)
  unfold rsI abI at h1
  have e1 : frAt (rankedL ls (rk.set i (m : Int)) ls.length) i = ⟨(frAt ls i).s, (frAt ls i).e, (frAt ls i).j, (frAt ls i).d, (m : Int)⟩ := by
    rw [rankedL_at _ _ hi, getD_setI (by rw [h.1]; exact hi), if_pos rfl]
  rw [rankedL_len, e1] at h1
  dsimp only at h1
  rw [trial_rest h hi ls.length (Nat.le_refl _), respOf_same (ab2 := abF ls rk i ls.length) (f := ⟨(frAt ls i).s, (frAt ls i).e, (frAt ls i).j, (frAt ls i).d, (m : Int)⟩) (f2 := frAt ls i) (trial_ab h hi ls.length (Nat.le_refl _)) rfl] at h1
  unfold lateF
  rw [h1, Bool.not_not]
end trial
end Go.Proofs.Ytcelbmpdnkaamaa
