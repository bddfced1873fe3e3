/- Frames with ranks that are all given: valid; whom they make late (plain). -/
import Derived.Test.YtcelbmpdnkaamaaBzA
namespace Go.Proofs.Ytcelbmpdnkaamaa
open Go Go.RowKit Go.WideMaps Go.Maps
set_option linter.unusedSimpArgs false
set_option linter.unusedVariables false

theorem given_err {ls : List Fr} (ok : FrsOk ls) (r : List Int) (hb : ∀ k, k < ls.length → 0 ≤ r.getD k 0 ∧ r.getD k 0 ≤ 1000) (hd : ∀ j k, j < ls.length → k < ls.length → r.getD j 0 = r.getD k 0 → j = k) : frErr (rankedL ls r ls.length) = 0 := by
  unfold frErr framesB
  rw [if_pos]
  rw [Bool.and_eq_true, decide_eq_true_eq, rankedL_len]
  refine ⟨ok.1, allR_good (fun i hi => ?_)⟩
  have ho := ok.2 i hi
  unfold frAtB
  rw [Bool.and_eq_true, rankedL_at _ _ hi]
  have h1 := ho.s; have h2 := ho.e; have h3 := ho.j; have h4 := ho.d; have h5 := hb i hi
  constructor
  · unfold frB fromB
    simp only [Bool.and_eq_true, decide_eq_true_eq]
    exact ⟨⟨⟨⟨h1, h2⟩, h4⟩, h3⟩, h5⟩
  · refine allR_good (fun k hk => ?_)
    rw [rankedL_at _ _ (show k < ls.length by omega)]
    have : r.getD k 0 ≠ r.getD i 0 := fun e => by have := hd k i (by omega) hi e; omega
    simpa using this
theorem err_given {ls : List Fr} {r : List Int} (h : frErr (rankedL ls r ls.length) = 0) : ∀ j k, j < ls.length → k < ls.length → r.getD j 0 = r.getD k 0 → j = k := by
  intro j k hj hk e
  have h1 := rank_ok h
  refine (h1 k j (by rw [rankedL_len]; exact hk) (by rw [rankedL_len]; exact hj) ?_)
  rw [rankedL_at _ _ hk, rankedL_at _ _ hj]
  exact e
theorem late_nil {ls : List Fr} (h : ∀ i, i < ls.length → lateB ls i = false) : (lateL ls).length = 0 := by
  unfold lateL pick
  rw [List.length_map, List.length_eq_zero_iff, List.filter_eq_nil_iff]
  intro a ha
  rw [h a (by simpa using ha)]; simp
theorem late_some {ls : List Fr} {i : Nat} (hi : i < ls.length) (h : lateB ls i = true) : 0 < (lateL ls).length := by
  unfold lateL pick
  rw [List.length_map]
  exact List.length_pos_of_mem (List.mem_filter.2 ⟨List.mem_range.2 hi, h⟩)
/-- With the ranks of Rank. -/
theorem rank_given {ls : List Fr} (h0 : frErr ls = 0) {r : List Int} (h : rankOf ls = some r) : r.length = ls.length ∧ frErr (rankedL ls r ls.length) = 0 ∧ (lateL (rankedL ls r ls.length)).length = 0 := by
  have ok := frErr_okW h0
  have hg := rankTo_given ok _ _ _ (Giving.start ls) h
  have hs : ∀ k, k < ls.length → (List.replicate ls.length (-1 : Int)).getD k 0 = -1 := fun k hk => by simp [List.getD, hk]
  have hl := ok.1
  refine ⟨hg.len, given_err ok r (fun k hk => ?_) hg.inj, late_nil (fun i hi => ?_)⟩
  · have := hg.new k hk (hs k hk); omega
  · rw [rankedL_len] at hi
    exact hg.late i hi (hs i hi)
/-- Where Rank has none. -/
theorem rank_none {ls : List Fr} (h0 : frErr ls = 0) (h : rankOf ls = none) (own : List Int) (he : frErr (rankedL ls own ls.length) = 0) : 0 < (lateL (rankedL ls own ls.length)).length := by
  have ok := frErr_okW h0
  obtain ⟨i, hi, h1⟩ := stuck_late ok h own (err_given he)
  exact late_some (by rw [rankedL_len]; exact hi) h1
end Go.Proofs.Ytcelbmpdnkaamaa
