/- More of a frame: the lists of responses (plain). -/
import Derived.Test.YtcelbmpdnkaamaaBvC
import Derived.Test.YtcelbmpdnkaamaaBvB
namespace Go.Proofs.Ytcelbmpdnkaamaa
open Go Go.RowKit
set_option linter.unusedSimpArgs false
set_option linter.unusedVariables false

/-- Frames that ask for no less, one by one. -/
structure MoreF (ls ls2 : List Fr) : Prop where
  len : ls2.length = ls.length
  le : ∀ k, FrLe (frAt ls k) (frAt ls2 k)
theorem frAt_append {l : List Fr} {x : Fr} {k : Nat} : frAt (l ++ [x]) k = if k < l.length then frAt l k else if k = l.length then x else frAt [] k := by
  unfold frAt
  simp only [List.getD, List.getElem?_append]
  split
  · rfl
  · rename_i h
    split
    · rename_i e; subst e; simp
    · rename_i e
      rw [List.getElem?_eq_none (by simp; omega)]; simp
theorem abTo_le {ls ls2 : List Fr} (h : MoreF ls ls2) (r : Int) : ∀ k, (abTo ls2 r k).length = (abTo ls r k).length ∧ ∀ j, FrLe (frAt (abTo ls r k) j) (frAt (abTo ls2 r k) j)
  | 0 => ⟨rfl, fun j => by unfold abTo; exact FrLe.refl _⟩
  | k + 1 => by
    obtain ⟨h1, h2⟩ := abTo_le h r k
    have h3 := h.le k
    have hr := h3.r
    unfold abTo
    by_cases hh : (frAt ls k).r < r
    · rw [if_pos hh, if_pos (by omega)]
      refine ⟨by simp [h1], fun j => ?_⟩
      rw [frAt_append, frAt_append, h1]
      split
      · exact h2 j
      · split
        · exact h3
        · exact FrLe.refl _
    · rw [if_neg hh, if_neg (by omega)]
      exact ⟨h1, h2⟩
theorem restTo_le {ls ls2 : List Fr} (h : MoreF ls ls2) (r : Int) : ∀ k, restTo ls r k ≤ restTo ls2 r k
  | 0 => Int.le_refl _
  | k + 1 => by
    have h1 := restTo_le h r k
    have h3 := h.le k
    have hr := h3.r
    have hs := h3.s
    unfold restTo
    by_cases hh : r < (frAt ls k).r
    · rw [if_pos hh, if_pos (by omega)]; omega
    · rw [if_neg hh, if_neg (by omega)]; exact h1
theorem respI_le {ls ls2 : List Fr} (h : MoreF ls ls2) (ok : FrsOk ls) (ok2 : FrsOk ls2) {k : Nat} (hk : k < ls.length) : 0 ≤ respI ls2 k → 0 ≤ respI ls k ∧ respI ls k ≤ respI ls2 k := by
  have hl := h.len
  have h3 := h.le k
  have hr := h3.r
  have r1 := rivOk_of ok (ok.2 k hk)
  have r2 := rivOk_of ok2 (ok2.2 k (by omega))
  rw [hr, hl] at r2
  have hab := abTo_le h (frAt ls k).r ls.length
  have hle : RivLe (restTo ls (frAt ls k).r ls.length) (restTo ls2 (frAt ls k).r ls.length) (abTo ls (frAt ls k).r ls.length) (abTo ls2 (frAt ls k).r ls.length) (frAt ls k) (frAt ls2 k) :=
    ⟨r1, r2, restTo_le h _ _, h3, hab.1, fun j _ => hab.2 j⟩
  unfold respI
  rw [hr, hl]
  intro h0
  cases e2 : respOf (restTo ls2 (frAt ls k).r ls.length) (abTo ls2 (frAt ls k).r ls.length) (frAt ls2 k) 9223372036854775807 with
  | none => rw [e2] at h0; simp at h0
  | some x2 =>
    obtain ⟨x, e1, e3, e4⟩ := respOf_le hle e2
    have e1' : respOf (restTo ls (frAt ls k).r ls.length) (abTo ls (frAt ls k).r ls.length) (frAt ls k) 9223372036854775807 = some x := e1
    rw [e1']
    exact ⟨by simpa using e4, by simpa using e3⟩
theorem respL_at (ls : List Fr) {n k : Nat} (hk : k < n) : (respL ls n).getD k 0 = respI ls k := by
  unfold respL; simp [List.getD, hk]
/-- A frame that is changed. -/
def bumpF (ls : List Fr) (i : Nat) (a b c : Int) : List Fr := ls.set i ⟨(frAt ls i).s + a, (frAt ls i).e - c, (frAt ls i).j + b, (frAt ls i).d, (frAt ls i).r⟩
theorem frAt_set {ls : List Fr} {i : Nat} (hi : i < ls.length) (f : Fr) (k : Nat) : frAt (ls.set i f) k = if k = i then f else frAt ls k := by
  unfold frAt
  simp only [List.getD, List.getElem?_set]
  by_cases h : i = k
  · subst h; simp [hi]
  · have h3 : ¬ k = i := fun e => h e.symm
    simp [h, h3]
theorem bumpF_more {ls : List Fr} {i : Nat} (hi : i < ls.length) {a b c : Int} (h1 : 0 ≤ a) (h2 : 0 ≤ b) (h3 : 0 ≤ c) : MoreF ls (bumpF ls i a b c) := by
  refine ⟨by simp [bumpF], fun k => ?_⟩
  unfold bumpF
  rw [frAt_set hi]
  split
  · rename_i e; subst e
    exact ⟨by simp; omega, by simp; omega, by simp; omega, rfl⟩
  · exact FrLe.refl _
end Go.Proofs.Ytcelbmpdnkaamaa
