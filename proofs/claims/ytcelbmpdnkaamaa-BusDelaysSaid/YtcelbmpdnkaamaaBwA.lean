/- The reference's sums of frames: with ranks that differ they are the program's; and a search may begin later. -/
import Derived.Test.YtcelbmpdnkaamaaBvD
namespace Go.Proofs.Ytcelbmpdnkaamaa
open Go Go.RowKit Go.WideMaps Go.Maps
set_option linter.unusedSimpArgs false
set_option linter.unusedVariables false

theorem sumN_same {f g : Nat → Int} : ∀ {n : Nat}, (∀ j, j < n → f j = g j) → sumN f n = sumN g n
  | 0, _ => rfl
  | n + 1, h => by
    have h1 := sumN_same (n := n) (fun j hj => h j (by omega))
    have h2 := h n (by omega)
    unfold sumN
    rw [h1, h2]
/-- What the frames of a lower rank bring. -/
def sumLt (u : Fr → Int) (ls : List Fr) (r : Int) : Nat → Int
  | 0 => 0
  | k + 1 => if (frAt ls k).r < r then sumLt u ls r k + u (frAt ls k) else sumLt u ls r k
/-- What the frames of no higher rank bring. -/
def sumLe (u : Fr → Int) (ls : List Fr) (r : Int) : Nat → Int
  | 0 => 0
  | k + 1 => if (frAt ls k).r ≤ r then sumLe u ls r k + u (frAt ls k) else sumLe u ls r k
theorem sum_ab (u : Fr → Int) (ls : List Fr) (r : Int) : ∀ k, sumN (fun j => u (frAt (abTo ls r k) j)) (abTo ls r k).length = sumLt u ls r k
  | 0 => by simp [abTo, sumN, sumLt]
  | k + 1 => by
    have h := sum_ab u ls r k
    unfold abTo sumLt
    split
    · rw [List.length_append, List.length_singleton, ← h]
      have e : sumN (fun j => u (frAt (abTo ls r k ++ [frAt ls k]) j)) (abTo ls r k).length = sumN (fun j => u (frAt (abTo ls r k) j)) (abTo ls r k).length := sumN_same (fun j hj => by
        show u _ = u _
        rw [frAt_append, if_pos hj])
      show sumN (fun j => u (frAt (abTo ls r k ++ [frAt ls k]) j)) (abTo ls r k).length + u (frAt (abTo ls r k ++ [frAt ls k]) (abTo ls r k).length) = _
      rw [e, frAt_append, if_neg (by omega), if_pos rfl]
    · exact h
/-- Ranks that differ. -/
def RankOk (ls : List Fr) : Prop := ∀ i k, i < ls.length → k < ls.length → (frAt ls k).r = (frAt ls i).r → k = i
theorem rank_ok {ls : List Fr} (h : frErr ls = 0) : RankOk ls := by
  unfold frErr at h
  split at h
  case isFalse => cases h
  rename_i hb
  unfold framesB at hb
  simp only [Bool.and_eq_true] at hb
  have key : ∀ i k, i < ls.length → k < i → (frAt ls k).r ≠ (frAt ls i).r := fun i k hi hk => by
    have h1 := allR_get hb.2 hi
    unfold frAtB at h1
    simp only [Bool.and_eq_true] at h1
    have h2 := allR_get h1.2 hk
    simpa using h2
  intro i k hi hk e
  rcases Nat.lt_trichotomy k i with h1 | h1 | h1
  · exact absurd e (key i k hi h1)
  · exact h1
  · exact absurd e.symm (key k i hk h1)
/-- A rank that no other frame has. -/
def RankAt (ls : List Fr) (i : Nat) : Prop := ∀ k, k < ls.length → (frAt ls k).r = (frAt ls i).r → k = i
theorem RankOk.at {ls : List Fr} (h : RankOk ls) {i : Nat} (hi : i < ls.length) : RankAt ls i := fun k hk e => h i k hi hk e
theorem sum_le (u : Fr → Int) {ls : List Fr} {i : Nat} (h : RankAt ls i) (hi : i < ls.length) : ∀ k, k ≤ ls.length → sumLe u ls (frAt ls i).r k = sumLt u ls (frAt ls i).r k + if i < k then u (frAt ls i) else 0
  | 0, _ => by simp [sumLe, sumLt]
  | k + 1, hk => by
    have h1 := sum_le u h hi k (by omega)
    have h2 := h k (by omega)
    unfold sumLe sumLt
    by_cases e : k = i
    · subst e
      rw [if_pos (Int.le_refl _), if_neg (Int.lt_irrefl _), h1, if_neg (Nat.lt_irrefl _), if_pos (Nat.lt_succ_self _)]
      omega
    · have e2 : (i < k + 1) ↔ (i < k) := by omega
      have e3 : (frAt ls k).r ≠ (frAt ls i).r := fun e4 => e (h2 e4)
      by_cases e5 : (frAt ls k).r < (frAt ls i).r
      · rw [if_pos e5, if_pos (by omega), h1]
        simp only [e2]
        omega
      · rw [if_neg e5, if_neg (by omega), h1]
        simp only [e2]
theorem lfp_min {g : Int → Int} {b r : Int} (hu : UpF g b) (hr : r ≤ 1000000) (hb : b ≤ r) (hg : g r = r) : ∃ x, lfp g b = some x ∧ x ≤ r :=
  itF_le (g2 := g) hu hr (fun t h1 h2 => by have := hu.mono t r h1 h2 hr; omega) _ b (Int.le_refl _) hb (hu.beg (by omega)) (Nat.le_refl _)
/-- A search that begins later, but before what it looks for, finds the same. -/
theorem lfp_from {g : Int → Int} {b b' : Int} (hu : UpF g b) (hu' : UpF g b') (hbb : b ≤ b') (hf : ∀ r, b ≤ r → r ≤ 1000000 → g r = r → b' ≤ r) : lfp g b = lfp g b' := by
  cases e : lfp g b with
  | none =>
    cases e' : lfp g b' with
    | none => rfl
    | some r' =>
      obtain ⟨h1, h2, h3⟩ := lfp_some hu' e'
      obtain ⟨x, hx, _⟩ := lfp_min hu h2 (by omega) h3
      rw [hx] at e
      cases e
  | some r =>
    obtain ⟨h1, h2, h3⟩ := lfp_some hu e
    have h4 := hf r h1 h2 h3
    obtain ⟨x, hx, hxr⟩ := lfp_min hu' h2 h4 h3
    obtain ⟨k1, k2, k3⟩ := lfp_some hu' hx
    obtain ⟨y, hy, hyx⟩ := lfp_min hu k2 (by omega) k3
    rw [e] at hy
    cases hy
    rw [hx, show r = x by omega]
end Go.Proofs.Ytcelbmpdnkaamaa
