/- The reference's sums are those that the program searches with; what a response is, step by step. -/
import Derived.Test.YtcelbmpdnkaamaaBwD
namespace Go.Proofs.Ytcelbmpdnkaamaa
open Go Go.RowKit Go.WideMaps Go.Maps
set_option linter.unusedSimpArgs false
set_option linter.unusedVariables false

abbrev rsI (ls : List Fr) (i : Nat) : Int := restTo ls (frAt ls i).r ls.length
abbrev abI (ls : List Fr) (i : Nat) : List Fr := abTo ls (frAt ls i).r ls.length
theorem busy_eq {ls : List Fr} {i : Nat} (h : RankAt ls i) (hi : i < ls.length) (t : Int) :
    rsI ls i + sumLe (fun f => upT f t) ls (frAt ls i).r ls.length = busyG (rsI ls i) (abI ls i) (frAt ls i) t := by
  have h1 := sum_le (fun f => upT f t) h hi ls.length (Nat.le_refl _)
  rw [if_pos hi] at h1
  have h2 := sum_ab (fun f => upT f t) ls (frAt ls i).r ls.length
  unfold busyG
  rw [h1, h2]
  omega
theorem wait_eq (ls : List Fr) (i : Nat) (q x : Int) :
    rsI ls i + q * (frAt ls i).s + sumLt (fun f => wtT f x) ls (frAt ls i).r ls.length = waitG (rsI ls i) q (abI ls i) (frAt ls i) x := by
  unfold waitG
  rw [sum_ab (fun f => wtT f x) ls (frAt ls i).r ls.length]

/-- The bound of the program's searches. -/
abbrev huge : Int := 9223372036854775807
theorem respTo_step {f : Fr} {ab : List Fr} {rest : Int} (h : RivOk f ab rest) {q : Nat} {m b r : Int} (e : respTo rest ab f huge q = some (m, b)) (hl : lfp (waitG rest q ab f) (rest + q * f.s) = some r) :
    ∃ b', respTo rest ab f huge (q + 1) = some (max m (r + f.s + f.j - q * f.e), b') := by
  have h1 := respTo_from h q m b e
  have hbeg := respTo_ok h q m b e
  rw [h1] at hl
  obtain ⟨k1, k2, k3⟩ := lfp_some hbeg.up hl
  have hs := h.fo.s; have hj := h.fo.j; have m1 := hbeg.m1
  have he : 0 ≤ (q : Int) * f.e := Int.mul_nonneg (by omega) (by have := h.fo.e.1; omega)
  refine ⟨r + f.s, ?_⟩
  show (respTo rest ab f huge q).bind _ = _
  rw [e]
  simp only [Option.bind_some]
  rw [hl]
  simp only [Option.bind_some]
  rw [if_neg (by unfold huge; omega)]
theorem respTo_none {f : Fr} {ab : List Fr} {rest : Int} (h : RivOk f ab rest) {q : Nat} {m b : Int} (e : respTo rest ab f huge q = some (m, b)) (hl : lfp (waitG rest q ab f) (rest + q * f.s) = none) : ∀ n, q < n → respTo rest ab f huge n = none
  | 0, h0 => by omega
  | n + 1, h0 => by
    show (respTo rest ab f huge n).bind _ = _
    by_cases e1 : n = q
    · subst e1
      rw [e]
      simp only [Option.bind_some]
      rw [← respTo_from h n m b e, hl]
      rfl
    · rw [respTo_none h e hl n (by omega)]
      rfl
/-- The numbers of a response's searches. -/
def qsOf (f : Fr) (t : Int) : Nat := (upI (t + f.j) f.e).toNat
theorem respI_late {ls : List Fr} {i : Nat} (h : lfp (busyG (rsI ls i) (abI ls i) (frAt ls i)) 1 = none) : respI ls i = -1 := by
  unfold respI respOf
  rw [h]; rfl
theorem respI_none {ls : List Fr} {i : Nat} {t : Int} (h : lfp (busyG (rsI ls i) (abI ls i) (frAt ls i)) 1 = some t) (h2 : respTo (rsI ls i) (abI ls i) (frAt ls i) huge (qsOf (frAt ls i) t) = none) : respI ls i = -1 := by
  unfold respI respOf
  rw [h]
  simp only [Option.bind_some]
  unfold qsOf at h2
  rw [h2]; rfl
theorem respI_some {ls : List Fr} {i : Nat} {t m b : Int} (h : lfp (busyG (rsI ls i) (abI ls i) (frAt ls i)) 1 = some t) (h2 : respTo (rsI ls i) (abI ls i) (frAt ls i) huge (qsOf (frAt ls i) t) = some (m, b)) : respI ls i = m := by
  unfold respI respOf
  rw [h]
  simp only [Option.bind_some]
  unfold qsOf at h2
  rw [h2]; rfl
/-- Response: at most 1101000, from -1 on. -/
theorem respI_bd {ls : List Fr} (ok : FrsOk ls) {i : Nat} (hi : i < ls.length) : -1 ≤ respI ls i ∧ respI ls i ≤ 1101000 := by
  have hr := rivOk_of ok (ok.2 i hi)
  cases e : lfp (busyG (rsI ls i) (abI ls i) (frAt ls i)) 1 with
  | none => rw [respI_late e]; omega
  | some t =>
    cases e2 : respTo (rsI ls i) (abI ls i) (frAt ls i) huge (qsOf (frAt ls i) t) with
    | none => rw [respI_none e e2]; omega
    | some mb =>
      obtain ⟨m, b⟩ := mb
      rw [respI_some e e2]
      have h1 := respTo_ok hr _ m b e2
      have h2 := h1.m0; have h3 := h1.m1
      omega
end Go.Proofs.Ytcelbmpdnkaamaa
