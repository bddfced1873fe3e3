/- Row by row or pair by pair: the same answer (plain). -/
import Derived.Test.YtcelbmpdnkaamaaBsE
namespace Go.Proofs.Ytcelbmpdnkaamaa
open Go Go.RowKit
set_option linter.unusedSimpArgs false
set_option linter.unusedVariables false

/-- A slotted bus and a schedule that are valid. -/
structure SlP (ns p : Nat) (ms ss : List Ga) : Prop where
  len : ss.length = ms.length
  m60 : ms.length ≤ 60
  n30 : ns ≤ 30
  p7 : p < 7
  at' : ∀ k, k < ms.length → ∃ s q b : Nat, (gaAt ss k).1 = s ∧ s < ns ∧ (gaAt ms k).2 = ((2 ^ q : Nat) : Int) ∧ q ≤ p ∧ (gaAt ss k).2 = b ∧ b < 2 ^ q
theorem pow64 {p : Nat} (h : p < 7) : 2 ^ p ≤ 64 := Nat.pow_le_pow_right (n := 2) (by omega) (show p ≤ 6 by omega)
theorem SlP.v {ns p : Nat} {ms ss : List Ga} (h : SlP ns p ms ss) : SlV ns (2 ^ p) ms ss :=
  ⟨h.len, h.m60, h.n30, pow64 h.p7, fun k hk => by
    obtain ⟨s, q, b, h1, h2, h3, h4, h5, h6⟩ := h.at' k hk
    exact ⟨s, 2 ^ q, b, h1, h2, h3, Nat.two_pow_pos q, Nat.pow_le_pow_right (by omega) h4, h5, h6⟩⟩
theorem SlP.o {ns p : Nat} {ms ss : List Ga} (h : SlP ns p ms ss) : SlOk ms ss :=
  ⟨h.len, h.m60, fun k hk => by
    obtain ⟨s, q, b, h1, h2, h3, h4, h5, h6⟩ := h.at' k hk
    have h7 := Nat.two_pow_pos q
    have h8 := Nat.pow_le_pow_right (n := 2) (by omega) h4
    have h9 := pow64 h.p7
    rw [h3]; omega, fun k hk => by
    obtain ⟨s, q, b, h1, h2, h3, h4, h5, h6⟩ := h.at' k hk
    have h8 := Nat.pow_le_pow_right (n := 2) (by omega) h4
    have h9 := pow64 h.p7
    rw [h5]; omega⟩
theorem table_at {p a b x y : Nat} (hp : p < 7) (ha : a ≤ p) (hb : b ≤ p) (hx : x < 2 ^ a) (hy : y < 2 ^ b) :
    ((maskOf (2 ^ p) (2 ^ a) x &&& maskOf (2 ^ p) (2 ^ b) y = 0) ↔ ¬ (x % 2 ^ (min a b) = y % 2 ^ (min a b))) ∧ maskOf (2 ^ p) (2 ^ a) x ≠ 0 := by
  have h := clash_table
  unfold clashTable at h
  rw [List.all_eq_true] at h
  have h1 := h p (List.mem_range.2 hp)
  rw [List.all_eq_true] at h1
  have h2 := h1 a (List.mem_range.2 (by omega))
  rw [List.all_eq_true] at h2
  have h3 := h2 b (List.mem_range.2 (by omega))
  rw [List.all_eq_true] at h3
  have h4 := h3 x (List.mem_range.2 hx)
  rw [List.all_eq_true] at h4
  have h5 := h4 y (List.mem_range.2 hy)
  rw [Bool.and_eq_true] at h5
  obtain ⟨h6, h7⟩ := h5
  rw [beq_iff_eq, Bool.eq_iff_iff] at h6
  constructor
  · simpa using h6
  · simpa using h7
theorem tmod_zero {x y m : Nat} : ((x : Int) - y).tmod (m : Int) = 0 ↔ x % m = y % m := by
  rw [← Int.dvd_iff_tmod_eq_zero, Int.dvd_iff_emod_eq_zero, ← Int.emod_eq_emod_iff_emod_sub_eq_zero]
  omega
theorem min_pow (a b : Nat) : min (((2 ^ a : Nat) : Int)) ((2 ^ b : Nat) : Int) = ((2 ^ (min a b) : Nat) : Int) := by
  rcases Nat.le_total a b with h | h
  · have := Nat.pow_le_pow_right (n := 2) (by omega) h
    rw [Nat.min_eq_left h]; omega
  · have := Nat.pow_le_pow_right (n := 2) (by omega) h
    rw [Nat.min_eq_right h]; omega
section same
variable {ns p : Nat} {ms ss : List Ga}
theorem mk_pair (h : SlP ns p ms ss) {j k : Nat} (hj : j < ms.length) (hk : k < ms.length) : (mkT (2 ^ p) ms ss j &&& mkT (2 ^ p) ms ss k = 0) ↔ ¬ ((gaAt ss j).2 - (gaAt ss k).2).tmod (min (gaAt ms j).2 (gaAt ms k).2) = 0 := by
  obtain ⟨s, q, b, h1, h2, h3, h4, h5, h6⟩ := h.at' j hj
  obtain ⟨s2, q2, b2, g1, g2, g3, g4, g5, g6⟩ := h.at' k hk
  unfold mkT
  rw [h3, h5, g3, g5, min_pow, tmod_zero]
  simp only [Int.toNat_natCast]
  exact (table_at h.p7 h4 g4 h6 g6).1
theorem mk_nz (h : SlP ns p ms ss) {j : Nat} (hj : j < ms.length) : mkT (2 ^ p) ms ss j ≠ 0 := by
  obtain ⟨s, q, b, h1, h2, h3, h4, h5, h6⟩ := h.at' j hj
  unfold mkT
  rw [h3, h5]
  simp only [Int.toNat_natCast]
  exact (table_at h.p7 h4 h4 h6 h6).2
/-- Two messages may lie in their slots. -/
def Fits (p : Nat) (ms ss : List Ga) (k j : Nat) : Prop := slT ss j = slT ss k → (gaAt ms j).1 = (gaAt ms k).1 ∧ mkT (2 ^ p) ms ss j &&& mkT (2 ^ p) ms ss k = 0
theorem freeAt_iff (h : SlP ns p ms ss) {j k : Nat} (hj : j < ms.length) (hk : k < ms.length) : freeAt ms ss k j = true ↔ Fits p ms ss k j := by
  obtain ⟨s, q, b, h1, _⟩ := h.at' j hj
  obtain ⟨s2, q2, b2, g1, _⟩ := h.at' k hk
  have hs : slT ss j = slT ss k ↔ (gaAt ss j).1 = (gaAt ss k).1 := by unfold slT; rw [h1, g1]; simp; constructor <;> intro e <;> omega
  have hm := mk_pair h hj hk
  unfold Fits freeAt clR
  rw [hs, hm]
  by_cases e1 : (gaAt ss j).1 = (gaAt ss k).1
  · by_cases e2 : (gaAt ms j).1 = (gaAt ms k).1
    · simp [e1, e2]
    · simp [e1, e2]
  · simp [e1]
structure RInv (ns p : Nat) (ms ss : List Ga) (k : Nat) : Prop where
  zero : ∀ t, t < ns → (srAt (rowsTo ns (2 ^ p) ms ss k) t).2 = 0 → ∀ j, j < k → slT ss j ≠ t
  none : ∀ t, t < ns → (∀ j, j < k → slT ss j ≠ t) → (srAt (rowsTo ns (2 ^ p) ms ss k) t).2 = 0
  send : ∀ j, j < k → (srAt (rowsTo ns (2 ^ p) ms ss k) (slT ss j)).1 = (gaAt ms j).1
  bits : ∀ t, t < ns → ∀ m, ((srAt (rowsTo ns (2 ^ p) ms ss k) t).2 &&& m = 0 ↔ ∀ j, j < k → slT ss j = t → mkT (2 ^ p) ms ss j &&& m = 0)
theorem slT_lt (h : SlP ns p ms ss) {k : Nat} (hk : k < ms.length) : slT ss k < ns := by
  obtain ⟨s, q, b, h1, h2, _⟩ := h.at' k hk
  unfold slT; rw [h1]; simpa using h2
theorem okC_iff (h : SlP ns p ms ss) {k : Nat} (hk : k < ms.length) (hi : RInv ns p ms ss k) : okC ns (2 ^ p) ms ss k = true ↔ ∀ j, j < k → Fits p ms ss k j := by
  have hs := slT_lt h hk
  unfold okC freeRow
  rw [Bool.or_eq_true, Bool.and_eq_true, beq_iff_eq, beq_iff_eq, beq_iff_eq]
  constructor
  · rintro (h0 | ⟨h1, h2⟩) j hj e
    · exact absurd e (hi.zero _ hs h0 j hj)
    · refine ⟨?_, (hi.bits _ hs _).1 h2 j hj e⟩
      rw [← hi.send j hj, e, h1]
  · intro hf
    by_cases h0 : ∃ j, j < k ∧ slT ss j = slT ss k
    · obtain ⟨j, hj, e⟩ := h0
      refine Or.inr ⟨?_, (hi.bits _ hs _).2 (fun i hi2 e2 => (hf i hi2 e2).2)⟩
      rw [← e, hi.send j hj]; exact (hf j hj e).1
    · exact Or.inl (hi.none _ hs (fun j hj e => h0 ⟨j, hj, e⟩))
theorem rinv (h : SlP ns p ms ss) : ∀ k, k ≤ ms.length → (∀ j, j < k → okC ns (2 ^ p) ms ss j = true) → RInv ns p ms ss k
  | 0, _, _ => by
    have e : ∀ t, t < ns → srAt (rowsTo ns (2 ^ p) ms ss 0) t = (0, 0) := fun t ht => by simp [rowsTo, srAt, List.getD, ht]
    exact ⟨fun t ht _ j hj => by omega, fun t ht _ => by rw [e t ht], fun j hj => by omega, fun t ht m => by rw [e t ht]; simp⟩
  | k + 1, hk, hok => by
    have ih := rinv h k (by omega) (fun j hj => hok j (by omega))
    have hs := slT_lt h (show k < ms.length by omega)
    have hf := (okC_iff h (show k < ms.length by omega) ih).1 (hok k (by omega))
    have hnz := mk_nz h (show k < ms.length by omega)
    have hat : ∀ t, srAt (rowsTo ns (2 ^ p) ms ss (k + 1)) t = if t = slT ss k then ((gaAt ms k).1, (srAt (rowsTo ns (2 ^ p) ms ss k) (slT ss k)).2 ||| mkT (2 ^ p) ms ss k) else srAt (rowsTo ns (2 ^ p) ms ss k) t := fun t => srAt_set (by rw [rowsTo_len]; exact hs) _ t
    have hor : ∀ a b : Nat, a ||| b = 0 → a = 0 ∧ b = 0 := fun a b e => Nat.or_eq_zero_iff.1 e
    refine ⟨fun t ht h0 j hj => ?_, fun t ht hno => ?_, fun j hj => ?_, fun t ht m => ?_⟩
    · rw [hat] at h0
      by_cases e : t = slT ss k
      · rw [if_pos e] at h0
        exact absurd (hor _ _ h0).2 hnz
      · rw [if_neg e] at h0
        by_cases e2 : j = k
        · subst e2; exact fun e3 => e e3.symm
        · exact ih.zero t ht h0 j (by omega)
    · rw [hat]
      have e : t ≠ slT ss k := fun e => hno k (by omega) e.symm
      rw [if_neg e]
      exact ih.none t ht (fun j hj => hno j (by omega))
    · rw [hat]
      by_cases e : slT ss j = slT ss k
      · rw [if_pos e]
        by_cases e2 : j = k
        · subst e2; rfl
        · exact ((hf j (by omega) e).1).symm
      · rw [if_neg e]
        have e2 : j ≠ k := fun e2 => e (by rw [e2])
        exact ih.send j (by omega)
    · rw [hat]
      by_cases e : t = slT ss k
      · rw [if_pos e]
        have hb := ih.bits (slT ss k) hs m
        dsimp only
        rw [Nat.and_or_distrib_right, Nat.or_eq_zero_iff, hb]
        constructor
        · rintro ⟨h1, h2⟩ j hj e3
          by_cases e2 : j = k
          · subst e2; exact h2
          · exact h1 j (by omega) (by rw [e3, e])
        · intro h1
          exact ⟨fun j hj e3 => h1 j (by omega) (by rw [e3, e]), h1 k (by omega) e.symm⟩
      · rw [if_neg e, ih.bits t ht m]
        constructor
        · intro h1 j hj e3
          by_cases e2 : j = k
          · subst e2; exact absurd e3.symm e
          · exact h1 j (by omega) e3
        · intro h1 j hj e3
          exact h1 j (by omega) e3
theorem clash_same (h : SlP ns p ms ss) : allR ms.length (okC ns (2 ^ p) ms ss) = allR ms.length (freeR ms ss) := by
  have hfr : ∀ k, k < ms.length → (freeR ms ss k = true ↔ ∀ j, j < k → Fits p ms ss k j) := fun k hk => by
    unfold freeR
    constructor
    · intro h1 j hj
      exact (freeAt_iff h (by omega) hk).1 (allR_get h1 hj)
    · intro h1
      exact allR_good (fun j hj => (freeAt_iff h (by omega) hk).2 (h1 j hj))
  rw [Bool.eq_iff_iff]
  constructor
  · intro h1
    refine allR_good (fun k hk => (hfr k hk).2 ?_)
    exact (okC_iff h hk (rinv h k (by omega) (fun j hj => allR_get h1 (by omega)))).1 (allR_get h1 hk)
  · intro h1
    have : ∀ k, k ≤ ms.length → ∀ j, j < k → okC ns (2 ^ p) ms ss j = true := by
      intro k
      induction k with
      | zero => intro _ j hj; omega
      | succ k ih =>
        intro hk j hj
        by_cases e : j = k
        · subst e
          exact (okC_iff h (by omega) (rinv h j (by omega) (ih (by omega)))).2 ((hfr j (by omega)).1 (allR_get h1 (by omega)))
        · exact ih (by omega) j (by omega)
    exact allR_good (fun j hj => this ms.length (Nat.le_refl _) j hj)
end same
/-- What CheckSlots answers. -/
def chkV (ns nc : Int) (ms ss : List Ga) : Int := if sltB ns nc ms = true then (if areB ns ms ss = true then (if allR ms.length (freeR ms ss) = true then 0 else 44) else 1) else 43
theorem slp_of {ns nc : Int} {ms ss : List Ga} (h1 : sltB ns nc ms = true) (h2 : areB ns ms ss = true) : ∃ n p : Nat, ns = n ∧ nc = ((2 ^ p : Nat) : Int) ∧ SlP n p ms ss := by
  unfold sltB at h1
  simp only [Bool.and_eq_true, decide_eq_true_eq] at h1
  obtain ⟨⟨⟨a1, a2⟩, a3⟩, a4⟩ := h1
  unfold fromB at a1
  simp only [Bool.and_eq_true, decide_eq_true_eq] at a1
  obtain ⟨p, hp, hnc, _⟩ := powB_two a2 (by omega)
  unfold areB at h2
  simp only [Bool.and_eq_true, decide_eq_true_eq] at h2
  obtain ⟨b1, b2⟩ := h2
  have h64 := pow64 hp
  refine ⟨ns.toNat, p, by omega, hnc, b1, a3, by omega, hp, fun k hk => ?_⟩
  have c1 := allR_get a4 hk
  have c2 := allR_get b2 hk
  unfold msgB at c1
  unfold areAt fromB at c2
  simp only [Bool.and_eq_true, decide_eq_true_eq] at c1 c2
  obtain ⟨q, hq, he, hle⟩ := powB_two c1.2 (by omega)
  refine ⟨(gaAt ss k).1.toNat, q, (gaAt ss k).2.toNat, by omega, by omega, he, ?_, by omega, by omega⟩
  have : 2 ^ q ≤ 2 ^ p := by omega
  exact (Nat.pow_le_pow_iff_right (a := 2) (by omega)).1 this
end Go.Proofs.Ytcelbmpdnkaamaa
