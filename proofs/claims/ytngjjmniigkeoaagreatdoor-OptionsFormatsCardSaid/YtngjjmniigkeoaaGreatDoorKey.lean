/- The key of a rest: no two rests have the same. -/
import Derived.Lib.ItoaNum
namespace Go.Proofs.YtngjjmniigkeoaaGreatDoor
open Go.Lib

theorem digits_ne : ∀ (u : Nat), ∀ c ∈ decDigits u, 48 ≤ c.toNat ∧ c.toNat ≤ 57 := by
  intro u
  induction u using Nat.strongRecOn with
  | _ u ih =>
    intro c hc
    rw [decDigits] at hc
    have key : ∀ d, d < 10 → 48 ≤ (UInt8.ofNat (48 + d)).toNat ∧ (UInt8.ofNat (48 + d)).toNat ≤ 57 := by
      intro d hd
      rw [UInt8.toNat_ofNat']
      omega
    split at hc
    · rw [List.mem_singleton] at hc; rw [hc]; exact key u (by omega)
    · rcases List.mem_append.1 hc with h1 | h1
      · exact ih (u / 10) (by omega) c h1
      · rw [List.mem_singleton] at h1; rw [h1]; exact key (u % 10) (by omega)

theorem digits_inj : ∀ (u v : Nat), decDigits u = decDigits v → u = v := by
  intro u
  induction u using Nat.strongRecOn with
  | _ u ih =>
    intro v h
    have hd : ∀ a b, a < 10 → b < 10 → UInt8.ofNat (48 + a) = UInt8.ofNat (48 + b) → a = b := by
      intro a b ha hb e
      have := congrArg UInt8.toNat e
      rw [UInt8.toNat_ofNat', UInt8.toNat_ofNat'] at this
      omega
    have hne : ∀ w, decDigits w ≠ [] := by
      intro w e
      rw [decDigits] at e
      split at e <;> simp at e
    have big : ∀ w, ¬ w < 10 → decDigits w = decDigits (w / 10) ++ [UInt8.ofNat (48 + w % 10)] := fun w hw => by rw [decDigits, dif_neg hw]
    have long : ∀ w, ¬ w < 10 → 2 ≤ (decDigits w).length := by
      intro w hw
      rw [big w hw, List.length_append]
      have := List.length_pos_iff.2 (hne (w / 10))
      simp; omega
    by_cases h1 : u < 10
    · by_cases h2 : v < 10
      · rw [decDigits_one h1, decDigits_one h2] at h
        exact hd u v h1 h2 (List.cons.inj h).1
      · have := long v h2
        rw [← h, decDigits_one h1] at this
        simp at this
    · by_cases h2 : v < 10
      · have := long u h1
        rw [h, decDigits_one h2] at this
        simp at this
      · rw [big u h1, big v h2] at h
        have h5 := List.append_inj' h rfl
        have h6 := ih (u / 10) (by omega) (v / 10) h5.1
        have h7 := hd (u % 10) (v % 10) (by omega) (by omega) (List.cons.inj h5.2).1
        omega

theorem itoa_ne (n : Int) : ∀ c ∈ itoa n, c ≠ 32 := by
  intro c hc e
  subst e
  unfold itoa at hc
  split at hc
  · rcases List.mem_cons.1 hc with h | h
    · cases h
    · have := digits_ne _ _ h; simp at this
  · have := digits_ne _ _ hc; simp at this
theorem itoa_inj {a b : Int} (h : itoa a = itoa b) : a = b := by
  unfold itoa at h
  have h45 : ∀ u (l : List UInt8), decDigits u ≠ 45 :: l := by
    intro u l e
    have := digits_ne u 45 (by rw [e]; exact List.mem_cons_self ..)
    simp at this
  split at h
  · split at h
    · have := digits_inj _ _ (List.cons.inj h).2
      omega
    · exact absurd h.symm (h45 _ _)
  · split at h
    · exact absurd h (h45 _ _)
    · have := digits_inj _ _ h
      omega

/-- The text that tells a rest from all others. -/
def keyT (ts : List (Nat × Int)) : List UInt8 := ts.flatMap (fun t => (32 :: itoa (t.1 : Int)) ++ (32 :: itoa t.2))
def keyR (a : Nat) (ts : List (Nat × Int)) : List UInt8 := itoa (a : Int) ++ keyT ts

/-- Up to the first space. -/
theorem upto_space : ∀ (x y r s : List UInt8), (∀ c ∈ x, c ≠ 32) → (∀ c ∈ y, c ≠ 32) → (r = [] ∨ ∃ r', r = 32 :: r') → (s = [] ∨ ∃ s', s = 32 :: s') → x ++ r = y ++ s → x = y ∧ r = s
  | [], [], r, s, _, _, _, _, h => ⟨rfl, by simpa using h⟩
  | [], c :: y, r, s, _, hy, hr, _, h => by
    rcases hr with rfl | ⟨r', rfl⟩
    · simp at h
    · simp at h; exact absurd h.1.symm (hy c (List.mem_cons_self ..))
  | c :: x, [], r, s, hx, _, _, hs, h => by
    rcases hs with rfl | ⟨s', rfl⟩
    · simp at h
    · simp at h; exact absurd h.1 (hx c (List.mem_cons_self ..))
  | c :: x, d :: y, r, s, hx, hy, hr, hs, h => by
    simp only [List.cons_append, List.cons.injEq] at h
    obtain ⟨h1, h2⟩ := upto_space x y r s (fun e he => hx e (List.mem_cons_of_mem _ he)) (fun e he => hy e (List.mem_cons_of_mem _ he)) hr hs h.2
    exact ⟨by rw [h.1, h1], h2⟩

theorem keyT_head (ts : List (Nat × Int)) : keyT ts = [] ∨ ∃ r, keyT ts = 32 :: r := by
  cases ts with
  | nil => exact .inl rfl
  | cons t ts => exact .inr ⟨_, by unfold keyT; rw [List.flatMap_cons, List.cons_append, List.cons_append]⟩
theorem keyT_inj : ∀ (ts us : List (Nat × Int)), keyT ts = keyT us → ts = us
  | [], [], _ => rfl
  | [], u :: us, h => by simp [keyT] at h
  | t :: ts, [], h => by simp [keyT] at h
  | t :: ts, u :: us, h => by
    have e : ∀ (t : Nat × Int) ts, keyT (t :: ts) = 32 :: (itoa (t.1 : Int) ++ (32 :: (itoa t.2 ++ keyT ts))) := by
      intro t ts; simp [keyT, List.flatMap_cons]
    rw [e, e] at h
    obtain ⟨h1, h2⟩ := upto_space _ _ _ _ (itoa_ne _) (itoa_ne _) (.inr ⟨_, rfl⟩) (.inr ⟨_, rfl⟩) (List.cons.inj h).2
    obtain ⟨h3, h4⟩ := upto_space _ _ _ _ (itoa_ne _) (itoa_ne _) (keyT_head _) (keyT_head _) (List.cons.inj h2).2
    have e1 := itoa_inj h1
    have e2 := itoa_inj h3
    have e3 := keyT_inj ts us h4
    have e4 : t = u := Prod.ext (by omega) e2
    rw [e4, e3]
theorem keyR_inj {a b : Nat} {ts us : List (Nat × Int)} (h : keyR a ts = keyR b us) : a = b ∧ ts = us := by
  obtain ⟨h1, h2⟩ := upto_space _ _ _ _ (itoa_ne _) (itoa_ne _) (keyT_head _) (keyT_head _) h
  have := itoa_inj h1
  exact ⟨by omega, keyT_inj _ _ h2⟩
theorem keyT_snoc (ts : List (Nat × Int)) (t : Nat × Int) : keyT (ts ++ [t]) = keyT ts ++ ((32 :: itoa (t.1 : Int)) ++ (32 :: itoa t.2)) := by simp [keyT]
theorem keyR_take {a : Nat} {ts : List (Nat × Int)} {i : Nat} (h : i < ts.length) : keyR a (ts.take (i + 1)) = ((keyR a (ts.take i) ++ (32 :: itoa ((ts.getD i (0, 0)).1 : Int))) ++ (32 :: itoa (ts.getD i (0, 0)).2)) := by
  unfold keyR
  rw [List.take_succ_eq_append_getElem h, keyT_snoc]
  simp [List.getD, h]
end Go.Proofs.YtngjjmniigkeoaaGreatDoor
