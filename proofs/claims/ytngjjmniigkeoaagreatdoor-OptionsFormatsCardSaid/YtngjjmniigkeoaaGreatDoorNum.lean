/- How many assignments a knot means. -/
import Derived.Test.YtngjjmniigkeoaaGreatDoorBdd
namespace Go.Proofs.YtngjjmniigkeoaaGreatDoor

/-- How many ways there are to choose the m levels from L on so that f holds. -/
def num (f : (Nat → Bool) → Bool) : Nat → Nat → (Nat → Bool) → Nat
  | 0, _, σ => if f σ then 1 else 0
  | m + 1, L, σ => num f m (L + 1) (setAt σ L false) + num f m (L + 1) (setAt σ L true)

theorem num_le (f : (Nat → Bool) → Bool) : ∀ (m L : Nat) (σ : Nat → Bool), num f m L σ ≤ 2 ^ m
  | 0, _, σ => by unfold num; split <;> simp
  | m + 1, L, σ => by
    unfold num
    have h1 := num_le f m (L + 1) (setAt σ L false)
    have h2 := num_le f m (L + 1) (setAt σ L true)
    rw [Nat.pow_succ]; omega

theorem num_congr {f g : (Nat → Bool) → Bool} (h : ∀ σ, f σ = g σ) : ∀ (m L : Nat) (σ : Nat → Bool), num f m L σ = num g m L σ
  | 0, _, σ => by unfold num; rw [h]
  | m + 1, L, σ => by unfold num; rw [num_congr h m, num_congr h m]

/-- f looks at levels from A to n alone. -/
def Sees (f : (Nat → Bool) → Bool) (A n : Nat) : Prop := ∀ σ τ : Nat → Bool, (∀ i, A ≤ i → i < n → σ i = τ i) → f σ = f τ

theorem num_sees {f : (Nat → Bool) → Bool} {A n : Nat} (h : Sees f A n) : ∀ (m L : Nat) (σ τ : Nat → Bool), L + m = n → (∀ i, A ≤ i → i < L → σ i = τ i) → num f m L σ = num f m L τ
  | 0, L, σ, τ, hL, hst => by unfold num; rw [h σ τ (fun i h1 h2 => hst i h1 (by omega))]
  | m + 1, L, σ, τ, hL, hst => by
    have key : ∀ b, num f m (L + 1) (setAt σ L b) = num f m (L + 1) (setAt τ L b) := fun b => num_sees h m (L + 1) _ _ (by omega) (fun i h1 h2 => by
      unfold setAt; split
      · rfl
      · exact hst i h1 (by omega))
    unfold num; rw [key, key]

/-- Levels that f does not look at double the number. -/
theorem num_skip {f : (Nat → Bool) → Bool} {A n : Nat} (h : Sees f A n) : ∀ (d m L : Nat) (σ : Nat → Bool), L + (d + m) = n → L + d ≤ A → num f (d + m) L σ = 2 ^ d * num f m (L + d) σ
  | 0, m, L, σ, _, _ => by simp
  | d + 1, m, L, σ, hn, hA => by
    have e : d + 1 + m = (d + m) + 1 := by omega
    rw [e]
    have e0 : num f ((d + m) + 1) L σ = num f (d + m) (L + 1) (setAt σ L false) + num f (d + m) (L + 1) (setAt σ L true) := rfl
    rw [e0]
    rw [num_skip h d m (L + 1) _ (by omega) (by omega), num_skip h d m (L + 1) _ (by omega) (by omega)]
    have e2 : L + 1 + d = L + (d + 1) := by omega
    rw [e2]
    have k : ∀ b, num f m (L + (d + 1)) (setAt σ L b) = num f m (L + (d + 1)) σ := fun b => num_sees h m _ _ _ (by omega) (fun i h1 h2 => by unfold setAt; rw [if_neg (by omega)])
    rw [k, k, Nat.pow_succ, Nat.mul_comm (2 ^ d) 2, Nat.mul_assoc]; omega

def zeroσ : Nat → Bool := fun _ => false

/-- What count holds for a knot: the number from its own level on. -/
def cntOf (n : Nat) (l : List Nd) (k : Nat) : Nat := num (sem l k) (n - (ndAt l k).lev) (ndAt l k).lev zeroσ

theorem sem_sees {n : Nat} {l : List Nd} (h : WF n l) {k : Nat} (hk : k < l.length) : Sees (sem l k) (ndAt l k).lev n := fun σ τ hst => sem_irrel h k hk σ τ hst

theorem cntOf_no {n : Nat} {l : List Nd} (h : WF n l) : cntOf n l 0 = 0 := by
  unfold cntOf; rw [h.no]; simp [num, sem_no]
theorem cntOf_yes {n : Nat} {l : List Nd} (h : WF n l) : cntOf n l 1 = 1 := by
  unfold cntOf; rw [h.yes]; simp [num, sem_yes]
theorem cntOf_le {n : Nat} {l : List Nd} (k : Nat) : cntOf n l k ≤ 2 ^ (n - (ndAt l k).lev) := num_le _ _ _ _

/-- A knot of a greater level, counted from a level on. -/
theorem num_from {n : Nat} {l : List Nd} (h : WF n l) {k : Nat} (hk : k < l.length) {L : Nat} (hL : L ≤ (ndAt l k).lev) (σ : Nat → Bool) : num (sem l k) (n - L) L σ = 2 ^ ((ndAt l k).lev - L) * cntOf n l k := by
  have hle := h.lev_le hk
  have e : n - L = ((ndAt l k).lev - L) + (n - (ndAt l k).lev) := by omega
  rw [e, num_skip (sem_sees h hk) _ _ _ _ (by omega) (by omega)]
  have e2 : L + ((ndAt l k).lev - L) = (ndAt l k).lev := by omega
  rw [e2]
  unfold cntOf
  congr 1
  exact num_sees (sem_sees h hk) _ _ _ _ (by omega) (fun i h1 h2 => by omega)

theorem cntOf_node {n : Nat} {l : List Nd} (h : WF n l) {k : Nat} (h2 : 2 ≤ k) (hk : k < l.length) :
    cntOf n l k = 2 ^ ((ndAt l (ndAt l k).lo).lev - (ndAt l k).lev - 1) * cntOf n l (ndAt l k).lo + 2 ^ ((ndAt l (ndAt l k).hi).lev - (ndAt l k).lev - 1) * cntOf n l (ndAt l k).hi := by
  have hlev := h.lev k h2 hk
  have a := h.lo k h2 hk; have b := h.hi k h2 hk; have c := h.upL k h2 hk; have d := h.upH k h2 hk
  conv => lhs; unfold cntOf
  obtain ⟨m, hm⟩ : ∃ m, n - (ndAt l k).lev = m + 1 := ⟨n - (ndAt l k).lev - 1, by omega⟩
  rw [hm]
  unfold num
  have hm2 : m = n - ((ndAt l k).lev + 1) := by omega
  have key : ∀ (x : Bool) (j : Nat), j < l.length → (ndAt l k).lev < (ndAt l j).lev → (∀ σ, σ (ndAt l k).lev = x → sem l k σ = sem l j σ) →
      num (sem l k) m ((ndAt l k).lev + 1) (setAt zeroσ (ndAt l k).lev x) = 2 ^ ((ndAt l j).lev - (ndAt l k).lev - 1) * cntOf n l j := by
    intro x j hj hlj hs
    have e1 : ∀ (m' L' : Nat) (σ : Nat → Bool), (ndAt l k).lev < L' → σ (ndAt l k).lev = x → num (sem l k) m' L' σ = num (sem l j) m' L' σ := by
      intro m'
      induction m' with
      | zero => intro L' σ _ hx; unfold num; rw [hs σ hx]
      | succ m' ih =>
        intro L' σ hlt hx
        unfold num
        rw [ih (L' + 1) _ (by omega) (by unfold setAt; rw [if_neg (by omega)]; exact hx), ih (L' + 1) _ (by omega) (by unfold setAt; rw [if_neg (by omega)]; exact hx)]
    rw [e1 _ _ _ (by omega) (by simp [setAt]), hm2, num_from h hj (by omega)]
    congr 2
  rw [key false _ (by omega) c (fun σ hx => by rw [sem_node h h2 hk, hx]; rfl), key true _ (by omega) d (fun σ hx => by rw [sem_node h h2 hk, hx]; rfl)]
end Go.Proofs.YtngjjmniigkeoaaGreatDoor
