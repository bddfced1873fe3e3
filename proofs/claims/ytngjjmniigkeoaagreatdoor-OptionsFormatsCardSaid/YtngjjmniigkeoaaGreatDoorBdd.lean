/- Reduced diagrams as lists of nodes: what they mean; equal knots mean the same variants. -/
namespace Go.Proofs.YtngjjmniigkeoaaGreatDoor

structure Nd where
  lev : Nat
  lo : Nat
  hi : Nat

def ndAt (l : List Nd) (k : Nat) : Nd := l.getD k ⟨0, 0, 0⟩

/-- What a knot means, by levels; f bounds the way down. -/
def semF (l : List Nd) (σ : Nat → Bool) : Nat → Nat → Bool
  | 0, _ => false
  | f + 1, k => if k = 0 then false else if k = 1 then true else if σ (ndAt l k).lev then semF l σ f (ndAt l k).hi else semF l σ f (ndAt l k).lo
def sem (l : List Nd) (k : Nat) (σ : Nat → Bool) : Bool := semF l σ (k + 1) k

structure WF (n : Nat) (l : List Nd) : Prop where
  two : 2 ≤ l.length
  no : ndAt l 0 = ⟨n, 0, 0⟩
  yes : ndAt l 1 = ⟨n, 0, 0⟩
  lev : ∀ k, 2 ≤ k → k < l.length → (ndAt l k).lev < n
  lo : ∀ k, 2 ≤ k → k < l.length → (ndAt l k).lo < k
  hi : ∀ k, 2 ≤ k → k < l.length → (ndAt l k).hi < k
  ne : ∀ k, 2 ≤ k → k < l.length → (ndAt l k).lo ≠ (ndAt l k).hi
  upL : ∀ k, 2 ≤ k → k < l.length → (ndAt l k).lev < (ndAt l (ndAt l k).lo).lev
  upH : ∀ k, 2 ≤ k → k < l.length → (ndAt l k).lev < (ndAt l (ndAt l k).hi).lev
  inj : ∀ j k, 2 ≤ j → 2 ≤ k → j < l.length → k < l.length → ndAt l j = ndAt l k → j = k

theorem WF.lev_le {n : Nat} {l : List Nd} (h : WF n l) {k : Nat} (hk : k < l.length) : (ndAt l k).lev ≤ n := by
  by_cases h2 : 2 ≤ k
  · exact Nat.le_of_lt (h.lev k h2 hk)
  · have : k = 0 ∨ k = 1 := by omega
    rcases this with rfl | rfl
    · rw [h.no]; exact Nat.le_refl _
    · rw [h.yes]; exact Nat.le_refl _

theorem WF.lev_top {n : Nat} {l : List Nd} (h : WF n l) {k : Nat} (hk : k < l.length) (e : (ndAt l k).lev = n) : k = 0 ∨ k = 1 := by
  by_cases h2 : 2 ≤ k
  · have := h.lev k h2 hk; omega
  · omega

theorem semF_more {n : Nat} {l : List Nd} (h : WF n l) (σ : Nat → Bool) : ∀ (f g k : Nat), k < f → k < g → k < l.length → semF l σ f k = semF l σ g k
  | 0, _, _, hf, _, _ => by omega
  | _, 0, _, _, hg, _ => by omega
  | f + 1, g + 1, k, hf, hg, hk => by
    unfold semF
    split
    · rfl
    · split
      · rfl
      · have h1 := h.lo k (by omega) hk
        have h2 := h.hi k (by omega) hk
        rw [semF_more h σ f g _ (by omega) (by omega) (by omega), semF_more h σ f g _ (by omega) (by omega) (by omega)]

theorem sem_no (l : List Nd) (σ : Nat → Bool) : sem l 0 σ = false := by simp [sem, semF]
theorem sem_yes (l : List Nd) (σ : Nat → Bool) : sem l 1 σ = true := by simp [sem, semF]
theorem sem_node {n : Nat} {l : List Nd} (h : WF n l) {k : Nat} (h2 : 2 ≤ k) (hk : k < l.length) (σ : Nat → Bool) :
    sem l k σ = if σ (ndAt l k).lev then sem l (ndAt l k).hi σ else sem l (ndAt l k).lo σ := by
  have h1 := h.lo k h2 hk
  have h3 := h.hi k h2 hk
  unfold sem
  conv => lhs; unfold semF
  rw [if_neg (by omega), if_neg (by omega), semF_more h σ k ((ndAt l k).hi + 1) _ (by omega) (by omega) (by omega), semF_more h σ k ((ndAt l k).lo + 1) _ (by omega) (by omega) (by omega)]

/-- What is asked for lies at the knot's level or behind. -/
theorem sem_irrel {n : Nat} {l : List Nd} (h : WF n l) : ∀ (k : Nat), k < l.length → ∀ σ τ : Nat → Bool, (∀ i, (ndAt l k).lev ≤ i → i < n → σ i = τ i) → sem l k σ = sem l k τ := by
  intro k
  induction k using Nat.strongRecOn with
  | _ k ih =>
    intro hk σ τ hst
    by_cases h2 : 2 ≤ k
    · rw [sem_node h h2 hk, sem_node h h2 hk, hst _ (Nat.le_refl _) (h.lev k h2 hk)]
      have a := h.lo k h2 hk
      have b := h.hi k h2 hk
      have c := h.upL k h2 hk
      have d := h.upH k h2 hk
      rw [ih _ a (by omega) σ τ (fun i hi hn => hst i (by omega) hn), ih _ b (by omega) σ τ (fun i hi hn => hst i (by omega) hn)]
    · have : k = 0 ∨ k = 1 := by omega
      rcases this with rfl | rfl
      · rw [sem_no, sem_no]
      · rw [sem_yes, sem_yes]

def setAt (σ : Nat → Bool) (i : Nat) (b : Bool) : Nat → Bool := fun j => if j = i then b else σ j

theorem sem_set_hi {n : Nat} {l : List Nd} (h : WF n l) {k : Nat} (hk : k < l.length) (σ : Nat → Bool) {i : Nat} (hi : i < (ndAt l k).lev) (b : Bool) : sem l k (setAt σ i b) = sem l k σ :=
  sem_irrel h k hk _ _ (fun j hj _ => by unfold setAt; rw [if_neg (by omega)])

/-- EQUAL MEANING, EQUAL KNOTS. -/
theorem canon {n : Nat} {l : List Nd} (h : WF n l) : ∀ (m a b : Nat), a < l.length → b < l.length → a < m → b < m → (∀ σ, sem l a σ = sem l b σ) → a = b := by
  intro m
  induction m with
  | zero => intro a b _ _ hm _ _; omega
  | succ m ih =>
    intro a b ha hb hm hm' hs
    by_cases a2 : 2 ≤ a
    · by_cases b2 : 2 ≤ b
      · have al := h.lo a a2 ha; have ah := h.hi a a2 ha; have au := h.upL a a2 ha; have av := h.upH a a2 ha; have an := h.ne a a2 ha
        have bl := h.lo b b2 hb; have bh := h.hi b b2 hb; have bu := h.upL b b2 hb; have bv := h.upH b b2 hb; have bn := h.ne b b2 hb
        rcases Nat.lt_trichotomy (ndAt l a).lev (ndAt l b).lev with hlt | heq | hgt
        · exfalso
          apply an
          apply ih _ _ (by omega) (by omega) (by omega) (by omega)
          intro σ
          have e1 := hs (setAt σ (ndAt l a).lev false)
          have e2 := hs (setAt σ (ndAt l a).lev true)
          rw [sem_set_hi h hb σ hlt] at e1 e2
          rw [sem_node h a2 ha] at e1 e2
          simp [setAt] at e1 e2
          rw [sem_set_hi h (by omega) σ au] at e1
          rw [sem_set_hi h (by omega) σ av] at e2
          rw [e1, e2]
        · have key : ∀ (x : Bool) (σ : Nat → Bool), (if x then sem l (ndAt l a).hi σ else sem l (ndAt l a).lo σ) = (if x then sem l (ndAt l b).hi σ else sem l (ndAt l b).lo σ) := by
            intro x σ
            have e1 := hs (setAt σ (ndAt l a).lev x)
            rw [sem_node h a2 ha, sem_node h b2 hb, ← heq] at e1
            have ex : setAt σ (ndAt l a).lev x (ndAt l a).lev = x := by simp [setAt]
            rw [ex] at e1
            rw [sem_set_hi h (by omega) σ au, sem_set_hi h (by omega) σ av, sem_set_hi h (by omega) σ (by omega), sem_set_hi h (by omega) σ (by omega)] at e1
            exact e1
          have el : (ndAt l a).lo = (ndAt l b).lo := ih _ _ (by omega) (by omega) (by omega) (by omega) (fun σ => by simpa using key false σ)
          have eh : (ndAt l a).hi = (ndAt l b).hi := ih _ _ (by omega) (by omega) (by omega) (by omega) (fun σ => by simpa using key true σ)
          apply h.inj a b a2 b2 ha hb
          cases hA : ndAt l a; cases hB : ndAt l b; rw [hA, hB] at heq el eh; simp at heq el eh; rw [heq, el, eh]
        · exfalso
          apply bn
          apply ih _ _ (by omega) (by omega) (by omega) (by omega)
          intro σ
          have e1 := hs (setAt σ (ndAt l b).lev false)
          have e2 := hs (setAt σ (ndAt l b).lev true)
          rw [sem_set_hi h ha σ hgt] at e1 e2
          rw [sem_node h b2 hb] at e1 e2
          simp [setAt] at e1 e2
          rw [sem_set_hi h (by omega) σ bu] at e1
          rw [sem_set_hi h (by omega) σ bv] at e2
          rw [← e1, ← e2]
      · exfalso
        have al := h.lo a a2 ha; have ah := h.hi a a2 ha; have au := h.upL a a2 ha; have av := h.upH a a2 ha; have an := h.ne a a2 ha
        apply an
        have hc : ∀ σ τ, sem l b σ = sem l b τ := by
          intro σ τ
          have : b = 0 ∨ b = 1 := by omega
          rcases this with rfl | rfl
          · rw [sem_no, sem_no]
          · rw [sem_yes, sem_yes]
        apply ih _ _ (by omega) (by omega) (by omega) (by omega)
        intro σ
        have e1 := hs (setAt σ (ndAt l a).lev false)
        have e2 := hs (setAt σ (ndAt l a).lev true)
        rw [hc _ σ] at e1 e2
        rw [sem_node h a2 ha] at e1 e2
        simp [setAt] at e1 e2
        rw [sem_set_hi h (by omega) σ au] at e1
        rw [sem_set_hi h (by omega) σ av] at e2
        rw [e1, e2]
    · by_cases b2 : 2 ≤ b
      · exfalso
        have bl := h.lo b b2 hb; have bh := h.hi b b2 hb; have bu := h.upL b b2 hb; have bv := h.upH b b2 hb; have bn := h.ne b b2 hb
        apply bn
        have hc : ∀ σ τ, sem l a σ = sem l a τ := by
          intro σ τ
          have : a = 0 ∨ a = 1 := by omega
          rcases this with rfl | rfl
          · rw [sem_no, sem_no]
          · rw [sem_yes, sem_yes]
        apply ih _ _ (by omega) (by omega) (by omega) (by omega)
        intro σ
        have e1 := hs (setAt σ (ndAt l b).lev false)
        have e2 := hs (setAt σ (ndAt l b).lev true)
        rw [hc _ σ] at e1 e2
        rw [sem_node h b2 hb] at e1 e2
        simp [setAt] at e1 e2
        rw [sem_set_hi h (by omega) σ bu] at e1
        rw [sem_set_hi h (by omega) σ bv] at e2
        rw [← e1, ← e2]
      · have e1 := hs (fun _ => false)
        have ha' : a = 0 ∨ a = 1 := by omega
        have hb' : b = 0 ∨ b = 1 := by omega
        rcases ha' with rfl | rfl <;> rcases hb' with rfl | rfl <;> simp [sem_no, sem_yes] at e1 <;> rfl

/-- A knot that is not no means something. -/
theorem sat_of_ne {n : Nat} {l : List Nd} (h : WF n l) {k : Nat} (hk : k < l.length) (h0 : k ≠ 0) : ∃ σ, sem l k σ = true := by
  refine Classical.byContradiction fun hno => h0 (canon h (k + 1) k 0 hk (by have := h.two; omega) (by omega) (by omega) (fun σ => ?_))
  rw [sem_no]
  cases e : sem l k σ with
  | false => rfl
  | true => exact absurd ⟨σ, e⟩ hno

/-! ### more nodes -/
theorem ndAt_append {l r : List Nd} {k : Nat} (hk : k < l.length) : ndAt (l ++ r) k = ndAt l k := by
  unfold ndAt; rw [List.getD_eq_getElem?_getD, List.getD_eq_getElem?_getD, List.getElem?_append_left hk]

theorem ndAt_last (l : List Nd) (x : Nd) : ndAt (l ++ [x]) l.length = x := by simp [ndAt]

theorem semF_append {n : Nat} {l : List Nd} (h : WF n l) (r : List Nd) (σ : Nat → Bool) : ∀ (f k : Nat), k < l.length → semF (l ++ r) σ f k = semF l σ f k
  | 0, _, _ => rfl
  | f + 1, k, hk => by
    unfold semF
    split
    · rfl
    · split
      · rfl
      · have h1 := h.lo k (by omega) hk
        have h2 := h.hi k (by omega) hk
        rw [ndAt_append hk, semF_append h r σ f _ (by omega), semF_append h r σ f _ (by omega)]

/-- l' has the nodes of l, and perhaps more behind them. -/
def Ext (l l' : List Nd) : Prop := ∃ r, l' = l ++ r
theorem Ext.refl (l : List Nd) : Ext l l := ⟨[], by simp⟩
theorem Ext.trans {a b c : List Nd} (h : Ext a b) (g : Ext b c) : Ext a c := by
  obtain ⟨r, rfl⟩ := h; obtain ⟨s, rfl⟩ := g; exact ⟨r ++ s, by simp⟩
theorem Ext.len {a b : List Nd} (h : Ext a b) : a.length ≤ b.length := by obtain ⟨r, rfl⟩ := h; simp
theorem Ext.at {a b : List Nd} (h : Ext a b) {k : Nat} (hk : k < a.length) : ndAt b k = ndAt a k := by obtain ⟨r, rfl⟩ := h; exact ndAt_append hk
theorem Ext.sem {n : Nat} {a b : List Nd} (h : Ext a b) (hw : WF n a) {k : Nat} (hk : k < a.length) (σ : Nat → Bool) : sem b k σ = sem a k σ := by
  obtain ⟨r, rfl⟩ := h; exact semF_append hw r σ _ _ hk

/-- One more node, which is not there yet. -/
theorem WF.push {n : Nat} {l : List Nd} (h : WF n l) (x : Nd) (hlev : x.lev < n) (hlo : x.lo < l.length) (hhi : x.hi < l.length) (hne : x.lo ≠ x.hi) (hL : x.lev < (ndAt l x.lo).lev) (hH : x.lev < (ndAt l x.hi).lev)
    (hnew : ∀ k, 2 ≤ k → k < l.length → ndAt l k ≠ x) : WF n (l ++ [x]) := by
  have h2 := h.two
  have cases_ : ∀ k, k < (l ++ [x]).length → k < l.length ∨ k = l.length := fun k hk => by simp at hk; omega
  refine ⟨by simp; omega, by rw [ndAt_append (by omega)]; exact h.no, by rw [ndAt_append (by omega)]; exact h.yes, ?_, ?_, ?_, ?_, ?_, ?_, ?_⟩
  · intro k k2 hk
    rcases cases_ k hk with hk | rfl
    · rw [ndAt_append hk]; exact h.lev k k2 hk
    · rw [ndAt_last]; exact hlev
  · intro k k2 hk
    rcases cases_ k hk with hk | rfl
    · rw [ndAt_append hk]; exact h.lo k k2 hk
    · rw [ndAt_last]; exact hlo
  · intro k k2 hk
    rcases cases_ k hk with hk | rfl
    · rw [ndAt_append hk]; exact h.hi k k2 hk
    · rw [ndAt_last]; exact hhi
  · intro k k2 hk
    rcases cases_ k hk with hk | rfl
    · rw [ndAt_append hk]; exact h.ne k k2 hk
    · rw [ndAt_last]; exact hne
  · intro k k2 hk
    rcases cases_ k hk with hk | rfl
    · have := h.lo k k2 hk
      rw [ndAt_append hk, ndAt_append (by omega)]; exact h.upL k k2 hk
    · rw [ndAt_last, ndAt_append hlo]; exact hL
  · intro k k2 hk
    rcases cases_ k hk with hk | rfl
    · have := h.hi k k2 hk
      rw [ndAt_append hk, ndAt_append (by omega)]; exact h.upH k k2 hk
    · rw [ndAt_last, ndAt_append hhi]; exact hH
  · intro j k j2 k2 hj hk e
    rcases cases_ j hj with hj | rfl
    · rcases cases_ k hk with hk | rfl
      · rw [ndAt_append hj, ndAt_append hk] at e; exact h.inj j k j2 k2 hj hk e
      · rw [ndAt_append hj, ndAt_last] at e; exact absurd e (hnew j j2 hj)
    · rcases cases_ k hk with hk | rfl
      · rw [ndAt_append hk, ndAt_last] at e; exact absurd e.symm (hnew k k2 hk)
      · rfl
end Go.Proofs.YtngjjmniigkeoaaGreatDoor
