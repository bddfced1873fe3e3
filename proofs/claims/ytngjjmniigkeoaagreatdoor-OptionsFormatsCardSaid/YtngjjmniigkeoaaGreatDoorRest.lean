/- Rests: weighted formulas; what they come to (plain). -/
import Derived.Test.YtngjjmniigkeoaaGreatDoorBdd
namespace Go.Proofs.YtngjjmniigkeoaaGreatDoor
set_option linter.unusedSimpArgs false

/-- A sum over terms. -/
def addT (f : Nat × Int → Int) : List (Nat × Int) → Int
  | [] => 0
  | t :: ts => f t + addT f ts
theorem addT_append (f : Nat × Int → Int) : ∀ (a b : List (Nat × Int)), addT f (a ++ b) = addT f a + addT f b
  | [], b => by simp [addT]
  | t :: a, b => by simp only [List.cons_append, addT]; rw [addT_append f a b]; omega
theorem addT_perm (f : Nat × Int → Int) {a b : List (Nat × Int)} (h : a.Perm b) : addT f a = addT f b := by
  induction h with
  | nil => rfl
  | cons x _ ih => simp only [addT]; omega
  | swap x y l => simp only [addT]; omega
  | trans _ _ h1 h2 => omega
theorem addT_congr {f g : Nat × Int → Int} : ∀ (l : List (Nat × Int)), (∀ t ∈ l, f t = g t) → addT f l = addT g l
  | [], _ => rfl
  | t :: l, h => by simp only [addT]; rw [h t (List.mem_cons_self ..), addT_congr l (fun u hu => h u (List.mem_cons_of_mem _ hu))]
theorem addT_le {f g : Nat × Int → Int} : ∀ (l : List (Nat × Int)), (∀ t ∈ l, f t ≤ g t) → addT f l ≤ addT g l
  | [], _ => Int.le_refl _
  | t :: l, h => by
    simp only [addT]
    have := h t (List.mem_cons_self ..)
    have := addT_le l (fun u hu => h u (List.mem_cons_of_mem _ hu))
    omega
theorem addT_set (f : Nat × Int → Int) (x : Nat × Int) : ∀ (l : List (Nat × Int)) (i : Nat), i < l.length → addT f (l.set i x) = addT f l - f (l.getD i (0, 0)) + f x
  | [], _, h => by simp at h
  | t :: l, 0, _ => by simp only [List.set_cons_zero, addT, List.getD_cons_zero]; omega
  | t :: l, i + 1, h => by simp only [List.set_cons_succ, addT, List.getD_cons_succ]; rw [addT_set f x l i (by simpa using h)]; omega
theorem addT_take (f : Nat × Int → Int) (l : List (Nat × Int)) (i : Nat) (h : i < l.length) : addT f (l.take (i + 1)) = addT f (l.take i) + f (l.getD i (0, 0)) := by
  rw [List.take_succ_eq_append_getElem h, addT_append]
  simp [addT, List.getD, h]
theorem addT_drop (f : Nat × Int → Int) (l : List (Nat × Int)) (i : Nat) (h : i < l.length) : addT f (l.drop i) = f (l.getD i (0, 0)) + addT f (l.drop (i + 1)) := by
  rw [List.drop_eq_getElem_cons h]
  simp [addT, List.getD, h]

/-- What terms come to in an assignment; the most and the least that they can. -/
def valT (l : List Nd) (σ : Nat → Bool) (ts : List (Nat × Int)) : Int := addT (fun t => if sem l t.1 σ then t.2 else 0) ts
def hiT (ts : List (Nat × Int)) : Int := addT (fun t => max 0 t.2) ts
def loT (ts : List (Nat × Int)) : Int := addT (fun t => min 0 t.2) ts
theorem hiT_nonneg (ts : List (Nat × Int)) : 0 ≤ hiT ts := by
  unfold hiT
  have := addT_le (f := fun _ => 0) (g := fun t => max 0 t.2) ts (fun t _ => by (try dsimp only); omega)
  have e : ∀ l : List (Nat × Int), addT (fun _ => 0) l = 0 := by intro l; induction l with | nil => rfl | cons t l ih => simp only [addT]; omega
  rw [e] at this; exact this
theorem loT_nonpos (ts : List (Nat × Int)) : loT ts ≤ 0 := by
  unfold loT
  have := addT_le (f := fun t => min 0 t.2) (g := fun _ => 0) ts (fun t _ => by (try dsimp only); omega)
  have e : ∀ l : List (Nat × Int), addT (fun _ => 0) l = 0 := by intro l; induction l with | nil => rfl | cons t l ih => simp only [addT]; omega
  rw [e] at this; exact this
theorem valT_le (l : List Nd) (σ : Nat → Bool) (ts : List (Nat × Int)) : valT l σ ts ≤ hiT ts := addT_le ts (fun t _ => by (try dsimp only); split <;> omega)
theorem valT_ge (l : List Nd) (σ : Nat → Bool) (ts : List (Nat × Int)) : loT ts ≤ valT l σ ts := addT_le ts (fun t _ => by (try dsimp only); split <;> omega)

/-- The knots of terms lie in the diagrams, and ask for nothing before a level. -/
def InT (l : List Nd) (L : Nat) (ts : List (Nat × Int)) : Prop := ∀ t ∈ ts, t.1 < l.length ∧ L ≤ (ndAt l t.1).lev
/-- None of them is constant. -/
def Two (ts : List (Nat × Int)) : Prop := ∀ t ∈ ts, 2 ≤ t.1

theorem InT.ext {l l' : List Nd} {L : Nat} {ts : List (Nat × Int)} (h : InT l L ts) (e : Ext l l') : InT l' L ts := fun t ht => by
  obtain ⟨h1, h2⟩ := h t ht
  exact ⟨Nat.lt_of_lt_of_le h1 e.len, by rw [e.at h1]; exact h2⟩
theorem valT_ext {n : Nat} {l l' : List Nd} {L : Nat} {ts : List (Nat × Int)} (h : InT l L ts) (e : Ext l l') (hw : WF n l) (σ : Nat → Bool) : valT l' σ ts = valT l σ ts :=
  addT_congr ts (fun t ht => by (try dsimp only); rw [e.sem hw (h t ht).1])

/-- As terms are settled: ys and a sum say what ts said. -/
structure Half2 (l : List Nd) (ts : List (Nat × Int)) (l' : List Nd) (ys : List (Nat × Int)) (sum : Int) : Prop where
  val : ∀ σ, valT l' σ ys + sum = valT l σ ts
  hi : sum + hiT ys ≤ hiT ts
  lo : loT ts ≤ sum + loT ys
theorem Half2.refl (l : List Nd) (ts : List (Nat × Int)) : Half2 l ts l ts 0 := ⟨fun _ => by omega, by omega, by omega⟩
theorem Half2.trans {l l' l'' : List Nd} {ts ys zs : List (Nat × Int)} {a b : Int} (h : Half2 l ts l' ys a) (g : Half2 l' ys l'' zs b) : Half2 l ts l'' zs (a + b) :=
  ⟨fun σ => by have := h.val σ; have := g.val σ; omega, by have := h.hi; have := g.hi; omega, by have := h.lo; have := g.lo; omega⟩
theorem Half2.ext {n : Nat} {l l' : List Nd} {L : Nat} {ts : List (Nat × Int)} (h : InT l L ts) (e : Ext l l') (hw : WF n l) : Half2 l ts l' ts 0 :=
  ⟨fun σ => by rw [valT_ext h e hw]; omega, by omega, by omega⟩
/-- A term is turned into its opposite. -/
theorem half2_flip {l : List Nd} {ys : List (Nat × Int)} {i k : Nat} (hi : i < ys.length) (hm : ∀ σ, sem l k σ = !(sem l (ys.getD i (0, 0)).1 σ)) :
    Half2 l ys l (ys.set i (k, -(ys.getD i (0, 0)).2)) (ys.getD i (0, 0)).2 := by
  generalize hu : ys.getD i (0, 0) = u at *
  refine ⟨fun σ => ?_, ?_, ?_⟩
  · unfold valT; rw [addT_set _ _ _ _ hi, hu]; (try dsimp only); rw [hm σ]; cases sem l u.1 σ <;> simp <;> omega
  · unfold hiT; rw [addT_set _ _ _ _ hi, hu]; (try dsimp only); omega
  · unfold loT; rw [addT_set _ _ _ _ hi, hu]; (try dsimp only); omega
theorem half2_perm {l : List Nd} {ys zs : List (Nat × Int)} (h : ys.Perm zs) : Half2 l zs l ys 0 :=
  ⟨fun σ => by unfold valT; rw [addT_perm _ h]; omega, by unfold hiT; rw [addT_perm _ h]; omega, by unfold loT; rw [addT_perm _ h]; omega⟩
/-- What has the weight 0 is left out. -/
theorem half2_zero (l : List Nd) : ∀ (ys : List (Nat × Int)), Half2 l ys l (ys.filter (fun t => !(t.2 == 0))) 0
  | [] => ⟨fun _ => by simp, by simp, by simp⟩
  | t :: ys => by
    have ih := half2_zero l ys
    by_cases e : t.2 = 0
    · have : (t :: ys).filter (fun t => !(t.2 == 0)) = ys.filter (fun t => !(t.2 == 0)) := by simp [e]
      rw [this]
      refine ⟨fun σ => ?_, ?_, ?_⟩
      · have := ih.val σ; unfold valT at this ⊢; simp only [addT, e]; split <;> omega
      · have := ih.hi; unfold hiT at this ⊢; simp only [addT, e]; omega
      · have := ih.lo; unfold loT at this ⊢; simp only [addT, e]; omega
    · have : (t :: ys).filter (fun t => !(t.2 == 0)) = t :: ys.filter (fun t => !(t.2 == 0)) := by simp [e]
      rw [this]
      refine ⟨fun σ => ?_, ?_, ?_⟩
      · have := ih.val σ; unfold valT at this ⊢; simp only [addT]; omega
      · have := ih.hi; unfold hiT at this ⊢; simp only [addT]; omega
      · have := ih.lo; unfold loT at this ⊢; simp only [addT]; omega

/-- As equal forms are gathered: the first c are what is left of the first i. -/
structure Gath (l : List Nd) (ys : List (Nat × Int)) (i c : Nat) (zs : List (Nat × Int)) : Prop where
  len : zs.length = ys.length
  le : c ≤ i
  rest : zs.drop i = ys.drop i
  two : ∀ t ∈ zs.take c, 2 ≤ t.1
  mem : ∀ t ∈ zs.take c, ∃ u ∈ ys, u.1 = t.1
  val : ∀ σ, valT l σ (zs.take c) = valT l σ (ys.take i)
  hi : hiT (zs.take c) ≤ hiT (ys.take i)
  lo : loT (ys.take i) ≤ loT (zs.take c)
theorem Gath.start (l : List Nd) (ys : List (Nat × Int)) : Gath l ys 0 0 ys := ⟨rfl, Nat.le_refl _, rfl, by simp, by simp, by simp, by simp, by simp⟩
theorem Gath.at {l : List Nd} {ys zs : List (Nat × Int)} {i c : Nat} (h : Gath l ys i c zs) (hi : i < ys.length) : zs.getD i (0, 0) = ys.getD i (0, 0) := by
  have h1 := h.rest
  have e1 : zs.drop i = zs[i]'(by rw [h.len]; exact hi) :: zs.drop (i + 1) := List.drop_eq_getElem_cons _
  have e2 : ys.drop i = ys[i] :: ys.drop (i + 1) := List.drop_eq_getElem_cons _
  rw [e1, e2] at h1
  simp [List.getD, hi, h.len]
  exact (List.cons.inj h1).1
theorem Gath.rest1 {l : List Nd} {ys zs : List (Nat × Int)} {i c : Nat} (h : Gath l ys i c zs) : zs.drop (i + 1) = ys.drop (i + 1) := by
  rw [Nat.add_comm, ← List.drop_drop, ← List.drop_drop]
  have := h.rest
  have e : ∀ l : List (Nat × Int), List.drop i (List.drop 1 l) = List.drop 1 (List.drop i l) := fun l => by rw [List.drop_drop, List.drop_drop, Nat.add_comm]
  rw [e, e, this]
theorem take_set_last (zs : List (Nat × Int)) (c : Nat) (x : Nat × Int) (h : c < zs.length) : (zs.set c x).take (c + 1) = zs.take c ++ [x] := by
  rw [List.take_succ_eq_append_getElem (by simpa using h)]
  simp [List.take_set_of_le]
theorem drop_set_lt (zs : List (Nat × Int)) (c i : Nat) (x : Nat × Int) (h : c < i) : (zs.set c x).drop i = zs.drop i := by
  rw [List.drop_set_of_lt h]
/-- A constant that never holds is left out. -/
theorem Gath.skip {l : List Nd} {ys zs : List (Nat × Int)} {i c : Nat} (h : Gath l ys i c zs) (hi : i < ys.length) (h0 : (ys.getD i (0, 0)).1 = 0) : Gath l ys (i + 1) c zs := by
  refine ⟨h.len, by have := h.le; omega, h.rest1, h.two, h.mem, fun σ => ?_, ?_, ?_⟩
  · rw [h.val]; unfold valT; rw [addT_take _ _ _ hi]; (try dsimp only); rw [h0, sem_no]; simp
  · have := h.hi; unfold hiT at *; rw [addT_take _ _ _ hi]; (try dsimp only); omega
  · have := h.lo; unfold loT at *; rw [addT_take _ _ _ hi]; (try dsimp only); omega
/-- One more. -/
theorem Gath.push {l : List Nd} {ys zs : List (Nat × Int)} {i c : Nat} (h : Gath l ys i c zs) (hi : i < ys.length) (h2 : 2 ≤ (ys.getD i (0, 0)).1) : Gath l ys (i + 1) (c + 1) (zs.set c (ys.getD i (0, 0))) := by
  have hle := h.le
  have hlen := h.len
  have ht := take_set_last zs c (ys.getD i (0, 0)) (by omega)
  refine ⟨by simp [hlen], by omega, by rw [drop_set_lt _ _ _ _ (by omega)]; exact h.rest1, ?_, ?_, fun σ => ?_, ?_, ?_⟩
  · rw [ht]; intro t htm
    rcases List.mem_append.1 htm with h1 | h1
    · exact h.two t h1
    · simp at h1; subst h1; simpa using h2
  · rw [ht]; intro t htm
    rcases List.mem_append.1 htm with h1 | h1
    · exact h.mem t h1
    · simp at h1; subst h1; exact ⟨ys[i], List.getElem_mem hi, by simp [List.getD, hi]⟩
  · rw [ht]; have := h.val σ; unfold valT at *; rw [addT_append, addT_take _ _ _ hi]; simp only [addT]; omega
  · rw [ht]; have := h.hi; unfold hiT at *; rw [addT_append, addT_take _ _ _ hi]; simp only [addT]; omega
  · rw [ht]; have := h.lo; unfold loT at *; rw [addT_append, addT_take _ _ _ hi]; simp only [addT]; omega
/-- It is put to the last one. -/
theorem Gath.put {l : List Nd} {ys zs : List (Nat × Int)} {i c : Nat} (h : Gath l ys i (c + 1) zs) (hi : i < ys.length) (he : (zs.getD c (0, 0)).1 = (ys.getD i (0, 0)).1) :
    Gath l ys (i + 1) (c + 1) (zs.set c ((zs.getD c (0, 0)).1, (zs.getD c (0, 0)).2 + (ys.getD i (0, 0)).2)) := by
  have hle := h.le
  have hlen := h.len
  have hc : c < zs.length := by omega
  have ht := take_set_last zs c ((zs.getD c (0, 0)).1, (zs.getD c (0, 0)).2 + (ys.getD i (0, 0)).2) hc
  have ht0 : zs.take (c + 1) = zs.take c ++ [zs.getD c (0, 0)] := by rw [List.take_succ_eq_append_getElem hc]; simp [List.getD, hc]
  have hm := h.two; have hmm := h.mem; have hv := h.val; have hh := h.hi; have hl := h.lo
  rw [ht0] at hm hmm hh hl
  refine ⟨by simp [hlen], by omega, by rw [drop_set_lt _ _ _ _ (by omega)]; exact h.rest1, ?_, ?_, fun σ => ?_, ?_, ?_⟩
  · rw [ht]; intro t htm
    rcases List.mem_append.1 htm with h1 | h1
    · exact hm t (List.mem_append_left _ h1)
    · simp at h1; subst h1; simpa using hm (zs.getD c (0, 0)) (List.mem_append_right _ (List.mem_singleton.2 rfl))
  · rw [ht]; intro t htm
    rcases List.mem_append.1 htm with h1 | h1
    · exact hmm t (List.mem_append_left _ h1)
    · simp at h1; subst h1; simpa using hmm (zs.getD c (0, 0)) (List.mem_append_right _ (List.mem_singleton.2 rfl))
  · have := hv σ; rw [ht0] at this; rw [ht]; unfold valT at *; rw [addT_append] at *; rw [addT_take _ _ _ hi]; simp only [addT] at *; rw [he] at *; split at this <;> simp_all <;> omega
  · rw [ht]; unfold hiT at *; rw [addT_append] at *; rw [addT_take _ _ _ hi]; simp only [addT] at *; omega
  · rw [ht]; unfold loT at *; rw [addT_append] at *; rw [addT_take _ _ _ hi]; simp only [addT] at *; omega
theorem Gath.half {l : List Nd} {ys zs : List (Nat × Int)} {c : Nat} (h : Gath l ys ys.length c zs) : Half2 l ys l (zs.take c) 0 := by
  have e : ys.take ys.length = ys := List.take_length
  refine ⟨fun σ => ?_, ?_, ?_⟩
  · have := h.val σ; rw [e] at this; omega
  · have := h.hi; rw [e] at this; omega
  · have := h.lo; rw [e] at this; omega

/-- What best finds: something that no variant exceeds, and, above the floor, the sum of one. -/
def lowest : Int := -1099511627776
structure Top (A : (Nat → Bool) → Bool) (V : (Nat → Bool) → Int) (floor res : Int) : Prop where
  none : (∀ σ, A σ = false) → res = lowest
  ub : ∀ σ, A σ = true → V σ ≤ res
  att : (∃ σ, A σ = true) → floor < res → ∃ σ, A σ = true ∧ V σ = res
/-- The greatest sum, exactly. -/
def Max (A : (Nat → Bool) → Bool) (V : (Nat → Bool) → Int) (m : Int) : Prop := (∃ σ, A σ = true ∧ V σ = m) ∧ ∀ σ, A σ = true → V σ ≤ m

/-- Both choices together. -/
theorem top_both {A Aa Ab : (Nat → Bool) → Bool} {V Va Vb : (Nat → Bool) → Int} {L : Nat} {ca cb : Bool} {sa sb ra rb floor W : Int} (hab : ca = !cb)
    (hA : ∀ σ, Aa σ = A (setAt σ L ca)) (hB : ∀ σ, Ab σ = A (setAt σ L cb))
    (hVa : (∃ σ, Aa σ = true) → ∀ σ, V (setAt σ L ca) = sa + Va σ) (hVb : (∃ σ, Ab σ = true) → ∀ σ, V (setAt σ L cb) = sb + Vb σ)
    (ha0 : (∀ σ, Aa σ = false) → sa = 0) (hb0 : (∀ σ, Ab σ = false) → sb = 0)
    (hW : ∀ σ, -W ≤ V σ) (hW2 : W < 1099511627776) (hne : ∃ σ, A σ = true)
    (ta : Top Aa Va (floor - sa) ra) (tb : Top Ab Vb (max floor (sa + ra) - sb) rb) : Top A V floor (max (sa + ra) (sb + rb)) := by
  have hset : ∀ (σ : Nat → Bool), setAt σ L (σ L) = σ := by
    intro σ; funext j; unfold setAt; split
    · rename_i e; rw [e]
    · rfl
  have hcase : ∀ σ : Nat → Bool, σ L = ca ∨ σ L = cb := by intro σ; rw [hab]; cases σ L <;> cases cb <;> simp
  have key : ∀ σ, A σ = true → V σ ≤ max (sa + ra) (sb + rb) ∧ ((∃ σ, Aa σ = true) ∧ V σ ≤ sa + ra ∨ (∃ σ, Ab σ = true) ∧ V σ ≤ sb + rb) := by
    intro σ hσ
    rcases hcase σ with h1 | h1
    · have e := hset σ; rw [h1] at e
      have h2 : Aa σ = true := by rw [hA, e]; exact hσ
      have h3 := hVa ⟨σ, h2⟩ σ; rw [e] at h3
      have h4 := ta.ub σ h2
      exact ⟨by omega, .inl ⟨⟨σ, h2⟩, by omega⟩⟩
    · have e := hset σ; rw [h1] at e
      have h2 : Ab σ = true := by rw [hB, e]; exact hσ
      have h3 := hVb ⟨σ, h2⟩ σ; rw [e] at h3
      have h4 := tb.ub σ h2
      exact ⟨by omega, .inr ⟨⟨σ, h2⟩, by omega⟩⟩
  have empty : ∀ {X : (Nat → Bool) → Bool}, ¬ (∃ σ, X σ = true) → ∀ σ, X σ = false := by
    intro X h σ
    cases e : X σ with
    | false => rfl
    | true => exact absurd ⟨σ, e⟩ h
  refine ⟨fun h0 => ?_, fun σ hσ => (key σ hσ).1, fun _ hf => ?_⟩
  · obtain ⟨σ, hσ⟩ := hne; rw [h0 σ] at hσ; cases hσ
  · obtain ⟨τ, hτ⟩ := hne
    have hτ2 := key τ hτ
    have hWτ := hW τ
    by_cases hea : ∃ σ, Aa σ = true
    · by_cases hbb : (∃ σ, Ab σ = true) ∧ max floor (sa + ra) < sb + rb
      · obtain ⟨σ, h1, h2⟩ := tb.att hbb.1 (by omega)
        refine ⟨setAt σ L cb, by rw [← hB]; exact h1, ?_⟩
        rw [hVb hbb.1, h2]; omega
      · have hle : sb + rb ≤ max floor (sa + ra) ∨ ¬ ∃ σ, Ab σ = true := by
          rcases Classical.em (∃ σ, Ab σ = true) with h1 | h1
          · exact .inl (by have : ¬ max floor (sa + ra) < sb + rb := fun h2 => hbb ⟨h1, h2⟩; omega)
          · exact .inr h1
        have hr : floor < sa + ra ∧ max (sa + ra) (sb + rb) = sa + ra := by
          rcases hle with h1 | h1
          · omega
          · have e1 := tb.none (empty h1)
            have e2 := hb0 (empty h1)
            rcases hτ2.2 with ⟨_, h3⟩ | ⟨h3, _⟩
            · unfold lowest at e1; omega
            · exact absurd h3 h1
        obtain ⟨σ, h1, h2⟩ := ta.att hea (by omega)
        refine ⟨setAt σ L ca, by rw [← hA]; exact h1, ?_⟩
        rw [hVa hea, h2]; omega
    · have e1 := ta.none (empty hea)
      have e2 := ha0 (empty hea)
      rcases hτ2.2 with ⟨h3, _⟩ | ⟨h3, h4⟩
      · exact absurd h3 hea
      · unfold lowest at e1
        have hr : sa + ra < sb + rb := by omega
        obtain ⟨σ, h1, h2⟩ := tb.att h3 (by omega)
        refine ⟨setAt σ L cb, by rw [← hB]; exact h1, ?_⟩
        rw [hVb h3, h2]; omega
end Go.Proofs.YtngjjmniigkeoaaGreatDoor
