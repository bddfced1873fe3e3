/- Ranks that are given one after the other: with them no frame is late; and where none can be given, in no order is none late (plain). -/
import Derived.Test.YtcelbmpdnkaamaaByA
namespace Go.Proofs.Ytcelbmpdnkaamaa
open Go Go.RowKit Go.WideMaps Go.Maps
set_option linter.unusedSimpArgs false
set_option linter.unusedVariables false

/-! ### A response with fewer rivals above -/
theorem respOf_lim {f : Fr} {ab : List Fr} {rest lim : Int} (h : RivOk f ab rest) (h0 : 0 ≤ lim) : respOf rest ab f lim = (respOf rest ab f huge).bind (fun r => if lim < r then none else some r) := by
  unfold respOf
  cases lfp (busyG rest ab f) 1 with
  | none => rfl
  | some t =>
    simp only [Option.bind_some]
    rw [respTo_lim h h0]
    cases respTo rest ab f huge (upI (t + f.j) f.e).toNat with
    | none => rfl
    | some mb =>
      simp only [Option.bind_some, Option.map_some]
      split <;> rfl
structure Fewer (rest rest2 : Int) (ab ab2 : List Fr) (f : Fr) : Prop where
  ok : RivOk f ab rest
  ok2 : RivOk f ab2 rest2
  busy : ∀ t, 1 ≤ t → t ≤ 1000000 → busyG rest ab f t ≤ busyG rest2 ab2 f t
  wait : ∀ (q : Nat) x, 0 ≤ x → x ≤ 1000000 → waitG rest q ab f x ≤ waitG rest2 q ab2 f x
  beg : ∀ (q : Nat) x, 0 ≤ x → x ≤ 1000000 → rest + q * f.s ≤ waitG rest2 q ab2 f x
theorem respTo_few {rest rest2 : Int} {ab ab2 : List Fr} {f : Fr} (h : Fewer rest rest2 ab ab2 f) : ∀ (q : Nat) (m2 b2 : Int), respTo rest2 ab2 f huge q = some (m2, b2) → ∃ m b, respTo rest ab f huge q = some (m, b) ∧ m ≤ m2
  | 0, m2, b2, e => by
    simp only [respTo, Option.some.injEq, Prod.mk.injEq] at e
    obtain ⟨rfl, rfl⟩ := e
    exact ⟨0, rest, rfl, Int.le_refl _⟩
  | q + 1, m2, b2, e => by
    simp only [respTo] at e
    cases h1 : respTo rest2 ab2 f huge q with
    | none => rw [h1] at e; cases e
    | some mb2 =>
      obtain ⟨m2', b2'⟩ := mb2
      rw [h1] at e
      simp only [Option.bind_some] at e
      obtain ⟨m', b', h3, h4⟩ := respTo_few h q m2' b2' h1
      have bo2 := respTo_ok h.ok2 q m2' b2' h1
      cases h2 : lfp (waitG rest2 q ab2 f) b2' with
      | none => rw [h2] at e; cases e
      | some w2 =>
        rw [h2] at e
        simp only [Option.bind_some] at e
        obtain ⟨k1, k2, k3⟩ := lfp_some bo2.up h2
        have b0 := bo2.b0
        have hb := h.beg q w2 (by omega) k2
        have hw := h.wait q w2 (by omega) k2
        obtain ⟨w, h6, h7⟩ := lfp_post (wait_up0 h.ok q) k2 (by omega) (by omega)
        split at e
        · cases e
        · simp only [Option.some.injEq, Prod.mk.injEq] at e
          obtain ⟨rfl, rfl⟩ := e
          obtain ⟨b3, h8⟩ := respTo_step h.ok h3 h6
          exact ⟨_, b3, h8, by omega⟩
theorem respOf_few {rest rest2 : Int} {ab ab2 : List Fr} {f : Fr} (h : Fewer rest rest2 ab ab2 f) {r2 : Int} (e : respOf rest2 ab2 f huge = some r2) : ∃ r, respOf rest ab f huge = some r ∧ r ≤ r2 := by
  unfold respOf at e ⊢
  cases h1 : lfp (busyG rest2 ab2 f) 1 with
  | none => rw [h1] at e; cases e
  | some t2 =>
    rw [h1] at e
    simp only [Option.bind_some] at e
    obtain ⟨k1, k2, k3⟩ := lfp_some (busy_up h.ok2) h1
    have hb := h.busy t2 k1 k2
    obtain ⟨t, h2, h3⟩ := lfp_post (busy_up h.ok) k2 k1 (by omega)
    rw [h2]
    simp only [Option.bind_some]
    obtain ⟨t1, _, _⟩ := lfp_some (busy_up h.ok) h2
    have hj := h.ok.fo.j; have he := h.ok.fo.e
    have hn := upI_mono (a := t + f.j) (a' := t2 + f.j) (b := f.e) (by omega) he.1
    have hn0 := (upI_nn (a := t + f.j) (b := f.e) (by omega) he.1).1
    cases h4 : respTo rest2 ab2 f huge (upI (t2 + f.j) f.e).toNat with
    | none => rw [h4] at e; cases e
    | some mb2 =>
      obtain ⟨m2, b2⟩ := mb2
      rw [h4] at e
      simp only [Option.map_some, Option.some.injEq] at e
      subst e
      obtain ⟨d, hd⟩ : ∃ d, (upI (t2 + f.j) f.e).toNat = (upI (t + f.j) f.e).toNat + d := ⟨(upI (t2 + f.j) f.e).toNat - (upI (t + f.j) f.e).toNat, by omega⟩
      rw [hd] at h4
      obtain ⟨m1, b1, h5, h6⟩ := respTo_up d _ m2 b2 h4
      obtain ⟨m, b, h7, h8⟩ := respTo_few h _ m1 b1 h5
      rw [h7]
      exact ⟨m, rfl, by omega⟩

/-! ### The frames without a rank -/
def sumF (u : Fr → Int) (ls : List Fr) (rk : List Int) (i : Nat) : Nat → Int
  | 0 => 0
  | k + 1 => if k ≠ i ∧ rk.getD k 0 = -1 then sumF u ls rk i k + u (frAt ls k) else sumF u ls rk i k
theorem sum_abF (u : Fr → Int) (ls : List Fr) (rk : List Int) (i : Nat) : ∀ k, sumN (fun j => u (frAt (abF ls rk i k) j)) (abF ls rk i k).length = sumF u ls rk i k
  | 0 => by simp [abF, sumN, sumF]
  | k + 1 => by
    have h := sum_abF u ls rk i k
    unfold abF sumF
    split
    · rw [List.length_append, List.length_singleton, ← h]
      have e : sumN (fun j => u (frAt (abF ls rk i k ++ [frAt ls k]) j)) (abF ls rk i k).length = sumN (fun j => u (frAt (abF ls rk i k) j)) (abF ls rk i k).length := sumN_same (fun j hj => by
        show u _ = u _
        rw [frAt_append, if_pos hj])
      show sumN (fun j => u (frAt (abF ls rk i k ++ [frAt ls k]) j)) (abF ls rk i k).length + u (frAt (abF ls rk i k ++ [frAt ls k]) (abF ls rk i k).length) = _
      rw [e, frAt_append, if_neg (by omega), if_pos rfl]
    · exact h
theorem few_sum {u : Fr → Int} {ls : List Fr} {rk rk2 : List Int} {i : Nat} (hs : ∀ k, k < ls.length → 1 ≤ (frAt ls k).s ∧ (frAt ls k).s ≤ u (frAt ls k)) (hU : ∀ k, k < ls.length → k ≠ i → rk.getD k 0 = -1 → rk2.getD k 0 = -1) :
    ∀ k, k ≤ ls.length → 0 ≤ restF ls rk i k ∧ 0 ≤ sumF u ls rk i k ∧ sumF u ls rk i k ≤ sumF u ls rk2 i k ∧ restF ls rk i k + sumF u ls rk i k ≤ restF ls rk2 i k + sumF u ls rk2 i k
  | 0, _ => by simp [restF, sumF]
  | k + 1, hk => by
    obtain ⟨h0, h1, h2, h3⟩ := few_sum hs hU k (by omega)
    have h4 := hs k (by omega)
    have h5 := hU k (by omega)
    unfold restF sumF
    by_cases e : k = i
    · rw [if_neg (fun hh => hh.1 e), if_neg (fun hh => hh.1 e), if_neg (fun hh => hh.1 e), if_neg (fun hh => hh.1 e)]
      exact ⟨h0, h1, h2, h3⟩
    · by_cases h6 : rk.getD k 0 = -1
      · have h7 := h5 e h6
        rw [if_neg (fun hh => hh.2 h6), if_pos ⟨e, h6⟩, if_pos ⟨e, h7⟩, if_neg (fun hh => hh.2 h7)]
        omega
      · rw [if_pos ⟨e, h6⟩, if_neg (fun hh => h6 hh.2)]
        by_cases h7 : rk2.getD k 0 = -1
        · rw [if_pos ⟨e, h7⟩, if_neg (fun hh => hh.2 h7)]
          omega
        · rw [if_neg (fun hh => h7 hh.2), if_pos ⟨e, h7⟩]
          omega
theorem upT_ge {f : Fr} (h : FrOk f) {t : Int} (h1 : 1 ≤ t) : f.s ≤ upT f t := by
  have a3 : 1 ≤ upI (t + f.j) f.e := by
    unfold upI
    rw [Int.le_ediv_iff_mul_le (by have := h.e.1; omega)]
    have := h.j.1; omega
  have a4 := Int.mul_le_mul_of_nonneg_right a3 (show 0 ≤ f.s by have := h.s.1; omega)
  unfold upT
  omega
theorem wtT_ge {f : Fr} (h : FrOk f) {x : Int} (h1 : 0 ≤ x) : f.s ≤ wtT f x := by
  have a3 : 0 ≤ (x + f.j) / f.e := Int.ediv_nonneg (by have := h.j.1; omega) (by have := h.e.1; omega)
  have a4 := Int.mul_le_mul_of_nonneg_right (show 1 ≤ (x + f.j) / f.e + 1 by omega) (show 0 ≤ f.s by have := h.s.1; omega)
  unfold wtT
  omega
theorem few_of {ls : List Fr} (ok : FrsOk ls) {rk rk2 : List Int} {i : Nat} (hi : i < ls.length) (hU : ∀ k, k < ls.length → k ≠ i → rk.getD k 0 = -1 → rk2.getD k 0 = -1) :
    Fewer (restF ls rk i ls.length) (restF ls rk2 i ls.length) (abF ls rk i ls.length) (abF ls rk2 i ls.length) (frAt ls i) := by
  refine ⟨rivF_ok ok rk hi, rivF_ok ok rk2 hi, fun t h1 h2 => ?_, fun q x h1 h2 => ?_, fun q x h1 h2 => ?_⟩
  · have h3 := few_sum (u := fun f => upT f t) (i := i) (fun k hk => ⟨(ok.2 k hk).s.1, upT_ge (ok.2 k hk) h1⟩) hU ls.length (Nat.le_refl _)
    unfold busyG
    rw [sum_abF (fun f => upT f t), sum_abF (fun f => upT f t)]
    omega
  · have h3 := few_sum (u := fun f => wtT f x) (i := i) (fun k hk => ⟨(ok.2 k hk).s.1, wtT_ge (ok.2 k hk) h1⟩) hU ls.length (Nat.le_refl _)
    unfold waitG
    rw [sum_abF (fun f => wtT f x), sum_abF (fun f => wtT f x)]
    omega
  · have h3 := few_sum (u := fun f => wtT f x) (i := i) (fun k hk => ⟨(ok.2 k hk).s.1, wtT_ge (ok.2 k hk) h1⟩) hU ls.length (Nat.le_refl _)
    unfold waitG
    rw [sum_abF (fun f => wtT f x)]
    omega
theorem lateF_few {ls : List Fr} (ok : FrsOk ls) {rk rk2 : List Int} {i : Nat} (hi : i < ls.length) (hU : ∀ k, k < ls.length → k ≠ i → rk.getD k 0 = -1 → rk2.getD k 0 = -1) (h : lateF ls rk2 i = false) : lateF ls rk i = false := by
  have hf := few_of ok hi hU
  have hd := (ok.2 i hi).d
  unfold lateF at h ⊢
  rw [respOf_lim hf.ok2 (by omega)] at h
  rw [respOf_lim hf.ok (by omega)]
  cases e2 : respOf (restF ls rk2 i ls.length) (abF ls rk2 i ls.length) (frAt ls i) huge with
  | none => rw [e2] at h; cases h
  | some r2 =>
    rw [e2] at h
    simp only [Option.bind_some] at h
    obtain ⟨r, e, hr⟩ := respOf_few hf e2
    rw [e]
    simp only [Option.bind_some]
    by_cases h3 : (frAt ls i).d < r2
    · rw [if_pos h3] at h; cases h
    · rw [if_neg (by omega)]; rfl

/-! ### Ranks that are all given -/
section given
variable {ls : List Fr} {r rk : List Int} {i : Nat}
/-- r ranks the frames round i as rk has them: those without a rank above, the others below. -/
def Sides (ls : List Fr) (r rk : List Int) (i : Nat) : Prop := ∀ k, k < ls.length → k ≠ i → (rk.getD k 0 = -1 ∧ r.getD k 0 < r.getD i 0) ∨ (rk.getD k 0 ≠ -1 ∧ r.getD i 0 < r.getD k 0)
theorem sides_ab (h : Sides ls r rk i) : ∀ k, k ≤ ls.length → (abTo (rankedL ls r ls.length) (r.getD i 0) k).map er = (abF ls rk i k).map er
  | 0, _ => rfl
  | k + 1, hk => by
    have ih := sides_ab h k (by omega)
    unfold abTo abF
    rw [rankedL_at _ _ (show k < ls.length by omega)]
    dsimp only
    by_cases e : k = i
    · subst e
      rw [if_neg (Int.lt_irrefl _), if_neg (fun hh => hh.1 rfl)]
      exact ih
    · rcases h k (by omega) e with ⟨h1, h2⟩ | ⟨h1, h2⟩
      · rw [if_pos h2, if_pos ⟨e, h1⟩, List.map_append, List.map_append, ih]
        rfl
      · rw [if_neg (by omega), if_neg (fun hh => h1 hh.2)]
        exact ih
theorem sides_rest (h : Sides ls r rk i) : ∀ k, k ≤ ls.length → restTo (rankedL ls r ls.length) (r.getD i 0) k = restF ls rk i k
  | 0, _ => rfl
  | k + 1, hk => by
    have ih := sides_rest h k (by omega)
    unfold restTo restF
    rw [rankedL_at _ _ (show k < ls.length by omega), ih]
    dsimp only
    by_cases e : k = i
    · subst e
      rw [if_neg (Int.lt_irrefl _), if_neg (fun hh => hh.1 rfl)]
    · rcases h k (by omega) e with ⟨h1, h2⟩ | ⟨h1, h2⟩
      · rw [if_neg (by omega), if_neg (fun hh => hh.2 h1)]
      · rw [if_pos h2, if_pos ⟨e, h1⟩]
theorem sides_late (ok : FrsOk ls) (h : Sides ls r rk i) (hi : i < ls.length) : lateB (rankedL ls r ls.length) i = lateF ls rk i := by
  have h1 := late_eq (rankedL_ok ok r) (i := i) (by rw [rankedL_len]; exact hi)
  unfold rsI abI at h1
  rw [rankedL_len, rankedL_at _ _ hi] at h1
  dsimp only at h1
  rw [sides_rest h ls.length (Nat.le_refl _), respOf_same (ab2 := abF ls rk i ls.length) (f := ⟨(frAt ls i).s, (frAt ls i).e, (frAt ls i).j, (frAt ls i).d, r.getD i 0⟩) (f2 := frAt ls i) (sides_ab h ls.length (Nat.le_refl _)) rfl] at h1
  unfold lateF
  rw [h1, Bool.not_not]
end given

/-- What holds while ranks are given. -/
structure Giving (ls : List Fr) (m : Nat) (rk : List Int) : Prop where
  len : rk.length = ls.length
  val : ∀ k, k < ls.length → rk.getD k 0 = -1 ∨ ((m : Int) ≤ rk.getD k 0 ∧ rk.getD k 0 < ls.length)
  inj : ∀ j k, j < ls.length → k < ls.length → rk.getD j 0 ≠ -1 → rk.getD j 0 = rk.getD k 0 → j = k
  cnt : rk.count (-1) = m
theorem Giving.set {ls : List Fr} {m : Nat} {rk : List Int} (h : Giving ls (m + 1) rk) (hm : m < ls.length) {i : Nat} (hi : i < ls.length) (h1 : rk.getD i 0 = -1) : Giving ls m (rk.set i (m : Int)) := by
  have hl := h.len
  refine ⟨by simp [hl], fun k hk => ?_, fun j k hj hk => ?_, ?_⟩
  · rw [getD_setI (by omega)]
    by_cases e : k = i
    · rw [if_pos e]; exact Or.inr ⟨Int.le_refl _, by omega⟩
    · rw [if_neg e]
      rcases h.val k hk with h2 | h2
      · exact Or.inl h2
      · exact Or.inr (by omega)
  · rw [getD_setI (by omega), getD_setI (by omega)]
    by_cases e : j = i
    · rw [if_pos e]
      by_cases e2 : k = i
      · intro _ _; omega
      · rw [if_neg e2]
        intro _ h3
        rcases h.val k hk with h2 | h2 <;> omega
    · rw [if_neg e]
      by_cases e2 : k = i
      · rw [if_pos e2]
        intro h4 h3
        rcases h.val j hj with h2 | h2 <;> omega
      · rw [if_neg e2]
        exact h.inj j k hj hk
  · have hi2 : i < rk.length := by omega
    have hc := h.cnt
    rw [List.count_set hi2]
    have e1 : rk[i] = -1 := by
      have : rk.getD i 0 = rk[i] := by simp [List.getD, hi2]
      omega
    rw [e1]
    have e2 : ((m : Int) == -1) = false := beq_eq_false_iff_ne.2 (by omega)
    simp [e2, hc]
theorem Giving.start (ls : List Fr) : Giving ls ls.length (List.replicate ls.length (-1)) :=
  ⟨by simp, fun k hk => Or.inl (by simp [List.getD, hk]), fun j k hj hk h => absurd (by simp [List.getD, hj]) h, by simp⟩
theorem Giving.le {ls : List Fr} {m : Nat} {rk : List Int} (h : Giving ls m rk) : m ≤ ls.length := by
  have h1 := List.count_le_length (a := (-1 : Int)) (l := rk)
  have := h.cnt; have := h.len
  omega
/-- What comes of it. -/
structure Given (ls : List Fr) (m : Nat) (rk r : List Int) : Prop where
  len : r.length = ls.length
  old : ∀ k, k < ls.length → rk.getD k 0 ≠ -1 → r.getD k 0 = rk.getD k 0
  new : ∀ k, k < ls.length → rk.getD k 0 = -1 → 0 ≤ r.getD k 0 ∧ r.getD k 0 < m
  inj : ∀ j k, j < ls.length → k < ls.length → r.getD j 0 = r.getD k 0 → j = k
  late : ∀ i, i < ls.length → rk.getD i 0 = -1 → lateB (rankedL ls r ls.length) i = false
theorem rankTo_given {ls : List Fr} (ok : FrsOk ls) : ∀ (m : Nat) (rk r : List Int), Giving ls m rk → rankTo ls m rk = some r → Given ls m rk r
  | 0, rk, r, h, e => by
    simp [rankTo] at e
    subst e
    have hno : ∀ k, k < ls.length → rk.getD k 0 ≠ -1 := fun k hk e1 => by
      have hc := h.cnt
      have hl := h.len
      have h2 : (-1 : Int) ∈ rk := by
        have : rk.getD k 0 = rk[k] := by simp [List.getD, show k < rk.length by omega]
        rw [← e1, this]; exact List.getElem_mem _
      have := List.count_pos_iff.2 h2
      omega
    exact ⟨h.len, fun k hk _ => rfl, fun k hk e1 => absurd e1 (hno k hk), fun j k hj hk e1 => h.inj j k hj hk (hno j hj) e1, fun i hi e1 => absurd e1 (hno i hi)⟩
  | m + 1, rk, r, h, e => by
    unfold rankTo at e
    cases hf : firstO ls rk with
    | none => rw [hf] at e; cases e
    | some i =>
      rw [hf] at e
      obtain ⟨hi, ho, _⟩ := first_some hf
      unfold okF at ho
      simp only [Bool.and_eq_true, beq_iff_eq, Bool.not_eq_true'] at ho
      have hle := h.le
      have h2 := h.set (by omega) hi ho.1
      have ih := rankTo_given ok m _ r h2 e
      have hl := h.len
      have hat := fun k => getD_setI (rk := rk) (i := i) (k := k) (x := (m : Int)) (by omega)
      have hri : r.getD i 0 = m := by
        have := ih.old i hi (by rw [hat, if_pos rfl]; omega)
        rw [this, hat, if_pos rfl]
      refine ⟨ih.len, fun k hk e1 => ?_, fun k hk e1 => ?_, ih.inj, fun k hk e1 => ?_⟩
      · have e2 : k ≠ i := fun e3 => e1 (by rw [e3]; exact ho.1)
        have := ih.old k hk (by rw [hat, if_neg e2]; exact e1)
        rw [this, hat, if_neg e2]
      · by_cases e2 : k = i
        · subst e2; omega
        · have := ih.new k hk (by rw [hat, if_neg e2]; exact e1)
          omega
      · by_cases e2 : k = i
        · subst e2
          rw [sides_late ok (rk := rk) (fun j hj e3 => ?_) hk]
          · exact ho.2
          · rw [hri]
            by_cases e4 : rk.getD j 0 = -1
            · exact Or.inl ⟨e4, (ih.new j hj (by rw [hat, if_neg e3]; exact e4)).2⟩
            · refine Or.inr ⟨e4, ?_⟩
              rw [ih.old j hj (by rw [hat, if_neg e3]; exact e4), hat, if_neg e3]
              rcases h.val j hj with h5 | h5 <;> omega
        · exact ih.late k hk (by rw [hat, if_neg e2]; exact e1)
theorem rankTo_stuck {ls : List Fr} : ∀ (m : Nat) (rk : List Int), Giving ls m rk → rankTo ls m rk = none → ∃ m' rk', Giving ls (m' + 1) rk' ∧ firstO ls rk' = none
  | 0, rk, h, e => by simp [rankTo] at e
  | m + 1, rk, h, e => by
    unfold rankTo at e
    cases hf : firstO ls rk with
    | none => exact ⟨m, rk, h, hf⟩
    | some i =>
      rw [hf] at e
      obtain ⟨hi, ho, _⟩ := first_some hf
      unfold okF at ho
      simp only [Bool.and_eq_true, beq_iff_eq, Bool.not_eq_true'] at ho
      have hle := h.le
      exact rankTo_stuck m _ (h.set (by omega) hi ho.1) e
theorem exists_top {P : Nat → Prop} (g : Nat → Int) : ∀ n, (∃ k, k < n ∧ P k) → ∃ k, k < n ∧ P k ∧ ∀ j, j < n → P j → g j ≤ g k
  | 0, ⟨k, hk, _⟩ => by omega
  | n + 1, ⟨k, hk, hp⟩ => by
    by_cases hn : P n
    · by_cases h : ∃ k, k < n ∧ P k
      · obtain ⟨k1, h1, h2, h3⟩ := exists_top g n h
        by_cases h4 : g k1 ≤ g n
        · exact ⟨n, by omega, hn, fun j hj hpj => by
            by_cases e : j = n
            · subst e; exact Int.le_refl _
            · have := h3 j (by omega) hpj; omega⟩
        · exact ⟨k1, by omega, h2, fun j hj hpj => by
            by_cases e : j = n
            · subst e; omega
            · exact h3 j (by omega) hpj⟩
      · exact ⟨n, by omega, hn, fun j hj hpj => by
          by_cases e : j = n
          · subst e; exact Int.le_refl _
          · exact absurd ⟨j, by omega, hpj⟩ h⟩
    · have e : k ≠ n := fun e => hn (e ▸ hp)
      obtain ⟨k1, h1, h2, h3⟩ := exists_top g n ⟨k, by omega, hp⟩
      exact ⟨k1, by omega, h2, fun j hj hpj => by
        by_cases e2 : j = n
        · subst e2; exact absurd hpj hn
        · exact h3 j (by omega) hpj⟩
theorem getD_range (f : Nat → Int) {n k : Nat} (hk : k < n) : ((List.range n).map f).getD k 0 = f k := by simp [List.getD, hk]
/-- Where no ranks can be given, some frame is late with any ranks that differ. -/
theorem stuck_late {ls : List Fr} (ok : FrsOk ls) (h : rankOf ls = none) (own : List Int) (hd : ∀ j k, j < ls.length → k < ls.length → own.getD j 0 = own.getD k 0 → j = k) : ∃ i, i < ls.length ∧ lateB (rankedL ls own ls.length) i = true := by
  obtain ⟨m, rk, hg, hf⟩ := rankTo_stuck _ _ (Giving.start ls) h
  have hl := hg.len
  have hex : ∃ k, k < ls.length ∧ rk.getD k 0 = -1 := by
    have h1 : 0 < rk.count (-1) := by rw [hg.cnt]; omega
    obtain ⟨k, hk, e⟩ := List.getElem_of_mem (List.count_pos_iff.1 h1)
    exact ⟨k, by omega, by simp [List.getD, hk, e]⟩
  obtain ⟨i, hi, h1, h2⟩ := exists_top (P := fun k => rk.getD k 0 = -1) (fun k => own.getD k 0) ls.length hex
  refine ⟨i, hi, ?_⟩
  have hat : ∀ k, k < ls.length → ((List.range ls.length).map (fun k => if own.getD k 0 < own.getD i 0 then (-1 : Int) else 0)).getD k 0 = if own.getD k 0 < own.getD i 0 then -1 else 0 := fun k hk => getD_range (fun k => if own.getD k 0 < own.getD i 0 then (-1 : Int) else 0) hk
  have hs : Sides ls own ((List.range ls.length).map (fun k => if own.getD k 0 < own.getD i 0 then (-1 : Int) else 0)) i := fun k hk e => by
    rw [hat k hk]
    by_cases h3 : own.getD k 0 < own.getD i 0
    · rw [if_pos h3]; exact Or.inl ⟨rfl, h3⟩
    · rw [if_neg h3]
      refine Or.inr ⟨by omega, ?_⟩
      have : own.getD k 0 ≠ own.getD i 0 := fun e2 => e (hd k i hk hi e2)
      omega
  rw [sides_late ok hs hi]
  cases e : lateF ls ((List.range ls.length).map (fun k => if own.getD k 0 < own.getD i 0 then (-1 : Int) else 0)) i with
  | true => rfl
  | false =>
    exfalso
    have h5 := lateF_few ok (rk := rk) hi (fun k hk e1 e2 => by
      rw [hat k hk, if_pos]
      have h6 := h2 k hk e2
      have : own.getD k 0 ≠ own.getD i 0 := fun e3 => e1 (hd k i hk hi e3)
      have h7 : own.getD k 0 ≤ own.getD i 0 := h6
      omega) e
    have h6 : okF ls rk i = true := by unfold okF; rw [h1, h5]; rfl
    unfold firstO at hf
    rw [List.find?_eq_none] at hf
    exact hf i (by simpa using hi) h6
end Go.Proofs.Ytcelbmpdnkaamaa
