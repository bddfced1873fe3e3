/- The program's order of gates: each behind those that lead to it, and all of them, if that can be (plain). -/
import Derived.Test.YtcelbmpdnkaamaaBxC
namespace Go.Proofs.Ytcelbmpdnkaamaa
open Go Go.RowKit
set_option linter.unusedSimpArgs false
set_option linter.unusedVariables false

def cI (fs : List Fl) (P : List Int) (g : Int) (i : Nat) : Int := if flowOk fs P g i = true then 0 else 1
def cnt (fs : List Fl) (P : List Int) (g : Int) : Int := sumN (cI fs P g) fs.length
theorem cI_nn (fs : List Fl) (P : List Int) (g : Int) (i : Nat) : 0 ≤ cI fs P g i ∧ cI fs P g i ≤ 1 := by unfold cI; split <;> omega
theorem sumN_nn {f : Nat → Int} : ∀ {n : Nat}, (∀ j, j < n → 0 ≤ f j) → 0 ≤ sumN f n
  | 0, _ => Int.le_refl _
  | n + 1, h => by
    have h1 := sumN_nn (n := n) (fun j hj => h j (by omega))
    have h2 := h n (by omega)
    unfold sumN; omega
theorem sumN_zero {f : Nat → Int} : ∀ {n : Nat}, (∀ j, j < n → 0 ≤ f j) → sumN f n = 0 → ∀ j, j < n → f j = 0
  | 0, _, _, j, hj => by omega
  | n + 1, h, e, j, hj => by
    have h1 := sumN_nn (n := n) (fun j hj => h j (by omega))
    have h2 := h n (by omega)
    unfold sumN at e
    by_cases e2 : j = n
    · subst e2; omega
    · exact sumN_zero (n := n) (fun j hj => h j (by omega)) (by omega) j (by omega)
theorem sumN_all {f : Nat → Int} : ∀ {n : Nat}, (∀ j, j < n → f j = 0) → sumN f n = 0
  | 0, _ => rfl
  | n + 1, h => by
    unfold sumN
    rw [sumN_all (n := n) (fun j hj => h j (by omega)), h n (by omega)]; rfl
theorem cnt_nn (fs : List Fl) (P : List Int) (g : Int) : 0 ≤ cnt fs P g := sumN_nn (fun j _ => (cI_nn fs P g j).1)
theorem flowOk_iff {fs : List Fl} {P : List Int} {g : Int} {i : Nat} : flowOk fs P g i = true ↔ ∀ m, m + 1 < pl fs i → pt fs i (m + 1) = g → hasI P (pt fs i m) = true := by
  unfold flowOk
  constructor
  · intro h m hm e
    have := allR_get h (show m < pl fs i - 1 by omega)
    unfold stepOk at this
    rw [e] at this
    simpa using this
  · intro h
    refine allR_good (fun m hm => ?_)
    unfold stepOk
    by_cases e : pt fs i (m + 1) = g
    · rw [h m (by omega) e]; simp
    · have : (pt fs i (m + 1) == g) = false := beq_eq_false_iff_ne.2 e
      rw [this]; rfl
theorem cnt_zero {fs : List Fl} {P : List Int} {g : Int} : cnt fs P g = 0 ↔ ∀ i, i < fs.length → ∀ m, m + 1 < pl fs i → pt fs i (m + 1) = g → hasI P (pt fs i m) = true := by
  constructor
  · intro h i hi
    have h1 := sumN_zero (fun j _ => (cI_nn fs P g j).1) h i hi
    unfold cI at h1
    split at h1
    · rename_i h2; exact flowOk_iff.1 h2
    · omega
  · intro h
    refine sumN_all (fun i hi => ?_)
    unfold cI
    rw [if_pos (flowOk_iff.2 (h i hi))]

/-! ### What the program counts before it begins -/
theorem inc_get {xs : List Int} {g x : Nat} (hg : g < xs.length) : (inc xs g).getD x 0 = xs.getD x 0 + if x = g then 1 else 0 := by
  unfold inc
  rw [getD_set, Int.toNat_natCast]
  by_cases e : x = g
  · subst e; rw [if_pos ⟨rfl, hg⟩, if_pos rfl]
  · rw [if_neg (fun hh => e hh.1), if_neg e]; omega
theorem inc_len (xs : List Int) (g : Int) : (inc xs g).length = xs.length := by unfold inc; simp
section net
variable {gs : List Ga} {fs : List Fl}
theorem pt_gate (hn : NetP gs fs) {i m : Nat} (hi : i < fs.length) (hm : m < pl fs i) : ∃ g : Nat, pt fs i m = g ∧ g < gs.length := (hn.ok.paths i hi).2.2 m hm
theorem incTo_get (hn : NetP gs fs) {i : Nat} (hi : i < fs.length) {xs : List Int} (hx : xs.length = gs.length) : ∀ n, n + 1 ≤ pl fs i → (incTo xs (flAt fs i).p n).length = gs.length ∧ ∀ x : Nat, (incTo xs (flAt fs i).p n).getD x 0 = xs.getD x 0 + if (∃ m, m < n ∧ pt fs i (m + 1) = x) then 1 else 0
  | 0, _ => ⟨hx, fun x => by simp [incTo]⟩
  | n + 1, h => by
    obtain ⟨h1, h2⟩ := incTo_get hn hi hx n (by omega)
    obtain ⟨g, e, hg⟩ := pt_gate hn hi (show n + 1 < pl fs i by omega)
    have e' : (flAt fs i).p.getD (n + 1) 0 = g := e
    have e1 : incTo xs (flAt fs i).p (n + 1) = inc (incTo xs (flAt fs i).p n) ((flAt fs i).p.getD (n + 1) 0) := rfl
    rw [e1, e']
    refine ⟨by rw [inc_len]; exact h1, fun x => ?_⟩
    rw [inc_get (by omega), h2 x]
    by_cases ex : x = g
    · subst ex
      have hno : ¬ ∃ m, m < n ∧ pt fs i (m + 1) = x := by
        rintro ⟨m, hm, e3⟩
        have := hn.inj i (m + 1) (n + 1) hi (by omega) (by omega) (by rw [e3, e])
        omega
      have hyes : ∃ m, m < n + 1 ∧ pt fs i (m + 1) = x := ⟨n, by omega, e⟩
      rw [if_neg hno, if_pos rfl, if_pos hyes]
      omega
    · have hiff : (∃ m, m < n + 1 ∧ pt fs i (m + 1) = x) ↔ ∃ m, m < n ∧ pt fs i (m + 1) = x := by
        constructor
        · rintro ⟨m, hm, e3⟩
          have : m ≠ n := fun e4 => by rw [e4, e] at e3; omega
          exact ⟨m, by omega, e3⟩
        · rintro ⟨m, hm, e3⟩
          exact ⟨m, by omega, e3⟩
      rw [if_neg ex]
      simp only [hiff]
      omega
theorem hasI_nil (v : Int) : hasI [] v = false := rfl
theorem befTo_get (hn : NetP gs fs) : ∀ k, k ≤ fs.length → (befTo gs.length fs k).length = gs.length ∧ ∀ x : Nat, x < gs.length → (befTo gs.length fs k).getD x 0 = sumN (cI fs [] x) k
  | 0, _ => ⟨by simp [befTo], fun x hx => by simp [befTo, sumN, List.getD, hx]⟩
  | k + 1, h => by
    obtain ⟨h1, h2⟩ := befTo_get hn k (by omega)
    have h8 := hn.ok.paths k (by omega)
    obtain ⟨h3, h4⟩ := incTo_get hn (show k < fs.length by omega) h1 (pl fs k - 1) (by unfold pl; omega)
    have e1 : befTo gs.length fs (k + 1) = incTo (befTo gs.length fs k) (flAt fs k).p ((flAt fs k).p.length - 1) := rfl
    have e2 : (flAt fs k).p.length - 1 = pl fs k - 1 := rfl
    rw [e1, e2]
    refine ⟨h3, fun x hx => ?_⟩
    rw [h4 x, h2 x hx]
    show _ = sumN (cI fs [] x) k + cI fs [] x k
    congr 1
    unfold cI
    by_cases e : ∃ m, m < pl fs k - 1 ∧ pt fs k (m + 1) = x
    · rw [if_pos e, if_neg]
      intro h5
      obtain ⟨m, hm, e3⟩ := e
      have := flowOk_iff.1 h5 m (by omega) e3
      rw [hasI_nil] at this; cases this
    · rw [if_neg e, if_pos]
      refine flowOk_iff.2 (fun m hm e3 => absurd ⟨m, by omega, e3⟩ e)

/-! ### One gate is taken -/
theorem bhF_iff (hn : NetP gs fs) {i : Nat} (hi : i < fs.length) {g x : Int} : bhF (flAt fs i) g = some x ↔ ∃ m, m + 1 < pl fs i ∧ pt fs i m = g ∧ pt fs i (m + 1) = x := by
  have key : ∀ m, m < pl fs i → pt fs i m = g → idxI (flAt fs i).p g = m := fun m hm e =>
    (idx_at (xs := (flAt fs i).p) hm e (fun j hj e2 => by
      have := hn.inj i j m hi (by omega) hm (by show (flAt fs i).p.getD j 0 = _; rw [e2, e])
      omega)).1
  unfold bhF
  constructor
  · intro h
    split at h
    · rename_i h1
      simp only [Option.some.injEq] at h
      have hh : hasI (flAt fs i).p g = true := by
        cases e : hasI (flAt fs i).p g with
        | true => rfl
        | false =>
          have : idxI (flAt fs i).p g = -1 := by unfold idxI; rw [e]; rfl
          omega
      obtain ⟨m, hm, e⟩ := hasI_iff.1 hh
      have hk := key m hm e
      rw [hk] at h h1
      refine ⟨m, ?_, e, ?_⟩
      · unfold pl; omega
      · rw [Int.toNat_natCast] at h; exact h
    · cases h
  · rintro ⟨m, hm, e, e2⟩
    rw [key m (by omega) e]
    unfold pl at hm
    rw [if_pos ⟨by omega, by omega⟩, Int.toNat_natCast]
    exact congrArg some e2
def decF (fs : List Fl) (g : Int) (s : OS) : Nat → OS
  | 0 => s
  | k + 1 => match bhF (flAt fs k) g with | some x => dec (decF fs g s k) x | none => decF fs g s k
theorem decTo_app (s : OS) (L : List Int) (x : Int) : ∀ m, m ≤ L.length → decTo s (L ++ [x]) m = decTo s L m
  | 0, _ => rfl
  | m + 1, h => by
    show dec (decTo s (L ++ [x]) m) ((L ++ [x]).getD m 0) = dec (decTo s L m) (L.getD m 0)
    rw [decTo_app s L x m (by omega), getD_app, if_pos (by omega)]
theorem decTo_flows (fs : List Fl) (g : Int) (s : OS) : ∀ k, decTo s (bhTo fs g k) (bhTo fs g k).length = decF fs g s k
  | 0 => by simp [bhTo, decTo, decF]
  | k + 1 => by
    have ih := decTo_flows fs g s k
    show _ = match bhF (flAt fs k) g with | some x => dec (decF fs g s k) x | none => decF fs g s k
    cases e : bhF (flAt fs k) g with
    | none => rw [bh_no e]; exact ih
    | some x =>
      rw [bh_yes e, List.length_append, List.length_singleton]
      show dec (decTo s (bhTo fs g k ++ [x]) (bhTo fs g k).length) ((bhTo fs g k ++ [x]).getD (bhTo fs g k).length 0) = dec (decF fs g s k) x
      rw [decTo_app _ _ _ _ (Nat.le_refl _), ih, getD_app, if_neg (by omega), if_pos rfl]
/-- How many of the first k flows go on from g to x. -/
def goI (fs : List Fl) (g x : Int) (i : Nat) : Int := if bhF (flAt fs i) g = some x then 1 else 0
theorem go_nn (fs : List Fl) (g x : Int) (i : Nat) : 0 ≤ goI fs g x i := by unfold goI; split <;> omega
theorem cI_step (hn : NetP gs fs) {P P' : List Int} {g : Int} (hP : ∀ v, hasI P' v = (hasI P v || v == g)) (hg : hasI P g = false) (x : Int) {i : Nat} (hi : i < fs.length) : cI fs P' x i = cI fs P x i - goI fs g x i := by
  unfold cI goI
  by_cases e : bhF (flAt fs i) g = some x
  · obtain ⟨m, hm, e1, e2⟩ := (bhF_iff hn hi).1 e
    have h1 : flowOk fs P' x i = true := flowOk_iff.2 (fun m' hm' e3 => by
      have : m' + 1 = m + 1 := hn.inj i (m' + 1) (m + 1) hi hm' hm (by rw [e3, e2])
      have : m' = m := by omega
      subst this
      rw [hP, e1]; simp)
    have h2 : ¬ flowOk fs P x i = true := fun h3 => by
      have := flowOk_iff.1 h3 m hm e2
      rw [e1, hg] at this; cases this
    rw [if_pos h1, if_neg h2, if_pos e]; rfl
  · rw [if_neg e]
    have h1 : flowOk fs P' x i = true ↔ flowOk fs P x i = true := by
      rw [flowOk_iff, flowOk_iff]
      constructor
      · intro h m hm e2
        have := h m hm e2
        rw [hP] at this
        rcases Bool.or_eq_true _ _ ▸ this with h3 | h3
        · exact h3
        · exact absurd ((bhF_iff hn hi).2 ⟨m, hm, eq_of_beq h3, e2⟩) e
      · intro h m hm e2
        rw [hP, h m hm e2]; rfl
    simp only [h1]
    omega
theorem sumN_sub {f g h : Nat → Int} : ∀ {n : Nat}, (∀ j, j < n → f j = g j - h j) → sumN f n = sumN g n - sumN h n
  | 0, _ => rfl
  | n + 1, hh => by
    have h1 := sumN_sub (n := n) (fun j hj => hh j (by omega))
    have h2 := hh n (by omega)
    unfold sumN
    omega
theorem sumN_part {f : Nat → Int} (hf : ∀ j, 0 ≤ f j) : ∀ d k, sumN f k ≤ sumN f (k + d)
  | 0, _ => Int.le_refl _
  | d + 1, k => by
    have := sumN_part hf d k
    have := hf (k + d)
    show _ ≤ sumN f (k + d) + f (k + d)
    omega
/-- While the flows of a gate are gone through. -/
structure Going (gs : List Ga) (fs : List Fl) (P' : List Int) (g : Int) (c : Int → Int) (k : Nat) (s : OS) : Prop where
  len : s.1.length = gs.length
  b : ∀ x : Nat, x < gs.length → s.1.getD x 0 = c x - sumN (goI fs g x) k
  topo : Topo gs.length fs s.2
  zero : ∀ x : Nat, x < gs.length → (hasI s.2 x = true ↔ s.1.getD x 0 = 0)
  sub : ∀ v, hasI P' v = true → hasI s.2 v = true
theorem going_step (hn : NetP gs fs) {P' : List Int} {g : Int} {c : Int → Int} (hc : ∀ x : Nat, x < gs.length → cnt fs P' x = c x - sumN (goI fs g x) fs.length) {k : Nat} (hk : k < fs.length) {s : OS} (h : Going gs fs P' g c k s) : Going gs fs P' g c (k + 1) (match bhF (flAt fs k) g with | some x => dec s x | none => s) := by
  have hsum : ∀ x, sumN (goI fs g x) (k + 1) = sumN (goI fs g x) k + goI fs g x k := fun x => rfl
  cases e : bhF (flAt fs k) g with
  | none =>
    refine ⟨h.len, fun x hx => ?_, h.topo, h.zero, h.sub⟩
    rw [hsum, h.b x hx]
    have : goI fs g x k = 0 := by unfold goI; rw [e]; simp
    omega
  | some y =>
    obtain ⟨m, hm, e1, e2⟩ := (bhF_iff hn hk).1 e
    obtain ⟨n, e3, hng⟩ := pt_gate hn hk hm
    have hy : y = (n : Int) := by rw [← e2, e3]
    subst hy
    have hgo : ∀ x : Nat, goI fs g x k = if x = n then 1 else 0 := fun x => by
      unfold goI
      rw [e]
      by_cases e4 : x = n
      · subst e4; simp
      · rw [if_neg e4, if_neg]
        intro e5
        simp at e5; omega
    have hpart : ∀ x : Nat, sumN (goI fs g x) (k + 1) ≤ sumN (goI fs g x) fs.length := fun x => by
      have := sumN_part (go_nn fs g x) (fs.length - (k + 1)) (k + 1)
      rw [show k + 1 + (fs.length - (k + 1)) = fs.length by omega] at this
      exact this
    have hbn := h.b n hng
    have hcn := hc n hng
    have hnn := cnt_nn fs P' n
    have hp := hpart n
    have hl := h.len
    rw [hsum, hgo, if_pos rfl] at hp
    have hpos : 1 ≤ s.1.getD n 0 := by omega
    have hb2 : ∀ x : Nat, (s.1.set n (s.1.getD n 0 - 1)).getD x 0 = if x = n then s.1.getD n 0 - 1 else s.1.getD x 0 := fun x => by
      rw [getD_set]
      by_cases e4 : x = n
      · rw [if_pos ⟨e4, by omega⟩, if_pos e4]
      · rw [if_neg (fun hh => e4 hh.1), if_neg e4]
    have hnot : hasI s.2 n = false := by
      cases e4 : hasI s.2 n with
      | false => rfl
      | true => have := (h.zero n hng).1 e4; omega
    have e0 : (dec s (n : Int)).1 = s.1.set n (s.1.getD n 0 - 1) := by simp [dec]
    have e5 : (dec s (n : Int)).2 = if s.1.getD n 0 - 1 = 0 then s.2 ++ [(n : Int)] else s.2 := by simp [dec]
    have happ : ∀ v, hasI (s.2 ++ [(n : Int)]) v = (hasI s.2 v || v == n) := fun v => by
      unfold hasI
      rw [List.any_append]
      congr 1
      simp only [List.any_cons, List.any_nil, Bool.or_false]
      rw [Bool.eq_iff_iff, beq_iff_eq, beq_iff_eq]; exact eq_comm
    refine ⟨by rw [e0, List.length_set]; exact hl, fun x hx => ?_, ?_, fun x hx => ?_, fun v hv => ?_⟩
    · rw [e0, hb2, hsum, hgo]
      have := h.b x hx
      by_cases e4 : x = n
      · subst e4; rw [if_pos rfl, if_pos rfl]; omega
      · rw [if_neg e4, if_neg e4]; omega
    · rw [e5]
      by_cases e4 : s.1.getD n 0 - 1 = 0
      · rw [if_pos e4]
        refine h.topo.app hng (ready_of hnot (fun i hi m' hm' e6 => h.sub _ ?_))
        have hz : cnt fs P' n = 0 := by omega
        exact cnt_zero.1 hz i hi m' hm' e6
      · rw [if_neg e4]; exact h.topo
    · rw [e0, e5, hb2]
      by_cases e4 : s.1.getD n 0 - 1 = 0
      · rw [if_pos e4, happ]
        by_cases e6 : x = n
        · subst e6; rw [if_pos rfl]; exact ⟨fun _ => e4, fun _ => by simp⟩
        · have e7 : ((x : Int) == (n : Int)) = false := beq_eq_false_iff_ne.2 (by omega)
          rw [if_neg e6, e7, Bool.or_false]
          exact h.zero x hx
      · rw [if_neg e4]
        by_cases e6 : x = n
        · subst e6
          rw [if_pos rfl, hnot]
          constructor
          · intro e8; cases e8
          · intro e8; exact absurd e8 e4
        · rw [if_neg e6]; exact h.zero x hx
    · rw [e5]
      by_cases e4 : s.1.getD n 0 - 1 = 0
      · rw [if_pos e4, happ, h.sub v hv]; rfl
      · rw [if_neg e4]; exact h.sub v hv
/-- What holds when i gates have been taken. -/
structure Taken (gs : List Ga) (fs : List Fl) (i : Nat) (s : OS) : Prop where
  len : s.1.length = gs.length
  topo : Topo gs.length fs s.2
  b : ∀ x : Nat, x < gs.length → s.1.getD x 0 = cnt fs (s.2.take i) x
  zero : ∀ x : Nat, x < gs.length → (hasI s.2 x = true ↔ s.1.getD x 0 = 0)
theorem going_all (hn : NetP gs fs) {P' : List Int} {g : Int} {c : Int → Int} (hc : ∀ x : Nat, x < gs.length → cnt fs P' x = c x - sumN (goI fs g x) fs.length) {s : OS} (h : Going gs fs P' g c 0 s) : ∀ k, k ≤ fs.length → Going gs fs P' g c k (decF fs g s k)
  | 0, _ => h
  | k + 1, hk => going_step hn hc (by omega) (going_all hn hc h k (by omega))
theorem decF_pre (fs : List Fl) (g : Int) (s : OS) : ∀ k, ∃ t, (decF fs g s k).2 = s.2 ++ t
  | 0 => ⟨[], by simp [decF]⟩
  | k + 1 => by
    obtain ⟨t, ht⟩ := decF_pre fs g s k
    show ∃ t, (match bhF (flAt fs k) g with | some x => dec (decF fs g s k) x | none => decF fs g s k).2 = s.2 ++ t
    cases bhF (flAt fs k) g with
    | none => exact ⟨t, ht⟩
    | some x =>
      show ∃ t, (dec (decF fs g s k) x).2 = s.2 ++ t
      unfold dec
      dsimp only
      split
      · exact ⟨t ++ [x], by rw [ht, List.append_assoc]⟩
      · exact ⟨t, ht⟩
theorem taken_start (hn : NetP gs fs) : Taken gs fs 0 (ord0 gs.length fs) := by
  obtain ⟨h1, h2⟩ := befTo_get hn fs.length (Nat.le_refl _)
  have e1 : (ord0 gs.length fs).1 = befTo gs.length fs fs.length := rfl
  have e2 : (ord0 gs.length fs).2 = pick (zeroF (befTo gs.length fs fs.length)) gs.length := rfl
  have hz : ∀ x : Nat, x < gs.length → (hasI (ord0 gs.length fs).2 x = true ↔ (ord0 gs.length fs).1.getD x 0 = 0) := fun x hx => by
    rw [e1, e2, hasI_iff, pick_mem]
    unfold zeroF
    rw [beq_iff_eq]
    exact ⟨fun hh => hh.2, fun hh => ⟨hx, hh⟩⟩
  refine ⟨h1, ⟨fun j hj => ?_, ?_, fun k hk i hi m hm e => ?_⟩, fun x hx => ?_, hz⟩
  · rw [e2] at hj ⊢
    obtain ⟨i, e, hi, _⟩ := pick_at hj
    exact ⟨i, e, hi⟩
  · rw [e2]; exact nodup_get (pick_nodup _ _)
  · exfalso
    rw [e2] at hk e
    obtain ⟨x, e3, hx, h4⟩ := pick_at hk
    unfold zeroF at h4
    have h5 := eq_of_beq h4
    rw [h2 x hx] at h5
    have h6 := cnt_zero.1 (show cnt fs [] x = 0 from h5) i hi m hm (by rw [e, e3])
    rw [hasI_nil] at h6; cases h6
  · rw [e1, h2 x hx]; rfl
theorem taken_step (hn : NetP gs fs) {i : Nat} {s : OS} (h : Taken gs fs i s) : Taken gs fs (i + 1) (ordStep fs i s) := by
  unfold ordStep
  by_cases hi : i < s.2.length
  · rw [if_pos hi, decTo_flows]
    have hP : ∀ v, hasI (s.2.take (i + 1)) v = (hasI (s.2.take i) v || v == s.2.getD i 0) := take_next hi
    have hg := h.topo.not_before hi
    have hc : ∀ x : Nat, x < gs.length → cnt fs (s.2.take (i + 1)) x = cnt fs (s.2.take i) x - sumN (goI fs (s.2.getD i 0) x) fs.length := fun x hx => sumN_sub (fun j hj => cI_step hn hP hg x hj)
    have h0 : Going gs fs (s.2.take (i + 1)) (s.2.getD i 0) (cnt fs (s.2.take i)) 0 s := by
      refine ⟨h.len, fun x hx => by rw [h.b x hx]; simp [sumN], h.topo, h.zero, fun v hv => ?_⟩
      obtain ⟨m, hm, e⟩ := (hasI_take (by omega)).1 hv
      exact hasI_iff.2 ⟨m, by omega, e⟩
    have h1 := going_all hn hc h0 fs.length (Nat.le_refl _)
    obtain ⟨t, ht⟩ := decF_pre fs (s.2.getD i 0) s fs.length
    have htk : (decF fs (s.2.getD i 0) s fs.length).2.take (i + 1) = s.2.take (i + 1) := by
      rw [ht, List.take_append_of_le_length (by omega)]
    exact ⟨h1.len, h1.topo, fun x hx => by rw [h1.b x hx, htk, hc x hx], h1.zero⟩
  · rw [if_neg hi]
    refine ⟨h.len, h.topo, fun x hx => ?_, h.zero⟩
    rw [h.b x hx, List.take_of_length_le (by omega), List.take_of_length_le (by omega)]
theorem taken_all (hn : NetP gs fs) : ∀ i, Taken gs fs i (ordTo fs (ord0 gs.length fs) i)
  | 0 => taken_start hn
  | i + 1 => taken_step hn (taken_all hn i)
theorem orderL_topo (hn : NetP gs fs) : Topo gs.length fs (orderL gs.length fs) := (taken_all hn gs.length).topo
theorem cover_len {ng : Nat} {o : List Int} (h : ∀ g : Nat, g < ng → hasI o g = true) : ng ≤ o.length := by
  have f1 : ∀ j : Nat, j < ng → o.findIdx (· == (j : Int)) < o.length := fun j hj => List.findIdx_lt_length.2 (by obtain ⟨m, hm, e3⟩ := hasI_iff.1 (h j hj); exact ⟨o[m], List.getElem_mem hm, by simpa [List.getD, hm] using e3⟩)
  have h2 := nodup_len (n := o.length) (l := (List.range ng).map (fun (j : Nat) => o.findIdx (· == (j : Int)))) (by
    rw [List.Nodup, List.pairwise_iff_getElem]
    intro i j hi hj hij
    simp at hi hj
    simp only [List.getElem_map, List.getElem_range]
    intro e
    have g1 := List.findIdx_getElem (w := f1 i (by omega))
    have g2 := List.findIdx_getElem (w := f1 j (by omega))
    simp only [e] at g1
    have a1 := eq_of_beq g1
    have a2 := eq_of_beq g2
    have := a1.symm.trans a2
    omega) (fun x hx => by
    obtain ⟨j, hj, e⟩ := List.mem_map.1 hx
    have := f1 j (List.mem_range.1 hj)
    omega)
  simpa using h2
/-- Where there is a whole order, the program finds one. -/
theorem orderL_full (hn : NetP gs fs) {w : List Int} (hw : Topo gs.length fs w) (hl : w.length = gs.length) : (orderL gs.length fs).length = gs.length := by
  have h := taken_all hn gs.length
  have hle := (orderL_gates hn.ok.paths hn.ok.nf).1
  have hall : ∀ j, j < w.length → hasI (orderL gs.length fs) (w.getD j 0) = true := by
    intro j
    induction j using Nat.strongRecOn with
    | _ j ih =>
      intro hj
      obtain ⟨g, e, hg⟩ := hw.gate j hj
      rw [e]
      refine (h.zero g hg).2 ?_
      rw [h.b g hg]
      have htk : (ordTo fs (ord0 gs.length fs) gs.length).2.take gs.length = orderL gs.length fs := List.take_of_length_le hle
      rw [htk]
      refine cnt_zero.2 (fun i hi m hm e2 => ?_)
      obtain ⟨j2, hj2, e3⟩ := hw.pre j hj i hi m hm (by rw [e2, e])
      have := ih j2 hj2 (by omega)
      rw [e3] at this; exact this
  have h2 := cover_len (ng := gs.length) (o := orderL gs.length fs) (fun g hg => by
    obtain ⟨j, hj, e⟩ := all_gates hw hl g hg
    have := hall j hj
    rw [e] at this; exact this)
  omega
/-- Both orders are whole, or neither is. -/
theorem both_whole (hn : NetP gs fs) : (orderL gs.length fs).length = gs.length ↔ ∃ o, refOrd gs.length fs gs.length = some o := by
  constructor
  · intro h
    exact refOrd_go (orderL_topo hn) h gs.length (Nat.le_refl _)
  · rintro ⟨o, e⟩
    obtain ⟨h1, h2⟩ := refOrd_topo _ _ e
    exact orderL_full hn h1 h2
end net
end Go.Proofs.Ytcelbmpdnkaamaa
