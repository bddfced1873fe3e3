/- Waits do not depend on the order in which gates are taken, if each comes behind those that lead to it (plain). -/
import Derived.Test.YtcelbmpdnkaamaaBuT
namespace Go.Proofs.Ytcelbmpdnkaamaa
open Go Go.RowKit
set_option linter.unusedSimpArgs false
set_option linter.unusedVariables false

def pt (fs : List Fl) (i m : Nat) : Int := (flAt fs i).p.getD m 0
def pl (fs : List Fl) (i : Nat) : Nat := (flAt fs i).p.length
theorem hasI_iff {xs : List Int} {v : Int} : hasI xs v = true ↔ ∃ m, m < xs.length ∧ xs.getD m 0 = v := by
  unfold hasI
  rw [List.any_eq_true]
  constructor
  · rintro ⟨x, hx, e⟩
    obtain ⟨m, hm, rfl⟩ := List.getElem_of_mem hx
    exact ⟨m, hm, by simpa [List.getD, hm] using e⟩
  · rintro ⟨m, hm, e⟩
    exact ⟨xs[m], List.getElem_mem hm, by simpa [List.getD, hm] using e⟩
theorem hasI_take {xs : List Int} {k : Nat} {v : Int} (hk : k ≤ xs.length) : hasI (xs.take k) v = true ↔ ∃ m, m < k ∧ xs.getD m 0 = v := by
  rw [hasI_iff]
  constructor
  · rintro ⟨m, hm, e⟩
    have hm2 : m < k := by simp at hm; omega
    exact ⟨m, hm2, by simpa [List.getD, List.getElem?_take, hm2] using e⟩
  · rintro ⟨m, hm, e⟩
    exact ⟨m, by simp; omega, by simpa [List.getD, List.getElem?_take, hm] using e⟩
/-- A valid net, and no gate twice on a path. -/
structure NetP (gs : List Ga) (fs : List Fl) : Prop where
  ok : NetOk gs fs
  inj : ∀ i m m', i < fs.length → m < pl fs i → m' < pl fs i → pt fs i m = pt fs i m' → m = m'
theorem netB_p {gs : List Ga} {fs : List Fl} (h : netB gs fs = true) : NetP gs fs := by
  refine ⟨netB_ok h, fun i m m' hi hm hm' e => ?_⟩
  unfold netB at h
  simp only [Bool.and_eq_true] at h
  have h1 := allR_get h.2.2 hi
  unfold flB at h1
  simp only [Bool.and_eq_true] at h1
  have h2 := h1.2
  unfold pathB at h2
  simp only [Bool.and_eq_true, List.all_eq_true, List.mem_range] at h2
  have key : ∀ a b, a < b → b < pl fs i → pt fs i a ≠ pt fs i b := fun a b hab hb => by
    have h3 := h2.2 b hb
    unfold pathAt at h3
    simp only [Bool.and_eq_true, Bool.not_eq_true'] at h3
    exact hasI_take_lt hab hb h3.2
  rcases Nat.lt_trichotomy m m' with h3 | h3 | h3
  · exact absurd e (key m m' h3 hm')
  · exact h3
  · exact absurd e.symm (key m' m h3 hm)
/-- Gates in an order: all different, each behind those that lead to it. -/
structure Topo (ng : Nat) (fs : List Fl) (o : List Int) : Prop where
  gate : ∀ j, j < o.length → ∃ g : Nat, o.getD j 0 = g ∧ g < ng
  inj : ∀ j j', j < o.length → j' < o.length → o.getD j 0 = o.getD j' 0 → j = j'
  pre : ∀ k, k < o.length → ∀ i, i < fs.length → ∀ m, m + 1 < pl fs i → pt fs i (m + 1) = o.getD k 0 → ∃ j, j < k ∧ o.getD j 0 = pt fs i m
theorem Topo.back {ng : Nat} {fs : List Fl} {o : List Int} (h : Topo ng fs o) {i : Nat} (hi : i < fs.length) : ∀ (d m j : Nat), m + d < pl fs i → j < o.length → pt fs i (m + d) = o.getD j 0 → ∃ j', j' + d ≤ j ∧ o.getD j' 0 = pt fs i m
  | 0, m, j, _, _, e => ⟨j, by omega, e.symm⟩
  | d + 1, m, j, hm, hj, e => by
    obtain ⟨j1, h1, h2⟩ := h.pre j hj i hi (m + d) (by omega) (by rw [show m + d + 1 = m + (d + 1) by omega]; exact e)
    obtain ⟨j2, h3, h4⟩ := h.back hi d m j1 (by omega) (by omega) h2.symm
    exact ⟨j2, by omega, h4⟩
theorem Topo.before {ng : Nat} {fs : List Fl} {o : List Int} (h : Topo ng fs o) {i k m0 : Nat} (hi : i < fs.length) (hk : k < o.length) (hm0 : m0 < pl fs i) (e0 : pt fs i m0 = o.getD k 0) : ∀ m, m < pl fs i → (hasI (o.take k) (pt fs i m) = true ↔ m < m0) := by
  intro m hm
  rw [hasI_take (by omega)]
  constructor
  · rintro ⟨j, hj, e⟩
    rcases Nat.lt_or_ge m m0 with h1 | h1
    · exact h1
    · exfalso
      obtain ⟨j2, h2, h3⟩ := h.back hi (m - m0) m0 j (by omega) (by omega) (by rw [show m0 + (m - m0) = m by omega]; exact e.symm)
      have := h.inj j2 k (by omega) hk (by rw [h3, e0])
      omega
  · intro h1
    obtain ⟨j2, h2, h3⟩ := h.back hi (m0 - m) m k (by omega) hk (by rw [show m + (m0 - m) = m0 by omega]; exact e0)
    exact ⟨j2, by omega, h3⟩

/-! ### Sums along a path -/
def sumP (u : Int → Int) (fs : List Fl) (i : Nat) (P : Int → Bool) : Nat → Int
  | 0 => 0
  | n + 1 => if P (pt fs i n) = true then sumP u fs i P n + u (pt fs i n) else sumP u fs i P n
theorem sumP_none (u : Int → Int) (fs : List Fl) (i : Nat) {P : Int → Bool} : ∀ n, (∀ m, m < n → P (pt fs i m) = false) → sumP u fs i P n = 0
  | 0, _ => rfl
  | n + 1, h => by
    unfold sumP
    rw [if_neg (by rw [h n (by omega)]; simp), sumP_none u fs i n (fun m hm => h m (by omega))]
theorem sumP_same (u : Int → Int) (fs : List Fl) (i : Nat) {P P' : Int → Bool} : ∀ n, (∀ m, m < n → P (pt fs i m) = P' (pt fs i m)) → sumP u fs i P n = sumP u fs i P' n
  | 0, _ => rfl
  | n + 1, h => by
    unfold sumP
    rw [h n (by omega), sumP_same u fs i n (fun m hm => h m (by omega))]
theorem sumP_add {gs : List Ga} {fs : List Fl} (hn : NetP gs fs) (u : Int → Int) {i : Nat} (hi : i < fs.length) {P P' : Int → Bool} {g : Int} (hP : ∀ x, P' x = (P x || x == g)) (hg : P g = false) :
    ∀ n, n ≤ pl fs i → sumP u fs i P' n = sumP u fs i P n + if (∃ m, m < n ∧ pt fs i m = g) then u g else 0
  | 0, _ => by simp [sumP]
  | n + 1, h => by
    have ih := sumP_add hn u hi hP hg n (by omega)
    unfold sumP
    by_cases e : pt fs i n = g
    · have hno : ¬ ∃ m, m < n ∧ pt fs i m = g := by
        rintro ⟨m, hm, e2⟩
        have := hn.inj i m n hi (by omega) (by omega) (by rw [e2, e])
        omega
      rw [if_neg hno] at ih
      rw [hP, e, hg, if_pos (by simp), if_neg (by simp), if_pos ⟨n, by omega, e⟩, ih]
      omega
    · have hiff : (∃ m, m < n + 1 ∧ pt fs i m = g) ↔ ∃ m, m < n ∧ pt fs i m = g := by
        constructor
        · rintro ⟨m, hm, e2⟩
          have : m ≠ n := fun e3 => e (by rw [← e3]; exact e2)
          exact ⟨m, by omega, e2⟩
        · rintro ⟨m, hm, e2⟩
          exact ⟨m, by omega, e2⟩
      have hb : P' (pt fs i n) = P (pt fs i n) := by
        rw [hP]
        have : (pt fs i n == g) = false := beq_eq_false_iff_ne.2 e
        rw [this, Bool.or_false]
      rw [hb, ih]
      simp only [hiff]
      split <;> omega
theorem sumP_cum (u : Int → Int) (fs : List Fl) (i m0 : Nat) {P : Int → Bool} : ∀ n, (∀ m, m < n → (P (pt fs i m) = true ↔ m < m0)) → sumP u fs i P n = sumN (fun m => u (pt fs i m)) (min n m0)
  | 0, _ => by simp [sumP, sumN]
  | n + 1, h => by
    have ih := sumP_cum u fs i m0 n (fun m hm => h m (by omega))
    unfold sumP
    by_cases e : n < m0
    · rw [if_pos ((h n (by omega)).2 e), ih, show min (n + 1) m0 = n + 1 by omega, show min n m0 = n by omega]
      rfl
    · rw [if_neg (fun e2 => e ((h n (by omega)).1 e2)), ih, show min (n + 1) m0 = min n m0 by omega]

/-! ### One gate -/
theorem nodup_get {xs : List Int} (h : xs.Nodup) : ∀ j j', j < xs.length → j' < xs.length → xs.getD j 0 = xs.getD j' 0 → j = j' := by
  have hp := List.pairwise_iff_getElem.1 h
  have e0 : ∀ j, (hj : j < xs.length) → xs.getD j 0 = xs[j] := fun j hj => by simp [List.getD, hj]
  intro j j' hj hj' e
  rw [e0 j hj, e0 j' hj'] at e
  rcases Nat.lt_trichotomy j j' with h1 | h1 | h1
  · exact absurd e (hp j j' hj hj' h1)
  · exact h1
  · exact absurd e.symm (hp j' j hj' hj h1)
theorem pick_nodup (f : Nat → Bool) (n : Nat) : (pick f n).Nodup := nodup_cast (List.Nodup.sublist List.filter_sublist List.nodup_range)
theorem pick_mem {f : Nat → Bool} {n i : Nat} : (∃ j, j < (pick f n).length ∧ (pick f n).getD j 0 = i) ↔ i < n ∧ f i = true := by
  constructor
  · rintro ⟨j, hj, e⟩
    obtain ⟨i', e2, h1, h2⟩ := pick_at hj
    have : i = i' := by omega
    subst this
    exact ⟨h1, h2⟩
  · rintro ⟨h1, h2⟩
    have hm : (i : Int) ∈ pick f n := List.mem_map.2 ⟨i, List.mem_filter.2 ⟨List.mem_range.2 h1, h2⟩, rfl⟩
    obtain ⟨j, hj, e⟩ := List.getElem_of_mem hm
    exact ⟨j, hj, by simp [List.getD, hj, e]⟩
theorem addTo_get {fs : List Fl} {wt dl : Int} {L b d : List Int} (hb : b.length = fs.length) (hd : d.length = fs.length) (hL : ∀ j, j < L.length → ∃ n : Nat, L.getD j 0 = n ∧ n < fs.length) (hn : L.Nodup) :
    ∀ m, m ≤ L.length → (addTo fs wt dl L (b, d) m).1.length = fs.length ∧ (addTo fs wt dl L (b, d) m).2.length = fs.length ∧ ∀ i : Nat,
      (addTo fs wt dl L (b, d) m).1.getD i 0 = b.getD i 0 + (if (∃ j, j < m ∧ L.getD j 0 = i) then (flAt fs i).r * wt else 0) ∧ (addTo fs wt dl L (b, d) m).2.getD i 0 = d.getD i 0 + (if (∃ j, j < m ∧ L.getD j 0 = i) then dl + wt else 0)
  | 0, _ => ⟨hb, hd, fun i => by simp [addTo]⟩
  | m + 1, hm => by
    obtain ⟨h1, h2, h3⟩ := addTo_get (wt := wt) (dl := dl) hb hd hL hn m (by omega)
    obtain ⟨n, e, hn2⟩ := hL m (by omega)
    have e1 : (addTo fs wt dl L (b, d) (m + 1)) = ((addTo fs wt dl L (b, d) m).1.set (L.getD m 0).toNat ((addTo fs wt dl L (b, d) m).1.getD (L.getD m 0).toNat 0 + (flAt fs (L.getD m 0).toNat).r * wt), (addTo fs wt dl L (b, d) m).2.set (L.getD m 0).toNat ((addTo fs wt dl L (b, d) m).2.getD (L.getD m 0).toNat 0 + (dl + wt))) := rfl
    rw [e1, e, Int.toNat_natCast]
    refine ⟨by simp [h1], by simp [h2], fun i => ?_⟩
    dsimp only
    rw [getD_set, getD_set, h1, h2]
    obtain ⟨h4, h5⟩ := h3 i
    by_cases e2 : i = n
    · subst e2
      have hno : ¬ ∃ j, j < m ∧ L.getD j 0 = (i : Int) := by
        rintro ⟨j, hj, e3⟩
        have := nodup_get hn j m (by omega) (by omega) (by rw [e3, e])
        omega
      rw [if_neg hno] at h4 h5
      have hA : i = i ∧ i < fs.length := ⟨rfl, hn2⟩
      have hB : ∃ j, j < m + 1 ∧ L.getD j 0 = (i : Int) := ⟨m, by omega, e⟩
      rw [if_pos hA, if_pos hA, if_pos hB, if_pos hB, h4, h5]
      omega
    · have hiff : (∃ j, j < m + 1 ∧ L.getD j 0 = (i : Int)) ↔ ∃ j, j < m ∧ L.getD j 0 = (i : Int) := by
        constructor
        · rintro ⟨j, hj, e3⟩
          have : j ≠ m := fun e4 => e2 (by rw [e4, e] at e3; omega)
          exact ⟨j, by omega, e3⟩
        · rintro ⟨j, hj, e3⟩
          exact ⟨j, by omega, e3⟩
      have hA : ¬ (i = n ∧ n < fs.length) := fun hh => e2 hh.1
      rw [if_neg hA, if_neg hA]
      simp only [hiff]
      exact ⟨h4, h5⟩
def stepU (gs : List Ga) (fs : List Fl) (g : Nat) (s : WDB) : WDB := ⟨waitsOf gs fs g s, (addTo fs ((waitsOf gs fs g s).getD g 0) (gaAt gs g).2 (thr fs g) (s.bs, s.ds) (thr fs g).length).2, (addTo fs ((waitsOf gs fs g s).getD g 0) (gaAt gs g).2 (thr fs g) (s.bs, s.ds) (thr fs g).length).1⟩
def fitB (fs : List Fl) (g : Nat) (s : WDB) : Bool := allR (thr fs g).length (fun j => decide (bOf s.bs (thr fs g) j ≤ 1000000000))
theorem gateStep_eq (gs : List Ga) (fs : List Fl) (g : Nat) (s : WDB) : gateStep gs fs g s = if fitB fs g s = true then some (stepU gs fs g s) else none := rfl
def start0 (gs : List Ga) (fs : List Fl) : WDB := ⟨List.replicate gs.length 0, List.replicate fs.length 0, initTo fs fs.length⟩
/-- Along any list of gates, with no look at the limit. -/
def runU (gs : List Ga) (fs : List Fl) (o : List Int) : Nat → WDB
  | 0 => start0 gs fs
  | k + 1 => stepU gs fs (o.getD k 0).toNat (runU gs fs o k)
def runTo (gs : List Ga) (fs : List Fl) (o : List Int) : Nat → Option WDB
  | 0 => some (start0 gs fs)
  | k + 1 => (runTo gs fs o k).bind (gateStep gs fs (o.getD k 0).toNat)
theorem bounds_run (gs : List Ga) (fs : List Fl) : ∀ k, boundsTo gs fs k = runTo gs fs (orderL gs.length fs) k
  | 0 => rfl
  | k + 1 => by
    show (boundsTo gs fs k).bind _ = (runTo gs fs _ k).bind _
    rw [bounds_run gs fs k]
theorem runTo_eq (gs : List Ga) (fs : List Fl) (o : List Int) : ∀ k, runTo gs fs o k = if allR k (fun j => fitB fs (o.getD j 0).toNat (runU gs fs o j)) = true then some (runU gs fs o k) else none
  | 0 => by simp [runTo, runU, allR]
  | k + 1 => by
    show (runTo gs fs o k).bind _ = _
    rw [runTo_eq gs fs o k]
    have hs : allR (k + 1) (fun j => fitB fs (o.getD j 0).toNat (runU gs fs o j)) = (allR k (fun j => fitB fs (o.getD j 0).toNat (runU gs fs o j)) && fitB fs (o.getD k 0).toNat (runU gs fs o k)) := by
      unfold allR; rw [List.range_succ, List.all_append]; simp
    rw [hs]
    cases h1 : allR k (fun j => fitB fs (o.getD j 0).toNat (runU gs fs o j)) with
    | false => simp
    | true =>
      rw [if_pos rfl]
      simp only [Option.bind_some, Bool.true_and]
      rw [gateStep_eq]
      rfl
/-- What a gate waits for, by the waits of those before. -/
def posN (fs : List Fl) (i : Nat) (g : Int) : Nat := (flAt fs i).p.findIdx (· == g)
theorem posN_at {fs : List Fl} {i : Nat} {g : Int} (h : thrF fs g i = true) : posN fs i g < pl fs i ∧ pt fs i (posN fs i g) = g := by
  have h1 : ∃ x ∈ (flAt fs i).p, (x == g) = true := by
    unfold thrF hasI at h
    exact List.any_eq_true.1 h
  have h2 := List.findIdx_lt_length.2 h1
  refine ⟨h2, ?_⟩
  have h3 := List.findIdx_getElem (w := h2)
  unfold pt posN
  have h4 : (flAt fs i).p.findIdx (· == g) < (flAt fs i).p.length := h2
  rw [List.getD_eq_getElem?_getD, List.getElem?_eq_getElem h4]
  simpa using h3
theorem thrF_iff {fs : List Fl} {i : Nat} {g : Int} : thrF fs g i = true ↔ ∃ m, m < pl fs i ∧ pt fs i m = g := hasI_iff
def bAt (W : Int → Int) (fs : List Fl) (i : Nat) (g : Int) : Int := (flAt fs i).b + (flAt fs i).r * sumN (fun m => W (pt fs i m)) (posN fs i g)
def gateW (W : Int → Int) (gs : List Ga) (fs : List Fl) (g : Nat) : Int := if 0 < (thr fs g).length then upI (sumN (fun j => bAt W fs ((thr fs g).getD j 0).toNat g) (thr fs g).length) (gaAt gs g).1 - 1 else 0
/-- What a run has reckoned when the gates of P have been taken. -/
structure Reckoned (gs : List Ga) (fs : List Fl) (W : Int → Int) (P : Int → Bool) (s : WDB) : Prop where
  wl : s.ws.length = gs.length
  dl : s.ds.length = fs.length
  bl : s.bs.length = fs.length
  w : ∀ g : Nat, g < gs.length → s.ws.getD g 0 = if P g = true then W g else 0
  b : ∀ i, i < fs.length → s.bs.getD i 0 = (flAt fs i).b + (flAt fs i).r * sumP W fs i P (pl fs i)
  d : ∀ i, i < fs.length → s.ds.getD i 0 = sumP (fun x => (gaAt gs x.toNat).2 + W x) fs i P (pl fs i)
theorem reck_start (gs : List Ga) (fs : List Fl) (W : Int → Int) : Reckoned gs fs W (fun _ => false) (start0 gs fs) := by
  refine ⟨by simp [start0], by simp [start0], initTo_len _ _, fun g hg => ?_, fun i hi => ?_, fun i hi => ?_⟩
  · simp [start0, List.getD, hg]
  · rw [sumP_none W fs i _ (fun _ _ => rfl)]
    show (initTo fs fs.length).getD i 0 = _
    rw [initTo_at fs fs.length (Nat.le_refl _) i hi]; omega
  · rw [sumP_none _ fs i _ (fun _ _ => rfl)]
    simp [start0, List.getD, hi]
theorem reck_step {gs : List Ga} {fs : List Fl} (hn : NetP gs fs) {W : Int → Int} {P P' : Int → Bool} {s : WDB} {g : Nat} (h : Reckoned gs fs W P s) (hg : g < gs.length) (hP : ∀ x, P' x = (P x || x == (g : Int))) (hgp : P g = false)
    (hw : (waitsOf gs fs g s).getD g 0 = W g) : Reckoned gs fs W P' (stepU gs fs g s) := by
  have hL : ∀ j, j < (thr fs g).length → ∃ n : Nat, (thr fs g).getD j 0 = n ∧ n < fs.length := fun j hj => by
    obtain ⟨i, e, h1, _⟩ := thr_at hj
    exact ⟨i, e, h1⟩
  obtain ⟨a1, a2, a3⟩ := addTo_get (wt := (waitsOf gs fs g s).getD g 0) (dl := (gaAt gs g).2) h.bl h.dl hL (pick_nodup _ _) _ (Nat.le_refl _)
  have hwl : (waitsOf gs fs g s).length = gs.length := by unfold waitsOf; split <;> simp [h.wl]
  have hmem : ∀ i, i < fs.length → ((∃ j, j < (thr fs g).length ∧ (thr fs g).getD j 0 = (i : Int)) ↔ ∃ m, m < pl fs i ∧ pt fs i m = (g : Int)) := fun i hi => by
    rw [← thrF_iff]
    unfold thr
    rw [pick_mem]
    exact ⟨fun hh => hh.2, fun hh => ⟨hi, hh⟩⟩
  refine ⟨hwl, a2, a1, fun x hx => ?_, fun i hi => ?_, fun i hi => ?_⟩
  · show (waitsOf gs fs g s).getD x 0 = _
    by_cases e : x = g
    · subst e
      rw [hw, hP, if_pos (by simp)]
    · have hb : ((x : Int) == (g : Int)) = false := beq_eq_false_iff_ne.2 (by omega)
      rw [hP, hb, Bool.or_false, ← h.w x hx]
      unfold waitsOf
      split
      · rw [getD_set, if_neg (fun hh => e hh.1)]
      · rfl
  · show (addTo fs _ _ (thr fs g) (s.bs, s.ds) _).1.getD i 0 = _
    rw [(a3 i).1, h.b i hi, hw, sumP_add hn W hi hP hgp _ (Nat.le_refl _)]
    simp only [hmem i hi]
    split
    · rw [Int.mul_add]; omega
    · simp
  · show (addTo fs _ _ (thr fs g) (s.bs, s.ds) _).2.getD i 0 = _
    rw [(a3 i).2, h.d i hi, hw, sumP_add hn _ hi hP hgp _ (Nat.le_refl _)]
    simp only [hmem i hi]
    split
    · simp
    · rfl
end Go.Proofs.Ytcelbmpdnkaamaa
