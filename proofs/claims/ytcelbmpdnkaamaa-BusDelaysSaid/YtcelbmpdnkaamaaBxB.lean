/- Two orders, the same waits and delays (plain). -/
import Derived.Test.YtcelbmpdnkaamaaBxA
namespace Go.Proofs.Ytcelbmpdnkaamaa
open Go Go.RowKit
set_option linter.unusedSimpArgs false
set_option linter.unusedVariables false

theorem Topo.not_before {ng : Nat} {fs : List Fl} {o : List Int} (h : Topo ng fs o) {k : Nat} (hk : k < o.length) : hasI (o.take k) (o.getD k 0) = false := by
  cases e : hasI (o.take k) (o.getD k 0) with
  | false => rfl
  | true =>
    obtain ⟨m, hm, e2⟩ := (hasI_take (by omega)).1 e
    have := h.inj m k (by omega) hk e2
    omega
theorem take_next {o : List Int} {k : Nat} (hk : k < o.length) (x : Int) : hasI (o.take (k + 1)) x = (hasI (o.take k) x || x == o.getD k 0) := by
  rw [Bool.eq_iff_iff, Bool.or_eq_true, hasI_take (by omega), hasI_take (by omega), beq_iff_eq]
  constructor
  · rintro ⟨m, hm, e⟩
    by_cases e2 : m = k
    · subst e2; exact Or.inr e.symm
    · exact Or.inl ⟨m, by omega, e⟩
  · rintro (⟨m, hm, e⟩ | e)
    · exact ⟨m, by omega, e⟩
    · exact ⟨k, by omega, e.symm⟩
/-- What a gate sees, in an order. -/
theorem burst_at {gs : List Ga} {fs : List Fl} (hn : NetP gs fs) {W : Int → Int} {o : List Int} (ht : Topo gs.length fs o) {k g : Nat} (hk : k < o.length) (hg : o.getD k 0 = g) {s : WDB} (hr : Reckoned gs fs W (hasI (o.take k)) s) {j : Nat} (hj : j < (thr fs g).length) :
    bOf s.bs (thr fs g) j = bAt W fs ((thr fs g).getD j 0).toNat g := by
  obtain ⟨i, e, hi, hf⟩ := thr_at hj
  unfold bOf bAt
  rw [e, Int.toNat_natCast, hr.b i hi]
  obtain ⟨h1, h2⟩ := posN_at hf
  rw [sumP_cum W fs i (posN fs i g) (pl fs i) (ht.before hi hk h1 (by rw [h2, hg])), show min (pl fs i) (posN fs i g) = posN fs i g by omega]
theorem sumN_cong {f g : Nat → Int} : ∀ {n : Nat}, (∀ j, j < n → f j = g j) → sumN f n = sumN g n
  | 0, _ => rfl
  | n + 1, h => by
    have h1 := sumN_cong (n := n) (fun j hj => h j (by omega))
    have h2 := h n (by omega)
    unfold sumN
    rw [h1, h2]
theorem waits_at {gs : List Ga} {fs : List Fl} (hn : NetP gs fs) {W : Int → Int} {o : List Int} (ht : Topo gs.length fs o) {k g : Nat} (hk : k < o.length) (hg : o.getD k 0 = g) (hgl : g < gs.length) {s : WDB} (hr : Reckoned gs fs W (hasI (o.take k)) s) :
    (waitsOf gs fs g s).getD g 0 = gateW W gs fs g := by
  have hnb := ht.not_before hk
  rw [hg] at hnb
  unfold waitsOf gateW
  by_cases h0 : 0 < (thr fs g).length
  · rw [if_pos h0, if_pos h0, getD_set, if_pos ⟨rfl, by rw [hr.wl]; exact hgl⟩]
    rw [sumN_cong (f := bOf s.bs (thr fs g)) (g := fun j => bAt W fs ((thr fs g).getD j 0).toNat g) (fun j hj => burst_at hn ht hk hg hr hj)]
  · rw [if_neg h0, if_neg h0, hr.w g hgl, hnb]; rfl
def fitW (W : Int → Int) (fs : List Fl) (g : Nat) : Bool := allR (thr fs g).length (fun j => decide (bAt W fs ((thr fs g).getD j 0).toNat g ≤ 1000000000))
theorem fit_at {gs : List Ga} {fs : List Fl} (hn : NetP gs fs) {W : Int → Int} {o : List Int} (ht : Topo gs.length fs o) {k g : Nat} (hk : k < o.length) (hg : o.getD k 0 = g) {s : WDB} (hr : Reckoned gs fs W (hasI (o.take k)) s) : fitB fs g s = fitW W fs g := by
  unfold fitB fitW
  rw [Bool.eq_iff_iff]
  constructor
  · intro h
    refine allR_good (fun j hj => ?_)
    have := allR_get h hj
    rw [burst_at hn ht hk hg hr hj] at this
    exact this
  · intro h
    refine allR_good (fun j hj => ?_)
    have := allR_get h hj
    rw [burst_at hn ht hk hg hr hj]
    exact this
/-- A run that follows given waits. -/
theorem reck_run {gs : List Ga} {fs : List Fl} (hn : NetP gs fs) {W : Int → Int} {o : List Int} (ht : Topo gs.length fs o) : ∀ k, k ≤ o.length → (∀ j, j < k → ∀ g : Nat, o.getD j 0 = g → (waitsOf gs fs g (runU gs fs o j)).getD g 0 = W g) → Reckoned gs fs W (hasI (o.take k)) (runU gs fs o k)
  | 0, _, _ => by
    have e : hasI (o.take 0) = fun _ => false := by funext x; simp [hasI]
    rw [e]; exact reck_start gs fs W
  | k + 1, hk, hw => by
    have ih := reck_run hn ht k (by omega) (fun j hj => hw j (by omega))
    obtain ⟨g, e, hg⟩ := ht.gate k (by omega)
    have hnb := ht.not_before (show k < o.length by omega)
    rw [e] at hnb
    show Reckoned gs fs W _ (stepU gs fs (o.getD k 0).toNat (runU gs fs o k))
    rw [e, Int.toNat_natCast]
    refine reck_step hn ih hg (fun x => ?_) hnb (hw k (by omega) g e)
    rw [take_next (by omega), e]
theorem reck_fix {gs : List Ga} {fs : List Fl} (hn : NetP gs fs) {W : Int → Int} (hW : ∀ g : Nat, g < gs.length → W g = gateW W gs fs g) {o : List Int} (ht : Topo gs.length fs o) : ∀ k, k ≤ o.length → Reckoned gs fs W (hasI (o.take k)) (runU gs fs o k) := by
  intro k
  induction k with
  | zero => intro h; exact reck_run hn ht 0 h (fun j hj => by omega)
  | succ k ih =>
    intro hk
    have h1 := ih (by omega)
    obtain ⟨g, e, hg⟩ := ht.gate k (by omega)
    have hnb := ht.not_before (show k < o.length by omega)
    rw [e] at hnb
    show Reckoned gs fs W _ (stepU gs fs (o.getD k 0).toNat (runU gs fs o k))
    rw [e, Int.toNat_natCast]
    refine reck_step hn h1 hg (fun x => by rw [take_next (by omega), e]) hnb ?_
    rw [waits_at hn ht (by omega) e hg h1, hW g hg]
/-- The waits that an order ends with. -/
def endW (gs : List Ga) (fs : List Fl) (o : List Int) (x : Int) : Int := (runU gs fs o o.length).ws.getD x.toNat 0
theorem later_ws {gs : List Ga} {fs : List Fl} {o : List Int} (ht : Topo gs.length fs o) {k g : Nat} (hk : k < o.length) (hg : o.getD k 0 = g) : ∀ d, k + 1 + d ≤ o.length → (runU gs fs o (k + 1 + d)).ws.getD g 0 = (runU gs fs o (k + 1)).ws.getD g 0
  | 0, _ => rfl
  | d + 1, h => by
    have ih := later_ws ht hk hg d (by omega)
    obtain ⟨g2, e2, hg2⟩ := ht.gate (k + 1 + d) (by omega)
    have hne : g ≠ g2 := fun e => by
      have := ht.inj k (k + 1 + d) hk (by omega) (by rw [hg, e2, e])
      omega
    show (stepU gs fs (o.getD (k + 1 + d) 0).toNat (runU gs fs o (k + 1 + d))).ws.getD g 0 = _
    rw [e2, Int.toNat_natCast, ← ih]
    show (waitsOf gs fs g2 _).getD g 0 = _
    unfold waitsOf
    split
    · rw [getD_set, if_neg (fun hh => hne hh.1)]
    · rfl
theorem endW_at {gs : List Ga} {fs : List Fl} {o : List Int} (ht : Topo gs.length fs o) {k g : Nat} (hk : k < o.length) (hg : o.getD k 0 = g) : (waitsOf gs fs g (runU gs fs o k)).getD g 0 = endW gs fs o g := by
  have h1 := later_ws (gs := gs) ht hk hg (o.length - (k + 1)) (by omega)
  rw [show k + 1 + (o.length - (k + 1)) = o.length by omega] at h1
  unfold endW
  rw [Int.toNat_natCast, h1]
  show _ = (stepU gs fs (o.getD k 0).toNat (runU gs fs o k)).ws.getD g 0
  rw [hg, Int.toNat_natCast]; rfl
theorem all_gates {ng : Nat} {fs : List Fl} {o : List Int} (ht : Topo ng fs o) (hl : o.length = ng) : ∀ g : Nat, g < ng → ∃ j, j < o.length ∧ o.getD j 0 = g := by
  intro g hg
  apply Classical.byContradiction
  intro hno
  have e0 : ∀ j, (hj : j < o.length) → o.getD j 0 = o[j] := fun j hj => by simp [List.getD, hj]
  have h1 := nodup_len (n := ng) (l := g :: o.map Int.toNat) (by
    rw [List.nodup_cons]
    constructor
    · intro hm
      obtain ⟨x, hx, e⟩ := List.mem_map.1 hm
      obtain ⟨j, hj, rfl⟩ := List.getElem_of_mem hx
      obtain ⟨g2, e2, _⟩ := ht.gate j hj
      rw [e0 j hj] at e2
      exact hno ⟨j, hj, by rw [e0 j hj]; omega⟩
    · rw [List.Nodup, List.pairwise_iff_getElem]
      intro i j hi hj hij
      simp at hi hj
      simp only [List.getElem_map]
      intro e
      obtain ⟨g2, e2, _⟩ := ht.gate i hi
      obtain ⟨g3, e3, _⟩ := ht.gate j hj
      rw [e0 i hi] at e2
      rw [e0 j hj] at e3
      have := ht.inj i j hi hj (by rw [e0 i hi, e0 j hj]; omega)
      omega) (fun x hx => by
    rcases List.mem_cons.1 hx with e | hm
    · omega
    · obtain ⟨y, hy, e⟩ := List.mem_map.1 hm
      obtain ⟨j, hj, rfl⟩ := List.getElem_of_mem hy
      obtain ⟨g2, e2, h2⟩ := ht.gate j hj
      rw [e0 j hj] at e2
      omega)
  simp at h1
  omega
/-- The waits of a whole order meet the equations of the waits. -/
theorem endW_fix {gs : List Ga} {fs : List Fl} (hn : NetP gs fs) {o : List Int} (ht : Topo gs.length fs o) (hl : o.length = gs.length) : ∀ g : Nat, g < gs.length → endW gs fs o g = gateW (endW gs fs o) gs fs g := by
  intro g hg
  obtain ⟨k, hk, e⟩ := all_gates ht hl g hg
  have hr := reck_run hn ht (W := endW gs fs o) k (by omega) (fun j hj g2 e2 => endW_at ht (by omega) e2)
  rw [← endW_at ht hk e, waits_at hn ht hk e hg hr]
theorem list_ext {xs ys : List Int} {n : Nat} (h1 : xs.length = n) (h2 : ys.length = n) (h : ∀ j, j < n → xs.getD j 0 = ys.getD j 0) : xs = ys := by
  apply List.ext_getElem (by omega)
  intro j hj hj2
  have := h j (by omega)
  simpa [List.getD, hj, hj2] using this
theorem fits_all {gs : List Ga} {fs : List Fl} (hn : NetP gs fs) {W : Int → Int} (hW : ∀ g : Nat, g < gs.length → W g = gateW W gs fs g) {o : List Int} (ht : Topo gs.length fs o) (hl : o.length = gs.length) :
    allR gs.length (fun j => fitB fs (o.getD j 0).toNat (runU gs fs o j)) = allR gs.length (fitW W fs) := by
  rw [Bool.eq_iff_iff]
  constructor
  · intro h
    refine allR_good (fun g hg => ?_)
    obtain ⟨k, hk, e⟩ := all_gates ht hl g hg
    have h1 := allR_get h (show k < gs.length by omega)
    try dsimp only at h1
    rw [e, Int.toNat_natCast, fit_at hn ht hk e (reck_fix hn hW ht k (by omega))] at h1
    exact h1
  · intro h
    refine allR_good (fun k hk => ?_)
    obtain ⟨g, e, hg⟩ := ht.gate k (by omega)
    try dsimp only
    rw [e, Int.toNat_natCast, fit_at hn ht (by omega) e (reck_fix hn hW ht k (by omega))]
    exact allR_get h hg
theorem same_run {gs : List Ga} {fs : List Fl} (hn : NetP gs fs) {o o2 : List Int} (ht : Topo gs.length fs o) (ht2 : Topo gs.length fs o2) (hl : o.length = gs.length) (hl2 : o2.length = gs.length) :
    (runTo gs fs o gs.length).map (fun s => (s.ws, s.ds)) = (runTo gs fs o2 gs.length).map (fun s => (s.ws, s.ds)) := by
  have hW := endW_fix hn ht hl
  rw [runTo_eq, runTo_eq, fits_all hn hW ht hl, fits_all hn hW ht2 hl2]
  split
  · have r1 := reck_fix hn hW ht gs.length (by omega)
    have r2 := reck_fix hn hW ht2 gs.length (by omega)
    have hP : ∀ (o : List Int), Topo gs.length fs o → o.length = gs.length → ∀ g : Nat, g < gs.length → hasI (o.take gs.length) g = true := fun o ht hl g hg => by
      rw [hasI_take (by omega)]
      obtain ⟨j, hj, e⟩ := all_gates ht hl g hg
      exact ⟨j, by omega, e⟩
    simp only [Option.map_some, Option.some.injEq, Prod.mk.injEq]
    constructor
    · refine list_ext r1.wl r2.wl (fun g hg => ?_)
      rw [r1.w g hg, r2.w g hg, hP o ht hl g hg, hP o2 ht2 hl2 g hg]
    · refine list_ext r1.dl r2.dl (fun i hi => ?_)
      rw [r1.d i hi, r2.d i hi]
      refine sumP_same _ fs i _ (fun m hm => ?_)
      obtain ⟨g, e, hg⟩ := (hn.ok.paths i hi).2.2 m hm
      have e' : pt fs i m = g := e
      rw [e', hP o ht hl g hg, hP o2 ht2 hl2 g hg]
  · rfl
end Go.Proofs.Ytcelbmpdnkaamaa
