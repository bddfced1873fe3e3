/- More of a flow: no wait and no delay becomes shorter (plain). -/
import Derived.Test.YtcemgfogaaobiaaBuT
namespace Go.Proofs.Ytcemgfogaaobiaa
open Go Go.RowKit
set_option linter.unusedSimpArgs false
set_option linter.unusedVariables false

/-- The same paths, and no less of anything. -/
structure More (fs fs2 : List Fl) : Prop where
  len : fs2.length = fs.length
  p : ∀ k, (flAt fs2 k).p = (flAt fs k).p
  b : ∀ k, (flAt fs k).b ≤ (flAt fs2 k).b
  r : ∀ k, (flAt fs k).r ≤ (flAt fs2 k).r
theorem More.bef {fs fs2 : List Fl} (h : More fs fs2) (ng : Nat) : ∀ k, befTo ng fs2 k = befTo ng fs k
  | 0 => rfl
  | k + 1 => by
    show incTo (befTo ng fs2 k) (flAt fs2 k).p ((flAt fs2 k).p.length - 1) = incTo (befTo ng fs k) (flAt fs k).p ((flAt fs k).p.length - 1)
    rw [h.bef ng k, h.p k]
theorem More.bhF {fs fs2 : List Fl} (h : More fs fs2) (g : Int) (k : Nat) : bhF (flAt fs2 k) g = bhF (flAt fs k) g := by unfold Proofs.Ytcemgfogaaobiaa.bhF; rw [h.p k]
theorem More.bh {fs fs2 : List Fl} (h : More fs fs2) (g : Int) (k : Nat) : bhTo fs2 g k = bhTo fs g k := by
  unfold bhTo
  congr 1
  funext i
  exact h.bhF g i
theorem More.ord {fs fs2 : List Fl} (h : More fs fs2) (ng : Nat) : ∀ i, ordTo fs2 (ord0 ng fs2) i = ordTo fs (ord0 ng fs) i
  | 0 => by
    show (befTo ng fs2 fs2.length, pick (zeroF (befTo ng fs2 fs2.length)) ng) = (befTo ng fs fs.length, pick (zeroF (befTo ng fs fs.length)) ng)
    rw [h.len, h.bef]
  | i + 1 => by
    show ordStep fs2 i (ordTo fs2 (ord0 ng fs2) i) = ordStep fs i (ordTo fs (ord0 ng fs) i)
    rw [h.ord ng i]
    unfold ordStep
    rw [h.len]
    simp only [h.bh]
theorem More.order {fs fs2 : List Fl} (h : More fs fs2) (ng : Nat) : orderL ng fs2 = orderL ng fs := by unfold orderL; rw [h.ord]
theorem More.thr {fs fs2 : List Fl} (h : More fs fs2) (g : Int) : thr fs2 g = thr fs g := by
  unfold Proofs.Ytcemgfogaaobiaa.thr thrF
  rw [h.len]
  congr 1
  funext i
  rw [h.p i]

def Le (xs ys : List Int) : Prop := xs.length = ys.length ∧ ∀ j, xs.getD j 0 ≤ ys.getD j 0
theorem Le.refl (xs : List Int) : Le xs xs := ⟨rfl, fun _ => Int.le_refl _⟩
theorem Le.set {xs ys : List Int} (h : Le xs ys) (i : Nat) {x y : Int} (hxy : x ≤ y) : Le (xs.set i x) (ys.set i y) := by
  refine ⟨by simp [h.1], fun j => ?_⟩
  rw [getD_set, getD_set]
  have := h.2 j
  have := h.1
  split <;> split <;> omega
theorem addTo_le {fs fs2 : List Fl} (h : More fs fs2) (hr : RatesAt fs) {wt wt2 dl : Int} (hw : wt ≤ wt2) (hw0 : 0 ≤ wt) {L : List Int} {b d b2 d2 : List Int} (hb : Le b b2) (hd : Le d d2) : ∀ m, Le (addTo fs wt dl L (b, d) m).1 (addTo fs2 wt2 dl L (b2, d2) m).1 ∧ Le (addTo fs wt dl L (b, d) m).2 (addTo fs2 wt2 dl L (b2, d2) m).2
  | 0 => ⟨hb, hd⟩
  | m + 1 => by
    obtain ⟨i1, i2⟩ := addTo_le h hr hw hw0 (L := L) hb hd m
    have h1 := h.r (L.getD m 0).toNat
    have h2 := (hr (L.getD m 0).toNat).1
    have h3 : (flAt fs (L.getD m 0).toNat).r * wt ≤ (flAt fs2 (L.getD m 0).toNat).r * wt2 := Int.mul_le_mul h1 hw hw0 (by omega)
    refine ⟨?_, ?_⟩
    · show Le ((addTo fs wt dl L (b, d) m).1.set _ _) ((addTo fs2 wt2 dl L (b2, d2) m).1.set _ _)
      exact i1.set _ (by have := i1.2 (L.getD m 0).toNat; omega)
    · show Le ((addTo fs wt dl L (b, d) m).2.set _ _) ((addTo fs2 wt2 dl L (b2, d2) m).2.set _ _)
      exact i2.set _ (by have := i2.2 (L.getD m 0).toNat; omega)
theorem init_le {fs fs2 : List Fl} (h : More fs fs2) : ∀ k, Le (initTo fs k) (initTo fs2 k)
  | 0 => by unfold initTo; rw [h.len]; exact Le.refl _
  | k + 1 => by
    show Le ((initTo fs k).set k _) ((initTo fs2 k).set k _)
    exact (init_le h k).set k (h.b k)
structure LeS (s s2 : WDB) : Prop where
  w : Le s.ws s2.ws
  d : Le s.ds s2.ds
  b : Le s.bs s2.bs
theorem upI_le {a a' b : Int} (h : a ≤ a') (hb : 1 ≤ b) : upI a b ≤ upI a' b := Int.ediv_le_ediv (by omega) (by omega)
theorem sumN_le2 {f g : Nat → Int} : ∀ {n : Nat}, (∀ j, j < n → f j ≤ g j) → sumN f n ≤ sumN g n
  | 0, _ => Int.le_refl _
  | n + 1, h => by
    have h1 := sumN_le2 (n := n) (fun j hj => h j (by omega))
    have h2 := h n (by omega)
    show sumN f n + f n ≤ sumN g n + g n
    omega
theorem step_le {gs : List Ga} {fs fs2 : List Fl} (h : More fs fs2) (hr : RatesAt fs) (hg : GatesOk gs) {g c : Nat} (hgl : g < gs.length) (hl : fs.length ≤ 40) {s s2 t t2 : WDB} (hs : LeS s s2) (sm : Small gs.length fs.length c s) (e : gateStep gs fs g s = some t) (e2 : gateStep gs fs2 g s2 = some t2) : LeS t t2 := by
  unfold gateStep at e e2
  split at e
  case isFalse => cases e
  split at e2
  case isFalse => cases e2
  rename_i ha ha2
  simp only [Option.some.injEq] at e e2
  have hth := h.thr (g : Int)
  have hw : Le (waitsOf gs fs g s) (waitsOf gs fs2 g s2) := by
    unfold waitsOf
    rw [hth]
    split
    · refine hs.w.set g ?_
      have h1 := sumN_le2 (f := bOf s.bs (thr fs g)) (g := bOf s2.bs (thr fs g)) (n := (thr fs g).length) (fun j _ => hs.b.2 _)
      have := upI_le h1 (hg g hgl).1
      omega
    · exact hs.w
  have hsm := waitsOf_small (gs := gs) (g := g) sm rfl hl (hg g hgl).1 (fun j hj => by simpa using allR_get ha hj)
  have hw0 := (hsm.w0 g).1
  have ht : t = _ := e.symm
  have ht2 : t2 = _ := e2.symm
  rw [hth] at ht2
  have hadd := addTo_le h hr (hw.2 g) hw0 (dl := (gaAt gs g).2) (L := thr fs g) hs.b hs.d (thr fs g).length
  rw [ht, ht2]
  exact ⟨hw, hadd.2, hadd.1⟩
theorem bounds_le {gs : List Ga} {fs fs2 : List Fl} (h : More fs fs2) (ok : NetOk gs fs) : ∀ k, k ≤ (orderL gs.length fs).length → ∀ s s2, boundsTo gs fs k = some s → boundsTo gs fs2 k = some s2 → LeS s s2
  | 0, _, s, s2, e, e2 => by
    simp only [boundsTo, Option.some.injEq] at e e2
    rw [← e, ← e2, h.len]
    exact ⟨Le.refl _, Le.refl _, init_le h _⟩
  | k + 1, hk, s, s2, e, e2 => by
    simp only [boundsTo] at e e2
    rw [h.order] at e2
    cases h1 : boundsTo gs fs k with
    | none => rw [h1] at e; cases e
    | some t =>
      cases h2 : boundsTo gs fs2 k with
      | none => rw [h2] at e2; cases e2
      | some t2 =>
        rw [h1] at e
        rw [h2] at e2
        simp only [Option.bind_some] at e e2
        have ih := bounds_le h ok k (by omega) t t2 h1 h2
        have sm := boundsTo_small ok.paths ok.nf ok.rates ok.gates ok.bursts k (by omega) t h1
        obtain ⟨g, e1, eg⟩ := (orderL_gates ok.paths ok.nf).2.2 ((orderL gs.length fs).getD k 0) (by simp only [List.getD, show k < (orderL gs.length fs).length by omega, List.getElem?_eq_getElem, Option.getD_some]; exact List.getElem_mem _)
        rw [e1] at e e2
        simp only [Int.toNat_natCast] at e e2
        exact step_le h ok.rates ok.gates eg ok.nf ih sm e e2
theorem more_le {gs : List Ga} {fs fs2 : List Fl} (h : More fs fs2) (ok : NetOk gs fs) {s s2 : WDB} (e : boundsOf gs fs = some s) (e2 : boundsOf gs fs2 = some s2) : Le s.ws s2.ws ∧ Le s.ds s2.ds := by
  unfold boundsOf at e e2
  rw [h.order] at e2
  have := bounds_le h ok _ (Nat.le_refl _) s s2 e e2
  exact ⟨this.w, this.d⟩
/-- A flow that is changed. -/
def bump (fs : List Fl) (i : Nat) (da db : Int) : List Fl := fs.set i ⟨(flAt fs i).b + da, (flAt fs i).r + db, (flAt fs i).p⟩
theorem flAt_bump {fs : List Fl} {i : Nat} (hi : i < fs.length) (da db : Int) (k : Nat) : flAt (bump fs i da db) k = if k = i then ⟨(flAt fs i).b + da, (flAt fs i).r + db, (flAt fs i).p⟩ else flAt fs k := by
  unfold bump flAt
  simp only [List.getD, List.getElem?_set]
  by_cases h : i = k
  · subst h; simp [hi]
  · have h3 : ¬ k = i := fun e => h e.symm
    simp [h, h3]
theorem bump_more {fs : List Fl} {i : Nat} (hi : i < fs.length) {da db : Int} (h1 : 0 ≤ da) (h2 : 0 ≤ db) : More fs (bump fs i da db) := by
  refine ⟨by simp [bump], fun k => ?_, fun k => ?_, fun k => ?_⟩ <;> rw [flAt_bump hi] <;> split <;> (try rename_i e; subst e) <;> simp <;> omega
end Go.Proofs.Ytcemgfogaaobiaa
