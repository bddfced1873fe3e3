/- Waits and delays, gate by gate (plain); a make in a region that draws. -/
import Derived.Test.YtcelbmpdnkaamaaBuJ
import Derived.Test.YtcelbmpdnkaamaaBuH
namespace Go.Proofs.Ytcelbmpdnkaamaa
open Go Go.RowKit Go.WideMaps Go.Maps
set_option linter.unusedSimpArgs false
set_option linter.unusedVariables false

theorem step_make_full {P : Program} (w : World) {ops : Array Oper} {o : Oper} {a : Act} {K : Act → World → Prop} {Q : Exit → Act → World → Prop} {E : Prop}
    (hg : o.guard = none) (l c : Operand) (t : TypeId) (hop : o.op = Op.makeSlice t l c)
    (base : Nat) (e : TypeId) (i : TypeInfo) (z : Value) (size : Nat) (h1 : P.underlying t = some (.slice e)) (h2 : P.info? e = some i) (h3 : i.zero = some z) (h4 : i.size = size)
    (kl kc : IntKind) (L C : Int) (n : Nat) (hl : a.eval l = .int kl L) (hc : a.eval c = .int kc C) (hL : L = (n : Int)) (hC : C = (n : Int)) (b2 : i.bytes * n ≤ 281474976710656) (b3 : n ≤ maxLen) (b4 : base ≤ w.heap.size)
    (hK : ∀ w', w'.ownsRow base e size (.slice (some ⟨w.heap.size, 0, none⟩) n n) n (madeCells z.cells (n * size)).toList → w.grownBy w' none → K (a.put o.dst (.slice (some ⟨w.heap.size, 0, none⟩) n n)) w') :
    if Region.wanted o (yielded ops a.tmps) = true then Oper.wp P o a w K Q else E := by
  have hw : Region.wanted o (yielded ops a.tmps) = true := by simp [Region.wanted, hg]
  rw [if_pos hw]
  obtain ⟨w', hrun, r1, r2⟩ := run_make_full (P := P) w base t e i z size h1 h2 h3 h4 kl kc n b2 b3 b4
  subst hL
  subst hC
  unfold Oper.wp
  simp [execOp, hop, hl, hc, hrun, Result.andThen]
  exact hK w' r1 r2
theorem grown_kp {w w' : World} (hg : w.grownBy w' none) : Kp w w' := (Keeps.refl (fun _ => False) w).grown hg (fun k e => by cases e)

def initTo (fs : List Fl) : Nat → List Int
  | 0 => List.replicate fs.length 0
  | k + 1 => (initTo fs k).set k (flAt fs k).b
theorem initTo_len (fs : List Fl) : ∀ k, (initTo fs k).length = fs.length
  | 0 => by simp [initTo]
  | k + 1 => by simp [initTo, initTo_len fs k]
theorem initTo_at (fs : List Fl) : ∀ k, k ≤ fs.length → ∀ j, j < k → (initTo fs k).getD j 0 = (flAt fs j).b
  | 0, _, j, hj => by omega
  | k + 1, hk, j, hj => by
    have e : initTo fs (k + 1) = (initTo fs k).set k (flAt fs k).b := rfl
    rw [e, getD_set]
    have hl := initTo_len fs k
    split
    · rename_i h; rw [h.1]
    · rename_i h
      exact initTo_at fs k (by omega) j (by omega)

abbrev LL := List Int × List Int
/-- What the flows of a gate get: bursts and delays. -/
def addTo (fs : List Fl) (wt dl : Int) (L : List Int) (s : LL) : Nat → LL
  | 0 => s
  | m + 1 => ((addTo fs wt dl L s m).1.set (L.getD m 0).toNat ((addTo fs wt dl L s m).1.getD (L.getD m 0).toNat 0 + (flAt fs (L.getD m 0).toNat).r * wt), (addTo fs wt dl L s m).2.set (L.getD m 0).toNat ((addTo fs wt dl L s m).2.getD (L.getD m 0).toNat 0 + (dl + wt)))
def bOf (bs L : List Int) (j : Nat) : Int := bs.getD (L.getD j 0).toNat 0
structure WDB where
  ws : List Int
  ds : List Int
  bs : List Int
def waitsOf (gs : List Ga) (fs : List Fl) (g : Nat) (s : WDB) : List Int := if 0 < (thr fs g).length then s.ws.set g (upI (sumN (bOf s.bs (thr fs g)) (thr fs g).length) (gaAt gs g).1 - 1) else s.ws
def gateStep (gs : List Ga) (fs : List Fl) (g : Nat) (s : WDB) : Option WDB :=
  if allR (thr fs g).length (fun j => decide (bOf s.bs (thr fs g) j ≤ 1000000000)) = true then
    some ⟨waitsOf gs fs g s, (addTo fs ((waitsOf gs fs g s).getD g 0) (gaAt gs g).2 (thr fs g) (s.bs, s.ds) (thr fs g).length).2, (addTo fs ((waitsOf gs fs g s).getD g 0) (gaAt gs g).2 (thr fs g) (s.bs, s.ds) (thr fs g).length).1⟩
  else none
def boundsTo (gs : List Ga) (fs : List Fl) : Nat → Option WDB
  | 0 => some ⟨List.replicate gs.length 0, List.replicate fs.length 0, initTo fs fs.length⟩
  | k + 1 => (boundsTo gs fs k).bind (gateStep gs fs ((orderL gs.length fs).getD k 0).toNat)
def boundsOf (gs : List Ga) (fs : List Fl) : Option WDB := boundsTo gs fs (orderL gs.length fs).length

/-- Numbers that need no more than 64 bits. -/
structure Small (ng nf : Nat) (c : Nat) (s : WDB) : Prop where
  wl : s.ws.length = ng
  dl : s.ds.length = nf
  bl : s.bs.length = nf
  w0 : ∀ j, 0 ≤ s.ws.getD j 0 ∧ s.ws.getD j 0 ≤ 40000000000
  d0 : ∀ j, 0 ≤ s.ds.getD j 0 ∧ s.ds.getD j 0 ≤ c * 50000000000
  b1 : ∀ j, j < nf → 1 ≤ s.bs.getD j 0
  b0 : ∀ j, s.bs.getD j 0 ≤ 100000 + c * 400000000000000
theorem mul_small {r wt : Int} (h1 : 0 ≤ r) (h2 : r ≤ 10000) (h3 : 0 ≤ wt) (h4 : wt ≤ 40000000000) : 0 ≤ r * wt ∧ r * wt ≤ 400000000000000 := by
  refine ⟨Int.mul_nonneg h1 h3, ?_⟩
  have : r * wt ≤ 10000 * 40000000000 := Int.mul_le_mul h2 h4 h3 (by omega)
  omega
def RatesAt (fs : List Fl) : Prop := ∀ k, 0 ≤ (flAt fs k).r ∧ (flAt fs k).r ≤ 10000
theorem addTo_small {ng nf c : Nat} {fs : List Fl} {s : WDB} {wt dl : Int} {L : List Int} (h : Small ng nf c s) (hr : RatesAt fs) (hw : 0 ≤ wt ∧ wt ≤ 40000000000) (hd : 0 ≤ dl ∧ dl ≤ 1000) : ∀ m, Small ng nf (c + m) ⟨s.ws, (addTo fs wt dl L (s.bs, s.ds) m).2, (addTo fs wt dl L (s.bs, s.ds) m).1⟩
  | 0 => by simpa [addTo] using h
  | m + 1 => by
    have ih := addTo_small (L := L) h hr hw hd m
    have h1 := hr (L.getD m 0).toNat
    have h2 := mul_small h1.1 h1.2 hw.1 hw.2
    generalize hx : (flAt fs (L.getD m 0).toNat).r * wt = x at *
    have e1 : (addTo fs wt dl L (s.bs, s.ds) (m + 1)).1 = (addTo fs wt dl L (s.bs, s.ds) m).1.set (L.getD m 0).toNat ((addTo fs wt dl L (s.bs, s.ds) m).1.getD (L.getD m 0).toNat 0 + x) := by rw [← hx]; rfl
    have e2 : (addTo fs wt dl L (s.bs, s.ds) (m + 1)).2 = (addTo fs wt dl L (s.bs, s.ds) m).2.set (L.getD m 0).toNat ((addTo fs wt dl L (s.bs, s.ds) m).2.getD (L.getD m 0).toNat 0 + (dl + wt)) := rfl
    have l1 := ih.bl
    have l2 := ih.dl
    have hb0 := ih.b0
    have hb1 := ih.b1
    have hd0 := ih.d0
    dsimp only at l1 l2 hb0 hb1 hd0
    have ec : ((c + (m + 1) : Nat) : Int) = ((c + m : Nat) : Int) + 1 := by omega
    have ecn : c + (m + 1) = c + m + 1 := by omega
    refine ⟨ih.wl, ?_, ?_, ih.w0, fun j => ?_, fun j hj => ?_, fun j => ?_⟩
    · dsimp only; rw [e2, List.length_set]; exact l2
    · dsimp only; rw [e1, List.length_set]; exact l1
    · dsimp only; rw [e2, getD_set]
      have a1 := hd0 j
      have a2 := hd0 (L.getD m 0).toNat
      split <;> omega
    · dsimp only; rw [e1, getD_set]
      have a1 := hb1 j hj
      split
      · rename_i h5; have := h5.1; rw [← this]; omega
      · exact a1
    · dsimp only; rw [e1, getD_set]
      have a1 := hb0 j
      have a2 := hb0 (L.getD m 0).toNat
      split <;> omega
theorem upI_bd {s r : Int} (h1 : 1 ≤ s) (h2 : s ≤ 40000000000) (h3 : 1 ≤ r) : 0 ≤ upI s r - 1 ∧ upI s r - 1 ≤ 40000000000 := by
  unfold upI
  have e1 : 1 ≤ (s + r - 1) / r := by rw [Int.le_ediv_iff_mul_le (by omega)]; omega
  have e2 : (s + r - 1) / r ≤ s := by
    apply Int.ediv_le_of_le_mul (by omega)
    have := Int.mul_le_mul_of_nonneg_left (show (1 : Int) ≤ r from h3) (show 0 ≤ s - 1 by omega)
    have e : s * r = (s - 1) * r + r := by rw [Int.sub_mul]; omega
    rw [e]; omega
  omega
theorem thr_at {fs : List Fl} {g : Int} {j : Nat} (hj : j < (thr fs g).length) : ∃ i : Nat, (thr fs g).getD j 0 = i ∧ i < fs.length ∧ thrF fs g i = true := pick_at hj
theorem thr_len (fs : List Fl) (g : Int) : (thr fs g).length ≤ fs.length := pick_len _ _
theorem sumB_bd {ng nf c : Nat} {fs : List Fl} {s : WDB} {g : Int} (h : Small ng nf c s) (hf : fs.length = nf) (hl : nf ≤ 40) (ha : ∀ j, j < (thr fs g).length → bOf s.bs (thr fs g) j ≤ 1000000000) : ∀ n, n ≤ (thr fs g).length → 0 ≤ sumN (bOf s.bs (thr fs g)) n ∧ sumN (bOf s.bs (thr fs g)) n ≤ 40000000000 ∧ (0 < n → 1 ≤ sumN (bOf s.bs (thr fs g)) n) := by
  intro n hn
  have hb : ∀ j, j < n → 0 ≤ bOf s.bs (thr fs g) j ∧ bOf s.bs (thr fs g) j ≤ 1000000000 := fun j hj => by
    obtain ⟨i, e, hi, _⟩ := thr_at (fs := fs) (g := g) (j := j) (by omega)
    have h1 := h.b1 i (by omega)
    have e2 : bOf s.bs (thr fs g) j = s.bs.getD i 0 := by unfold bOf; rw [e]; rfl
    exact ⟨by rw [e2]; omega, ha j (by omega)⟩
  have h1 := sumN_le hb
  have h2 := thr_len fs g
  refine ⟨h1.1, by omega, fun h0 => ?_⟩
  obtain ⟨n', rfl⟩ : ∃ n', n = n' + 1 := ⟨n - 1, by omega⟩
  have h3 := sumN_le (n := n') (fun j hj => hb j (by omega))
  obtain ⟨i, e, hi, _⟩ := thr_at (fs := fs) (g := g) (j := n') (by omega)
  have h4 := h.b1 i (by omega)
  have e2 : bOf s.bs (thr fs g) n' = s.bs.getD i 0 := by unfold bOf; rw [e]; rfl
  have e3 : sumN (bOf s.bs (thr fs g)) (n' + 1) = sumN (bOf s.bs (thr fs g)) n' + bOf s.bs (thr fs g) n' := rfl
  omega
theorem waitsOf_small {ng nf c : Nat} {gs : List Ga} {fs : List Fl} {s : WDB} {g : Nat} (h : Small ng nf c s) (hf : fs.length = nf) (hl : nf ≤ 40) (hg : 1 ≤ (gaAt gs g).1) (ha : ∀ j, j < (thr fs g).length → bOf s.bs (thr fs g) j ≤ 1000000000) : Small ng nf c ⟨waitsOf gs fs g s, s.ds, s.bs⟩ := by
  unfold waitsOf
  split
  · rename_i h0
    have h1 := sumB_bd h hf hl ha _ (Nat.le_refl _)
    have h2 := upI_bd (h1.2.2 h0) h1.2.1 hg
    refine ⟨by dsimp only; rw [List.length_set]; exact h.wl, h.dl, h.bl, fun j => ?_, h.d0, h.b1, h.b0⟩
    dsimp only
    rw [getD_set]
    have := h.w0 j
    split <;> omega
  · exact h
def GatesOk (gs : List Ga) : Prop := ∀ k, k < gs.length → 1 ≤ (gaAt gs k).1 ∧ (gaAt gs k).1 ≤ 10000 ∧ 1 ≤ (gaAt gs k).2 ∧ (gaAt gs k).2 ≤ 1000
def BurstsOk (fs : List Fl) : Prop := ∀ k, k < fs.length → 1 ≤ (flAt fs k).b ∧ (flAt fs k).b ≤ 100000
theorem Small.mono {ng nf c c' : Nat} {s : WDB} (h : Small ng nf c s) (hc : c ≤ c') : Small ng nf c' s := by
  refine ⟨h.wl, h.dl, h.bl, h.w0, fun j => ?_, h.b1, fun j => ?_⟩
  · have := h.d0 j; omega
  · have := h.b0 j; omega
theorem boundsTo_small {gs : List Ga} {fs : List Fl} (hp : PathsOk gs.length fs) (hl : fs.length ≤ 40) (hr : RatesAt fs) (hg : GatesOk gs) (hb : BurstsOk fs) : ∀ k, k ≤ (orderL gs.length fs).length → ∀ s, boundsTo gs fs k = some s → Small gs.length fs.length (40 * k) s
  | 0, _, s, e => by
    simp only [boundsTo, Option.some.injEq] at e
    subst e
    refine ⟨by simp, by simp, initTo_len _ _, fun j => ?_, fun j => ?_, fun j hj => ?_, fun j => ?_⟩
    · simp [List.getD, List.getElem?_replicate]; split <;> simp
    · simp [List.getD, List.getElem?_replicate]; split <;> simp
    · dsimp only; rw [initTo_at fs fs.length (Nat.le_refl _) j hj]; exact (hb j hj).1
    · dsimp only
      by_cases hj : j < fs.length
      · rw [initTo_at fs fs.length (Nat.le_refl _) j hj]; have := (hb j hj).2; omega
      · have : (initTo fs fs.length).getD j 0 = 0 := by
          have := initTo_len fs fs.length
          simp [List.getD, List.getElem?_eq_none (show (initTo fs fs.length).length ≤ j by omega)]
        rw [this]; omega
  | k + 1, hk, s, e => by
    simp only [boundsTo] at e
    cases h1 : boundsTo gs fs k with
    | none => rw [h1] at e; cases e
    | some t =>
      rw [h1] at e
      simp only [Option.bind_some] at e
      have ih := boundsTo_small hp hl hr hg hb k (by omega) t h1
      obtain ⟨g, e1, e2⟩ := (orderL_gates hp hl).2.2 ((orderL gs.length fs).getD k 0) (by simp only [List.getD, show k < (orderL gs.length fs).length by omega, List.getElem?_eq_getElem, Option.getD_some]; exact List.getElem_mem _)
      rw [e1] at e
      simp only [Int.toNat_natCast] at e
      unfold gateStep at e
      split at e
      · rename_i ha
        simp only [Option.some.injEq] at e
        subst e
        have ha2 : ∀ j, j < (thr fs g).length → bOf t.bs (thr fs g) j ≤ 1000000000 := fun j hj => by simpa using allR_get ha hj
        have h3 := hg g e2
        have h2 := waitsOf_small (gs := gs) (g := g) ih rfl hl h3.1 ha2
        have h4 := h2.w0 g
        have h5 := addTo_small (L := thr fs g) h2 hr h4 ⟨by omega, h3.2.2.2⟩ (thr fs g).length
        have h6 := thr_len fs g
        exact h5.mono (by omega)
      · cases e
end Go.Proofs.Ytcelbmpdnkaamaa
