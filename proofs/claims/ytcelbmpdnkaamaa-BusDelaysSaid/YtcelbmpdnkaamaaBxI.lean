/- The reference's waits, gate by gate (plain), and its rows. -/
import Derived.Test.YtcelbmpdnkaamaaBxH
namespace Go.Proofs.Ytcelbmpdnkaamaa
open Go Go.RowKit Go.WideMaps Go.Maps
set_option linter.unusedSimpArgs false
set_option linter.unusedVariables false

theorem runTo_small {gs : List Ga} {fs : List Fl} {o : List Int} (ht : Topo gs.length fs o) (hl : fs.length ≤ 40) (hr : RatesAt fs) (hg : GatesOk gs) (hb : BurstsOk fs) : ∀ k, k ≤ o.length → ∀ s, runTo gs fs o k = some s → Small gs.length fs.length (40 * k) s
  | 0, _, s, e => by
    simp only [runTo, Option.some.injEq] at e
    subst e
    refine ⟨by simp [start0], by simp [start0], initTo_len _ _, fun j => ?_, fun j => ?_, fun j hj => ?_, fun j => ?_⟩
    · simp [start0, List.getD, List.getElem?_replicate]; split <;> simp
    · simp [start0, List.getD, List.getElem?_replicate]; split <;> simp
    · show 1 ≤ (initTo fs fs.length).getD j 0
      rw [initTo_at fs fs.length (Nat.le_refl _) j hj]; exact (hb j hj).1
    · show (initTo fs fs.length).getD j 0 ≤ _
      by_cases hj : j < fs.length
      · rw [initTo_at fs fs.length (Nat.le_refl _) j hj]; have := (hb j hj).2; omega
      · have : (initTo fs fs.length).getD j 0 = 0 := by
          have := initTo_len fs fs.length
          simp [List.getD, List.getElem?_eq_none (show (initTo fs fs.length).length ≤ j by omega)]
        rw [this]; omega
  | k + 1, hk, s, e => by
    simp only [runTo] at e
    cases h1 : runTo gs fs o k with
    | none => rw [h1] at e; cases e
    | some t =>
      rw [h1] at e
      simp only [Option.bind_some] at e
      have ih := runTo_small ht hl hr hg hb k (by omega) t h1
      obtain ⟨g, e1, e2⟩ := ht.gate k (by omega)
      rw [e1] at e
      simp only [Int.toNat_natCast] at e
      unfold gateStep at e
      split at e
      · rename_i ha
        simp only [Option.some.injEq] at e
        subst e
        have ha2 : ∀ j, j < (thr fs g).length → bOf t.bs (thr fs g) j ≤ 1000000000 := fun j hj => by simpa using allR_get ha hj
        have h3 := hg g e2
        have h2 := waitsOf_small (gs := gs) (g := g) ih rfl hl h3.1 ha2
        have h4 := h2.w0 g
        have h5 := addTo_small (L := thr fs g) h2 hr h4 ⟨by omega, h3.2.2.2⟩ (thr fs g).length
        have h6 := thr_len fs g
        exact h5.mono (by omega)
      · cases e
theorem runTo_none {gs : List Ga} {fs : List Fl} {o : List Int} {k : Nat} (h : runTo gs fs o k = none) : ∀ d, runTo gs fs o (k + d) = none
  | 0 => h
  | d + 1 => by
    show (runTo gs fs o (k + d)).bind _ = none
    rw [runTo_none h d]; rfl
theorem addTo_app (fs : List Fl) (wt dl : Int) (L : List Int) (x : Int) (s : LL) : ∀ m, m ≤ L.length → addTo fs wt dl (L ++ [x]) s m = addTo fs wt dl L s m
  | 0, _ => rfl
  | m + 1, h => by
    show ((addTo fs wt dl (L ++ [x]) s m).1.set ((L ++ [x]).getD m 0).toNat ((addTo fs wt dl (L ++ [x]) s m).1.getD ((L ++ [x]).getD m 0).toNat 0 + (flAt fs ((L ++ [x]).getD m 0).toNat).r * wt), (addTo fs wt dl (L ++ [x]) s m).2.set ((L ++ [x]).getD m 0).toNat ((addTo fs wt dl (L ++ [x]) s m).2.getD ((L ++ [x]).getD m 0).toNat 0 + (dl + wt))) = _
    rw [addTo_app fs wt dl L x s m (by omega), getD_app, if_pos (by omega)]
    rfl
/-- What the first m flows, those of gate g among them, have got. -/
def addP (fs : List Fl) (wt dl : Int) (g : Nat) (s : LL) (m : Nat) : LL := addTo fs wt dl (pick (thrF fs g) m) s (pick (thrF fs g) m).length
theorem addP_no {fs : List Fl} {wt dl : Int} {g : Nat} {s : LL} {m : Nat} (h : thrF fs g m = false) : addP fs wt dl g s (m + 1) = addP fs wt dl g s m := by
  unfold addP; rw [pick_no h]
theorem addP_yes {fs : List Fl} {wt dl : Int} {g : Nat} {s : LL} {m : Nat} (h : thrF fs g m = true) : addP fs wt dl g s (m + 1) = ((addP fs wt dl g s m).1.set m ((addP fs wt dl g s m).1.getD m 0 + (flAt fs m).r * wt), (addP fs wt dl g s m).2.set m ((addP fs wt dl g s m).2.getD m 0 + (dl + wt))) := by
  unfold addP
  rw [pick_yes h, List.length_append, List.length_singleton]
  generalize hL : pick (thrF fs g) m = L
  show ((addTo fs wt dl (L ++ [(m : Int)]) s L.length).1.set ((L ++ [(m : Int)]).getD L.length 0).toNat ((addTo fs wt dl (L ++ [(m : Int)]) s L.length).1.getD ((L ++ [(m : Int)]).getD L.length 0).toNat 0 + (flAt fs ((L ++ [(m : Int)]).getD L.length 0).toNat).r * wt), (addTo fs wt dl (L ++ [(m : Int)]) s L.length).2.set ((L ++ [(m : Int)]).getD L.length 0).toNat ((addTo fs wt dl (L ++ [(m : Int)]) s L.length).2.getD ((L ++ [(m : Int)]).getD L.length 0).toNat 0 + (dl + wt))) = _
  rw [addTo_app fs wt dl L _ s _ (Nat.le_refl _), getD_app, if_neg (by omega), if_pos rfl, Int.toNat_natCast]
theorem addP_small {ng nf c : Nat} {fs : List Fl} {s : WDB} {wt dl : Int} {g : Nat} (h : Small ng nf c s) (hr : RatesAt fs) (hw : 0 ≤ wt ∧ wt ≤ 40000000000) (hd : 0 ≤ dl ∧ dl ≤ 1000) (m : Nat) : Small ng nf (c + m) ⟨s.ws, (addP fs wt dl g (s.bs, s.ds) m).2, (addP fs wt dl g (s.bs, s.ds) m).1⟩ := by
  have h1 := addTo_small (L := pick (thrF fs g) m) h hr hw hd (pick (thrF fs g) m).length
  have h2 := pick_len (thrF fs g) m
  exact h1.mono (by omega)
def bIf (fs : List Fl) (bs : List Int) (g i : Nat) : Int := if thrF fs g i = true then bs.getD i 0 else 0
theorem sum_b (fs : List Fl) (bs : List Int) (g : Nat) : sumN (bOf bs (thr fs g)) (thr fs g).length = sumN (bIf fs bs g) fs.length := sum_pick (thrF fs g) (fun i => bs.getD i 0) fs.length
theorem fit_all {fs : List Fl} {s : WDB} {g : Nat} (h : ∀ i, i < fs.length → thrF fs g i = true → s.bs.getD i 0 ≤ 1000000000) : ∀ j, j < (thr fs g).length → bOf s.bs (thr fs g) j ≤ 1000000000 := fun j hj => by
  obtain ⟨i, e, hi, ht⟩ := thr_at hj
  unfold bOf
  rw [e, Int.toNat_natCast]
  exact h i hi ht
theorem step_over {gs : List Ga} {fs : List Fl} {s : WDB} {g i : Nat} (hi : i < fs.length) (ht : thrF fs g i = true) (hb : ¬ s.bs.getD i 0 ≤ 1000000000) : gateStep gs fs g s = none := by
  obtain ⟨j, hj, e⟩ : ∃ j, j < (thr fs g).length ∧ (thr fs g).getD j 0 = i := (pick_mem (f := thrF fs g)).2 ⟨hi, ht⟩
  rw [gateStep_eq, if_neg]
  unfold fitB
  rw [allR_bad (k := j) hj (decide_eq_false (by unfold bOf; rw [e, Int.toNat_natCast]; exact hb))]
  simp
/-- One gate, as the reference reckons it. -/
theorem step_ref {gs : List Ga} {fs : List Fl} {s : WDB} {g : Nat} (hfit : ∀ j, j < (thr fs g).length → bOf s.bs (thr fs g) j ≤ 1000000000) :
    gateStep gs fs g s = some ⟨waitsOf gs fs g s, (addP fs ((waitsOf gs fs g s).getD g 0) (gaAt gs g).2 g (s.bs, s.ds) fs.length).2, (addP fs ((waitsOf gs fs g s).getD g 0) (gaAt gs g).2 g (s.bs, s.ds) fs.length).1⟩ := by
  rw [gateStep_eq, if_pos (show fitB fs g s = true from allR_good (fun j hj => by simpa using hfit j hj))]
  rfl
theorem step_idle {gs : List Ga} {fs : List Fl} {s : WDB} {g : Nat} (h0 : (thr fs g).length = 0) : gateStep gs fs g s = some s := by
  rw [gateStep_eq, if_pos (show fitB fs g s = true from allR_good (fun j hj => by omega))]
  unfold stepU waitsOf
  rw [if_neg (by omega), h0]
  rfl
/-- What the reference returns is what the program returns. -/
theorem same_end {gs : List Ga} {fs : List Fl} (h : netErr gs fs = 0) : ∃ o, refOrd gs.length fs gs.length = some o ∧ Topo gs.length fs o ∧ o.length = gs.length ∧
    (runTo gs fs o gs.length = none → boundsOf gs fs = none) ∧ ∀ s, runTo gs fs o gs.length = some s → ∃ s2, boundsOf gs fs = some s2 ∧ s2.ws = s.ws ∧ s2.ds = s.ds := by
  have hb : netB gs fs = true := by
    unfold netErr at h
    split at h
    · assumption
    · cases h
  have hn := netB_p hb
  have hle := (orderL_gates hn.ok.paths hn.ok.nf).1
  have hfull : (orderL gs.length fs).length = gs.length := by
    unfold netErr at h
    rw [if_pos hb] at h
    split at h
    · cases h
    · omega
  obtain ⟨o, ho⟩ := (both_whole hn).1 hfull
  obtain ⟨ht, hol⟩ := refOrd_topo _ _ ho
  have hs := same_run hn (orderL_topo hn) ht hfull hol
  have hbo : boundsOf gs fs = runTo gs fs (orderL gs.length fs) gs.length := by
    unfold boundsOf
    rw [bounds_run, hfull]
  rw [← hbo] at hs
  refine ⟨o, ho, ht, hol, fun h1 => ?_, fun s h1 => ?_⟩
  · rw [h1] at hs
    simpa using hs
  · rw [h1] at hs
    cases h2 : boundsOf gs fs with
    | none => rw [h2] at hs; cases hs
    | some s2 =>
      rw [h2] at hs
      simp only [Option.map_some, Option.some.injEq, Prod.mk.injEq] at hs
      exact ⟨s2, rfl, hs.1, hs.2⟩

/-! ### Rows -/
theorem OwnI.row {w : World} {B : Nat} {a : Option Addr} {c : Nat} {xs : List Int} (h : OwnI w B a c xs) (h0 : 0 < xs.length) : ∃ g, a = some ⟨g, 0, none⟩ ∧ IRow w B g xs.length c xs := by
  have h1 : w.ownsRow B 3 1 (.slice a xs.length c) xs.length (xs.map encI) := h
  rcases h1.2 with ⟨e1, e2⟩ | ⟨g, cap, cur, e1, e2⟩
  · simp only [Value.slice.injEq] at e1; omega
  · simp only [Value.slice.injEq] at e1
    obtain ⟨rfl, -, rfl⟩ := e1
    exact ⟨g, rfl, IRow.mk h1⟩
theorem OwnI.put {w : World} {B g c : Nat} {xs : List Int} (h : OwnI w B (some ⟨g, 0, none⟩) c xs) (j : Nat) (x : Int) : OwnI (w.setCell ⟨g, j, none⟩ (.int .i64 x)) B (some ⟨g, 0, none⟩) c (xs.set j x) := by
  have h1 : IRow w B g xs.length c xs := IRow.mk h
  have h2 := (h1.set j x).row
  unfold OwnI
  rw [List.length_set]
  exact h2
theorem OwnI.other {w : World} {B : Nat} {a : Option Addr} {c : Nat} {xs : List Int} (h : OwnI w B a c xs) {g j : Nat} (hg : ∀ p, a = some p → p.block ≠ g) (v : Value) : OwnI (w.setCell ⟨g, j, none⟩ v) B a c xs := by
  have h0 : w.ownsRow B 3 1 (.slice a xs.length c) xs.length (xs.map encI) := h
  refine ownsRow_of_block h0 (fun k e => ?_)
  have hk : k ≠ g := by
    cases a with
    | none => simp [Value.ownBlock] at e
    | some p =>
      have := hg p rfl
      simp [Value.ownBlock] at e
      omega
  exact Below.heap_setCell _ _ _ _ hk
structure RInv (wr : World) (B gw gd ng nf : Nat) (ba : Option Addr) (cb : Nat) (s : WDB) (ao : Option Addr) (os : List Int) : Prop where
  rw : IRow wr B gw ng ng s.ws
  rd : IRow wr B gd nf nf s.ds
  rb : OwnI wr B ba cb s.bs
  n1 : gw ≠ gd
  nb : ∀ p, ba = some p → p.block ≠ gw ∧ p.block ≠ gd
  io : IntsAt wr ao os
  so : ∀ p, ao = some p → p.block ≠ gw ∧ p.block ≠ gd ∧ (∀ q, ba = some q → p.block ≠ q.block)
theorem RInv.kp {wr w' : World} {B gw gd ng nf : Nat} {ba : Option Addr} {cb : Nat} {s : WDB} {ao : Option Addr} {os : List Int} (h : RInv wr B gw gd ng nf ba cb s ao os) (k : Kp wr w') : RInv w' B gw gd ng nf ba cb s ao os :=
  ⟨h.rw.kp k, h.rd.kp k, h.rb.kp k, h.n1, h.nb, h.io.kp k, h.so⟩
theorem RInv.setW {wr : World} {B gw gd ng nf : Nat} {ba : Option Addr} {cb : Nat} {s : WDB} {ao : Option Addr} {os : List Int} (h : RInv wr B gw gd ng nf ba cb s ao os) (j : Nat) (x : Int) : RInv (wr.setCell ⟨gw, j, none⟩ (.int .i64 x)) B gw gd ng nf ba cb ⟨s.ws.set j x, s.ds, s.bs⟩ ao os :=
  ⟨h.rw.set j x, h.rd.other h.n1.symm _, h.rb.other (fun p e => (h.nb p e).1) _, h.n1, h.nb, ints_set h.io (fun p e => (h.so p e).1) _, h.so⟩
theorem RInv.setD {wr : World} {B gw gd ng nf : Nat} {ba : Option Addr} {cb : Nat} {s : WDB} {ao : Option Addr} {os : List Int} (h : RInv wr B gw gd ng nf ba cb s ao os) (j : Nat) (x : Int) : RInv (wr.setCell ⟨gd, j, none⟩ (.int .i64 x)) B gw gd ng nf ba cb ⟨s.ws, s.ds.set j x, s.bs⟩ ao os :=
  ⟨h.rw.other h.n1 _, h.rd.set j x, h.rb.other (fun p e => (h.nb p e).2) _, h.n1, h.nb, ints_set h.io (fun p e => (h.so p e).2.1) _, h.so⟩
theorem RInv.setB {wr : World} {B gw gd ng nf gb : Nat} {cb : Nat} {s : WDB} {ao : Option Addr} {os : List Int} (h : RInv wr B gw gd ng nf (some ⟨gb, 0, none⟩) cb s ao os) (j : Nat) (x : Int) : RInv (wr.setCell ⟨gb, j, none⟩ (.int .i64 x)) B gw gd ng nf (some ⟨gb, 0, none⟩) cb ⟨s.ws, s.ds, s.bs.set j x⟩ ao os :=
  ⟨h.rw.other (h.nb _ rfl).1.symm _, h.rd.other (h.nb _ rfl).2.symm _, h.rb.put j x, h.n1, h.nb, ints_set h.io (fun p e => (h.so p e).2.2 _ rfl) _, h.so⟩
/-- The bursts of the first k flows. -/
def bL (fs : List Fl) (k : Nat) : List Int := (List.range k).map (fun i => (flAt fs i).b)
theorem bL_len (fs : List Fl) (k : Nat) : (bL fs k).length = k := by simp [bL]
theorem bL_step (fs : List Fl) (k : Nat) : bL fs (k + 1) = bL fs k ++ [(flAt fs k).b] := by
  unfold bL; rw [List.range_succ, List.map_append]; rfl
theorem bL_init (fs : List Fl) : bL fs fs.length = initTo fs fs.length := list_ext (bL_len _ _) (initTo_len _ _) (fun j hj => by
  rw [initTo_at fs fs.length (Nat.le_refl _) j hj]
  simp [bL, List.getD, hj])
end Go.Proofs.Ytcelbmpdnkaamaa
