/- The walk of BusMore. -/
import Derived.Test.YtcemgfogaaobiaaBuU
namespace Go.Proofs.Ytcemgfogaaobiaa
open Go Go.RowKit Go.WideMaps Go.Maps
set_option linter.unusedSimpArgs false
set_option linter.unusedVariables false

theorem infoFlow : (Try.prog.info? 57).map (fun i => (i.zero, i.size, i.bytes)) = some (some (.agg #[.int .i64 0, .int .i64 0, .slice none 0 0]), 3, 40) := by kernel_rfl
def cellOr (w : World) (a : Addr) : Value := (w.cell? a).getD (.bool false)
/-- A row of flows of the call's own. -/
structure FRow (w : World) (B g n : Nat) (fs : List Fl) : Prop where
  lt : B ≤ g ∧ g < w.heap.size
  nl : fs.length = n
  fz : ∀ j, w.frozen? ⟨g, j, none⟩ = false
  cells : ∀ k, k < n → w.cell? ⟨g, k * 3, none⟩ = some (.int .i64 (flAt fs k).b) ∧ w.cell? ⟨g, k * 3 + 1, none⟩ = some (.int .i64 (flAt fs k).r) ∧ ∃ a c, w.cell? ⟨g, k * 3 + 2, none⟩ = some (.slice a (flAt fs k).p.length c) ∧ IntsAt w a (flAt fs k).p ∧ (flAt fs k).p.length ≤ c ∧ c ≤ maxLen ∧ ∀ q, a = some q → 0 < (flAt fs k).p.length → q.block < B
theorem FRow.flows {w : World} {B g n : Nat} {fs : List Fl} (h : FRow w B g n fs) (hl : n ≤ maxLen) : FlowsAt w (some ⟨g, 0, none⟩) fs := by
  have hn := h.nl
  refine ⟨by omega, fun _ => ⟨g, 0, rfl, fun k hk => ?_⟩⟩
  rw [Nat.zero_add]
  obtain ⟨h1, h2, a, c, h3, h4, h5, h6, _⟩ := h.cells k (by omega)
  exact ⟨h1, h2, a, c, h3, h4, h5, h6⟩
theorem FRow.kp {w w' : World} {B g n : Nat} {fs : List Fl} (h : FRow w B g n fs) (k : Kp w w') : FRow w' B g n fs := by
  refine ⟨⟨h.lt.1, Nat.lt_of_lt_of_le h.lt.2 k.size⟩, h.nl, fun j => (Keeps.frozen k h.lt.2 (fun e => e)).trans (h.fz j), fun i hi => ?_⟩
  obtain ⟨h1, h2, a, c, h3, h4, h5, h6, h7⟩ := h.cells i hi
  exact ⟨k.cell h1, k.cell h2, a, c, k.cell h3, h4.kp k, h5, h6, h7⟩
theorem FRow.set {w : World} {B g n : Nat} {fs : List Fl} (h : FRow w B g n fs) {i j : Nat} (hi : i < n) (hj : j < 2) (x : Int) {f : Fl} (hf : f = if j = 0 then ⟨x, (flAt fs i).r, (flAt fs i).p⟩ else ⟨(flAt fs i).b, x, (flAt fs i).p⟩) :
    FRow (w.setCell ⟨g, i * 3 + j, none⟩ (.int .i64 x)) B g n (fs.set i f) := by
  have hn := h.nl
  have hfl : ∀ k, flAt (fs.set i f) k = if k = i then f else flAt fs k := fun k => by
    unfold flAt
    simp only [List.getD, List.getElem?_set]
    by_cases e : i = k
    · subst e; simp [show i < fs.length by omega]
    · have e3 : ¬ k = i := fun e' => e e'.symm
      simp [e, e3]
  have ks : Keeps (fun b => b = g) w (w.setCell ⟨g, i * 3 + j, none⟩ (.int .i64 x)) := (Keeps.refl (fun b => b = g) w).setCell (p := ⟨g, i * 3 + j, none⟩) (Or.inl rfl) _
  have oth : ∀ o v, o ≠ i * 3 + j → w.cell? ⟨g, o, none⟩ = some v → (w.setCell ⟨g, i * 3 + j, none⟩ (.int .i64 x)).cell? ⟨g, o, none⟩ = some v := fun o v ho hc => by
    rw [World.cell?_setCell_other (h := fun e => ho (congrArg Addr.off e).symm)]; exact hc
  refine ⟨⟨h.lt.1, Nat.lt_of_lt_of_le h.lt.2 ks.size⟩, by simp [hn], fun o => by rw [World.frozen?_setCell]; exact h.fz o, fun k hk => ?_⟩
  obtain ⟨h1, h2, a, c, h3, h4, h5, h6, h7⟩ := h.cells k hk
  have hints : IntsAt (w.setCell ⟨g, i * 3 + j, none⟩ (.int .i64 x)) a (flAt fs k).p := by
    by_cases hp : 0 < (flAt fs k).p.length
    · exact h4.ks ks (fun q e => by have := h7 q e hp; have := h.lt.1; omega)
    · exact ⟨h4.len, fun h0 => absurd h0 hp⟩
  rw [hfl]
  by_cases e : k = i
  · subst e
    rw [if_pos rfl]
    have hj2 : j = 0 ∨ j = 1 := by omega
    rcases hj2 with rfl | rfl
    · rw [if_pos rfl] at hf
      subst hf
      exact ⟨World.cell?_setCell_same _ _ _ h1, oth _ _ (by omega) h2, a, c, oth _ _ (by omega) h3, hints, h5, h6, h7⟩
    · rw [if_neg (by decide)] at hf
      subst hf
      exact ⟨oth _ _ (by omega) h1, World.cell?_setCell_same _ _ _ h2, a, c, oth _ _ (by omega) h3, hints, h5, h6, h7⟩
  · rw [if_neg e]
    exact ⟨oth _ _ (by omega) h1, oth _ _ (by omega) h2, a, c, oth _ _ (by omega) h3, hints, h5, h6, h7⟩

theorem FRow.ks {S : Nat → Prop} {w w' : World} {B g n : Nat} {fs : List Fl} (h : FRow w B g n fs) (k : Keeps S w w') (hg : ¬ S g) (hs : ∀ b, S b → B ≤ b) : FRow w' B g n fs := by
  refine ⟨⟨h.lt.1, Nat.lt_of_lt_of_le h.lt.2 k.size⟩, h.nl, fun j => (Keeps.frozen k h.lt.2 hg).trans (h.fz j), fun i hi => ?_⟩
  obtain ⟨h1, h2, a, c, h3, h4, h5, h6, h7⟩ := h.cells i hi
  refine ⟨k.cell h1 hg, k.cell h2 hg, a, c, k.cell h3 hg, ?_, h5, h6, h7⟩
  by_cases hp : 0 < (flAt fs i).p.length
  · exact h4.ks k (fun q e hq => by have := h7 q e hp; have := hs _ hq; omega)
  · exact ⟨h4.len, fun h0 => absurd h0 hp⟩
/-- The net of more, in its box. -/
structure MBox (W : World) (B g n mb : Nat) (fs : List Fl) (x y : Value) : Prop where
  row : FRow W B g n fs
  m0 : W.cell? ⟨mb, 0, none⟩ = some x
  m1 : W.cell? ⟨mb, 1, none⟩ = some y
  ne : mb ≠ g
  le : B ≤ mb
theorem mbox_a {w2 : World} {B g n : Nat} {fs : List Fl} (h : FRow w2 B g n fs) (x y : Value) : MBox (w2.alloc (.cells #[x, y] 48)) B g n w2.heap.size fs x y ∧ Kp w2 (w2.alloc (.cells #[x, y] 48)) := by
  have hl := h.lt
  exact ⟨⟨h.kp (kp_alloc _ _), box0 _ _ _ _, box1 _ _ _ _, by omega, by omega⟩, kp_alloc _ _⟩
theorem mbox_b {w2 : World} {B g n mb : Nat} {fs : List Fl} (h : FRow w2 B g n fs) {x0 y0 : Value} (hm : w2.heap[mb]? = some (.cells #[x0, y0] 48 (0, 0))) (hb : B ≤ mb) (hne : mb ≠ g) (x y : Value) :
    MBox ((w2.setCell ⟨mb, 0, none⟩ x).setCell ⟨mb, 1, none⟩ y) B g n mb fs x y ∧ Keeps (fun j => j = mb) w2 ((w2.setCell ⟨mb, 0, none⟩ x).setCell ⟨mb, 1, none⟩ y) := by
  have k1 : Keeps (fun j => j = mb) w2 (w2.setCell ⟨mb, 0, none⟩ x) := (Keeps.refl (fun j => j = mb) w2).setCell (p := ⟨mb, 0, none⟩) (Or.inl rfl) _
  have k2 : Keeps (fun j => j = mb) w2 ((w2.setCell ⟨mb, 0, none⟩ x).setCell ⟨mb, 1, none⟩ y) := k1.setCell (p := ⟨mb, 1, none⟩) (Or.inl rfl) _
  have h1 := heap_setCell_same w2 mb 0 _ _ x hm
  have h2 := heap_setCell_same _ mb 1 _ _ y h1
  exact ⟨⟨h.ks k2 (fun e => hne e.symm) (fun b e => by omega), (cell_of_row _ _ 0 _ _ (0, 0) h2).trans rfl, (cell_of_row _ _ 1 _ _ (0, 0) h2).trans rfl, hne, hb⟩, k2⟩

/-- The cells of flows that lie somewhere. -/
theorem flow_news {w : World} {b off : Nat} {fs : List Fl} (h : FlowsAt w (some ⟨b, off, none⟩) fs) (h0 : 0 < fs.length) :
    ∃ news : List Value, news.length = fs.length * 3 ∧ (∀ j u, news[j]? = some u → w.cell? ((⟨b, off, none⟩ : Addr).add j) = some u) ∧ (∀ u ∈ news, u.oneCell' = true) ∧ ∀ j, j < fs.length * 3 → w.cell? ⟨b, off + j, none⟩ = news[j]? := by
  obtain ⟨b2, off2, e, hc⟩ := h.cells h0
  simp only [Option.some.injEq, Addr.mk.injEq] at e
  obtain ⟨rfl, rfl, -⟩ := e
  have hcell : ∀ j, j < fs.length * 3 → ∃ v, w.cell? ⟨b, off + j, none⟩ = some v ∧ v.oneCell' = true := fun j hj => by
    obtain ⟨h1, h2, a, c, h3, _⟩ := hc (j / 3) (by omega)
    have hm : j % 3 = 0 ∨ j % 3 = 1 ∨ j % 3 = 2 := by omega
    rcases hm with hm | hm | hm
    · exact ⟨_, by rw [show off + j = off + j / 3 * 3 by omega]; exact h1, rfl⟩
    · exact ⟨_, by rw [show off + j = off + j / 3 * 3 + 1 by omega]; exact h2, rfl⟩
    · exact ⟨_, by rw [show off + j = off + j / 3 * 3 + 2 by omega]; exact h3, rfl⟩
  have hor : ∀ j, j < fs.length * 3 → w.cell? ⟨b, off + j, none⟩ = some (cellOr w ⟨b, off + j, none⟩) := fun j hj => by
    obtain ⟨v, e, _⟩ := hcell j hj
    unfold cellOr; rw [e]; rfl
  refine ⟨(List.range (fs.length * 3)).map (fun j => cellOr w ⟨b, off + j, none⟩), by simp, fun j u hu => ?_, fun u hu => ?_, fun j hj => ?_⟩
  · rw [add_none]
    have hj : j < fs.length * 3 := by
      rcases Nat.lt_or_ge j (fs.length * 3) with h' | h'
      · exact h'
      · rw [List.getElem?_eq_none (by simpa using h')] at hu; cases hu
    rw [hor j hj]
    simp [List.getElem?_range hj] at hu
    rw [hu]
  · obtain ⟨j, hj, rfl⟩ := List.mem_map.1 hu
    obtain ⟨v, e, e1⟩ := hcell j (List.mem_range.1 hj)
    unfold cellOr; rw [e]; exact e1
  · rw [hor j hj]
    simp [List.getElem?_range hj]
theorem frow_of {w w' : World} {b off g cap : Nat} {fs : List Fl} {news : List Value} (h : FlowsAt w (some ⟨b, off, none⟩) fs) (h0 : 0 < fs.length) (hn : ∀ j, j < fs.length * 3 → w.cell? ⟨b, off + j, none⟩ = news[j]?)
    (hr : w'.ownsRow w.heap.size 57 3 (.slice (some ⟨g, 0, none⟩) fs.length cap) fs.length news) (k : Kp w w') : FRow w' w.heap.size g fs.length fs := by
  obtain ⟨b2, off2, e, hc⟩ := h.cells h0
  simp only [Option.some.injEq, Addr.mk.injEq] at e
  obtain ⟨rfl, rfl, -⟩ := e
  have hcell : ∀ j, j < fs.length * 3 → ∀ v, w.cell? ⟨b, off + j, none⟩ = some v → w'.cell? ⟨g, j, none⟩ = some v := fun j hj v hv => by
    rw [hr.cellAt j (by omega), ← hn j hj]; exact hv
  refine ⟨hr.lt g rfl, rfl, fun j => hr.frozenAt j, fun i hi => ?_⟩
  obtain ⟨h1, h2, a, c, h3, h4, h5, h6⟩ := hc i hi
  refine ⟨hcell _ (by omega) _ h1, hcell _ (by omega) _ (by rw [← Nat.add_assoc]; exact h2), a, c, hcell _ (by omega) _ (by rw [← Nat.add_assoc]; exact h3), h4.kp k, h5, h6, fun q e hp => ?_⟩
  obtain ⟨b3, o3, e3, hc3⟩ := h4.cells hp
  rw [e] at e3
  simp only [Option.some.injEq] at e3
  subst e3
  exact World.block_lt_of_cell? w _ (hc3 0 hp)

theorem addend (x m : Int) (hm : 0 ≤ m) : ∃ n d, (if m < x then m else x) = n ∧ (if 0 < n then n else (0 : Int)) = d ∧ 0 ≤ d ∧ d ≤ m := by
  refine ⟨_, _, rfl, rfl, ?_, ?_⟩ <;> (repeat' split) <;> omega
theorem bounds_len {gs : List Ga} {fs : List Fl} {s : WDB} (ok : NetOk gs fs) (h : boundsOf gs fs = some s) : s.ws.length = gs.length ∧ s.ds.length = fs.length := by
  have := boundsTo_small ok.paths ok.nf ok.rates ok.gates ok.bursts _ (Nat.le_refl _) s h
  exact ⟨this.wl, this.dl⟩
/-- What is to be shown of many orders of one statement, shown once. -/
theorem share {F : World → Nat → Nat → Nat → Prop} {G : Prop} {P : World → Nat → Nat → Nat → Prop} (h1 : (∀ W mb g c, F W mb g c → P W mb g c) → G) (h2 : ∀ W mb g c, F W mb g c → P W mb g c) : G := h1 h2
theorem mod_facts (cn : Int) {n : Nat} (hn : 0 < n) (hn2 : n ≤ 1000) : IntKind.i64.wrap (cn.tmod n + n) = cn.tmod n + n ∧ ∃ ix : Nat, ix < n ∧ (cn.tmod n + n).tmod n = (ix : Int) := by
  have h1 : cn.tmod n < n := Int.tmod_lt_of_pos _ (by omega)
  have h2 : -(n : Int) < cn.tmod n := by
    by_cases h : 0 ≤ cn
    · have := Int.tmod_nonneg (n : Int) h; omega
    · have h3 := Int.tmod_lt_of_pos (-cn) (show (0 : Int) < n by omega)
      rw [Int.neg_tmod] at h3
      omega
  refine ⟨IntWalk.i64_in _ (by omega), ((cn.tmod n + n).tmod n).toNat, ?_, ?_⟩
  · have := Int.tmod_lt_of_pos (cn.tmod n + n) (show (0 : Int) < n by omega); omega
  · have := Int.tmod_nonneg (n : Int) (show 0 ≤ cn.tmod n + n by omega); omega

set_option maxRecDepth 100000 in
set_option maxHeartbeats 0 in
theorem busMore_any (ga fa : Option Addr) (gc fc : Nat) (gs : List Ga) (fs : List Fl) (cn ca cb cc : Int) (w : World) (hg : GatesAt w ga gs) (hf : FlowsAt w fa fs) (hcn : -9223372036854775808 ≤ cn ∧ cn ≤ 9223372036854775807) :
    Calls Try.prog 14 #[.agg #[.slice ga gs.length gc, .slice fa fs.length fc], .agg #[.int .i64 cn, .int .i64 ca, .int .i64 cb, .int .i64 cc]] w fun e w' => e = .returned (.bool true) ∧ Kp w w' := by
  have k1 := kp_alloc w (.cells #[.slice ga gs.length gc, .slice fa fs.length fc] 48)
  have s1 : (w.alloc (.cells #[.slice ga gs.length gc, .slice fa fs.length fc] 48)).heap.size = w.heap.size + 1 := by simp
  have k2 := kp_alloc (w.alloc (.cells #[.slice ga gs.length gc, .slice fa fs.length fc] 48)) (.cells #[.int .i64 cn, .int .i64 ca, .int .i64 cb, .int .i64 cc] 67)
  have n0 := k2.cell (box0 w (.slice ga gs.length gc) (.slice fa fs.length fc) 48)
  have n1 := k2.cell (box1 w (.slice ga gs.length gc) (.slice fa fs.length fc) 48)
  have d0 : ((w.alloc (.cells #[.slice ga gs.length gc, .slice fa fs.length fc] 48)).alloc (.cells #[.int .i64 cn, .int .i64 ca, .int .i64 cb, .int .i64 cc] 67)).cell? ⟨w.heap.size + 1, 0, none⟩ = some (.int .i64 cn) := by simp
  have d1 : ((w.alloc (.cells #[.slice ga gs.length gc, .slice fa fs.length fc] 48)).alloc (.cells #[.int .i64 cn, .int .i64 ca, .int .i64 cb, .int .i64 cc] 67)).cell? ⟨w.heap.size + 1, 1, none⟩ = some (.int .i64 ca) := by simp
  have d2 : ((w.alloc (.cells #[.slice ga gs.length gc, .slice fa fs.length fc] 48)).alloc (.cells #[.int .i64 cn, .int .i64 ca, .int .i64 cb, .int .i64 cc] 67)).cell? ⟨w.heap.size + 1, 2, none⟩ = some (.int .i64 cb) := by simp
  have hk := k1.step k2
  have hga := fun W k => hg.kp (w' := W) (hk.step k)
  have hfa := fun W k => hf.kp (w' := W) (hk.step k)
  have Hk := Lib.hid hk; have Hga := Lib.hid hga; have Hfa := Lib.hid hfa
  have hlf := hf.len
  unfold maxLen at hlf
  clear hk hga hfa k1 k2 hg hf
  go_enter Try.func14, Try.ntmps14
  go_wp2_with fail
  generalize ((w.alloc (.cells #[.slice ga gs.length gc, .slice fa fs.length fc] 48)).alloc (.cells #[.int .i64 cn, .int .i64 ca, .int .i64 cb, .int .i64 cc] 67)) = V at *
  refine (delays_any ga fa gc fc gs fs V (Hga.out _ (Kp.refl _)) (Hfa.out _ (Kp.refl _))).mono ?_
  intro e w1 hd
  have hwk : ∀ W, Kp w W → Calls Try.prog 15 #[] W fun e w' => e = .returned (.bool true) ∧ Kp w w' := fun W kW => (works_any W).mono (fun e w' hh => ⟨hh.1, kW.step hh.2⟩)
  have Hwk := Lib.hid hwk
  clear hwk
  unfold DelEnd at hd
  by_cases h0 : netErr gs fs = 0
  case neg =>
    rw [if_neg h0] at hd
    obtain ⟨rfl, kp1⟩ := hd
    have hne : ((netErr gs fs) != 0) = true := by simpa using h0
    have K1 := Lib.hid (Hk.out.step kp1)
    clear kp1 h0
    generalize netErr gs fs = x at *
    go_wp2_with fail
    refine (Hwk.out _ K1.out).mono ?_
    rintro e w2 ⟨rfl, k2⟩
    go_wp2_with fail
    go_ret
    exact ⟨rfl, k2⟩
  rw [if_pos h0] at hd
  cases hbo : boundsOf gs fs with
  | none =>
    rw [hbo] at hd
    obtain ⟨rfl, kp1⟩ := hd
    have K1 := Lib.hid (Hk.out.step kp1)
    clear kp1 h0 hbo
    go_wp2_with fail
    refine (Hwk.out _ K1.out).mono ?_
    rintro e w2 ⟨rfl, k2⟩
    go_wp2_with fail
    go_ret
    exact ⟨rfl, k2⟩
  | some s =>
    rw [hbo] at hd
    obtain ⟨⟨gw, gd, rfl, hiw, hid⟩, kp1⟩ := hd
    have ok := netErr_zero h0
    have n0' := kp1.cell n0
    have n1' := kp1.cell n1
    have d0' := kp1.cell d0
    have d1' := kp1.cell d1
    have d2' := kp1.cell d2
    by_cases hl0 : fs.length = 0
    · have q0 : ((fs.length : Int) == 0) = true := by rw [hl0]; rfl
      have K1 := Lib.hid (Hk.out.step kp1)
      clear kp1 h0 hbo hiw hid ok
      go_wp2_with fail
      refine (Hwk.out _ K1.out).mono ?_
      rintro e w2 ⟨rfl, k2⟩
      go_wp2_with fail
      go_ret
      exact ⟨rfl, k2⟩
    have q0 : ((fs.length : Int) == 0) = false := beq_eq_false_iff_ne.2 (by omega)
    have hnf := ok.nf
    have hf1 := Hfa.out _ kp1
    obtain ⟨fb, fo, efa, _⟩ := hf1.cells (by omega)
    subst efa
    obtain ⟨news, nl, nc, n1c, nat⟩ := flow_news hf1 (by omega)
    obtain ⟨i0, hi0, hz0, hz1, hz2⟩ := info_parts infoFlow
    obtain ⟨hwr, ix, hix, hmod⟩ := mod_facts cn (n := fs.length) (by omega) (by omega)
    have hixn : (ix : Int) < (fs.length : Int) := by omega
    obtain ⟨na, da, hna, hda, hda0, hda1⟩ := addend ca 1000 (by omega)
    obtain ⟨nb, db, hnb, hdb, hdb0, hdb1⟩ := addend cb 100 (by omega)
    have hbi := ok.bursts ix hix
    have hri := ok.rates ix
    have hmore := bump_more (fs := fs) hix hda0 hdb0
    have hble := fun s2 e2 => more_le (s2 := s2) hmore ok hbo e2
    have hlen := bounds_len ok hbo
    have hlen2 := fun s2 (h : netErr gs (bump fs ix da db) = 0) e2 => bounds_len (s := s2) (netErr_zero h) e2
    have Hble := Lib.hid hble; have Hlen2 := Lib.hid hlen2; have Hmore := Lib.hid hmore
    clear hble hlen2 hmore
    have hbw : w.heap.size < w1.heap.size := World.block_lt_of_cell? w1 _ n0'
    have Ok := Lib.hid ok; have H0 := Lib.hid h0; have Hbo := Lib.hid hbo; have K1 := Lib.hid kp1; have Hiw := Lib.hid hiw; have Hid' := Lib.hid hid; have Hf1 := Lib.hid hf1; have Nc : Hid (∀ X, Kp w1 X → ∀ j u, news[j]? = some u → X.cell? ((⟨fb, fo, none⟩ : Addr).add j) = some u) := Lib.hid (fun X kX j u hu => by have := nc j u hu; rw [add_none] at this ⊢; exact kX.cell this); have N1 := Lib.hid n1c; have Nat' := Lib.hid nat
    clear ok h0 hbo kp1 hiw hid hf1 nc n1c nat n0 n1 d0 d1 d2
    go_wp2_with fail
    apply share (F := fun W mb g2 cap2 => MBox W w1.heap.size g2 fs.length mb fs (.slice ga gs.length gc) (.slice (some ⟨g2, 0, none⟩) fs.length cap2) ∧ Kp w1 W)
    · intro key
      go_region_law (go_loud (refine step_append_lies _ rfl (.const (.slice none 0 0)) (.tmp 32) 46 rfl w1.heap.size 57 i0 (.agg #[.int .i64 0, .int .i64 0, .slice none 0 0]) 3 40 Try.underlying46 hi0 hz0 hz1 hz2 rfl (by decide) (.slice none 0 0) 0 [] (by simp [Act.eval, Act.put]) (World.ownsRow_nil _ _ _ _) ⟨fb, fo, none⟩ fs.length fc news (by simp [Act.eval, Act.put]) nl (Nc.out _ (by first | exact Keeps.drew (Kp.refl _) | exact Keeps.drew (kp_alloc _ _) | exact kp_alloc _ _ | exact Kp.refl _)) N1.out (by omega) (by unfold maxLen; omega) (by omega) (by first | exact Nat.le_refl _ | (exact Nat.le_of_lt (by simp)) | (simp; done) | (simp; omega)) _ rfl ?_); intro g2 cap2 w2 hown hgrow hat hlt2; have hk2 : Kp w1 w2 := (by first | exact (Keeps.drew (Kp.refl w1)).grown hgrow (fun k e => by simp [Value.ownBlock] at e) | exact (Keeps.drew (kp_alloc w1 _)).grown hgrow (fun k e => by simp [Value.ownBlock] at e)); have n0' := hk2.cell n0'; have n1' := hk2.cell n1'; have hbw2 : w.heap.size < w2.heap.size := World.block_lt_of_cell? w2 _ n0'; (first | (have hk3 : Kp (w1.alloc (.cells #[.slice none 0 0, .slice none 0 0] 48)).drew w2 := (Kp.refl _).grown hgrow (fun k e => by simp [Value.ownBlock] at e); have m2 : w2.heap[w1.heap.size]? = some (.cells #[.slice none 0 0, .slice none 0 0] 48 (0, 0)) := hk3.blk (heap_alloc_new w1 _); have m0 : w2.cell? ⟨w1.heap.size, 0, none⟩ = some (.slice none 0 0) := (cell_of_row w2 _ 0 _ _ (0, 0) m2).trans rfl; have m1 : w2.cell? ⟨w1.heap.size, 1, none⟩ = some (.slice none 0 0) := (cell_of_row w2 _ 1 _ _ (0, 0) m2).trans rfl; have mf : ∀ j, w2.frozen? ⟨w1.heap.size, j, none⟩ = false := (fun j => by simp [World.frozen?, m2]); have mf0 := mf 0; have mf1 := mf 1; clear hk3) | skip); clear hgrow)
      all_goals
        have hrow : FRow w2 w1.heap.size g2 fs.length fs := frow_of Hf1.out (by omega) Nat'.out (by simpa using hown) hk2
        have hrest : ∃ x : Nat, x = x := ⟨0, rfl⟩
        clear hrest
        first
          | (have hm := m2
             have hne : w1.heap.size ≠ g2 := by
               rcases hat with h | h
               · simp [Value.ownBlock] at h
               · simp at h; omega
             obtain ⟨mbx, kW⟩ := mbox_b hrow hm (Nat.le_refl _) hne (.slice ga gs.length gc) (.slice (some ⟨g2, 0, none⟩) fs.length cap2)
             have kW1 : Kp w1 ((w2.setCell ⟨w1.heap.size, 0, none⟩ (.slice ga gs.length gc)).setCell ⟨w1.heap.size, 1, none⟩ (.slice (some ⟨g2, 0, none⟩) fs.length cap2)) := hk2.trans kW (fun j e => Or.inr (by omega))
             clear m2 m0 m1 mf mf0 mf1 hm hne kW hrow hat hown hk2 n0' n1' hbw2
             generalize ((w2.setCell ⟨w1.heap.size, 0, none⟩ (.slice ga gs.length gc)).setCell ⟨w1.heap.size, 1, none⟩ (.slice (some ⟨g2, 0, none⟩) fs.length cap2)) = W at *
             exact key W w1.heap.size g2 cap2 ⟨mbx, kW1⟩)
          | (obtain ⟨mbx, kW⟩ := mbox_a hrow (.slice ga gs.length gc) (.slice (some ⟨g2, 0, none⟩) fs.length cap2)
             have kW1 : Kp w1 (w2.alloc (.cells #[.slice ga gs.length gc, .slice (some ⟨g2, 0, none⟩) fs.length cap2] 48)) := hk2.step kW
             clear kW hrow hat hown hk2 n0' n1' hbw2
             generalize hWe : (w2.alloc (.cells #[.slice ga gs.length gc, .slice (some ⟨g2, 0, none⟩) fs.length cap2] 48)) = W at *
             clear hWe
             generalize w2.heap.size = mb at *
             exact key W mb g2 cap2 ⟨mbx, kW1⟩)
    · intro W mb g2 cap2 hmk
      obtain ⟨mbx, kW1⟩ := hmk
      have n0'' := kW1.cell n0'
      have n1'' := kW1.cell n1'
      have d0'' := kW1.cell d0'
      have d1'' := kW1.cell d1'
      have d2'' := kW1.cell d2'
      have m0 := mbx.m0
      have m1 := mbx.m1
      have Mbx := Lib.hid mbx; have KW := Lib.hid kW1
      clear mbx kW1
      go_wp2_with fail
      go_quiet (fail)
      have mbx2 := Mbx.out.row.kp (Keeps.drewN (Kp.refl W) nq)
      have k02 : Kp W (W.drewN nq) := Keeps.drewN (Kp.refl W) nq
      have K02 := Lib.hid k02
      clear k02
      generalize W.drewN nq = W2 at *
      obtain ⟨x0, x1, pa, pc, x2, x3, x4, x5, x6⟩ := mbx2.cells ix hix
      have z0 := mbx2.fz (ix * 3)
      have d1v : W2.cell? ⟨w.heap.size + 1, 1, none⟩ = some (.int .i64 ca) := K02.out.cell d1''
      have bl2 : g2 < W2.heap.size := mbx2.lt.2
      have bl3 : w.heap.size + 1 < W2.heap.size := World.block_lt_of_cell? W2 _ d1v
      have hwb : wrap64 ((flAt fs ix).b + da) = (flAt fs ix).b + da := wrap_in (by omega) (by omega)
      have hg2 := mbx2.lt.1
      have hrow3 := (mbx2.set (j := 0) hix (by decide) ((flAt fs ix).b + da) (f := ⟨(flAt fs ix).b + da, (flAt fs ix).r, (flAt fs ix).p⟩) rfl).kp (Keeps.drew (Kp.refl _))
      have ks3 : Keeps (fun b => b = g2) W (W2.setCell ⟨g2, ix * 3, none⟩ (.int .i64 ((flAt fs ix).b + da))).drew := Keeps.drew ((K02.out.mono (S' := fun b => b = g2) (fun _ e => e.elim)).setCell (p := ⟨g2, ix * 3, none⟩) (Or.inl rfl) _)
      have hbw1 : w.heap.size + 1 < w1.heap.size := World.block_lt_of_cell? w1 _ d1'
      have mne := Mbx.out.ne
      have Row3 := Lib.hid hrow3; have Ks3 := Lib.hid ks3
      clear mbx2 hrow3 ks3 x3 x4 x5 x6 x2
      go_wp2_with fail
      go_region
      generalize (W2.setCell ⟨g2, ix * 3, none⟩ (.int .i64 ((flAt fs ix).b + da))).drew = W3 at *
      have hfl1 : flAt (fs.set ix ⟨(flAt fs ix).b + da, (flAt fs ix).r, (flAt fs ix).p⟩) ix = ⟨(flAt fs ix).b + da, (flAt fs ix).r, (flAt fs ix).p⟩ := by
        unfold flAt; simp [List.getD, hix]
      obtain ⟨y0, y1, _, _, _, _, _, _, _⟩ := Row3.out.cells ix hix
      rw [hfl1] at y1
      have z1 := Row3.out.fz (ix * 3 + 1)
      have d2v : W3.cell? ⟨w.heap.size + 1, 2, none⟩ = some (.int .i64 cb) := Ks3.out.cell d2'' (by omega)
      have bl4 : g2 < W3.heap.size := Row3.out.lt.2
      have bl5 : w.heap.size + 1 < W3.heap.size := World.block_lt_of_cell? W3 _ d2v
      have hwr2 : wrap64 ((flAt fs ix).r + db) = (flAt fs ix).r + db := wrap_in (by omega) (by omega)
      have hbump : (fs.set ix ⟨(flAt fs ix).b + da, (flAt fs ix).r, (flAt fs ix).p⟩).set ix ⟨(flAt fs ix).b + da, (flAt fs ix).r + db, (flAt fs ix).p⟩ = bump fs ix da db := by unfold bump; rw [List.set_set]
      have hrow4 := (Row3.out.set (j := 1) hix (by decide) ((flAt fs ix).r + db) (f := ⟨(flAt fs ix).b + da, (flAt fs ix).r + db, (flAt fs ix).p⟩) (by rw [hfl1]; rfl)).kp (Keeps.drew (Kp.refl _))
      rw [hbump] at hrow4
      have ks4 : Keeps (fun b => b = g2) W (W3.setCell ⟨g2, ix * 3 + 1, none⟩ (.int .i64 ((flAt fs ix).r + db))).drew := Keeps.drew (Ks3.out.setCell (p := ⟨g2, ix * 3 + 1, none⟩) (Or.inl rfl) _)
      have Row4 := Lib.hid hrow4; have Ks4 := Lib.hid ks4
      clear hrow4 ks4 hbump hfl1 y0 x0 x1 z0 bl2 bl3 d1v hwb Row3 Ks3
      go_wp2_with fail
      go_region
      generalize (W3.setCell ⟨g2, ix * 3 + 1, none⟩ (.int .i64 ((flAt fs ix).r + db))).drew = W4 at *
      have m0v := Ks4.out.cell m0 mne
      have m1v := Ks4.out.cell m1 mne
      have kp4 : Kp w1 W4 := KW.out.trans Ks4.out (fun j e => Or.inr (by omega))
      have hfl := Row4.out.flows (by unfold maxLen; omega)
      have hlb : (bump fs ix da db).length = fs.length := Hmore.out.len
      have hd2 := delays_any ga (some ⟨g2, 0, none⟩) gc cap2 gs (bump fs ix da db) W4 (Hga.out _ (K1.out.step kp4)) hfl
      rw [hlb] at hd2
      have Kp4 := Lib.hid kp4; have Hd2 := Lib.hid hd2
      clear hd2 kp4 hfl y1 z1 d2v bl4 bl5 hwr2 m0 m1 n0'' n1'' d0'' d1'' d2'' hda hdb hna hnb
      go_wp2_with fail
      refine Hd2.out.mono ?_
      intro e w5 hd
      unfold DelEnd at hd
      by_cases h02 : netErr gs (bump fs ix da db) = 0
      case neg =>
        rw [if_neg h02] at hd
        obtain ⟨rfl, kp5⟩ := hd
        have hne : ((netErr gs (bump fs ix da db)) != 0) = true := by simpa using h02
        have K5 := Lib.hid (Hk.out.step (K1.out.step (Kp4.out.step kp5)))
        clear kp5 h02
        generalize netErr gs (bump fs ix da db) = x at *
        go_wp2_with fail
        refine (Hwk.out _ K5.out).mono ?_
        rintro e w6 ⟨rfl, k6⟩
        go_wp2_with fail
        go_ret
        exact ⟨rfl, k6⟩
      rw [if_pos h02] at hd
      cases hb2 : boundsOf gs (bump fs ix da db) with
      | none =>
        rw [hb2] at hd
        obtain ⟨rfl, kp5⟩ := hd
        have K5 := Lib.hid (Hk.out.step (K1.out.step (Kp4.out.step kp5)))
        clear kp5 h02 hb2
        go_wp2_with fail
        refine (Hwk.out _ K5.out).mono ?_
        rintro e w6 ⟨rfl, k6⟩
        go_wp2_with fail
        go_ret
        exact ⟨rfl, k6⟩
      | some s2 =>
        rw [hb2] at hd
        obtain ⟨⟨gw2, gd2, rfl, i1, i2⟩, kp5⟩ := hd
        obtain ⟨le1, le2⟩ := Hble.out s2 hb2
        obtain ⟨l1, l2⟩ := hlen
        obtain ⟨l3, l4⟩ := Hlen2.out s2 h02 hb2
        rw [hlb] at *
        have K5 := Lib.hid (Hk.out.step (K1.out.step (Kp4.out.step kp5)))
        have I1 := Lib.hid i1; have I2 := Lib.hid i2
        have J1 := Lib.hid ((Hiw.out.kp Kp4.out).kp kp5); have J2 := Lib.hid ((Hid'.out.kp Kp4.out).kp kp5)
        have Le1 := Lib.hid le1; have Le2 := Lib.hid le2
        have hng := Ok.out.ng
        clear kp5 h02 hb2 i1 i2 le1 le2 hlb
        go_wp2_with fail
        go_loopw [12] (fun i wq => ∃ (k : Nat), k ≤ gs.length ∧ i = .int .i64 k ∧ Kp w5 wq) (fun i _ => gs.length - (intOf i).toNat)
        case atStart => exact ⟨0, Nat.zero_le _, rfl, Kp.refl _⟩
        case round =>
          obtain ⟨k, hk, rfl, kp⟩ := hrel
          by_cases hlt : k < gs.length
          · obtain ⟨b1, o1, e1, h1⟩ := (I1.out.kp kp).cells (by omega)
            obtain ⟨b2, o2, e2, h2⟩ := (J1.out.kp kp).cells (by omega)
            simp only [Option.some.injEq, Addr.mk.injEq] at e1 e2
            obtain ⟨rfl, rfl, -⟩ := e1
            obtain ⟨rfl, rfl, -⟩ := e2
            have p1 := h1 k (by omega)
            have p2 := h2 k (by omega)
            rw [Nat.zero_add] at p1 p2
            have hle := Le1.out.2 k
            have i1 : (k : Int) < (gs.length : Int) := by omega
            have q1 : decide (s2.ws.getD k 0 < s.ws.getD k 0) = false := decide_eq_false (by omega)
            have Kq := Lib.hid kp
            clear h1 h2 kp
            generalize s2.ws.getD k 0 = x2 at *
            generalize s.ws.getD k 0 = x1 at *
            go_wp2_with fail
            go_quiet (fail)
            go_wp2_with fail
            go_roundw
            case rel => exact ⟨k + 1, by omega, by go_num, Keeps.drewN Kq.out _⟩
            case measure => simp [intOf]; omega
          · obtain rfl : k = gs.length := by omega
            have Kq := Lib.hid kp
            clear kp
            go_wp2_with fail
            go_loopw [13] (fun i wq => ∃ (k : Nat), k ≤ fs.length ∧ i = .int .i64 k ∧ Kp w5 wq) (fun i _ => fs.length - (intOf i).toNat)
            case atStart => exact ⟨0, Nat.zero_le _, rfl, Kq.out⟩
            case round =>
              obtain ⟨k, hk, rfl, kp⟩ := hrel
              by_cases hlt : k < fs.length
              · obtain ⟨b1, o1, e1, h1⟩ := (I2.out.kp kp).cells (by omega)
                obtain ⟨b2, o2, e2, h2⟩ := (J2.out.kp kp).cells (by omega)
                simp only [Option.some.injEq, Addr.mk.injEq] at e1 e2
                obtain ⟨rfl, rfl, -⟩ := e1
                obtain ⟨rfl, rfl, -⟩ := e2
                have p1 := h1 k (by omega)
                have p2 := h2 k (by omega)
                rw [Nat.zero_add] at p1 p2
                have hle := Le2.out.2 k
                have i1 : (k : Int) < (fs.length : Int) := by omega
                have q1 : decide (s2.ds.getD k 0 < s.ds.getD k 0) = false := decide_eq_false (by omega)
                have Kr := Lib.hid kp
                clear h1 h2 kp
                generalize s2.ds.getD k 0 = x2 at *
                generalize s.ds.getD k 0 = x1 at *
                go_wp2_with fail
                go_quiet (fail)
                go_wp2_with fail
                go_roundw
                case rel => exact ⟨k + 1, by omega, by go_num, Keeps.drewN Kr.out _⟩
                case measure => simp [intOf]; omega
              · obtain rfl : k = fs.length := by omega
                have Kr := Lib.hid (K5.out.step kp)
                clear kp
                go_wp2_with fail
                refine (Hwk.out _ Kr.out).mono ?_
                rintro e w6 ⟨rfl, k6⟩
                go_wp2_with fail
                go_ret
                exact ⟨rfl, k6⟩
end Go.Proofs.Ytcemgfogaaobiaa
