/- Waits and delays: the walk of bounds. -/
import Derived.Test.YtcelbmpdnkaamaaBuK
import Derived.BigRegion
import Derived.Deep.OwnRows
namespace Go.Proofs.Ytcelbmpdnkaamaa
open Go Go.RowKit Go.WideMaps Go.Maps
set_option linter.unusedSimpArgs false
set_option linter.unusedVariables false

theorem IRow.other {w : World} {base g n cap : Nat} {xs : List Int} (h : IRow w base g n cap xs) {g' j : Nat} (hg : g ≠ g') (v : Value) : IRow (w.setCell ⟨g', j, none⟩ v) base g n cap xs :=
  h.of_block (Below.heap_setCell _ _ _ _ hg)
/-- The rows of bounds, beside two lists that are read. -/
structure BInv (wr : World) (B gw gd gb ng nf : Nat) (s : WDB) (ao al : Option Addr) (os L : List Int) : Prop where
  rw : IRow wr B gw ng ng s.ws
  rd : IRow wr B gd nf nf s.ds
  rb : IRow wr B gb nf nf s.bs
  n1 : gw ≠ gd
  n2 : gw ≠ gb
  n3 : gd ≠ gb
  io : IntsAt wr ao os
  il : IntsAt wr al L
  so : ∀ p, ao = some p → p.block ≠ gw ∧ p.block ≠ gd ∧ p.block ≠ gb
  sl : ∀ p, al = some p → p.block ≠ gw ∧ p.block ≠ gd ∧ p.block ≠ gb
theorem BInv.kp {wr w' : World} {B gw gd gb ng nf : Nat} {s : WDB} {ao al : Option Addr} {os L : List Int} (h : BInv wr B gw gd gb ng nf s ao al os L) (k : Kp wr w') : BInv w' B gw gd gb ng nf s ao al os L :=
  ⟨h.rw.kp k, h.rd.kp k, h.rb.kp k, h.n1, h.n2, h.n3, h.io.kp k, h.il.kp k, h.so, h.sl⟩
theorem ints_set {wr : World} {ao : Option Addr} {xs : List Int} (h : IntsAt wr ao xs) {g j : Nat} (hs : ∀ p, ao = some p → p.block ≠ g) (v : Value) : IntsAt (wr.setCell ⟨g, j, none⟩ v) ao xs :=
  h.ks (S := fun k => k = g) ((Keeps.refl (fun k => k = g) wr).setCell (p := ⟨g, j, none⟩) (Or.inl rfl) v) (fun p e => hs p e)
theorem BInv.setW {wr : World} {B gw gd gb ng nf : Nat} {s : WDB} {ao al : Option Addr} {os L : List Int} (h : BInv wr B gw gd gb ng nf s ao al os L) (j : Nat) (x : Int) : BInv (wr.setCell ⟨gw, j, none⟩ (.int .i64 x)) B gw gd gb ng nf ⟨s.ws.set j x, s.ds, s.bs⟩ ao al os L :=
  ⟨h.rw.set j x, h.rd.other h.n1.symm _, h.rb.other h.n2.symm _, h.n1, h.n2, h.n3, ints_set h.io (fun p e => (h.so p e).1) _, ints_set h.il (fun p e => (h.sl p e).1) _, h.so, h.sl⟩
theorem BInv.setD {wr : World} {B gw gd gb ng nf : Nat} {s : WDB} {ao al : Option Addr} {os L : List Int} (h : BInv wr B gw gd gb ng nf s ao al os L) (j : Nat) (x : Int) : BInv (wr.setCell ⟨gd, j, none⟩ (.int .i64 x)) B gw gd gb ng nf ⟨s.ws, s.ds.set j x, s.bs⟩ ao al os L :=
  ⟨h.rw.other h.n1 _, h.rd.set j x, h.rb.other h.n3.symm _, h.n1, h.n2, h.n3, ints_set h.io (fun p e => (h.so p e).2.1) _, ints_set h.il (fun p e => (h.sl p e).2.1) _, h.so, h.sl⟩
theorem BInv.setB {wr : World} {B gw gd gb ng nf : Nat} {s : WDB} {ao al : Option Addr} {os L : List Int} (h : BInv wr B gw gd gb ng nf s ao al os L) (j : Nat) (x : Int) : BInv (wr.setCell ⟨gb, j, none⟩ (.int .i64 x)) B gw gd gb ng nf ⟨s.ws, s.ds, s.bs.set j x⟩ ao al os L :=
  ⟨h.rw.other h.n2 _, h.rd.other h.n3 _, h.rb.set j x, h.n1, h.n2, h.n3, ints_set h.io (fun p e => (h.so p e).2.2) _, ints_set h.il (fun p e => (h.sl p e).2.2) _, h.so, h.sl⟩
theorem BInv.list {wr : World} {B gw gd gb ng nf : Nat} {s : WDB} {ao al al2 : Option Addr} {os L L2 : List Int} (h : BInv wr B gw gd gb ng nf s ao al os L) {B2 c : Nat} (i : OwnI wr B2 al2 c L2) (hB : gw < B2 ∧ gd < B2 ∧ gb < B2) (hl : L2.length ≤ maxLen) : BInv wr B gw gd gb ng nf s ao al2 os L2 :=
  ⟨h.rw, h.rd, h.rb, h.n1, h.n2, h.n3, h.io, i.ints hl, h.so, fun p e => by have := (i.addr e).1; omega⟩
theorem BInv.nolist {wr : World} {B gw gd gb ng nf : Nat} {s : WDB} {ao al : Option Addr} {os L : List Int} (h : BInv wr B gw gd gb ng nf s ao al os L) : BInv wr B gw gd gb ng nf s ao none os [] :=
  ⟨h.rw, h.rd, h.rb, h.n1, h.n2, h.n3, h.io, IntsAt.nil _ _, h.so, fun p e => by cases e⟩

theorem irow_zero {w : World} {B g n : Nat} (h : w.heap[g]? = some (.cells (madeCells #[.int .i64 0] n) 3 (0, 0))) (hB : B ≤ g) (hn : n ≤ maxLen) : IRow w B g n n (List.replicate n 0) := by
  have e : (madeCells #[Value.int .i64 0] n).toList = (List.replicate n (0 : Int)).map encI := by
    have := madeCells_one (.int .i64 0) n
    rw [Nat.mul_one] at this
    rw [this, List.map_replicate]; rfl
  have e1 : (madeCells #[Value.int .i64 0] n).size = n := by
    rw [← Array.length_toList, e]; simp
  exact ⟨by simp, .inr ⟨g, n, _, rfl, hB, h, Nat.le_refl _, hn, by omega, by rw [e]; simp⟩⟩
theorem two_rows (V : World) (n m : Nat) (hn : n ≤ maxLen) (hm : m ≤ maxLen) :
    IRow ((V.alloc (.cells (madeCells #[.int .i64 0] n) 3)).alloc (.cells (madeCells #[.int .i64 0] m) 3)).drew 0 V.heap.size n n (List.replicate n 0) ∧ IRow ((V.alloc (.cells (madeCells #[.int .i64 0] n) 3)).alloc (.cells (madeCells #[.int .i64 0] m) 3)).drew 0 (V.heap.size + 1) m m (List.replicate m 0) ∧ Kp V ((V.alloc (.cells (madeCells #[.int .i64 0] n) 3)).alloc (.cells (madeCells #[.int .i64 0] m) 3)).drew := by
  have a1 : (V.alloc (.cells (madeCells #[.int .i64 0] n) 3)).heap[V.heap.size]? = some (.cells (madeCells #[.int .i64 0] n) 3 (0, 0)) := heap_alloc_new _ _
  have s1 : (V.alloc (.cells (madeCells #[.int .i64 0] n) 3)).heap.size = V.heap.size + 1 := by simp
  have a2 := heap_alloc_new (V.alloc (.cells (madeCells #[.int .i64 0] n) 3)) (.cells (madeCells #[.int .i64 0] m) 3)
  rw [s1] at a2
  exact ⟨irow_zero ((kp_alloc _ _).blk a1) (Nat.zero_le _) hn, irow_zero a2 (Nat.zero_le _) hm, Keeps.drew (((Kp.refl V).step (kp_alloc _ _)).step (kp_alloc _ _))⟩

theorem boundsTo_none {gs : List Ga} {fs : List Fl} {k : Nat} (h : boundsTo gs fs k = none) : ∀ d, boundsTo gs fs (k + d) = none
  | 0 => h
  | d + 1 => by
    have e : boundsTo gs fs (k + (d + 1)) = (boundsTo gs fs (k + d)).bind (gateStep gs fs ((orderL gs.length fs).getD (k + d) 0).toNat) := rfl
    rw [e, boundsTo_none h d]; rfl
def BoundsEnd (w : World) (ng nf : Nat) (r : Option WDB) (e : Ending) (w' : World) : Prop :=
  match r with
  | none => e = .returned (.tuple #[.slice none 0 0, .slice none 0 0, .bool false]) ∧ Kp w w'
  | some s => (∃ gw gd, e = .returned (.tuple #[.slice (some ⟨gw, 0, none⟩) ng ng, .slice (some ⟨gd, 0, none⟩) nf nf, .bool true]) ∧ IntsAt w' (some ⟨gw, 0, none⟩) s.ws ∧ IntsAt w' (some ⟨gd, 0, none⟩) s.ds) ∧ Kp w w'

set_option maxRecDepth 100000 in
set_option maxHeartbeats 6400000 in
theorem bounds_any (ga fa : Option Addr) (gc fc : Nat) (gs : List Ga) (fs : List Fl) (w : World) (hg : GatesAt w ga gs) (hf : FlowsAt w fa fs) (hl : fs.length ≤ 40) (hl2 : gs.length ≤ 30) (hp : PathsOk gs.length fs) (hr : RatesAt fs) (hgo : GatesOk gs) (hbo : BurstsOk fs) :
    Calls Try.prog 61 #[.agg #[.slice ga gs.length gc, .slice fa fs.length fc]] w (BoundsEnd w gs.length fs.length (boundsOf gs fs)) := by
  have hk := kp_alloc w (.cells #[.slice ga gs.length gc, .slice fa fs.length fc] 47)
  have hb0 := box0 w (.slice ga gs.length gc) (.slice fa fs.length fc) 47
  have hb1 := box1 w (.slice ga gs.length gc) (.slice fa fs.length fc) 47
  obtain ⟨i0, hi0, hz0, hz1, hz2⟩ := info_parts infoInt
  have hfa := fun W k => hf.kp (w' := W) (hk.step k)
  have hga := fun W k => hg.kp (w' := W) (hk.step k)
  have Hk := Lib.hid hk; have Hfa := Lib.hid hfa; have Hga := Lib.hid hga; have Hp := Lib.hid hp; have Hr := Lib.hid hr; have Hgo := Lib.hid hgo; have Hbo := Lib.hid hbo
  clear hk hfa hga hf hg hp hr hgo hbo
  have hVs : (w.alloc (.cells #[.slice ga gs.length gc, .slice fa fs.length fc] 47)).heap.size = w.heap.size + 1 := by simp
  have hlt0 : w.heap.size < (w.alloc (.cells #[.slice ga gs.length gc, .slice fa fs.length fc] 47)).heap.size := by omega
  have hmA : ∀ W, Sem.run Try.prog (Instr.makeSlice 28 (.int .i64 (gs.length : Int)) (.int .i64 (gs.length : Int))) W = .ok (.slice (some ⟨W.heap.size, 0, none⟩) gs.length gs.length) (W.alloc (.cells (madeCells #[.int .i64 0] gs.length) 3)) := fun W => run_make_row _ _ i0 _ Try.underlying28 hi0 hz0 hz1 rfl .i64 .i64 gs.length (by rw [hz2]; omega) (by omega) W
  have hmB : ∀ W, Sem.run Try.prog (Instr.makeSlice 28 (.int .i64 (fs.length : Int)) (.int .i64 (fs.length : Int))) W = .ok (.slice (some ⟨W.heap.size, 0, none⟩) fs.length fs.length) (W.alloc (.cells (madeCells #[.int .i64 0] fs.length) 3)) := fun W => run_make_row _ _ i0 _ Try.underlying28 hi0 hz0 hz1 rfl .i64 .i64 fs.length (by rw [hz2]; omega) (by omega) W
  go_enter Try.func61, Try.ntmps61
  go_wp2_with fail
  generalize hV : (w.alloc (.cells #[.slice ga gs.length gc, .slice fa fs.length fc] 47)) = V at *
  clear hV
  go_region
  obtain ⟨r1, r2, kV⟩ := two_rows V gs.length fs.length (by unfold maxLen; omega) (by unfold maxLen; omega)
  rw [hVs] at r1 r2
  have hne : w.heap.size + 1 ≠ w.heap.size + 1 + 1 := by omega
  have hVw : V.heap.size ≤ w.heap.size + 1 := by omega
  have hVd : V.heap.size ≤ w.heap.size + 1 + 1 := by omega
  generalize ((V.alloc (.cells (madeCells #[.int .i64 0] gs.length) 3)).alloc (.cells (madeCells #[.int .i64 0] fs.length) 3)).drew = W0 at *
  clear hVs hmA hmB
  generalize w.heap.size + 1 + 1 = gd at *
  generalize w.heap.size + 1 = gw at *
  rotate_left
  obtain ⟨r2, r1, kV⟩ := two_rows V fs.length gs.length (by unfold maxLen; omega) (by unfold maxLen; omega)
  rw [hVs] at r1 r2
  have hne : w.heap.size + 1 + 1 ≠ w.heap.size + 1 := by omega
  have hVw : V.heap.size ≤ w.heap.size + 1 + 1 := by omega
  have hVd : V.heap.size ≤ w.heap.size + 1 := by omega
  generalize ((V.alloc (.cells (madeCells #[.int .i64 0] fs.length) 3)).alloc (.cells (madeCells #[.int .i64 0] gs.length) 3)).drew = W0 at *
  clear hVs hmA hmB
  generalize w.heap.size + 1 + 1 = gw at *
  generalize w.heap.size + 1 = gd at *
  rotate_left
  all_goals
    have hb0' := kV.cell hb0
    have hb1' := kV.cell hb1
    have R1 := Lib.hid r1; have R2 := Lib.hid r2; have KV := Lib.hid kV
    clear r1 r2 kV
    go_wp2_with (first | (at_make; refine wpList_make_full _ rfl _ _ 28 rfl 0 3 i0 (.int .i64 0) 1 Try.underlying28 hi0 hz0 hz1 .i64 .i64 _ _ fs.length rfl rfl rfl rfl (by rw [hz2]; omega) (by unfold maxLen; omega) (Nat.zero_le _) ?_; intro W2 hown hgrow; have hb0'' := (grown_kp hgrow).cell hb0'; have hb1'' := (grown_kp hgrow).cell hb1') | fail)
    have k2 := grown_kp hgrow
    have n2 : gw ≠ W0.heap.size := fun e => by have := R1.out.lt.2; omega
    have n3 : gd ≠ W0.heap.size := fun e => by have := R2.out.lt.2; omega
    have hVb : V.heap.size ≤ W0.heap.size := KV.out.size
    have hbi : BInv W2 0 gw gd W0.heap.size gs.length fs.length ⟨List.replicate gs.length 0, List.replicate fs.length 0, initTo fs 0⟩ none none [] [] :=
      ⟨R1.out.kp k2, R2.out.kp k2, irow_made hown, hne, n2, n3, IntsAt.nil _ _, IntsAt.nil _ _, (fun p e => by cases e), (fun p e => by cases e)⟩
    have kV2 : Kp V W2 := KV.out.step k2
    have Bi := Lib.hid hbi; have KV2 := Lib.hid kV2
    clear hown hgrow k2 hbi kV2 R1 R2 KV hb0' hb1' n2 n3
    generalize W0.heap.size = gb at *
    go_loopw [31] (fun i wq => ∃ (k : Nat), k ≤ fs.length ∧ i = .int .i64 k ∧ Kp V wq ∧ BInv wq 0 gw gd gb gs.length fs.length ⟨List.replicate gs.length 0, List.replicate fs.length 0, initTo fs k⟩ none none [] []) (fun i _ => fs.length - (intOf i).toNat)
    case atStart => exact ⟨0, Nat.zero_le _, rfl, KV2.out, Bi.out⟩
    case round =>
      clear hb0'' hb1'' Bi KV2
      obtain ⟨k, hk, rfl, kp, bi⟩ := hrel
      by_cases hlt : k < fs.length
      · obtain ⟨b1, o1, rfl, hc1⟩ := (Hfa.out _ kp).cells (by omega)
        obtain ⟨c0, c1, pa, pc, c2, c3, c4, c5⟩ := hc1 k hlt
        have i1 : (k : Int) < (fs.length : Int) := by omega
        have hnx : initTo fs (k + 1) = (initTo fs k).set k (flAt fs k).b := rfl
        have ka := kp_alloc wr (.cells #[.int .i64 (flAt fs k).b, .int .i64 (flAt fs k).r, .slice pa (flAt fs k).p.length pc] 61)
        have bi2 := (bi.kp ka).setB k (flAt fs k).b
        have hcb : (wr.alloc (.cells #[.int .i64 (flAt fs k).b, .int .i64 (flAt fs k).r, .slice pa (flAt fs k).p.length pc] 61)).cell? ⟨gb, k, none⟩ = some (.int .i64 ((initTo fs k).getD k 0)) := (bi.kp ka).rb.cell hlt
        have fzb := (bi.kp ka).rb.frozen k
        have kp2 : Kp V ((wr.alloc (.cells #[.int .i64 (flAt fs k).b, .int .i64 (flAt fs k).r, .slice pa (flAt fs k).p.length pc] 61)).setCell ⟨gb, k, none⟩ (.int .i64 (flAt fs k).b)) := (kp.step ka).setCell (Or.inr hVb) _
        dsimp only at bi2
        rw [← hnx] at bi2
        generalize (initTo fs k).getD k 0 = old at *
        generalize flAt fs k = f at *
        obtain ⟨fb, fr, p⟩ := f
        dsimp only at *
        have Bi2 := Lib.hid bi2; have Kp2 := Lib.hid kp2
        clear hc1 c3 c4 c5 bi kp ka bi2 kp2 hnx
        go_wp2_with fail
        go_roundw
        case rel => exact ⟨k + 1, by omega, by go_num, Kp2.out, Bi2.out⟩
        case measure => simp [intOf]; omega
      · obtain rfl : k = fs.length := by omega
        have hb0' := kp.cell hb0
        have hb1' := kp.cell hb1
        have hio := fun W kW => inOrder_any ga fa gs.length gc fc fs W (Hfa.out W (kp.step kW)) hl hl2 Hp.out
        have Hio := Lib.hid hio; have Bi := Lib.hid bi; have Kq := Lib.hid kp
        clear hio bi kp
        go_wp2_with fail
        refine (Hio.out _ (Kp.refl _)).mono ?_
        rintro e w1 ⟨a, c, rfl, hord, kp1⟩
        obtain ⟨ol, _, og⟩ := orderL_gates Hp.out hl
        have hwl := Bi.out.rw.lt.2
        have hdl := Bi.out.rd.lt.2
        have hbl := Bi.out.rb.lt.2
        have hbi : BInv w1 0 gw gd gb gs.length fs.length ⟨List.replicate gs.length 0, List.replicate fs.length 0, initTo fs fs.length⟩ a none (orderL gs.length fs) [] :=
          ⟨Bi.out.rw.kp kp1, Bi.out.rd.kp kp1, Bi.out.rb.kp kp1, Bi.out.n1, Bi.out.n2, Bi.out.n3, hord.ints (by unfold maxLen; omega), IntsAt.nil _ _, (fun p e => by have := (hord.addr e).1; omega), (fun p e => by cases e)⟩
        have hs0 : boundsTo gs fs 0 = some ⟨List.replicate gs.length 0, List.replicate fs.length 0, initTo fs fs.length⟩ := rfl
        have hbo : boundsOf gs fs = boundsTo gs fs (orderL gs.length fs).length := rfl
        have hsm := fun k hk s e => boundsTo_small Hp.out hl Hr.out Hgo.out Hbo.out k hk s e
        have hnx := fun k => (show boundsTo gs fs (k + 1) = (boundsTo gs fs k).bind (gateStep gs fs ((orderL gs.length fs).getD k 0).toNat) from rfl)
        have hnn := fun k h => boundsTo_none (gs := gs) (fs := fs) (k := k) h
        have Kq1 := Lib.hid (Kq.out.step kp1); have Bi1 := Lib.hid hbi; have Hs0 := Lib.hid hs0; have Hbo2 := Lib.hid hbo; have Hsm := Lib.hid hsm; have Hnx := Lib.hid hnx; have Hnn := Lib.hid hnn
        have Hog : Hid (∀ k, k < (orderL gs.length fs).length → ∃ i : Nat, (orderL gs.length fs).getD k 0 = i ∧ i < gs.length) := Lib.hid (fun k hk => og _ (by simp only [List.getD, hk, List.getElem?_eq_getElem, Option.getD_some]; exact List.getElem_mem _))
        clear hbi hs0 hbo hsm hnx hnn og Bi Kq kp1 hord hb0' hb1' hwl hdl hbl Hio
        generalize orderL gs.length fs = os at *
        go_wp2_with fail
        go_loopw [2, 3, 45] (fun vw vd i wq => ∃ (k : Nat) (s : WDB), vw = .slice (some ⟨gw, 0, none⟩) gs.length gs.length ∧ vd = .slice (some ⟨gd, 0, none⟩) fs.length fs.length ∧ k ≤ os.length ∧ i = .int .i64 k ∧ boundsTo gs fs k = some s ∧ Kp V wq ∧ BInv wq 0 gw gd gb gs.length fs.length s a none os []) (fun _ _ i _ => os.length - (intOf i).toNat)
        case atStart => exact ⟨0, _, rfl, rfl, Nat.zero_le _, rfl, Hs0.out, Kq1.out, Bi1.out⟩
        case round =>
          clear Hs0 Kq1 Bi1
          obtain ⟨w3, rfl⟩ : ∃ w3, w3 = wr := ⟨wr, rfl⟩
          obtain ⟨k, s, rfl, rfl, hk, rfl, hs, kp, bi⟩ := hrel
          by_cases hlt : k < os.length
          · obtain ⟨g, eg, hg⟩ := Hog.out k hlt
            have hsm := Hsm.out k hk s hs
            have hnx := Hnx.out k
            rw [hs, eg] at hnx
            have hnx2 : boundsTo gs fs (k + 1) = gateStep gs fs g s := hnx
            obtain ⟨b3, o3, rfl, hc3⟩ := bi.io.cells (by omega)
            have d0 := hc3 k hlt
            rw [eg] at d0
            have i1 : (k : Int) < (os.length : Int) := by omega
            have hb0' := kp.cell hb0
            have hb1' := kp.cell hb1
            have hbw : w.heap.size < w3.heap.size := World.block_lt_of_cell? w3 _ hb0'
            have hthr : ∀ W, Kp w3 W → Calls Try.prog 89 #[.agg #[.slice ga gs.length gc, .slice fa fs.length fc], .int .i64 (g : Int)] W (ListEnd W (thr fs g)) := fun W kW => through_any ga fa gs.length gc fc fs g W (Hfa.out W (kp.step kW)) hl
            have Hthr := Lib.hid hthr; have Hsm1 := Lib.hid hsm; have Hnx2 := Lib.hid hnx2; have Bi2 := Lib.hid bi; have Kq := Lib.hid kp
            clear hthr hsm hnx hnx2 hc3 eg bi kp hs
            go_wp2_with fail
            refine (Hthr.out _ (Kp.refl _)).mono ?_
            rintro e w4 ⟨a2, c2, rfl, hL, kp1⟩
            have hLl := thr_len fs g
            have hbi : BInv w4 0 gw gd gb gs.length fs.length s (some ⟨b3, o3, none⟩) a2 os (thr fs g) := (Bi2.out.kp kp1).list hL ⟨Bi2.out.rw.lt.2, Bi2.out.rd.lt.2, Bi2.out.rb.lt.2⟩ (by unfold maxLen; omega)
            have hkq := Kq.out.step kp1
            have hat := fun j hj => thr_at (fs := fs) (g := (g : Int)) (j := j) hj
            have hst : gateStep gs fs g s = if allR (thr fs g).length (fun j => decide (bOf s.bs (thr fs g) j ≤ 1000000000)) = true then
              some ⟨waitsOf gs fs g s, (addTo fs ((waitsOf gs fs g s).getD g 0) (gaAt gs g).2 (thr fs g) (s.bs, s.ds) (thr fs g).length).2, (addTo fs ((waitsOf gs fs g s).getD g 0) (gaAt gs g).2 (thr fs g) (s.bs, s.ds) (thr fs g).length).1⟩ else none := rfl
            have hsb := fun ha => sumB_bd (g := (g : Int)) Hsm1.out rfl hl ha
            have hws : waitsOf gs fs g s = if 0 < (thr fs g).length then s.ws.set g (upI (sumN (bOf s.bs (thr fs g)) (thr fs g).length) (gaAt gs g).1 - 1) else s.ws := rfl
            have hwsm := fun ha => waitsOf_small (gs := gs) (g := g) Hsm1.out rfl hl (Hgo.out g hg).1 ha
            have hbof : ∀ j, bOf s.bs (thr fs g) j = s.bs.getD ((thr fs g).getD j 0).toNat 0 := fun j => rfl
            have Bi := Lib.hid hbi; have Kp4 := Lib.hid hkq; have Hat := Lib.hid hat; have Hst := Lib.hid hst; have Hsb := Lib.hid hsb; have Hws := Lib.hid hws; have Hwsm := Lib.hid hwsm; have Hbof := Lib.hid hbof
            clear hbi hkq hat hst hsb hws hwsm hbof hL kp1 Bi2 Kq Hthr d0 hb0' hb1' hbw
            generalize thr fs g = L at *
            go_wp2_with fail
            go_loopw [2, 3, 11, 54] (fun vw vd sm i wq => ∃ (m : Nat), vw = .slice (some ⟨gw, 0, none⟩) gs.length gs.length ∧ vd = .slice (some ⟨gd, 0, none⟩) fs.length fs.length ∧ m ≤ L.length ∧ i = .int .i64 m ∧ sm = .int .i64 (sumN (bOf s.bs L) m) ∧ Kp w4 wq ∧ ∀ j, j < m → bOf s.bs L j ≤ 1000000000) (fun _ _ _ i _ => L.length - (intOf i).toNat)
            case atStart => exact ⟨0, rfl, rfl, Nat.zero_le _, rfl, rfl, Kp.refl _, fun j hj => by omega⟩
            case round =>
              obtain ⟨m, rfl, rfl, hm, rfl, rfl, kp, hok⟩ := hrel
              by_cases hlt2 : m < L.length
              · obtain ⟨q, eq, hq, _⟩ := Hat.out m hlt2
                have bi := Bi.out.kp kp
                obtain ⟨b4, o4, rfl, hc4⟩ := bi.il.cells (by omega)
                have d0 := hc4 m hlt2
                rw [eq] at d0
                have d1 := bi.rb.cell hq
                have i2 : (m : Int) < (L.length : Int) := by omega
                have i3 : (q : Int) < (fs.length : Int) := by omega
                have hbm : bOf s.bs L m = s.bs.getD q 0 := by rw [Hbof.out, eq]; rfl
                rw [← hbm] at d1
                by_cases hx : bOf s.bs L m ≤ 1000000000
                · have hok2 : ∀ j, j < m + 1 → bOf s.bs L j ≤ 1000000000 := fun j hj => by
                    by_cases e : j = m
                    · subst e; exact hx
                    · exact hok j (by omega)
                  have hsn : sumN (bOf s.bs L) (m + 1) = sumN (bOf s.bs L) m + bOf s.bs L m := rfl
                  have hb0' : 0 ≤ bOf s.bs L m := by have := Hsm1.out.b1 q hq; rw [hbm]; omega
                  have hs0' : 0 ≤ sumN (bOf s.bs L) m ∧ sumN (bOf s.bs L) m ≤ m * 1000000000 := sumN_le (fun j hj => by
                    obtain ⟨q2, eq2, hq2, _⟩ := Hat.out j (by omega)
                    have h1 := Hsm1.out.b1 q2 hq2
                    have h2 : bOf s.bs L j = s.bs.getD q2 0 := by rw [Hbof.out, eq2]; rfl
                    exact ⟨by rw [h2]; omega, hok j hj⟩)
                  have q1 : decide ((1000000000 : Int) < bOf s.bs L m) = false := decide_eq_false (by omega)
                  have Hsn := Lib.hid hsn; have Hok2 := Lib.hid hok2; have Kq2 := Lib.hid kp
                  clear hok hc4 eq hbm hsn hok2 bi kp
                  generalize bOf s.bs L m = x at *
                  generalize sumN (bOf s.bs L) m = S at *
                  go_wp2_with fail
                  go_roundw
                  case rel => exact ⟨m + 1, rfl, rfl, by omega, by go_num, by rw [Hsn.out], Kq2.out, Hok2.out⟩
                  case measure => simp [intOf]; omega
                · have hnone : boundsOf gs fs = none := by
                    have h1 : boundsTo gs fs (k + 1) = none := by
                      rw [Hnx2.out, Hst.out, if_neg]
                      rw [allR_bad hlt2 (by simpa using hx)]; simp
                    have := Hnn.out (k + 1) h1 (os.length - (k + 1))
                    rw [show k + 1 + (os.length - (k + 1)) = os.length by omega] at this
                    rw [Hbo2.out]; exact this
                  have q1 : decide ((1000000000 : Int) < bOf s.bs L m) = true := decide_eq_true (by omega)
                  have Hn := Lib.hid hnone; have Kq2 := Lib.hid kp
                  clear hok hc4 eq hbm hnone bi kp hx
                  generalize bOf s.bs L m = x at *
                  go_wp2_with fail
                  go_ret3
                  rw [Hn.out]
                  exact ⟨rfl, Hk.out.step (Kp4.out.step Kq2.out)⟩
              · obtain rfl : m = L.length := by omega
                have hsb := Hsb.out hok L.length (Nat.le_refl _)
                have hst : boundsTo gs fs (k + 1) = some ⟨waitsOf gs fs g s, (addTo fs ((waitsOf gs fs g s).getD g 0) (gaAt gs g).2 L (s.bs, s.ds) L.length).2, (addTo fs ((waitsOf gs fs g s).getD g 0) (gaAt gs g).2 L (s.bs, s.ds) L.length).1⟩ := by
                  rw [Hnx2.out, Hst.out, if_pos (allR_good (fun j hj => by simpa using hok j hj))]
                have hws := Hws.out
                have hsm1 := Hwsm.out hok
                have hwt := hsm1.w0 g
                dsimp only at hwt
                have hgk := Hgo.out g hg
                have bi := Bi.out.kp kp
                have kv := Kp4.out.step kp
                have hcw : (waitsOf gs fs g s).getD g 0 = (waitsOf gs fs g s).getD g 0 := rfl
                by_cases h0 : 0 < L.length
                · rw [if_pos h0] at hws
                  obtain ⟨b6, o6, rfl, hc6⟩ := (Hga.out _ kv).cells (by omega)
                  obtain ⟨g0, g1⟩ := hc6 g hg
                  have hb0' := kv.cell hb0
                  have hb1' := kv.cell hb1
                  have hup := upI_bd (hsb.2.2 h0) hsb.2.1 hgk.1
                  have hupc := fun W => up_any (sumN (bOf s.bs L) L.length) (gaAt gs g).1 W (by omega) (by omega) (by omega) (by omega)
                  have e0 := bi.rw.cell hg
                  have f0 := bi.rw.frozen g
                  have bi5 := bi.setW g (upI (sumN (bOf s.bs L) L.length) (gaAt gs g).1 - 1)
                  rw [← hws] at bi5
                  have kv5 : Kp V (wr.setCell ⟨gw, g, none⟩ (.int .i64 (upI (sumN (bOf s.bs L) L.length) (gaAt gs g).1 - 1))) := kv.setCell (Or.inr hVw) _
                  have i0' : (0 : Int) < (L.length : Int) := by omega
                  have i3 : (g : Int) < (gs.length : Int) := by omega
                  have Hup := Lib.hid hupc; have Bi5 := Lib.hid bi5; have Kv5 := Lib.hid kv5; have Hst2 := Lib.hid hst; have Hsm2 := Lib.hid hsm1; have Hgk := Lib.hid hgk
                  clear hupc bi5 kv5 hst hsm1 hgk bi kv hc6 hok hws kp hcw hsb
                  generalize s.ws.getD g 0 = old at *
                  generalize sumN (bOf s.bs L) L.length = S at *
                  generalize (gaAt gs g).1 = rt at *
                  generalize hdle : (gaAt gs g).2 = dl at *
                  have Hdle := Lib.hid hdle
                  clear hdle
                  generalize waitsOf gs fs g s = ws at *
                  generalize hwt2 : ws.getD g 0 = wt at *
                  have Hwt2 := Lib.hid hwt2
                  clear hwt2
                  go_wp2_with fail
                  refine (Hup.out _).mono ?_
                  rintro e w6 ⟨rfl, rfl⟩
                  generalize upI S rt = U at *
                  go_wp2_with fail
                  go_loopw [87] (fun i wq => ∃ (m : Nat), m ≤ L.length ∧ i = .int .i64 m ∧ Kp V wq ∧ BInv wq 0 gw gd gb gs.length fs.length ⟨ws, (addTo fs wt dl L (s.bs, s.ds) m).2, (addTo fs wt dl L (s.bs, s.ds) m).1⟩ (some ⟨b3, o3, none⟩) a2 os L) (fun i _ => L.length - (intOf i).toNat)
                  case atStart => exact ⟨0, Nat.zero_le _, rfl, Kv5.out, Bi5.out⟩
                  case round =>
                    clear Kv5 Bi5 e0 f0 g0 g1 hb0' hb1'
                    obtain ⟨w7, rfl⟩ : ∃ w7, w7 = wr := ⟨wr, rfl⟩
                    obtain ⟨m, hm, rfl, kp, bi⟩ := hrel
                    by_cases hlt3 : m < L.length
                    · obtain ⟨q, eq, hq, _⟩ := Hat.out m hlt3
                      have sm := addTo_small (L := L) Hsm2.out Hr.out hwt ⟨by have := Hgk.out.2.2.1; omega, (Hgk.out).2.2.2⟩ m
                      obtain ⟨b7, o7, rfl, hc7⟩ := bi.il.cells (by omega)
                      have d0 := hc7 m hlt3
                      rw [eq] at d0
                      obtain ⟨b6, o6, e6, hc6⟩ := (Hga.out _ kp).cells (by omega)
                      simp only [Option.some.injEq, Addr.mk.injEq] at e6
                      obtain ⟨rfl, rfl, -⟩ := e6
                      obtain ⟨g0, g1⟩ := hc6 g hg
                      obtain ⟨b5, o5, rfl, hc5⟩ := (Hfa.out _ kp).cells (by omega)
                      have f1 := (hc5 q hq).2.1
                      have hb0' := kp.cell hb0
                      have hb1' := kp.cell hb1
                      have cb := bi.rb.cell hq
                      have fb := bi.rb.frozen q
                      have cw := bi.rw.cell hg
                      rw [Hwt2.out] at cw
                      have hxb := sm.b0 q
                      have hx1 := sm.b1 q hq
                      have hz := sm.d0 q
                      dsimp only at hxb hx1 hz cb
                      have hrq := Hr.out q
                      have hml := mul_small hrq.1 hrq.2 hwt.1 hwt.2
                      have ea : addTo fs wt dl L (s.bs, s.ds) (m + 1) = ((addTo fs wt dl L (s.bs, s.ds) m).1.set q ((addTo fs wt dl L (s.bs, s.ds) m).1.getD q 0 + (flAt fs q).r * wt), (addTo fs wt dl L (s.bs, s.ds) m).2.set q ((addTo fs wt dl L (s.bs, s.ds) m).2.getD q 0 + (dl + wt))) := by
                        have : addTo fs wt dl L (s.bs, s.ds) (m + 1) = ((addTo fs wt dl L (s.bs, s.ds) m).1.set (L.getD m 0).toNat ((addTo fs wt dl L (s.bs, s.ds) m).1.getD (L.getD m 0).toNat 0 + (flAt fs (L.getD m 0).toNat).r * wt), (addTo fs wt dl L (s.bs, s.ds) m).2.set (L.getD m 0).toNat ((addTo fs wt dl L (s.bs, s.ds) m).2.getD (L.getD m 0).toNat 0 + (dl + wt))) := rfl
                        rw [this, eq]; rfl
                      have hm1 : wrap64 ((flAt fs q).r * wt) = (flAt fs q).r * wt := (IntWalk.i64_left _).symm.trans (IntWalk.i64_in _ (by omega))
                      generalize hy : (flAt fs q).r * wt = y at *
                      generalize (flAt fs q).r = r at *
                      generalize addTo fs wt dl L (s.bs, s.ds) m = t1 at *
                      have bi8 := bi.setB q (t1.1.getD q 0 + y)
                      have kv8 : Kp V (w7.setCell ⟨gb, q, none⟩ (.int .i64 (t1.1.getD q 0 + y))) := kp.setCell (Or.inr hVb) _
                      have i2 : (m : Int) < (L.length : Int) := by omega
                      have i3' : (q : Int) < (fs.length : Int) := by omega
                      have Bi8 := Lib.hid bi8; have Kv8 := Lib.hid kv8; have Hea := Lib.hid ea; have Sm := Lib.hid sm
                      clear bi8 kv8 ea sm bi kp hc7 hc6 hc5 eq hrq
                      generalize hx : t1.1.getD q 0 = x at *
                      generalize hzz : t1.2.getD q 0 = z at *
                      have Hxz := Lib.hid (And.intro hx hzz)
                      clear hx hzz
                      have hxy : wrap64 (x + y) = x + y := (IntWalk.i64_left _).symm.trans (IntWalk.i64_in _ (by omega))
                      go_wp2_with fail
                      go_region
                      have c7 : ∀ b o v, (w7.setCell ⟨gb, q, none⟩ (.int .i64 (x + y))).cell? ⟨b, o, none⟩ = some v → (w7.setCell ⟨gb, q, none⟩ (.int .i64 (x + y))).drew.cell? ⟨b, o, none⟩ = some v := fun b o v h => h
                      have kv9 : Kp V (w7.setCell ⟨gb, q, none⟩ (.int .i64 (x + y))).drew := Keeps.drew Kv8.out
                      have bi9 := Bi8.out.kp (Keeps.drew (Kp.refl (w7.setCell ⟨gb, q, none⟩ (.int .i64 (x + y)))))
                      have Kv9 := Lib.hid kv9; have Bi9 := Lib.hid bi9
                      clear c7 kv9 bi9 Kv8 Bi8 cb fb cw f1 g0 g1 hb0' hb1' d0
                      generalize (w7.setCell ⟨gb, q, none⟩ (.int .i64 (x + y))).drew = w8 at *
                      obtain ⟨b6, o6, e6, hc6⟩ := (Hga.out _ Kv9.out).cells (by omega)
                      simp only [Option.some.injEq, Addr.mk.injEq] at e6
                      obtain ⟨rfl, rfl, -⟩ := e6
                      obtain ⟨g0, g1⟩ := hc6 g hg
                      have hb0' := Kv9.out.cell hb0
                      have hb1' := Kv9.out.cell hb1
                      have cd := Bi9.out.rd.cell hq
                      have fd := Bi9.out.rd.frozen q
                      have cw := Bi9.out.rw.cell hg
                      dsimp only at cd cw
                      rw [Hxz.out.2] at cd
                      rw [Hwt2.out] at cw
                      rw [Hdle.out] at g1
                      have bi10 := Bi9.out.setD q (z + (dl + wt))
                      have kv10 : Kp V (w8.setCell ⟨gd, q, none⟩ (.int .i64 (z + (dl + wt)))) := Kv9.out.setCell (Or.inr hVd) _
                      have hdl : 1 ≤ dl ∧ dl ≤ 1000 := Hgk.out.2.2
                      have Bi10 := Lib.hid (bi10.kp (Keeps.drew (Kp.refl _))); have Kv10 := Lib.hid kv10
                      clear bi10 kv10 Bi9 Kv9 hc6
                      have hw1 : wrap64 (dl + wt) = dl + wt := (IntWalk.i64_left _).symm.trans (IntWalk.i64_in _ (by omega))
                      have hw2 : wrap64 (z + (dl + wt)) = z + (dl + wt) := (IntWalk.i64_left _).symm.trans (IntWalk.i64_in _ (by omega))
                      clear hxy hm1
                      go_wp2_with fail
                      go_region
                      go_wp2_with fail
                      go_roundw
                      case rel => exact ⟨m + 1, by omega, by go_num, Keeps.drew Kv10.out, by rw [Hea.out]; exact Bi10.out⟩
                      case measure => simp [intOf]; omega
                    · obtain rfl : m = L.length := by omega
                      have Bi9 := Lib.hid bi.nolist; have Kv9 := Lib.hid kp
                      clear bi kp
                      go_wp2_with fail
                      go_roundw
                      case rel => exact ⟨k + 1, _, rfl, rfl, by omega, by go_num, Hst2.out, Kv9.out, Bi9.out⟩
                      case measure => simp [intOf]; omega
                · rw [if_neg h0] at hws
                  have hL0 : L.length = 0 := by omega
                  have i0' : (L.length : Int) = 0 := by omega
                  have hst2 : boundsTo gs fs (k + 1) = some s := by
                    rw [hst, hws, hL0]; rfl
                  have Hst2 := Lib.hid hst2; have Bi9 := Lib.hid bi.nolist; have Kv9 := Lib.hid kv
                  clear hst hws hsm1 hwt hgk hst2 bi kv kp hok hcw hsb h0
                  rw [hL0]
                  clear i0'
                  go_wp2_with fail
                  go_loopw [87] (fun i wq => i = .int .i64 0 ∧ Kp V wq ∧ BInv wq 0 gw gd gb gs.length fs.length s (some ⟨b3, o3, none⟩) none os []) (fun i _ => 0 - (intOf i).toNat)
                  case atStart => exact ⟨rfl, Kv9.out, Bi9.out⟩
                  case round =>
                    clear Bi9 Kv9
                    obtain ⟨rfl, kp, bi⟩ := hrel
                    have Bi9 := Lib.hid bi; have Kv9 := Lib.hid kp
                    clear bi kp
                    go_wp2_with fail
                    go_roundw
                    case rel => exact ⟨k + 1, s, rfl, rfl, by omega, by go_num, Hst2.out, Kv9.out, Bi9.out⟩
                    case measure => simp [intOf]; omega
          · obtain rfl : k = os.length := by omega
            have hfin : boundsOf gs fs = some s := by rw [Hbo2.out]; exact hs
            have hw := bi.rw.ints (by unfold maxLen; omega)
            have hd := bi.rd.ints (by unfold maxLen; omega)
            have Hw := Lib.hid hw; have Hd := Lib.hid hd; have Hf := Lib.hid hfin; have Kq := Lib.hid kp
            clear hw hd hfin kp bi hs
            go_wp2_with fail
            go_ret3
            rw [Hf.out]
            exact ⟨⟨gw, gd, rfl, Hw.out, Hd.out⟩, Hk.out.step Kq.out⟩
end Go.Proofs.Ytcelbmpdnkaamaa
