/- The order of the gates: the walk. -/
import Derived.Test.YtcelbmpdnkaamaaBuI
import Derived.OwnWalk
namespace Go.Proofs.Ytcelbmpdnkaamaa
open Go Go.RowKit Go.WideMaps Go.Maps
set_option linter.unusedSimpArgs false
set_option linter.unusedVariables false

theorem own_push {w1 w3 : World} {o : Obj} {B : Nat} {a : Option Addr} {c : Nat} {L : List Int} {x : Int} {g2 cap2 : Nat}
    (hown : w3.ownsRow B 3 1 (.slice (some ⟨g2, 0, none⟩) (L.length + 1) cap2) (L.length + 1) (L.map encI ++ [.int .i64 x])) (hgrow : (w1.alloc o).grownBy w3 (Value.slice a L.length c).ownBlock) :
    OwnI w3 B (some ⟨g2, 0, none⟩) cap2 (L ++ [x]) ∧ Keeps (fun j => (Value.slice a L.length c).ownBlock = some j) w1 w3 := by
  refine ⟨?_, ?_⟩
  · unfold OwnI
    have e1 : (L ++ [x]).length = L.length + 1 := by simp
    rw [e1, List.map_append]
    exact hown
  · exact ((Keeps.refl _ w1).alloc o).grown hgrow (fun k e => Or.inl e)
theorem OwnI.lt {w : World} {B : Nat} {a : Option Addr} {c : Nat} {xs : List Int} (h : OwnI w B a c xs) {j : Nat} (e : (Value.slice a xs.length c).ownBlock = some j) : B ≤ j ∧ j < w.heap.size := by
  have h0 : w.ownsRow B 3 1 (.slice a xs.length c) xs.length (xs.map encI) := h
  exact h0.lt j e
theorem own_block {a : Option Addr} {n c : Nat} {p : Addr} (h : a = some p) : (Value.slice a n c).ownBlock = some p.block := by subst h; rfl
theorem OwnI.addr {w : World} {B : Nat} {a : Option Addr} {c : Nat} {xs : List Int} (h : OwnI w B a c xs) {p : Addr} (e : a = some p) : B ≤ p.block ∧ p.block < w.heap.size := h.lt (own_block e)
theorem IntsAt.ks {S : Nat → Prop} {w w' : World} {ao : Option Addr} {xs : List Int} (h : IntsAt w ao xs) (k : Keeps S w w') (hs : ∀ p, ao = some p → ¬ S p.block) : IntsAt w' ao xs := by
  refine ⟨h.len, fun h0 => ?_⟩
  obtain ⟨b, off, e, hc⟩ := h.cells h0
  exact ⟨b, off, e, fun j hj => k.cell (hc j hj) (hs _ e)⟩
theorem OwnI.set {w : World} {B : Nat} {a : Option Addr} {c : Nat} {xs : List Int} (h : OwnI w B a c xs) {g j : Nat} (hg : g < B) (v : Value) : OwnI (w.setCell ⟨g, j, none⟩ v) B a c xs := by
  have h0 : w.ownsRow B 3 1 (.slice a xs.length c) xs.length (xs.map encI) := h
  exact ownsRow_of_block h0 (fun k e => Below.heap_setCell _ _ _ _ (by have := (h0.lt k e).1; show k ≠ g; omega))
theorem slice_tail {w : World} {b o : Nat} {xs : List Int} (h : IntsAt w (some ⟨b, o, none⟩) xs) {m : Nat} (hm : m + 1 < xs.length) : w.cell? ⟨b, o + 1 + m, none⟩ = some (.int .i64 (xs.getD (m + 1) 0)) := by
  obtain ⟨b2, o2, e, hc⟩ := h.cells (by omega)
  simp only [Option.some.injEq, Addr.mk.injEq] at e
  obtain ⟨rfl, rfl, -⟩ := e
  rw [show o + 1 + m = o + (m + 1) by omega]
  exact hc (m + 1) hm

set_option maxRecDepth 100000 in
set_option maxHeartbeats 6400000 in
theorem inOrder_any (ga fa : Option Addr) (ng gc fc : Nat) (fs : List Fl) (w : World) (hf : FlowsAt w fa fs) (hl : fs.length ≤ 40) (hl2 : ng ≤ 30) (hp : PathsOk ng fs) :
    Calls Try.prog 56 #[.agg #[.slice ga ng gc, .slice fa fs.length fc]] w (ListEnd w (orderL ng fs)) := by
  have hk := kp_alloc w (.cells #[.slice ga ng gc, .slice fa fs.length fc] 47)
  have hbx := box0 w (.slice ga ng gc) (.slice fa fs.length fc) 47
  have hbx1 := box1 w (.slice ga ng gc) (.slice fa fs.length fc) 47
  obtain ⟨i0, hi0, hz0, hz1, hz2⟩ := info_parts infoInt
  have hfa := fun W k => hf.kp (w' := W) (hk.step k)
  have Hk := Lib.hid hk; have Hfa := Lib.hid hfa; have Hp := Lib.hid hp
  clear hk hfa hf hp
  go_enter Try.func56, Try.ntmps56
  have hVs : (w.alloc (.cells #[.slice ga ng gc, .slice fa fs.length fc] 47)).heap.size = w.heap.size + 1 := by simp
  go_wp2_with (first | (at_make; refine wpList_make_full _ rfl _ _ 28 rfl (w.heap.size + 1) 3 i0 (.int .i64 0) 1 Try.underlying28 hi0 hz0 hz1 .i64 .i64 _ _ ng rfl rfl rfl rfl (by rw [hz2]; omega) (by unfold maxLen; omega) (by simp) ?_; intro w2 hown hgrow; have hb0 := (((Keeps.refl (fun _ => False) _).grown hgrow (fun k e => by cases e)) : Kp (w.alloc (.cells #[.slice ga ng gc, .slice fa fs.length fc] 47)) w2).cell hbx; have hb1 := (((Keeps.refl (fun _ => False) _).grown hgrow (fun k e => by cases e)) : Kp (w.alloc (.cells #[.slice ga ng gc, .slice fa fs.length fc] 47)) w2).cell hbx1) | fail)
  rw [hVs] at hown
  have k2 : Kp (w.alloc (.cells #[.slice ga ng gc, .slice fa fs.length fc] 47)) w2 := (Keeps.refl _ _).grown hgrow (fun k e => by cases e)
  have hrow0 : IRow w2 (w.heap.size + 1) (w.heap.size + 1) ng ng (befTo ng fs 0) := irow_made hown
  clear hown hgrow
  generalize hV : (w.alloc (.cells #[.slice ga ng gc, .slice fa fs.length fc] 47)) = V at *
  clear hV
  have hf2 := Hfa.out _ k2
  have K2 := Lib.hid k2
  clear k2
  have hbd := fun k hk => befTo_bd Hp.out k hk
  have hoi := fun i => ordTo_inv Hp.out hl i
  have Hbd := Lib.hid hbd; have Hoi := Lib.hid hoi
  clear hbd hoi
  go_loopw [21] (fun i wr => ∃ (k : Nat), k ≤ fs.length ∧ i = .int .i64 k ∧ Kp V wr ∧ IRow wr (w.heap.size + 1) (w.heap.size + 1) ng ng (befTo ng fs k)) (fun i _ => fs.length - (intOf i).toNat)
  case atStart => exact ⟨0, Nat.zero_le _, rfl, K2.out, hrow0⟩
  case round =>
    clear hrow0 hb0 hb1 hf2 K2
    obtain ⟨k, hk, rfl, kp, row⟩ := hrel
    by_cases hlt : k < fs.length
    · obtain ⟨b1, o1, rfl, hc1⟩ := (Hfa.out _ (Kp.refl V)).cells (by omega)
      obtain ⟨c0', c1', pa, pc, c2', c3, c4, c5⟩ := hc1 k hlt
      have c0 := kp.cell c0'
      have c1 := kp.cell c1'
      have c2 := kp.cell c2'
      have i1 : (k : Int) < (fs.length : Int) := by omega
      obtain ⟨p1, p8, pg⟩ := Hp.out k hlt
      have hbd := Hbd.out k hk
      have hnx : befTo ng fs (k + 1) = incTo (befTo ng fs k) (flAt fs k).p ((flAt fs k).p.length - 1) := rfl
      generalize hys : befTo ng fs (k + 1) = ys at *
      generalize hxs : befTo ng fs k = xs at *
      generalize flAt fs k = f at *
      obtain ⟨fb, fr, p⟩ := f
      dsimp only at *
      obtain ⟨b2, o2, rfl, hc2⟩ := c3.cells (by omega)
      have ka := kp_alloc wr (.cells #[.int .i64 fb, .int .i64 fr, .slice (some ⟨b2, o2, none⟩) p.length pc] 61)
      have hsz := kp.size
      have Kq := Lib.hid (kp.step ka); have Row := Lib.hid (row.kp ka); have Hpi := Lib.hid c3; have Hbx := Lib.hid hbd; have Hnx := Lib.hid hnx; have Hpg := Lib.hid pg; have Hys := Lib.hid hys
      clear hc1 hc2 kp row c3 ka hbd hnx pg hys hxs c0' c1' c2'
      unfold maxLen at c5
      by_cases hpc : pc = 1
      · subst hpc
        go_wp2_with fail
        generalize (wr.alloc (.cells #[.int .i64 fb, .int .i64 fr, .slice (some ⟨b2, o2, none⟩) p.length 1] 61)) = W1 at *
        go_loopw [29] (fun i wq => ∃ (m : Nat), m ≤ p.length - 1 ∧ i = .int .i64 m ∧ Kp V wq ∧ IRow wq (w.heap.size + 1) (w.heap.size + 1) ng ng (incTo xs p m)) (fun i _ => p.length - (intOf i).toNat)
        case atStart => exact ⟨0, Nat.zero_le _, rfl, Kq.out, Row.out⟩
        case round =>
          obtain ⟨m, hm, rfl, kp, row⟩ := hrel
          have hcl : ((p.length - 1 : Nat) : Int) = (p.length : Int) - 1 := by omega
          by_cases hlt2 : m < p.length - 1
          · exfalso; omega
          · obtain rfl : m = p.length - 1 := by omega
            rw [← Hnx.out] at row
            have i2 : decide (((p.length - 1 : Nat) : Int) < ((p.length - 1 : Nat) : Int)) = false := decide_eq_false (by omega)
            have Row2 := Lib.hid row; have Kp2 := Lib.hid kp
            clear row kp
            go_wp2_with fail
            go_roundw
            case rel => exact ⟨k + 1, by omega, by go_num, Kp2.out, by rw [Hys.out]; exact Row2.out⟩
            case measure => simp [intOf]; omega
      · go_wp2_with fail
        generalize (wr.alloc (.cells #[.int .i64 fb, .int .i64 fr, .slice (some ⟨b2, o2, none⟩) p.length pc] 61)) = W1 at *
        go_loopw [29] (fun i wq => ∃ (m : Nat), m ≤ p.length - 1 ∧ i = .int .i64 m ∧ Kp V wq ∧ IRow wq (w.heap.size + 1) (w.heap.size + 1) ng ng (incTo xs p m)) (fun i _ => p.length - (intOf i).toNat)
        case atStart => exact ⟨0, Nat.zero_le _, rfl, Kq.out, Row.out⟩
        case round =>
          obtain ⟨m, hm, rfl, kp, row⟩ := hrel
          have hcl : ((p.length - 1 : Nat) : Int) = (p.length : Int) - 1 := by omega
          by_cases hlt2 : m < p.length - 1
          · have d0 := slice_tail (Hpi.out.kp kp) (m := m) (by omega)
            obtain ⟨q, e1, e2⟩ := Hpg.out (m + 1) (by omega)
            have hb3 := (incTo_bd (p := p) Hbx.out (Int.le_refl _) (by omega) m).2 q
            have d1 := row.cell e2
            have fz := row.frozen q
            have hin : incTo xs p (m + 1) = (incTo xs p m).set q ((incTo xs p m).getD q 0 + 1) := by
              have : incTo xs p (m + 1) = inc (incTo xs p m) (p.getD (m + 1) 0) := rfl
              rw [this, e1]; simp [inc]
            have row2 := row.set q ((incTo xs p m).getD q 0 + 1)
            rw [← hin] at row2
            have kp2 : Kp V (wr.setCell ⟨w.heap.size + 1, q, none⟩ (.int .i64 ((incTo xs p m).getD q 0 + 1))) := kp.setCell (Or.inr (by show V.heap.size ≤ w.heap.size + 1; omega)) _
            have i2 : (m : Int) < ((p.length - 1 : Nat) : Int) := by omega
            have i3 : (q : Int) < (ng : Int) := by omega
            rw [e1] at d0
            have Row2 := Lib.hid row2; have Kp2 := Lib.hid kp2
            generalize (incTo xs p m).getD q 0 = x at *
            clear row2 kp2 row kp e1 hin
            go_wp2_with fail
            go_roundw
            case rel => exact ⟨m + 1, by omega, by go_num, Kp2.out, Row2.out⟩
            case measure => simp [intOf]; omega
          · obtain rfl : m = p.length - 1 := by omega
            rw [← Hnx.out] at row
            have i2 : decide (((p.length - 1 : Nat) : Int) < ((p.length - 1 : Nat) : Int)) = false := decide_eq_false (by omega)
            have Row2 := Lib.hid row; have Kp2 := Lib.hid kp
            clear row kp
            go_wp2_with fail
            go_roundw
            case rel => exact ⟨k + 1, by omega, by go_num, Kp2.out, by rw [Hys.out]; exact Row2.out⟩
            case measure => simp [intOf]; omega
    · obtain rfl : k = fs.length := by omega
      have e0 : ordTo fs (ord0 ng fs) 0 = (befTo ng fs fs.length, pick (zeroF (befTo ng fs fs.length)) ng) := rfl
      have hbd := (Hbd.out fs.length (Nat.le_refl _))
      have hor := fun i hi h => orderL_of (ng := ng) (fs := fs) (i := i) hi h
      have E0 := Lib.hid e0; have Hor := Lib.hid hor
      clear e0 hor
      generalize hbef : befTo ng fs fs.length = bef at *
      have Row := Lib.hid row; have Kq := Lib.hid kp; have Hb := Lib.hid hbd
      clear row kp hbd
      go_wp2_with fail
      go_loopw [8, 43] (fun l i wq => ∃ (k : Nat) (a : Option Addr) (c : Nat), k ≤ ng ∧ i = .int .i64 k ∧ l = .slice a (pick (zeroF bef) k).length c ∧ OwnI wq (w.heap.size + 2) a c (pick (zeroF bef) k) ∧ Kp V wq ∧ IRow wq (w.heap.size + 1) (w.heap.size + 1) ng ng bef) (fun _ i _ => ng - (intOf i).toNat)
      case atStart => exact ⟨0, none, 0, Nat.zero_le _, rfl, rfl, OwnI.nil _ _, Kq.out, Row.out⟩
      case round =>
        obtain ⟨k, a, c, hk, rfl, rfl, hown, kp, row⟩ := hrel
        have hrl := row.lt.2
        by_cases hlt : k < ng
        · have d1 := row.cell hlt
          have i1 : (k : Int) < (ng : Int) := by omega
          have hyes := pick_yes (f := zeroF bef) (k := k)
          have hnoo := pick_no (f := zeroF bef) (k := k)
          have hzf : zeroF bef k = (bef.getD k 0 == 0) := rfl
          have hpl := pick_len (zeroF bef) k
          generalize pick (zeroF bef) k = L at *
          have Row2 := Lib.hid row; have Kp2 := Lib.hid kp; have Hown := Lib.hid hown
          clear row kp hown
          by_cases hx : bef.getD k 0 = 0
          · have hz := Lib.hid (hyes (by rw [hzf, hx]; rfl))
            rw [hx] at d1
            clear hyes hnoo hzf hx
            go_wp2_with (at_builtin; refine wpList_append_lies _ rfl (.tmp 50) (.tmp 52) 28 rfl (w.heap.size + 2) 3 i0 (.int .i64 0) 1 8 Try.underlying28 hi0 hz0 hz1 hz2 rfl (by decide) (.slice a L.length c) L.length (L.map encI) (by rfl) (Hown.out.kp (kp_alloc _ _)) ⟨wr.heap.size, 0, none⟩ 1 1 [.int .i64 (k : Int)] (by rfl) rfl (World.news_of_block (cs := #[.int .i64 (k : Int)]) (t := 3) (fr := (0, 0)) (heap_alloc_new wr _)) (by intro u hu; simp at hu; subst hu; rfl) (by omega) (by unfold maxLen; omega) (by omega) (by simp; omega) _ rfl ?_; intro g2 cap2 w4 hown3 hgrow hat hlt2)
            obtain ⟨hown4, hk4⟩ := own_push (a := a) (c := c) hown3 hgrow
            have row4 : IRow w4 (w.heap.size + 1) (w.heap.size + 1) ng ng bef := Row2.out.of_block (hk4.block _ hrl (fun e => by have := (Hown.out.lt e).1; omega))
            have kp4 : Kp V w4 := Kp2.out.trans hk4 (fun j e => Or.inr (by have := (Hown.out.lt e).1; omega))
            have Row4 := Lib.hid row4; have Kp4 := Lib.hid kp4; have Hown4 := Lib.hid hown4
            clear row4 kp4 hown4 hk4 hown3 hgrow hat
            go_wp2_with fail
            go_roundw
            case rel => exact ⟨k + 1, some ⟨g2, 0, none⟩, cap2, by omega, by go_num, by rw [hz.out]; simp, by rw [hz.out]; exact Hown4.out, Kp4.out, Row4.out⟩
            case measure => simp [intOf]; omega
          · have hz := Lib.hid (hnoo (by rw [hzf]; simpa using hx))
            have q0 : (bef.getD k 0 == 0) = false := by simpa using hx
            generalize bef.getD k 0 = x at *
            clear hyes hnoo hzf hx
            go_wp2_with fail
            go_roundw
            case rel => exact ⟨k + 1, a, c, by omega, by go_num, by rw [hz.out], by rw [hz.out]; exact Hown.out, Kp2.out, Row2.out⟩
            case measure => simp [intOf]; omega
        · obtain rfl : k = ng := by omega
          have hs0 : OwnI wr (w.heap.size + 2) a c (ordTo fs (ord0 k fs) 0).2 := by rw [E0.out]; exact hown
          have hr0 : IRow wr (w.heap.size + 1) (w.heap.size + 1) k k (ordTo fs (ord0 k fs) 0).1 := by rw [E0.out]; exact row
          have hl0 : (pick (zeroF bef) k).length = (ordTo fs (ord0 k fs) 0).2.length := by rw [E0.out]
          have Hs0 := Lib.hid hs0; have Hr0 := Lib.hid hr0; have Hkp := Lib.hid kp
          clear hs0 hr0 hown kp row hbef Hb E0 Row Kq Hbd
          rw [hl0]
          clear hl0
          generalize k = ng at *
          go_wp2_with fail
          go_loopw [8, 11] (fun l i wq => ∃ (j : Nat) (a : Option Addr) (c : Nat), j ≤ ng ∧ i = .int .i64 j ∧ l = .slice a (ordTo fs (ord0 ng fs) j).2.length c ∧ OwnI wq (w.heap.size + 2) a c (ordTo fs (ord0 ng fs) j).2 ∧ Kp V wq ∧ IRow wq (w.heap.size + 1) (w.heap.size + 1) ng ng (ordTo fs (ord0 ng fs) j).1) (fun _ i _ => ng - (intOf i).toNat)
          case atStart => exact ⟨0, a, c, Nat.zero_le _, rfl, rfl, Hs0.out, Hkp.out, Hr0.out⟩
          case round =>
            clear Hs0 Hkp Hr0
            obtain ⟨w5, rfl⟩ : ∃ w5, w5 = wr := ⟨wr, rfl⟩
            obtain ⟨j, a, c, hj, rfl, rfl, hown, kp, row⟩ := hrel
            have inv := Hoi.out j
            have hst : ordTo fs (ord0 ng fs) (j + 1) = ordStep fs j (ordTo fs (ord0 ng fs) j) := rfl
            generalize hs2 : ordTo fs (ord0 ng fs) (j + 1) = s2 at *
            generalize hss : ordTo fs (ord0 ng fs) j = s at *
            have Hs2 := Lib.hid hs2; have Hss := Lib.hid hss
            clear hs2 hss
            have hol := inv.ol
            by_cases hlt : j < s.2.length
            · obtain ⟨b3, o3, rfl, hc3⟩ := (hown.ints (by unfold maxLen; omega)).cells (by omega)
              have d0 := hc3 j hlt
              have hb0 := kp.cell hbx
              have hb1 := kp.cell hbx1
              have hbl : w.heap.size < w5.heap.size := World.block_lt_of_cell? w5 _ hb0
              have hbl3 : b3 < w5.heap.size := World.block_lt_of_cell? w5 _ d0
              have hst2 : s2 = decTo s (bhTo fs (s.2.getD j 0) fs.length) (bhTo fs (s.2.getD j 0) fs.length).length := by rw [hst]; unfold ordStep; rw [if_pos hlt]
              have i1 : (j : Int) < (s.2.length : Int) := by omega
              have hbeh := fun W kW => behind_any ga fa ng gc fc fs (s.2.getD j 0) W (Hfa.out W (kp.step kW)) hl
              have hbg := bh_gates Hp.out (s.2.getD j 0)
              have hbn := bh_len fs (s.2.getD j 0) fs.length
              generalize s.2.getD j 0 = g at *
              generalize bhTo fs g fs.length = l' at *
              have hdi := fun m hm => decTo_inv inv (by omega) hbg m hm
              have Hbeh := Lib.hid hbeh; have Hst := Lib.hid hst2; have Hown := Lib.hid hown; have Kq := Lib.hid kp; have Row := Lib.hid row; have Hdi := Lib.hid hdi; have Hbg := Lib.hid hbg
              clear hbeh hst2 hst hown kp row hc3 inv hdi hbg
              go_wp2_with fail
              go_region_law (go_simp; go_at_call 88; refine (Hbeh.out _ (by first | exact Kp.refl _ | exact Keeps.drew (Kp.refl _) | exact Keeps.drewN (Kp.refl _) _)).mono ?_; rintro e w6 ⟨a1, c1, rfl, hb1, kp1⟩)
              all_goals
                have kp2 : Kp w5 w6 := ⟨kp1.os, kp1.tape, kp1.output, kp1.size, kp1.block⟩
                have hb2 : OwnI w6 w5.heap.size a1 c1 l' := hb1
                have hrl := Row.out.lt.2
                have hq : ∀ p, a1 = some p → w.heap.size + 2 ≤ p.block ∧ p.block < w6.heap.size := fun p e => ⟨by have := (hb2.addr e).1; omega, (hb2.addr e).2⟩
                have hsep : ∀ p q, (some ⟨b3, o3, none⟩ : Option Addr) = some p → a1 = some q → p.block ≠ q.block := fun p q e1 e2 => by
                  have h1 := (Hown.out.addr e1).2
                  have h2 := (hb2.addr e2).1
                  omega
                have H0 : Hid (OwnI w6 (w.heap.size + 2) (some ⟨b3, o3, none⟩) c s.2 ∧ Kp V w6 ∧ IRow w6 (w.heap.size + 1) (w.heap.size + 1) ng ng s.1 ∧ IntsAt w6 a1 l') := Lib.hid ⟨Hown.out.kp kp2, Kq.out.step kp2, Row.out.kp kp2, hb2.ints (by unfold maxLen; omega)⟩
                have Hq := Lib.hid hq; have Hsep := Lib.hid hsep
                clear kp2 hb2 hq hsep kp1 hb1 d0
                go_wp2_with fail
                go_simp
                go_loopw [8, 68] (fun l i wq => ∃ (m : Nat) (a : Option Addr) (c : Nat), m ≤ l'.length ∧ i = .int .i64 m ∧ l = .slice a (decTo s l' m).2.length c ∧ OwnI wq (w.heap.size + 2) a c (decTo s l' m).2 ∧ Kp V wq ∧ IRow wq (w.heap.size + 1) (w.heap.size + 1) ng ng (decTo s l' m).1 ∧ IntsAt wq a1 l' ∧ w6.heap.size ≤ wq.heap.size ∧ (∀ p q, a = some p → a1 = some q → p.block ≠ q.block)) (fun _ i _ => l'.length - (intOf i).toNat)
                case atStart => exact ⟨0, some ⟨b3, o3, none⟩, c, Nat.zero_le _, rfl, rfl, H0.out.1, H0.out.2.1, H0.out.2.2.1, H0.out.2.2.2, Nat.le_refl _, Hsep.out⟩
                case round =>
                  clear H0 Hown Kq Row
                  obtain ⟨m, a, c, hm, rfl, rfl, hown, kp, row, hin, hsz, hse⟩ := hrel
                  have inv := Hdi.out m hm
                  have hds : decTo s l' (m + 1) = dec (decTo s l' m) (l'.getD m 0) := rfl
                  by_cases hlt2 : m < l'.length
                  · obtain ⟨q, e1, e2⟩ := Hbg.out m hlt2
                    rw [e1] at hds
                    generalize ht2 : decTo s l' (m + 1) = t2 at *
                    have Ht2 := Lib.hid ht2
                    clear ht2
                    have hmm : decTo s l' m = decTo s l' m := rfl
                    generalize hss : decTo s l' m = t1 at *
                    clear hmm
                    have hol1 := inv.ol
                    obtain ⟨b4, o4, rfl, hc4⟩ := hin.cells (by omega)
                    have d0 := hc4 m hlt2
                    rw [e1] at d0
                    have i2 : (m : Int) < (l'.length : Int) := by omega
                    have i3 : (q : Int) < (ng : Int) := by omega
                    have d1 := row.cell e2
                    have fz := row.frozen q
                    have hbq := inv.bd q
                    have hrl4 := row.lt.2
                    have hds1 : t2.1 = t1.1.set q (t1.1.getD q 0 - 1) := by rw [hds]; simp [dec]
                    have hds2 : t2.2 = if t1.1.getD q 0 - 1 = 0 then t1.2 ++ [(q : Int)] else t1.2 := by rw [hds]; simp [dec]
                    have row2 := row.set q (t1.1.getD q 0 - 1)
                    have d2 := row2.cell e2
                    rw [getD_set, if_pos ⟨rfl, by rw [row.len]; exact e2⟩] at d2
                    rw [← hds1] at row2
                    have kp3 : Kp V (wr.setCell ⟨w.heap.size + 1, q, none⟩ (.int .i64 (t1.1.getD q 0 - 1))) := kp.setCell (Or.inr (by show V.heap.size ≤ w.heap.size + 1; omega)) _
                    have hsz3 : (wr.setCell ⟨w.heap.size + 1, q, none⟩ (.int .i64 (t1.1.getD q 0 - 1))).heap.size = wr.heap.size := by simp [World.setCell]
                    have hown3 : OwnI (wr.setCell ⟨w.heap.size + 1, q, none⟩ (.int .i64 (t1.1.getD q 0 - 1))) (w.heap.size + 2) a c t1.2 := hown.set (by omega) _
                    have hin3 : IntsAt (wr.setCell ⟨w.heap.size + 1, q, none⟩ (.int .i64 (t1.1.getD q 0 - 1))) (some ⟨b4, o4, none⟩) l' := hin.ks (S := fun j => j = w.heap.size + 1) ((Keeps.refl (fun j => j = w.heap.size + 1) wr).setCell (p := ⟨w.heap.size + 1, q, none⟩) (Or.inl rfl) _) (fun p e e5 => by have := (Hq.out p e).1; omega)
                    have Row3 := Lib.hid row2; have Kp3 := Lib.hid kp3; have Hown3 := Lib.hid hown3; have Hin3 := Lib.hid hin3; have Hse := Lib.hid hse
                    clear row2 kp3 hown3 hin3 row kp hown hin hc4 hds hds1 inv hse hss
                    by_cases hx : t1.1.getD q 0 = 1
                    · rw [if_pos (by omega)] at hds2
                      have Hds := Lib.hid hds2
                      clear hds2
                      generalize t1.2 = L at *
                      generalize t1.1.getD q 0 = x at *
                      subst hx
                      have hz : ((1 : Int) - 1) = 0 := rfl
                      simp only [hz] at d2 hsz3 Row3 Kp3 Hown3 Hin3
                      clear hz
                      have hnewb : ∀ o, ((wr.setCell ⟨w.heap.size + 1, q, none⟩ (.int .i64 0)).alloc o).heap[wr.heap.size]? = some o := fun o => by have := heap_alloc_new (wr.setCell ⟨w.heap.size + 1, q, none⟩ (.int .i64 0)) o; rw [hsz3] at this; exact this
                      have Hnb := Lib.hid hnewb
                      clear hnewb
                      go_wp2_with (at_builtin; refine wpList_append_lies _ rfl (.tmp 83) (.tmp 85) 28 rfl (w.heap.size + 2) 3 i0 (.int .i64 0) 1 8 Try.underlying28 hi0 hz0 hz1 hz2 rfl (by decide) (.slice a L.length c) L.length (L.map encI) (by rfl) (Hown3.out.kp (kp_alloc _ _)) ⟨wr.heap.size, 0, none⟩ 1 1 [.int .i64 (q : Int)] (by rfl) rfl (World.news_of_block (cs := #[.int .i64 (q : Int)]) (t := 3) (fr := (0, 0)) (Hnb.out _)) (by intro u hu; simp at hu; subst hu; rfl) (by omega) (by unfold maxLen; omega) (by omega) (by simp [World.setCell]; omega) _ rfl ?_; intro g2 cap2 w4 hown4 hgrow hat hlt4)
                      obtain ⟨hown5, hk5⟩ := own_push (a := a) (c := c) hown4 hgrow
                      have nlt : ∀ {j : Nat}, (Value.slice a L.length c).ownBlock = some j → w.heap.size + 2 ≤ j ∧ j < wr.heap.size := fun e => by have := Hown3.out.lt e; rw [hsz3] at this; exact this
                      have row5 : IRow w4 (w.heap.size + 1) (w.heap.size + 1) ng ng t2.1 := Row3.out.of_block (hk5.block _ (by rw [hsz3]; omega) (fun e => by have := (nlt e).1; omega))
                      have kp5 : Kp V w4 := Kp3.out.trans hk5 (fun j e => Or.inr (by have := (nlt e).1; omega))
                      have hin5 : IntsAt w4 (some ⟨b4, o4, none⟩) l' := Hin3.out.ks hk5 (fun p e e5 => by
                        cases a with
                        | none => cases e5
                        | some pa =>
                          have h1 : (Value.slice (some pa) L.length c).ownBlock = some pa.block := rfl
                          rw [h1] at e5
                          simp only [Option.some.injEq] at e5
                          exact Hse.out pa p rfl e e5)
                      have hse5 : ∀ p r : Addr, (some ⟨g2, 0, none⟩ : Option Addr) = some p → (some ⟨b4, o4, none⟩ : Option Addr) = some r → p.block ≠ r.block := fun p r e5 e6 => by
                        cases e5
                        have hrb := (Hq.out r e6).2
                        rcases hat with h1 | h1
                        · cases a with
                          | none => cases h1
                          | some pa =>
                            have h2 : (Value.slice (some pa) L.length c).ownBlock = some pa.block := rfl
                            rw [h2] at h1
                            simp only [Option.some.injEq] at h1
                            show g2 ≠ r.block
                            rw [← h1]
                            exact Hse.out pa r rfl e6
                        · show g2 ≠ r.block
                          simp at h1
                          omega
                      have hsz5 : w6.heap.size ≤ w4.heap.size := Nat.le_trans (by rw [hsz3]; omega) hk5.size
                      have Row5 := Lib.hid row5; have Kp5 := Lib.hid kp5; have Hin5 := Lib.hid hin5; have Hse5 := Lib.hid hse5; have Hown5 := Lib.hid hown5
                      clear row5 kp5 hin5 hse5 hown5 hown4 hgrow hat hk5 nlt
                      go_wp2_with fail
                      go_roundw
                      case rel => exact ⟨m + 1, some ⟨g2, 0, none⟩, cap2, by omega, by go_num, by rw [Ht2.out, Hds.out]; simp, by rw [Ht2.out, Hds.out]; exact Hown5.out, Kp5.out, by rw [Ht2.out]; exact Row5.out, Hin5.out, hsz5, Hse5.out⟩
                      case measure => simp [intOf]; omega
                    · rw [if_neg (by omega)] at hds2
                      have Hds := Lib.hid hds2
                      have q0 : (t1.1.getD q 0 - 1 == 0) = false := beq_eq_false_iff_ne.2 (by omega)
                      clear hds2
                      generalize t1.1.getD q 0 = x at *
                      generalize t1.2 = L at *
                      generalize hW : wr.setCell ⟨w.heap.size + 1, q, none⟩ (.int .i64 (x - 1)) = W at *
                      go_wp2_with fail
                      go_roundw
                      case rel => exact ⟨m + 1, a, c, by omega, by go_num, by rw [Ht2.out, Hds.out], by rw [Ht2.out, Hds.out]; exact Hown3.out, Kp3.out, by rw [Ht2.out]; exact Row3.out, Hin3.out, by omega, Hse.out⟩
                      case measure => simp [intOf]; omega
                  · obtain rfl : m = l'.length := by omega
                    rw [← Hst.out] at hown row
                    have hle : (decTo s l' l'.length).2.length = s2.2.length := by rw [Hst.out]
                    rw [hle]
                    have Hown := Lib.hid hown; have Row := Lib.hid row; have Kq := Lib.hid kp
                    clear hown row kp hin hle
                    go_wp2_with fail
                    go_roundw
                    case rel => exact ⟨j + 1, a, c, by omega, by go_num, by rw [Hs2.out], by rw [Hs2.out]; exact Hown.out, Kq.out, by rw [Hs2.out]; exact Row.out⟩
                    case measure => simp [intOf]; omega
            · have hfin := Hor.out j hj (by rw [Hss.out]; omega)
              rw [Hss.out] at hfin
              go_wp2_with fail
              go_ret
              exact ⟨a, c, by rw [hfin]; rfl, by rw [hfin]; exact hown.mono (by omega), Hk.out.step kp⟩
end Go.Proofs.Ytcelbmpdnkaamaa
