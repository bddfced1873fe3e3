/- The reference's Delays. -/
import Derived.Test.YtcelbmpdnkaamaaBxI
import Derived.Test.YtcelbmpdnkaamaaBwB
namespace Go.Proofs.Ytcelbmpdnkaamaa
open Go Go.RowKit Go.WideMaps Go.Maps
set_option linter.unusedSimpArgs false
set_option linter.unusedVariables false

set_option maxRecDepth 100000 in
set_option maxHeartbeats 6400000 in
theorem refDelays_any (ga fa : Option Addr) (gc fc : Nat) (gs : List Ga) (fs : List Fl) (w : World) (hg : GatesAt w ga gs) (hf : FlowsAt w fa fs) :
    Calls Try.prog 32 #[.agg #[.slice ga gs.length gc, .slice fa fs.length fc]] w (DelEnd w gs fs) := by
  have hk := kp_alloc w (.cells #[.slice ga gs.length gc, .slice fa fs.length fc] 47)
  have hb0 := box0 w (.slice ga gs.length gc) (.slice fa fs.length fc) 47
  have hb1 := box1 w (.slice ga gs.length gc) (.slice fa fs.length fc) 47
  have hn := fun W k => refCheckNet_any ga fa gc fc gs fs W (hg.kp (hk.step k)) (hf.kp (hk.step k))
  have hfa := fun W k => hf.kp (w' := W) (hk.step k)
  have hga := fun W k => hg.kp (w' := W) (hk.step k)
  have Hk := Lib.hid hk; have Hn := Lib.hid hn; have Hfa := Lib.hid hfa; have Hga := Lib.hid hga
  clear hk hn hfa hga hg hf
  by_cases h0 : netErr gs fs = 0
  case neg =>
    have hfin : ∀ w', Kp w w' → DelEnd w gs fs (.returned (.tuple #[.slice none 0 0, .slice none 0 0, .int .i64 (netErr gs fs)])) w' := fun w' k => by
      unfold DelEnd; rw [if_neg h0]; exact ⟨rfl, k⟩
    have hne : ((netErr gs fs) != 0) = true := by simpa using h0
    have Hf := Lib.hid hfin
    clear hfin h0
    generalize netErr gs fs = x at *
    go_enter Try.func32, Try.ntmps32
    go_wp2_with fail
    refine (Hn.out _ (Kp.refl _)).mono ?_
    rintro e w1 ⟨rfl, kp1⟩
    go_wp2_with fail
    go_ret3
    exact Hf.out _ (Hk.out.step kp1)
  have ok := netErr_zero h0
  have hng := ok.ng
  have hnf := ok.nf
  obtain ⟨o, hro, ht, hol, hbn, hbs⟩ := same_end h0
  have hov : ∀ w', Kp w w' → runTo gs fs o gs.length = none → DelEnd w gs fs (.returned (.tuple #[.slice none 0 0, .slice none 0 0, .int .i64 41])) w' := fun w' k h => by
    unfold DelEnd; rw [if_pos h0, hbn h]; exact ⟨rfl, k⟩
  have hend : ∀ w' s gw gd, Kp w w' → runTo gs fs o gs.length = some s → IntsAt w' (some ⟨gw, 0, none⟩) s.ws → IntsAt w' (some ⟨gd, 0, none⟩) s.ds → DelEnd w gs fs (.returned (.tuple #[.slice (some ⟨gw, 0, none⟩) gs.length gs.length, .slice (some ⟨gd, 0, none⟩) fs.length fs.length, .int .i64 0])) w' := fun w' s gw gd k h i1 i2 => by
    obtain ⟨s2, e1, e2, e3⟩ := hbs s h
    unfold DelEnd; rw [if_pos h0, e1]
    exact ⟨⟨gw, gd, rfl, by rw [e2]; exact i1, by rw [e3]; exact i2⟩, k⟩
  have hno : ∀ W, Kp (w.alloc (.cells #[.slice ga gs.length gc, .slice fa fs.length fc] 47)) W → Calls Try.prog 59 #[.agg #[.slice ga gs.length gc, .slice fa fs.length fc]] W (fun e w' => (∃ a c, e = .returned (.tuple #[.slice a o.length c, .bool true]) ∧ OwnI w' W.heap.size a c o) ∧ Kp W w') := fun W kW => (refOrder_any ga fa gs.length gc fc fs W (Hfa.out W kW) hnf hng).mono fun e w' h => by
    unfold OrdEnd at h
    rw [hro] at h
    exact h
  have hsm := fun k hk s e => runTo_small ht hnf ok.rates ok.gates ok.bursts k hk s e
  have hgate := ht.gate
  obtain ⟨i0, hi0, hz0, hz1, hz2⟩ := info_parts infoInt
  have Hov := Lib.hid hov; have Hend := Lib.hid hend; have Hno := Lib.hid hno; have Hsm := Lib.hid hsm; have Hgate := Lib.hid hgate; have Hgo := Lib.hid ok.gates; have Hr := Lib.hid ok.rates; have Hbo := Lib.hid ok.bursts
  rw [h0] at Hn
  clear hov hend hno hsm hgate ht hro hbn hbs ok h0
  have hVs : (w.alloc (.cells #[.slice ga gs.length gc, .slice fa fs.length fc] 47)).heap.size = w.heap.size + 1 := by simp
  go_enter Try.func32, Try.ntmps32
  go_wp2_with fail
  generalize (w.alloc (.cells #[.slice ga gs.length gc, .slice fa fs.length fc] 47)) = V at *
  refine (Hn.out _ (Kp.refl _)).mono ?_
  rintro e w1 ⟨rfl, kp1⟩
  have c0 := kp1.cell hb0
  have c1 := kp1.cell hb1
  have K1 := Lib.hid kp1
  have hs1 := kp1.size
  clear kp1 Hn
  go_wp2_with (first | (at_make; refine wpList_make_full _ rfl _ _ 28 rfl V.heap.size 3 i0 (.int .i64 0) 1 Try.underlying28 hi0 hz0 hz1 .i64 .i64 _ _ gs.length rfl rfl rfl rfl (by rw [hz2]; omega) (by unfold maxLen; omega) (by omega) ?_; intro W2 hown hgrow; have c2 := (grown_kp hgrow).cell c0; have c3 := (grown_kp hgrow).cell c1; have R1 := Lib.hid (irow_made hown); have G2 := Lib.hid (grown_kp hgrow); have K2 := Lib.hid (K1.out.step (grown_kp hgrow)); have hs2 := K2.out.size; clear hown hgrow) | (at_make; refine wpList_make_full _ rfl _ _ 28 rfl V.heap.size 3 i0 (.int .i64 0) 1 Try.underlying28 hi0 hz0 hz1 .i64 .i64 _ _ fs.length rfl rfl rfl rfl (by rw [hz2]; omega) (by unfold maxLen; omega) (by omega) ?_; intro W3 hown hgrow; have d0 := (grown_kp hgrow).cell c2; have d1 := (grown_kp hgrow).cell c3; have R2 := Lib.hid (irow_made hown); have R3 := Lib.hid (R1.out.kp (grown_kp hgrow)); have hgl := R1.out.lt; have K3 := Lib.hid (K2.out.step (grown_kp hgrow)); have hs3 := K3.out.size; clear hown hgrow) | fail)
  have hgw : V.heap.size ≤ w1.heap.size := hs1
  have hgd : V.heap.size ≤ W2.heap.size := hs2
  have hne : w1.heap.size ≠ W2.heap.size := by omega
  have hl3 := R2.out.lt.2
  have hl4 := R3.out.lt.2
  clear R1 G2 K1 c0 c1 c2 c3 hgl
  generalize w1.heap.size = gw at *
  generalize W2.heap.size = gd at *
  go_loopw [8, 9] (fun l i wr => ∃ (k : Nat) (a : Option Addr) (c : Nat), k ≤ fs.length ∧ i = .int .i64 k ∧ l = .slice a (bL fs k).length c ∧ OwnI wr W3.heap.size a c (bL fs k) ∧ Kp W3 wr) (fun _ i _ => fs.length - (intOf i).toNat)
  case atStart => exact ⟨0, none, 0, Nat.zero_le _, rfl, rfl, OwnI.nil _ _, Kp.refl _⟩
  case round =>
    obtain ⟨w4, rfl⟩ : ∃ w4, w4 = wr := ⟨wr, rfl⟩
    obtain ⟨k, a, c, hk, rfl, rfl, hown, kp⟩ := hrel
    have e0 := kp.cell d0
    have e1 := kp.cell d1
    have K4 := Lib.hid kp
    have hs4 := kp.size
    have hbl := bL_len fs k
    clear kp d0 d1
    by_cases hlt : k < fs.length
    case pos =>
      obtain ⟨b1, o1, rfl, hc1⟩ := (Hfa.out _ (K3.out.step K4.out)).cells (by omega)
      have f0 := (hc1 k hlt).1
      have i1 : (k : Int) < (fs.length : Int) := by omega
      have hst := bL_step fs k
      have Hst := Lib.hid hst
      generalize (flAt fs k).b = x at *
      generalize bL fs k = L at *
      have Hown1 := Lib.hid hown
      clear hc1 hst hown
      go_wp2_with (at_builtin; refine wpList_append_lies _ rfl (.tmp 37) (.tmp 44) 28 rfl W3.heap.size 3 i0 (.int .i64 0) 1 8 Try.underlying28 hi0 hz0 hz1 hz2 rfl (by decide) (.slice a L.length c) L.length (L.map encI) (by rfl) (Hown1.out.kp (kp_alloc _ _)) ⟨w4.heap.size, 0, none⟩ 1 1 [.int .i64 x] (by rfl) rfl (World.news_of_block (cs := #[.int .i64 x]) (t := 3) (fr := (0, 0)) (heap_alloc_new w4 _)) (by intro u hu; simp at hu; subst hu; rfl) (by omega) (by unfold maxLen; omega) (by omega) (by simp; omega) _ rfl ?_; intro g2 cap2 w5 hown3 hgrow hat hlt2)
      have hk5 : Kp W3 w5 := by
        have hb : ∀ j, (Value.slice a L.length c).ownBlock = some j → W3.heap.size ≤ j := fun j e => (Hown1.out.lt e).1
        exact (K4.out.step (kp_alloc _ _)).trans (S' := fun j => (Value.slice a L.length c).ownBlock = some j) ((Keeps.refl _ _).grown hgrow (fun j e => Or.inl e)) (fun j e => Or.inr (hb j e))
      have hown4 : OwnI w5 W3.heap.size (some ⟨g2, 0, none⟩) cap2 (L ++ [x]) := by
        unfold OwnI
        have e1 : (L ++ [x]).length = L.length + 1 := by simp
        rw [e1, List.map_append]
        exact hown3
      have Hk5 := Lib.hid hk5; have Hown4 := Lib.hid hown4
      clear hk5 hown4 hown3 hgrow hat
      go_wp2_with fail
      go_roundw
      case rel => exact ⟨k + 1, some ⟨g2, 0, none⟩, cap2, by omega, by go_num, by rw [Hst.out]; simp; omega, by rw [Hst.out]; exact Hown4.out, Hk5.out⟩
      case measure => simp [intOf]; omega
    case neg =>
      obtain rfl : k = fs.length := by omega
      have hnoo := fun W kW => Hno.out W ((K3.out.step K4.out).step kW)
      have Hnoo := Lib.hid hnoo
      have hown2 : OwnI w4 W3.heap.size a c (initTo fs fs.length) := by rw [← bL_init]; exact hown
      have Hown := Lib.hid hown2
      rw [bL_len]
      clear hnoo hown hown2 hbl
      go_wp2_with fail
      refine (Hnoo.out _ (Kp.refl _)).mono ?_
      rintro e w5 ⟨⟨oa, oc, rfl, hord⟩, k5⟩
      have K5 := Lib.hid ((K3.out.step K4.out).step k5)
      have hri : RInv w5 V.heap.size gw gd gs.length fs.length a c (start0 gs fs) oa o :=
        ⟨(R3.out.kp K4.out).kp k5, (R2.out.kp K4.out).kp k5, (Hown.out.kp k5).mono (by omega), hne, (fun p e => by have := (Hown.out.addr e).1; omega), hord.ints (by unfold maxLen; omega), (fun p e => ⟨by have := (hord.addr e).1; omega, by have := (hord.addr e).1; omega, fun q eq => by have := (hord.addr e).1; have := (Hown.out.addr eq).2; omega⟩)⟩
      have Hri := Lib.hid hri
      have hs0 : runTo gs fs o 0 = some (start0 gs fs) := rfl
      have Hs0 := Lib.hid hs0
      have hbs : (start0 gs fs).bs.length = fs.length := initTo_len _ _
      have hvb : ∀ p, a = some p → V.heap.size ≤ p.block := fun p e => by have := (Hown.out.addr e).1; omega
      have Hvb := Lib.hid hvb
      clear hri hs0 k5 hord Hnoo Hno K4 K3 K2 R2 R3 Hown hbs hvb e0 e1
      go_wp2_with fail
      go_loopw [12] (fun i wq => ∃ (k : Nat) (s : WDB), k ≤ gs.length ∧ i = .int .i64 k ∧ Kp V wq ∧ Hid (runTo gs fs o k = some s) ∧ Hid (RInv wq V.heap.size gw gd gs.length fs.length a c s oa o)) (fun i _ => gs.length - (intOf i).toNat)
      case atStart => exact ⟨0, _, Nat.zero_le _, rfl, K5.out, Hs0, Hri⟩
      case round =>
        obtain ⟨w6, rfl⟩ : ∃ w6, w6 = wr := ⟨wr, rfl⟩
        obtain ⟨k, s, hk, rfl, kp, hrun, hri⟩ := hrel
        have e0 := kp.cell hb0
        have e1 := kp.cell hb1
        have Kv := Lib.hid kp
        have Kk := Lib.hid (Hk.out.step kp)
        clear kp Hri Hs0 K5
        by_cases hlt : k < gs.length
        case neg =>
          obtain rfl : k = gs.length := by omega
          have i2 : (o.length : Int) ≤ (gs.length : Int) := by omega
          have hz := Hend.out w6 s gw gd Kk.out hrun.out (hri.out.rw.ints (by unfold maxLen; omega)) (hri.out.rd.ints (by unfold maxLen; omega))
          have Hz := Lib.hid hz
          clear hz hrun hri
          go_wp2_with fail
          go_ret3
          exact Hz.out
        case pos =>
          obtain ⟨g, eg, hgl⟩ := Hgate.out k (by omega)
          have hsmk := Hsm.out k (by omega) s hrun.out
          obtain ⟨b3, o3, rfl, hc3⟩ := hri.out.io.cells (by omega)
          have g0 := hc3 k (by omega)
          rw [eg] at g0
          have i2 : (k : Int) < (o.length : Int) := by omega
          have hnx : runTo gs fs o (k + 1) = gateStep gs fs g s := by
            show (runTo gs fs o k).bind (gateStep gs fs (o.getD k 0).toNat) = _
            rw [hrun.out, eg]; rfl
          have hone : gateStep gs fs g s = none → runTo gs fs o gs.length = none := fun h => by
            have := runTo_none (hnx.trans h) (gs.length - (k + 1))
            rwa [show k + 1 + (gs.length - (k + 1)) = gs.length by omega] at this
          have hover := fun i hi ht hb => hone (step_over (gs := gs) (fs := fs) (s := s) (g := g) (i := i) hi ht hb)
          have hbin : ∀ i, i < fs.length → 1 ≤ s.bs.getD i 0 := fun i hi => hsmk.b1 i hi
          have Hsmk := Lib.hid hsmk; have Hnx := Lib.hid hnx; have Hover := Lib.hid hover; have Hbin := Lib.hid hbin
          clear hc3 eg hsmk hnx hone hover hbin hrun
          go_wp2_with fail
          go_loopw [14, 15] (fun sm i wq => ∃ (m : Nat), m ≤ fs.length ∧ sm = .int .i64 (sumN (bIf fs s.bs g) m) ∧ i = .int .i64 m ∧ Kp w6 wq ∧ Hid (∀ j, j < m → thrF fs g j = true → s.bs.getD j 0 ≤ 1000000000)) (fun _ i _ => fs.length - (intOf i).toNat)
          case atStart => exact ⟨0, Nat.zero_le _, rfl, rfl, Kp.refl _, Lib.hid (fun j hj => by omega)⟩
          case round =>
            clear g0 e0 e1
            obtain ⟨w7, rfl⟩ : ∃ w7, w7 = wr := ⟨wr, rfl⟩
            obtain ⟨m, hm, rfl, rfl, kp, hfit⟩ := hrel
            have e0 := (Kv.out.step kp).cell hb0
            have e1 := (Kv.out.step kp).cell hb1
            have hbd : ∀ j, j < m → 0 ≤ bIf fs s.bs g j ∧ bIf fs s.bs g j ≤ 1000000000 := fun j hj => by
              have h1 := Hbin.out j (by omega)
              have h2 := hfit.out j hj
              unfold bIf
              by_cases h3 : thrF fs g j = true
              · rw [if_pos h3]; have := h2 h3; omega
              · rw [if_neg h3]; omega
            have hsum := sumN_le hbd
            clear hbd
            have K7 := Lib.hid kp
            by_cases hmn : m < fs.length
            case pos =>
              obtain ⟨b1, o1, rfl, hc1⟩ := (Hfa.out _ (Kv.out.step kp)).cells (by omega)
              obtain ⟨f0, f1, pa, pc, f2, f3, f4, f5⟩ := hc1 m hmn
              have i3 : (m : Int) < (fs.length : Int) := by omega
              have hcl := refHas_any pa pc (flAt fs m).p g w7 f3
              have hth : thrF fs g m = hasI (flAt fs m).p g := rfl
              rw [← hth] at hcl
              have hst : sumN (bIf fs s.bs g) (m + 1) = sumN (bIf fs s.bs g) m + bIf fs s.bs g m := rfl
              have hbe : bIf fs s.bs g m = if thrF fs g m = true then s.bs.getD m 0 else 0 := rfl
              have hb1m := Hbin.out m hmn
              have hov := Hover.out m hmn
              have hfn : (thrF fs g m = true → s.bs.getD m 0 ≤ 1000000000) → ∀ j, j < m + 1 → thrF fs g j = true → s.bs.getD j 0 ≤ 1000000000 := fun h j hj => by
                by_cases e : j = m
                · subst e; exact h
                · exact hfit.out j (by omega)
              have hri7 := hri.out.kp kp
              obtain ⟨gb, hgb, rb⟩ := hri7.rb.row (by rw [Hsmk.out.bl]; omega)
              have cb := rb.cell (show m < s.bs.length by rw [Hsmk.out.bl]; omega)
              have Hst := Lib.hid hst; have Hbe := Lib.hid hbe; have Hcl := Lib.hid hcl; have Hov2 := Lib.hid hov; have Hfn := Lib.hid hfn
              clear hst hbe hcl hov hfn hfit hth hri7 rb f3 hc1 kp
              subst hgb
              generalize sumN (bIf fs s.bs g) m = S at *
              generalize bIf fs s.bs g m = bm at *
              generalize thrF fs g m = tm at *
              generalize s.bs.getD m 0 = x at *
              go_wp2_with fail
              refine Hcl.out.mono ?_
              rintro e w8 ⟨rfl, k8⟩
              have r0 := k8.cell e0
              have r1 := k8.cell e1
              have rb := k8.cell cb
              have K8 := Lib.hid (K7.out.step k8)
              have Kk8 := Lib.hid (Kk.out.step (K7.out.step k8))
              clear k8
              cases tm
              · have Hy : Hid (bm = 0) := Lib.hid (by rw [Hbe.out]; rfl)
                have Hfn2 := Lib.hid (Hfn.out (fun h => by cases h))
                go_wp2_with fail
                go_roundw
                case rel => exact ⟨m + 1, by omega, by rw [Hst.out, Hy.out, Int.add_zero], by go_num, K8.out, Hfn2⟩
                case measure => simp [intOf]; omega
              · by_cases hx : x ≤ 1000000000
                · have Hy : Hid (bm = x) := Lib.hid (by rw [Hbe.out]; rfl)
                  have Hfn2 := Lib.hid (Hfn.out (fun _ => hx))
                  have q : decide ((1000000000 : Int) < x) = false := decide_eq_false (by omega)
                  go_wp2_with fail
                  go_roundw
                  case rel => exact ⟨m + 1, by omega, by rw [Hst.out, Hy.out], by go_num, K8.out, Hfn2⟩
                  case measure => simp [intOf]; omega
                · have Hz := Lib.hid (Hov.out w8 Kk8.out (Hov2.out rfl (by omega)))
                  have q : decide ((1000000000 : Int) < x) = true := decide_eq_true (by omega)
                  clear hx
                  go_wp2_with fail
                  go_ret3
                  exact Hz.out
            case neg =>
              obtain rfl : m = fs.length := by omega
              have hfa2 := fit_all hfit.out
              have hsb := sumB_bd (g := (g : Int)) Hsmk.out rfl hnf hfa2 (thr fs g).length (Nat.le_refl _)
              have hse := sum_b fs s.bs g
              have hri7 := hri.out.kp kp
              have kv7 := Kv.out.step kp
              by_cases h0 : (thr fs g).length = 0
              case pos =>
                have hz : sumN (bIf fs s.bs g) fs.length = 0 := by rw [← hse, h0]; rfl
                have hrn : runTo gs fs o (k + 1) = some s := by rw [Hnx.out, step_idle h0]
                have Hrn := Lib.hid hrn; have Hri7 := Lib.hid hri7; have Kv7 := Lib.hid kv7
                rw [hz]
                clear hfa2 hsb hse hri7 kv7 hrn hfit hri kp hsum h0 hz
                go_wp2_with fail
                go_roundw
                case rel => exact ⟨k + 1, s, by omega, by go_num, Kv7.out, Hrn, Hri7⟩
                case measure => simp [intOf]; omega
              case neg =>
                have hgk := Hgo.out g hgl
                have hws : waitsOf gs fs g s = s.ws.set g (upI (sumN (bIf fs s.bs g) fs.length) (gaAt gs g).1 - 1) := by
                  unfold waitsOf; rw [if_pos (by omega), hse]
                rw [hse] at hsb
                have hpos := hsb.2.2 (by omega)
                have hsm1 := waitsOf_small (gs := gs) (g := g) Hsmk.out rfl hnf hgk.1 hfa2
                have hwt := hsm1.w0 g
                dsimp only at hwt
                have hst : runTo gs fs o (k + 1) = some ⟨waitsOf gs fs g s, (addP fs ((waitsOf gs fs g s).getD g 0) (gaAt gs g).2 g (s.bs, s.ds) fs.length).2, (addP fs ((waitsOf gs fs g s).getD g 0) (gaAt gs g).2 g (s.bs, s.ds) fs.length).1⟩ := by rw [Hnx.out, step_ref hfa2]
                have hup := upI_bd hpos hsb.2.1 hgk.1
                have hupc := fun W => refUp_any (sumN (bIf fs s.bs g) fs.length) (gaAt gs g).1 W (by omega) (by omega) (by omega) (by omega)
                obtain ⟨b6, o6, rfl, hc6⟩ := (Hga.out _ kv7).cells (by omega)
                obtain ⟨g0, g1⟩ := hc6 g hgl
                have x0 := hri7.rw.cell hgl
                have x1 := hri7.rw.frozen g
                have ri8 := hri7.setW g (upI (sumN (bIf fs s.bs g) fs.length) (gaAt gs g).1 - 1)
                rw [← hws] at ri8
                have kv8 : Kp V (w7.setCell ⟨gw, g, none⟩ (.int .i64 (upI (sumN (bIf fs s.bs g) fs.length) (gaAt gs g).1 - 1))) := kv7.setCell (Or.inr hgw) _
                have i4 : (g : Int) < (gs.length : Int) := by omega
                have Hup := Lib.hid hupc; have Ri8 := Lib.hid ri8; have Kv8 := Lib.hid kv8; have Hst2 := Lib.hid hst; have Hsm2 := Lib.hid hsm1; have Hgk := Lib.hid hgk
                clear hupc ri8 kv8 hst hsm1 hgk kv7 hc6 hws kp hsb hri7 hri hfa2 hfit hse hsum h0 Hnx Hover
                generalize s.ws.getD g 0 = old at *
                generalize sumN (bIf fs s.bs g) fs.length = S at *
                generalize (gaAt gs g).1 = rt at *
                generalize hdle : (gaAt gs g).2 = dl at *
                have Hdle := Lib.hid hdle
                clear hdle
                generalize waitsOf gs fs g s = ws at *
                generalize hwt2 : ws.getD g 0 = wt at *
                have Hwt2 := Lib.hid hwt2
                clear hwt2
                have qS : (S == (0 : Int)) = false := beq_eq_false_iff_ne.2 (by omega)
                go_wp2_with fail
                refine (Hup.out _).mono ?_
                rintro e w8 ⟨rfl, rfl⟩
                generalize upI S rt = U at *
                go_wp2_with fail
                go_loopw [16] (fun i wq => ∃ (m : Nat), m ≤ fs.length ∧ i = .int .i64 m ∧ Kp V wq ∧ Hid (RInv wq V.heap.size gw gd gs.length fs.length a c ⟨ws, (addP fs wt dl g (s.bs, s.ds) m).2, (addP fs wt dl g (s.bs, s.ds) m).1⟩ (some ⟨b3, o3, none⟩) o)) (fun i _ => fs.length - (intOf i).toNat)
                case atStart => exact ⟨0, Nat.zero_le _, rfl, Kv8.out, Ri8⟩
                case round =>
                  clear Kv8 Ri8 e0 e1 x0 x1 g0 g1
                  obtain ⟨w9, rfl⟩ : ∃ w9, w9 = wr := ⟨wr, rfl⟩
                  obtain ⟨m, hm, rfl, kp, hri⟩ := hrel
                  have e0 := kp.cell hb0
                  have e1 := kp.cell hb1
                  have K9 := Lib.hid kp
                  by_cases hmn : m < fs.length
                  case neg =>
                    obtain rfl : m = fs.length := by omega
                    clear kp
                    go_wp2_with fail
                    go_roundw
                    case rel => exact ⟨k + 1, _, by omega, by go_num, K9.out, Hst2, hri⟩
                    case measure => simp [intOf]; omega
                  case pos =>
                    have sm := addP_small (g := g) Hsm2.out Hr.out hwt ⟨by have := Hgk.out.2.2.1; have := Hdle.out; omega, by have := Hgk.out.2.2.2; have := Hdle.out; omega⟩ m (dl := dl)
                    obtain ⟨b1, o1, rfl, hc1⟩ := (Hfa.out _ kp).cells (by omega)
                    obtain ⟨f0, f1, pa, pc, f2, f3, f4, f5⟩ := hc1 m hmn
                    have i3 : (m : Int) < (fs.length : Int) := by omega
                    have hcl := refHas_any pa pc (flAt fs m).p g w9 f3
                    have hth : thrF fs g m = hasI (flAt fs m).p g := rfl
                    rw [← hth] at hcl
                    have hno2 := addP_no (fs := fs) (wt := wt) (dl := dl) (g := g) (s := (s.bs, s.ds)) (m := m)
                    have hye := addP_yes (fs := fs) (wt := wt) (dl := dl) (g := g) (s := (s.bs, s.ds)) (m := m)
                    have hrq := Hr.out m
                    have Hcl := Lib.hid hcl; have Hno2 := Lib.hid hno2; have Hye := Lib.hid hye; have Sm := Lib.hid sm
                    clear hcl hno2 hye hth hc1 f0 f1 f3 kp sm
                    generalize thrF fs g m = tm at *
                    generalize hreq : (flAt fs m).r = r at *
                    have Hreq := Lib.hid hreq
                    clear hreq
                    go_wp2_with fail
                    refine Hcl.out.mono ?_
                    rintro e w10 ⟨rfl, k10⟩
                    have K10 := Lib.hid (K9.out.step k10)
                    have r0 := k10.cell e0
                    have r1 := k10.cell e1
                    have hri10 := hri.out.kp k10
                    clear k10 e0 e1 f2
                    cases tm
                    · have Hri10 := Lib.hid hri10
                      have hea := Hno2.out rfl
                      have Hea := Lib.hid hea
                      clear hea hri10
                      go_wp2_with fail
                      go_roundw
                      case rel => exact ⟨m + 1, by omega, by go_num, K10.out, Lib.hid (by rw [Hea.out]; exact Hri10.out)⟩
                      case measure => simp [intOf]; omega
                    · obtain ⟨b5, o5, e5, hc5⟩ := (Hfa.out _ K10.out).cells (by omega)
                      simp only [Option.some.injEq, Addr.mk.injEq] at e5
                      obtain ⟨rfl, rfl, -⟩ := e5
                      have f1 := (hc5 m hmn).2.1
                      rw [Hreq.out] at f1
                      obtain ⟨gb, hgb, rb⟩ := hri10.rb.row (by dsimp only; have := Sm.out.bl; dsimp only at this; omega)
                      subst hgb
                      have hbl : (addP fs wt dl g (s.bs, s.ds) m).1.length = fs.length := Sm.out.bl
                      have cb := rb.cell (show m < (addP fs wt dl g (s.bs, s.ds) m).1.length by omega)
                      have fb := rb.frozen m
                      have cw := hri10.rw.cell hgl
                      dsimp only at cb cw
                      rw [Hwt2.out] at cw
                      have hxb := Sm.out.b0 m
                      have hx1 := Sm.out.b1 m hmn
                      have hz := Sm.out.d0 m
                      dsimp only at hxb hx1 hz
                      have hml := mul_small hrq.1 hrq.2 hwt.1 hwt.2
                      have hea := Hye.out rfl
                      have hm1 : wrap64 (r * wt) = r * wt := (IntWalk.i64_left _).symm.trans (IntWalk.i64_in _ (by omega))
                      generalize hy : r * wt = y at *
                      generalize addP fs wt dl g (s.bs, s.ds) m = t1 at *
                      have ri11 := hri10.setB m (t1.1.getD m 0 + y)
                      have hvg : V.heap.size ≤ gb := Hvb.out _ rfl
                      have kv11 : Kp V (w10.setCell ⟨gb, m, none⟩ (.int .i64 (t1.1.getD m 0 + y))) := K10.out.setCell (Or.inr hvg) _
                      have Ri11 := Lib.hid ri11; have Kv11 := Lib.hid kv11; have Hea := Lib.hid hea
                      clear ri11 kv11 hea hri10 hc5 hri rb Hcl Hno2 Hye Sm
                      generalize hx : t1.1.getD m 0 = x at *
                      generalize hzz : t1.2.getD m 0 = z at *
                      have Hxz := Lib.hid (And.intro hx hzz)
                      clear hx hzz
                      have hxy : wrap64 (x + y) = x + y := (IntWalk.i64_left _).symm.trans (IntWalk.i64_in _ (by omega))
                      have i4 : (g : Int) < (gs.length : Int) := by omega
                      clear hbl
                      go_wp2_with fail
                      go_region
                      have kv12 : Kp V (w10.setCell ⟨gb, m, none⟩ (.int .i64 (x + y))).drew := Keeps.drew Kv11.out
                      have ri12 := Ri11.out.kp (Keeps.drew (Kp.refl (w10.setCell ⟨gb, m, none⟩ (.int .i64 (x + y)))))
                      have Kv12 := Lib.hid kv12; have Ri12 := Lib.hid ri12
                      clear kv12 ri12 Kv11 Ri11 cb fb cw f1 r0 r1 hxy hm1
                      generalize (w10.setCell ⟨gb, m, none⟩ (.int .i64 (x + y))).drew = w11 at *
                      obtain ⟨b7, o7, e7, hc7⟩ := (Hga.out _ Kv12.out).cells (by omega)
                      simp only [Option.some.injEq, Addr.mk.injEq] at e7
                      obtain ⟨rfl, rfl, -⟩ := e7
                      have g1 := (hc7 g hgl).2
                      have r0 := Kv12.out.cell hb0
                      have r1 := Kv12.out.cell hb1
                      have cd := Ri12.out.rd.cell hmn
                      have fd := Ri12.out.rd.frozen m
                      have cw := Ri12.out.rw.cell hgl
                      dsimp only at cd cw
                      rw [Hxz.out.2] at cd
                      rw [Hwt2.out] at cw
                      rw [Hdle.out] at g1
                      have ri13 := Ri12.out.setD m (z + (dl + wt))
                      have kv13 : Kp V (w11.setCell ⟨gd, m, none⟩ (.int .i64 (z + (dl + wt)))) := Kv12.out.setCell (Or.inr hgd) _
                      have hdl : 1 ≤ dl ∧ dl ≤ 1000 := by have := Hgk.out.2.2; have := Hdle.out; omega
                      have Ri13 := Lib.hid (ri13.kp (Keeps.drew (Kp.refl _))); have Kv13 := Lib.hid kv13
                      clear ri13 kv13 Ri12 Kv12 hc7
                      have hw1 : wrap64 (dl + wt) = dl + wt := (IntWalk.i64_left _).symm.trans (IntWalk.i64_in _ (by omega))
                      have hw2 : wrap64 (z + (dl + wt)) = z + (dl + wt) := (IntWalk.i64_left _).symm.trans (IntWalk.i64_in _ (by omega))
                      go_wp2_with fail
                      go_region
                      go_wp2_with fail
                      go_roundw
                      case rel => exact ⟨m + 1, by omega, by go_num, Keeps.drew Kv13.out, Lib.hid (by rw [Hea.out]; exact Ri13.out)⟩
                      case measure => simp [intOf]; omega
end Go.Proofs.Ytcelbmpdnkaamaa
