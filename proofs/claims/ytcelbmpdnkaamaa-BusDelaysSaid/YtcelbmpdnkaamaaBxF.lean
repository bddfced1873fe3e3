/- The reference's right. -/
import Derived.Test.YtcelbmpdnkaamaaBxE
namespace Go.Proofs.Ytcelbmpdnkaamaa
open Go Go.RowKit Go.WideMaps Go.Maps
set_option linter.unusedSimpArgs false
set_option linter.unusedVariables false

theorem flB_eq (ng : Nat) (f : Fl) : flB ng f = (limB f && pathB ng f.p) := rfl
theorem pathAt_eq (ng : Nat) (p : List Int) (k : Nat) : pathAt ng p k = (fromB 0 (p.getD k 0) ((ng : Int) - 1) && !hasI (p.take k) (p.getD k 0)) := rfl
theorem pathAt_rep {ng : Nat} {p : List Int} {j k : Nat} (hj : j < k) (hk : k < p.length) (h : p.getD j 0 = p.getD k 0) : pathAt ng p k = false := by
  rw [pathAt_eq, (hasI_take (by omega)).2 ⟨j, hj, h⟩]; simp
theorem pathAt_new {ng : Nat} {p : List Int} {k : Nat} (hk : k < p.length) (h0 : fromB 0 (p.getD k 0) ((ng : Int) - 1) = true) (h : ∀ j, j < k → p.getD j 0 ≠ p.getD k 0) : pathAt ng p k = true := by
  have : hasI (p.take k) (p.getD k 0) = false := by
    cases e : hasI (p.take k) (p.getD k 0) with
    | false => rfl
    | true => obtain ⟨m, hm, e2⟩ := (hasI_take (by omega)).1 e; exact absurd e2 (h m hm)
  rw [pathAt_eq, h0, this]; rfl

set_option maxRecDepth 100000 in
set_option maxHeartbeats 3200000 in
theorem refRight_any (ga fa : Option Addr) (gc fc : Nat) (gs : List Ga) (fs : List Fl) (w : World) (hg : GatesAt w ga gs) (hf : FlowsAt w fa fs) :
    Calls Try.prog 58 #[.agg #[.slice ga gs.length gc, .slice fa fs.length fc]] w fun e w' => e = .returned (.bool (netB gs fs)) ∧ Kp w w' := by
  have hl1 := hg.len
  have hl2 := hf.len
  unfold maxLen at hl1 hl2
  have hk := kp_alloc w (.cells #[.slice ga gs.length gc, .slice fa fs.length fc] 47)
  have hbx := box0 w (.slice ga gs.length gc) (.slice fa fs.length fc) 47
  have hbx1 := box1 w (.slice ga gs.length gc) (.slice fa fs.length fc) 47
  by_cases h1 : gs.length ≤ 30
  case neg =>
    have He : Hid (netB gs fs = false) := Lib.hid (by unfold netB; simp [h1])
    have q1 : decide ((30 : Int) < gs.length) = true := decide_eq_true (by omega)
    have Hk := Lib.hid hk
    clear hk
    go_enter Try.func58, Try.ntmps58
    go_wp2_with fail
    go_ret
    exact ⟨by rw [He.out]; rfl, Hk.out⟩
  have q1 : decide ((30 : Int) < gs.length) = false := decide_eq_false (by omega)
  by_cases h2 : fs.length ≤ 40
  case neg =>
    have He : Hid (netB gs fs = false) := Lib.hid (by unfold netB; simp [h2])
    have q2 : decide ((40 : Int) < fs.length) = true := decide_eq_true (by omega)
    have Hk := Lib.hid hk
    clear hk
    go_enter Try.func58, Try.ntmps58
    go_wp2_with fail
    go_ret
    exact ⟨by rw [He.out]; rfl, Hk.out⟩
  have q2 : decide ((40 : Int) < fs.length) = false := decide_eq_false (by omega)
  have hbad : ∀ k, k < gs.length → gaB (gaAt gs k) = false → netB gs fs = false := fun k hk hh => by
    unfold netB
    rw [allR_bad hk hh]; simp
  have hend : (∀ j, j < gs.length → gaB (gaAt gs j) = true) → netB gs fs = allR fs.length (fun k => flB gs.length (flAt fs k)) := fun hh => by
    unfold netB
    rw [allR_good hh]; simp [h1, h2]
  have hga := fun W k => hg.kp (w' := W) (hk.step k)
  have hfa := fun W k => hf.kp (w' := W) (hk.step k)
  have Hbad := Lib.hid hbad; have Hend := Lib.hid hend; have Hga := Lib.hid hga; have Hfa := Lib.hid hfa; have Hk := Lib.hid hk
  clear hbad hend hga hfa hk hg hf
  go_enter Try.func58, Try.ntmps58
  go_wp2_with fail
  generalize hV : (w.alloc (.cells #[.slice ga gs.length gc, .slice fa fs.length fc] 47)) = V at *
  clear hV
  go_loopw [3] (fun i wr => ∃ (k : Nat), k ≤ gs.length ∧ i = .int .i64 k ∧ Kp V wr ∧ Hid (∀ j, j < k → gaB (gaAt gs j) = true)) (fun i _ => gs.length - (intOf i).toNat)
  case atStart => exact ⟨0, Nat.zero_le _, rfl, Kp.refl _, Lib.hid (fun j hj => by omega)⟩
  case round =>
    obtain ⟨w3, rfl⟩ : ∃ w3, w3 = wr := ⟨wr, rfl⟩
    obtain ⟨k, hk, rfl, kp, hok⟩ := hrel
    have d0 := kp.cell hbx
    have d1 := kp.cell hbx1
    by_cases hlt : k < gs.length
    case pos =>
      obtain ⟨b1, o1, rfl, hc1⟩ := (Hga.out _ kp).cells (by omega)
      obtain ⟨c0, c1⟩ := hc1 k hlt
      have i1 : (k : Int) < (gs.length : Int) := by omega
      have hgb : gaB (gaAt gs k) = (fromB 1 (gaAt gs k).1 10000 && fromB 1 (gaAt gs k).2 1000) := rfl
      have hbk := Hbad.out k hlt
      have hnext : gaB (gaAt gs k) = true → ∀ j, j < k + 1 → gaB (gaAt gs j) = true := fun hh j hj => by
        by_cases e : j = k
        · subst e; exact hh
        · exact hok.out j (by omega)
      have f1 := within_any 1 (gaAt gs k).1 10000
      have f2 := within_any 1 (gaAt gs k).2 1000
      generalize gaB (gaAt gs k) = z at *
      generalize (gaAt gs k).1 = x at *
      generalize (gaAt gs k).2 = y at *
      have Hbk := Lib.hid hbk; have Hn := Lib.hid hnext; have Kq := Lib.hid kp; have F1 := Lib.hid f1; have F2 := Lib.hid f2; have Hgb := Lib.hid hgb
      clear hbk hnext kp f1 f2 hgb hok hc1
      go_wp2_with fail
      refine (F1.out _).mono ?_
      rintro e w1 ⟨rfl, rfl⟩
      cases hx : fromB 1 x 10000
      · have Hz := Lib.hid (Hbk.out (by rw [Hgb.out, hx]; rfl))
        clear hx
        go_wp2_with fail
        go_ret
        exact ⟨by rw [Hz.out]; rfl, Hk.out.step Kq.out⟩
      · go_wp2_with fail
        refine (F2.out _).mono ?_
        rintro e w1 ⟨rfl, rfl⟩
        cases hy : fromB 1 y 1000
        · have Hz := Lib.hid (Hbk.out (by rw [Hgb.out, hx, hy]; rfl))
          clear hx hy
          go_wp2_with fail
          go_ret
          exact ⟨by rw [Hz.out]; rfl, Hk.out.step Kq.out⟩
        · have Hz := Lib.hid (Hn.out (by rw [Hgb.out, hx, hy]; rfl))
          clear hx hy
          go_wp2_with fail
          go_roundw
          case rel => exact ⟨k + 1, by omega, by go_num, Kq.out, Hz⟩
          case measure => simp [intOf]; omega
    case neg =>
      obtain rfl : k = gs.length := by omega
      have Hz := Lib.hid (Hend.out hok.out)
      have Kq := Lib.hid kp
      clear hok kp hk hlt Hbad Hend
      go_wp2_with fail
      go_loopw [4] (fun i wr => ∃ (k : Nat), k ≤ fs.length ∧ i = .int .i64 k ∧ Kp V wr ∧ Hid (∀ j, j < k → flB gs.length (flAt fs j) = true)) (fun i _ => fs.length - (intOf i).toNat)
      case atStart => exact ⟨0, Nat.zero_le _, rfl, Kq.out, Lib.hid (fun j hj => by omega)⟩
      case round =>
        clear d0 d1 Kq
        obtain ⟨w4, rfl⟩ : ∃ w4, w4 = wr := ⟨wr, rfl⟩
        obtain ⟨k, hk, rfl, kp, hok⟩ := hrel
        have d0 := kp.cell hbx
        have d1 := kp.cell hbx1
        by_cases hlt : k < fs.length
        case neg =>
          obtain rfl : k = fs.length := by omega
          have Hy : Hid (netB gs fs = true) := Lib.hid (by rw [Hz.out, allR_good hok.out])
          clear hok Hz
          go_wp2_with fail
          go_ret
          exact ⟨by rw [Hy.out]; rfl, Hk.out.step kp⟩
        case pos =>
          obtain ⟨b1, o1, rfl, hc1⟩ := (Hfa.out _ kp).cells (by omega)
          obtain ⟨c0, c1, pa, pc, c2, c3, c4, c5⟩ := hc1 k hlt
          have i1 : (k : Int) < (fs.length : Int) := by omega
          have hbk : flB gs.length (flAt fs k) = false → netB gs fs = false := fun hh => by rw [Hz.out, allR_bad hlt hh]
          have hnext : flB gs.length (flAt fs k) = true → ∀ j, j < k + 1 → flB gs.length (flAt fs j) = true := fun hh j hj => by
            by_cases e : j = k
            · subst e; exact hh
            · exact hok.out j (by omega)
          have hfb := flB_eq gs.length (flAt fs k)
          have hrf := refFlow_any (flAt fs k) pa pc
          unfold flV at hrf
          generalize flB gs.length (flAt fs k) = z at *
          generalize limB (flAt fs k) = l at *
          generalize flAt fs k = f at *
          obtain ⟨fb, fr, p⟩ := f
          dsimp only at *
          have hwi := within_any 1 p.length 8
          have hp := fun W (kW : Kp w4 W) => c3.kp kW
          have ka := kp_alloc w4 (.cells #[.int .i64 fb, .int .i64 fr, .slice pa p.length pc] 61)
          have Hbk := Lib.hid hbk; have Hn := Lib.hid hnext; have Hfb := Lib.hid hfb; have Hrf := Lib.hid hrf; have Hwi := Lib.hid hwi; have Hp := Lib.hid hp; have Ka := Lib.hid ka; have Kq := Lib.hid kp
          unfold maxLen at c5
          clear hbk hnext hfb hrf hwi hp ka kp hok hc1 c3 Hz
          go_wp2_with fail
          refine (Hrf.out _).mono ?_
          rintro e w5 ⟨rfl, k5⟩
          have K5 := Lib.hid (Ka.out.step k5)
          have g0 := k5.cell (Ka.out.cell d0)
          have g2 : w5.cell? ⟨w4.heap.size, 2, none⟩ = some (.slice pa p.length pc) := k5.cell (by simp)
          clear k5 d0 d1 c0 c1 c2 Ka
          cases l
          · have Hz := Lib.hid (Hbk.out (by rw [Hfb.out]; rfl))
            go_wp2_with fail
            go_ret
            exact ⟨by rw [Hz.out]; rfl, Hk.out.step (Kq.out.step K5.out)⟩
          go_wp2_with fail
          refine (Hwi.out _).mono ?_
          rintro e w6 ⟨rfl, rfl⟩
          have hpb : pathB gs.length p = (fromB 1 p.length 8 && (List.range p.length).all (pathAt gs.length p)) := rfl
          cases hl : fromB 1 p.length 8
          · have Hz := Lib.hid (Hbk.out (by rw [Hfb.out, hpb, hl]; rfl))
            clear hpb hl
            go_wp2_with fail
            go_ret
            exact ⟨by rw [Hz.out]; rfl, Hk.out.step (Kq.out.step K5.out)⟩
          have hl8 : p.length ≤ 8 := (fromB_iff.1 hl).2 |> fun h => by omega
          have hbp : ∀ j, j < p.length → pathAt gs.length p j = false → netB gs fs = false := fun j hj hh => Hbk.out (by rw [Hfb.out, pathB_bad hj hh]; rfl)
          have hgp : (∀ j, j < p.length → pathAt gs.length p j = true) → z = true := fun hh => by rw [Hfb.out, pathB_good hl hh]; rfl
          have Hbp := Lib.hid hbp; have Hgp := Lib.hid hgp
          clear hbp hgp hpb hl Hbk Hfb
          go_wp2_with fail
          go_loopw [6] (fun i wr => ∃ (k : Nat), k ≤ p.length ∧ i = .int .i64 k ∧ Kp w6 wr ∧ Hid (∀ j, j < k → pathAt gs.length p j = true)) (fun i _ => p.length - (intOf i).toNat)
          case atStart => exact ⟨0, Nat.zero_le _, rfl, Kp.refl _, Lib.hid (fun j hj => by omega)⟩
          case round =>
            obtain ⟨w7, rfl⟩ : ∃ w7, w7 = wr := ⟨wr, rfl⟩
            obtain ⟨m, hm, rfl, kp, hok⟩ := hrel
            have e0 := kp.cell g0
            have e2 := kp.cell g2
            have K7 := Lib.hid (Kq.out.step (K5.out.step kp))
            by_cases hlt2 : m < p.length
            case neg =>
              obtain rfl : m = p.length := by omega
              have Hz := Lib.hid (Hn.out (Hgp.out hok.out))
              clear hok kp g0 g2
              go_wp2_with fail
              go_roundw
              case rel => exact ⟨k + 1, by omega, by go_num, K7.out, Hz⟩
              case measure => simp [intOf]; omega
            case pos =>
              obtain ⟨b2, o2, rfl, hc2⟩ := (Hp.out _ (K5.out.step kp)).cells (by omega)
              have j1 := hc2 m hlt2
              have i2 : (m : Int) < (p.length : Int) := by omega
              have qa : wrap64 ((gs.length : Int) - 1) = (gs.length : Int) - 1 := wrap_in (by omega) (by omega)
              have hwn := within_any 0 (p.getD m 0) ((gs.length : Int) - 1)
              have Hwn := Lib.hid hwn; have Kp7 := Lib.hid kp; have Hc2 := Lib.hid hc2
              have hbm := Hbp.out m hlt2
              have hpm := pathAt_eq gs.length p m
              have hnm := pathAt_new (ng := gs.length) (p := p) (k := m) hlt2
              have hnx : pathAt gs.length p m = true → ∀ j, j < m + 1 → pathAt gs.length p j = true := fun hh j hj => by
                by_cases e : j = m
                · subst e; exact hh
                · exact hok.out j (by omega)
              have hrp : ∀ j, j < m → p.getD j 0 = p.getD m 0 → pathAt gs.length p m = false := fun j hj hh => pathAt_rep hj hlt2 hh
              have qw : IntKind.i64.wrap ((gs.length : Int) - 1) = (gs.length : Int) - 1 := IntWalk.i64_in _ ⟨by omega, by omega⟩
              have Hrp := Lib.hid hrp
              clear hrp
              generalize p.getD m 0 = y at *
              have Hbm := Lib.hid hbm; have Hpm := Lib.hid hpm; have Hnm := Lib.hid hnm; have Hnx := Lib.hid hnx
              clear hwn kp hc2 hbm hpm hnm hnx hok
              cases hx : fromB 0 (y) ((gs.length : Int) - 1)
              · have Hz := Lib.hid (Hbm.out (by rw [Hpm.out, hx]; rfl))
                rw [hx] at Hwn
                clear hx Hpm Hnm Hnx
                go_wp2_with fail
                go_quiet ((go_at_call 41; first | with_reducible exact Calls.quiet_of_same ((Hwn.out _).mono fun e w' h => ⟨h.1, h.2⟩) | with_reducible exact (Hwn.out _).mono fun e w' h => ⟨h.1, _, h.2⟩))
                go_wp2_with fail
                go_ret
                exact ⟨by rw [Hz.out]; rfl, Keeps.drewN (Hk.out.step K7.out) _⟩
              · rw [hx] at Hwn
                have hnm := Hnm.out hx
                have Hnm2 := Lib.hid hnm
                clear hx Hpm Hnm hnm
                go_wp2_with fail
                go_quiet ((go_at_call 41; first | with_reducible exact Calls.quiet_of_same ((Hwn.out _).mono fun e w' h => ⟨h.1, h.2⟩) | with_reducible exact (Hwn.out _).mono fun e w' h => ⟨h.1, _, h.2⟩))
                go_wp2_with fail
                go_loopw [7] (fun i wr => ∃ (j : Nat), j ≤ m ∧ i = .int .i64 j ∧ Kp w7 wr ∧ Hid (∀ j', j' < j → p.getD j' 0 ≠ y)) (fun i _ => m - (intOf i).toNat)
                case atStart => exact ⟨0, Nat.zero_le _, rfl, Keeps.drewN (Kp.refl _) _, Lib.hid (fun j hj => by omega)⟩
                case round =>
                  obtain ⟨w8, rfl⟩ : ∃ w8, w8 = wr := ⟨wr, rfl⟩
                  obtain ⟨j, hj, rfl, kp, hok2⟩ := hrel
                  have r2 := kp.cell e2
                  have j2 := kp.cell j1
                  have K8 := Lib.hid (Kp7.out.step kp)
                  have K9 := Lib.hid (K7.out.step kp)
                  by_cases hlt3 : j < m
                  case neg =>
                    obtain rfl : j = m := by omega
                    have Hz := Lib.hid (Hnx.out (Hnm2.out hok2.out))
                    clear hok2 kp
                    go_wp2_with fail
                    go_roundw
                    case rel => exact ⟨j + 1, by omega, by go_num, K8.out, Hz⟩
                    case measure => simp [intOf]; omega
                  case pos =>
                    have j3 := kp.cell (Hc2.out j (by omega))
                    have i3 : (j : Int) < (p.length : Int) := by omega
                    have i4 : (j : Int) < (m : Int) := by omega
                    by_cases hv : p.getD j 0 = y
                    · have Hz := Lib.hid (Hbm.out (Hrp.out j hlt3 hv))
                      have qv : (p.getD j 0 == y) = true := by simpa using hv
                      generalize p.getD j 0 = x at *
                      clear hok2 kp hv
                      go_wp2_with fail
                      go_quiet (fail)
                      go_wp2_with fail
                      go_ret
                      exact ⟨by rw [Hz.out]; rfl, Keeps.drewN (Hk.out.step K9.out) _⟩
                    · have hn2 : ∀ j', j' < j + 1 → p.getD j' 0 ≠ y := fun j' hj' => by
                        by_cases e : j' = j
                        · subst e; exact hv
                        · exact hok2.out j' (by omega)
                      have Hn2 := Lib.hid hn2
                      have qv : (p.getD j 0 == y) = false := by simpa using hv
                      have Kp8 := Lib.hid kp
                      clear hok2 kp hn2 hv
                      generalize p.getD j 0 = x at *
                      go_wp2_with fail
                      go_quiet (fail)
                      go_wp2_with fail
                      go_roundw
                      case rel => exact ⟨j + 1, by omega, by go_num, Keeps.drewN Kp8.out _, Hn2⟩
                      case measure => simp [intOf]; omega
end Go.Proofs.Ytcelbmpdnkaamaa
