/- The reference's CheckNet. -/
import Derived.Test.YtcelbmpdnkaamaaBxG
namespace Go.Proofs.Ytcelbmpdnkaamaa
open Go Go.RowKit Go.WideMaps Go.Maps
set_option linter.unusedSimpArgs false
set_option linter.unusedVariables false

/-- A sum over those that something holds of, as a sum over all. -/
theorem sum_pick (f : Nat → Bool) (v : Nat → Int) : ∀ n, sumN (fun j => v ((pick f n).getD j 0).toNat) (pick f n).length = sumN (fun i => if f i = true then v i else 0) n
  | 0 => rfl
  | n + 1 => by
    have ih := sum_pick f v n
    have hs : sumN (fun i => if f i = true then v i else 0) (n + 1) = sumN (fun i => if f i = true then v i else 0) n + (if f n = true then v n else 0) := rfl
    rw [hs]
    cases e : f n with
    | false => rw [pick_no e, ih]; simp
    | true =>
      rw [pick_yes e, List.length_append, List.length_singleton]
      show sumN _ (pick f n).length + v (((pick f n) ++ [(n : Int)]).getD (pick f n).length 0).toNat = _
      rw [sumN_cong (g := fun j => v ((pick f n).getD j 0).toNat) (fun j hj => by rw [getD_app, if_pos hj]), ih, getD_app, if_neg (by omega), if_pos rfl]
      simp
def rIf (fs : List Fl) (g i : Nat) : Int := if thrF fs g i = true then (flAt fs i).r else 0
theorem rate_if (fs : List Fl) (g : Nat) : rateOf fs g = sumN (rIf fs g) fs.length := sum_pick (thrF fs g) (fun i => (flAt fs i).r) fs.length
theorem rIf_in {fs : List Fl} (hr : RatesAt fs) (g i : Nat) : 0 ≤ rIf fs g i ∧ rIf fs g i ≤ 10000 := by
  unfold rIf
  have := hr i
  split <;> omega
theorem netErr_ref (gs : List Ga) (fs : List Fl) : netErr gs fs = if netB gs fs = true then (if refOrd gs.length fs gs.length = none then 46 else if overB gs fs = true then 47 else 0) else 45 := by
  unfold netErr
  by_cases h : netB gs fs = true
  · rw [if_pos h, if_pos h]
    have hn := netB_p h
    have hb := both_whole hn
    have hle := (orderL_gates hn.ok.paths hn.ok.nf).1
    cases e : refOrd gs.length fs gs.length with
    | none =>
      rw [if_pos rfl, if_pos]
      have : ¬ (orderL gs.length fs).length = gs.length := fun h2 => by
        obtain ⟨o, h3⟩ := hb.1 h2
        rw [e] at h3; cases h3
      omega
    | some o =>
      have := hb.2 ⟨o, e⟩
      have h1 : ¬ (orderL gs.length fs).length < gs.length := by omega
      have h2 : ¬ (some o = (none : Option (List Int))) := by simp
      rw [if_neg h1, if_neg h2]
  · rw [if_neg h, if_neg h]

set_option maxRecDepth 100000 in
set_option maxHeartbeats 3200000 in
theorem refCheckNet_any (ga fa : Option Addr) (gc fc : Nat) (gs : List Ga) (fs : List Fl) (w : World) (hg : GatesAt w ga gs) (hf : FlowsAt w fa fs) :
    Calls Try.prog 30 #[.agg #[.slice ga gs.length gc, .slice fa fs.length fc]] w fun e w' => e = .returned (.int .i64 (netErr gs fs)) ∧ Kp w w' := by
  have hk := kp_alloc w (.cells #[.slice ga gs.length gc, .slice fa fs.length fc] 47)
  have hb0 := box0 w (.slice ga gs.length gc) (.slice fa fs.length fc) 47
  have hb1 := box1 w (.slice ga gs.length gc) (.slice fa fs.length fc) 47
  have hn := fun W k => refRight_any ga fa gc fc gs fs W (hg.kp (hk.step k)) (hf.kp (hk.step k))
  have hfa := fun W k => hf.kp (w' := W) (hk.step k)
  have hga := fun W k => hg.kp (w' := W) (hk.step k)
  have hne := netErr_ref gs fs
  have Hk := Lib.hid hk; have Hn := Lib.hid hn; have Hfa := Lib.hid hfa; have Hga := Lib.hid hga
  clear hk hn hfa hga hg hf
  go_enter Try.func30, Try.ntmps30
  go_wp2_with fail
  generalize (w.alloc (.cells #[.slice ga gs.length gc, .slice fa fs.length fc] 47)) = V at *
  refine (Hn.out _ (Kp.refl _)).mono ?_
  rintro e w1 ⟨rfl, kp1⟩
  have c0 := kp1.cell hb0
  have c1 := kp1.cell hb1
  have K1 := Lib.hid kp1
  clear kp1
  cases hnb : netB gs fs
  · rw [if_neg (by rw [hnb]; simp)] at hne
    have Hne := Lib.hid hne
    clear hne hnb
    go_wp2_with fail
    go_ret
    exact ⟨by rw [Hne.out]; rfl, Hk.out.step K1.out⟩
  rw [if_pos hnb] at hne
  have ok := netB_ok hnb
  have hng := ok.ng
  have hnf := ok.nf
  have hho := fun W kW => refOrder_any ga fa gs.length gc fc fs W (Hfa.out W (K1.out.step kW)) hnf hng
  have Hne := Lib.hid hne; have Hho := Lib.hid hho; have Hrt := Lib.hid ok.rates
  clear hne hho hnb ok
  go_wp2_with fail
  refine (Hho.out _ (Kp.refl _)).mono ?_
  rintro e w2 he
  obtain ⟨he, kp2⟩ := he
  have c2 := kp2.cell c0
  have c3 := kp2.cell c1
  have K2 := Lib.hid (K1.out.step kp2)
  cases hro : refOrd gs.length fs gs.length with
  | none =>
    rw [hro] at he
    dsimp only at he
    subst he
    have Hz : Hid (netErr gs fs = 46) := Lib.hid (by rw [Hne.out, if_pos hro])
    clear hro kp2 c0 c1 hb0 hb1
    go_wp2_with fail
    go_ret
    exact ⟨by rw [Hz.out]; rfl, Hk.out.step K2.out⟩
  | some o =>
    rw [hro] at he
    dsimp only at he
    obtain ⟨oa, oc, rfl, hown⟩ := he
    have Hz : Hid (netErr gs fs = if overB gs fs = true then 47 else 0) := Lib.hid (by rw [Hne.out, if_neg (by rw [hro]; simp)])
    have hbad : ∀ k, k < gs.length → ¬ rateOf fs k ≤ (gaAt gs k).1 → overB gs fs = true := fun k hk hh => by
      unfold overB; rw [allR_bad hk (by simpa using hh)]; rfl
    have hgood : (∀ j, j < gs.length → rateOf fs j ≤ (gaAt gs j).1) → overB gs fs = false := fun hh => by
      unfold overB; rw [allR_good (fun j hj => by simpa using hh j hj)]; rfl
    have Hbad := Lib.hid hbad; have Hgood := Lib.hid hgood
    clear hro kp2 c0 c1 hbad hgood hown
    go_wp2_with fail
    go_loopw [5] (fun i wr => ∃ (k : Nat), k ≤ gs.length ∧ i = .int .i64 k ∧ Kp V wr ∧ Hid (∀ j, j < k → rateOf fs j ≤ (gaAt gs j).1)) (fun i _ => gs.length - (intOf i).toNat)
    case atStart => exact ⟨0, Nat.zero_le _, rfl, K2.out, Lib.hid (fun j hj => by omega)⟩
    case round =>
      obtain ⟨w3, rfl⟩ : ∃ w3, w3 = wr := ⟨wr, rfl⟩
      obtain ⟨k, hk, rfl, kp, hok⟩ := hrel
      clear c2 c3
      have d0 := kp.cell hb0
      have d1 := kp.cell hb1
      have Kq := Lib.hid kp
      by_cases hlt : k < gs.length
      case neg =>
        obtain rfl : k = gs.length := by omega
        have Hz2 : Hid (netErr gs fs = 0) := Lib.hid (by rw [Hz.out, Hgood.out hok.out]; rfl)
        clear hok kp
        go_wp2_with fail
        go_ret
        exact ⟨by rw [Hz2.out]; rfl, Hk.out.step Kq.out⟩
      case pos =>
        have i1 : (k : Int) < (gs.length : Int) := by omega
        have hri := rate_if fs k
        have hin := rIf_in Hrt.out k
        have hbk := Hbad.out k hlt
        have hnext : rateOf fs k ≤ (gaAt gs k).1 → ∀ j, j < k + 1 → rateOf fs j ≤ (gaAt gs j).1 := fun hh j hj => by
          by_cases e : j = k
          · subst e; exact hh
          · exact hok.out j (by omega)
        have Hri := Lib.hid hri; have Hin := Lib.hid hin; have Hbk := Lib.hid hbk; have Hnx := Lib.hid hnext
        clear hri hin hbk hnext kp hok
        go_wp2_with fail
        go_loopw [6, 7] (fun s i wr => ∃ (m : Nat), m ≤ fs.length ∧ s = .int .i64 (sumN (rIf fs k) m) ∧ i = .int .i64 m ∧ Kp w3 wr) (fun _ i _ => fs.length - (intOf i).toNat)
        case atStart => exact ⟨0, Nat.zero_le _, rfl, rfl, Kp.refl _⟩
        case round =>
          obtain ⟨w4, rfl⟩ : ∃ w4, w4 = wr := ⟨wr, rfl⟩
          obtain ⟨m, hm, rfl, rfl, kp⟩ := hrel
          have e0 := kp.cell d0
          have e1 := kp.cell d1
          have K4 := Lib.hid kp
          have Kv4 := Lib.hid (Kq.out.step kp)
          have hsum := sumN_le (n := m) (fun j hj => Hin.out j)
          by_cases hmn : m < fs.length
          case pos =>
            obtain ⟨b1, o1, rfl, hc1⟩ := (Hfa.out _ Kv4.out).cells (by omega)
            obtain ⟨f0, f1, pa, pc, f2, f3, f4, f5⟩ := hc1 m hmn
            have i2 : (m : Int) < (fs.length : Int) := by omega
            have hst : sumN (rIf fs k) (m + 1) = sumN (rIf fs k) m + rIf fs k m := rfl
            have hrm : rIf fs k m = if hasI (flAt fs m).p k = true then (flAt fs m).r else 0 := rfl
            have hrr := Hrt.out m
            generalize rIf fs k m = rm at *
            generalize flAt fs m = f at *
            obtain ⟨fb, fr, p⟩ := f
            dsimp only at *
            have hcl := refHas_any pa pc p k w4 f3
            have Hst := Lib.hid hst; have Hrm := Lib.hid hrm; have Hcl := Lib.hid hcl
            clear hst hrm hcl hc1 f3 kp d0 d1
            generalize sumN (rIf fs k) m = S at *
            go_wp2_with fail
            refine Hcl.out.mono ?_
            rintro e w5 ⟨rfl, k5⟩
            have r0 := k5.cell e1
            have r1 := k5.cell f1
            have K5 := Lib.hid (K4.out.step k5)
            clear k5
            cases hx : hasI p k
            · have Hy : Hid (rm = 0) := Lib.hid (by rw [Hrm.out, hx]; rfl)
              clear hx
              go_wp2_with fail
              go_roundw
              case rel => exact ⟨m + 1, by omega, by rw [Hst.out, Hy.out, Int.add_zero], by go_num, K5.out⟩
              case measure => simp [intOf]; omega
            · have Hy : Hid (rm = fr) := Lib.hid (by rw [Hrm.out, hx]; rfl)
              clear hx
              go_wp2_with fail
              go_roundw
              case rel => exact ⟨m + 1, by omega, by rw [Hst.out, Hy.out], by go_num, K5.out⟩
              case measure => simp [intOf]; omega
          case neg =>
            obtain rfl : m = fs.length := by omega
            obtain ⟨b1, o1, rfl, hc1⟩ := (Hga.out _ Kv4.out).cells (by omega)
            obtain ⟨g0, g1⟩ := hc1 k hlt
            rw [← Hri.out] at hsum ⊢
            clear kp hc1 d0 d1
            generalize rateOf fs k = R at *
            generalize (gaAt gs k).1 = y at *
            by_cases hR : R ≤ y
            · have Hy := Lib.hid (Hnx.out hR)
              have q : decide (y < R) = false := decide_eq_false (by omega)
              clear hR
              go_wp2_with fail
              go_roundw
              case rel => exact ⟨k + 1, by omega, by go_num, Kv4.out, Hy⟩
              case measure => simp [intOf]; omega
            · have Hy := Lib.hid (Hbk.out (by omega))
              have q : decide (y < R) = true := decide_eq_true (by omega)
              clear hR
              go_wp2_with fail
              go_ret
              exact ⟨by rw [Hz.out, Hy.out]; rfl, Hk.out.step Kv4.out⟩
end Go.Proofs.Ytcelbmpdnkaamaa
