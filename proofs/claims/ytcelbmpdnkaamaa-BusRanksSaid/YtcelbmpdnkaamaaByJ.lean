/- BusRanks: the walk. -/
import Derived.Test.YtcelbmpdnkaamaaByE
import Derived.Test.YtcelbmpdnkaamaaBwJ
namespace Go.Proofs.Ytcelbmpdnkaamaa
open Go Go.RowKit Go.WideMaps Go.Maps
set_option linter.unusedSimpArgs false
set_option linter.unusedVariables false

set_option maxRecDepth 100000 in
set_option maxHeartbeats 6400000 in
theorem busRanks_any (la : Option Addr) (lc : Nat) (ls : List Fr) (w : World) (h : FramesAt w la ls) (hlc : ls.length ≤ lc) (hlc2 : lc ≤ maxLen) :
    Calls Try.prog 4 #[.slice la ls.length lc] w fun e w' => e = .returned (.bool true) ∧ Kp w w' := by
  have hlm := h.len
  unfold maxLen at hlm
  have hwk : ∀ W, Kp w W → Calls Try.prog 11 #[] W fun e w' => e = .returned (.bool true) ∧ Kp w w' := fun W kW => (works_any W).mono (fun e w' hh => ⟨hh.1, kW.step hh.2⟩)
  have hhv := fun W (kW : Kp w W) => heavy_any la lc ls W (h.kp kW)
  have h1 := fun W (kW : Kp w W) => (busRank_any la lc ls W (h.kp kW) hlc hlc2).mono (fun e w' hh => endL_any hh)
  have h2 := fun W (kW : Kp w W) => (refRank_any la lc ls W (h.kp kW)).mono (fun e w' hh => endL_any hh)
  have hsm := fun xo yo xc yc xs W hx hy => sameInts_any xo yo xc yc xs xs W hx hy rfl
  have Hwk := Lib.hid hwk; have Hhv := Lib.hid hhv; have H1 := Lib.hid h1; have H2 := Lib.hid h2; have Hsm := Lib.hid hsm
  clear hwk hhv h1 h2 hsm h
  generalize listOf (rankErr ls) (rankL ls) = L1 at *
  generalize rankErr ls = err at *
  have qe2 : (err == err) = true := by simp
  go_enter Try.func4, Try.ntmps4
  go_wp2_with fail
  refine (Hhv.out _ (Kp.refl _)).mono ?_
  rintro e w1 ⟨⟨hb, rfl⟩, kp1⟩
  have K1 := Lib.hid kp1
  clear kp1
  cases hb
  case true =>
    go_wp2_with fail
    refine (Hwk.out _ K1.out).mono ?_
    rintro e w3 ⟨rfl, k3⟩
    go_wp2_with fail
    go_ret
    exact ⟨rfl, k3⟩
  by_cases hbig : 8 < ls.length ∧ ls.length ≤ 40
  case pos =>
    have q1 : decide ((8 : Int) < (ls.length : Int)) = true := decide_eq_true (by omega)
    have q2 : decide ((ls.length : Int) ≤ 40) = true := decide_eq_true (by omega)
    go_wp2_with fail
    refine (Hwk.out _ K1.out).mono ?_
    rintro e w3 ⟨rfl, k3⟩
    go_wp2_with fail
    go_ret
    exact ⟨rfl, k3⟩
  case neg =>
    by_cases h8 : (8 : Int) < (ls.length : Int)
    all_goals
      by_cases h40 : (ls.length : Int) ≤ 40
      all_goals
        first
        | (exfalso; omega)
        | (go_wp2_with fail
           refine (H1.out _ K1.out).mono ?_
           rintro e w4 ⟨a1, c1, rfl, hi1, kp4⟩
           have K4 := Lib.hid (K1.out.step kp4); have I1 := Lib.hid hi1
           clear kp4 hi1
           go_wp2_with fail
           refine (H2.out _ K4.out).mono ?_
           rintro e w5 ⟨a2, c2, rfl, hi2, kp5⟩
           have K5 := Lib.hid (K4.out.step kp5); have I1b := Lib.hid (I1.out.kp kp5); have I2 := Lib.hid hi2
           clear kp5 hi2
           go_wp2_with fail
           refine (Hsm.out _ _ _ _ _ _ I1b.out I2.out).mono ?_
           rintro e w6 ⟨rfl, kp6⟩
           have K6 := Lib.hid (K5.out.step kp6)
           clear kp6
           go_wp2_with fail
           refine (Hwk.out _ K6.out).mono ?_
           rintro e w10 ⟨rfl, k10⟩
           go_wp2_with fail
           go_ret
           exact ⟨rfl, k10⟩)
end Go.Proofs.Ytcelbmpdnkaamaa
