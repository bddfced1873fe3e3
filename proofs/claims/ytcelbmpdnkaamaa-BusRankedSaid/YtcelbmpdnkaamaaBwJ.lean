/- BusResponds: the walk. -/
import Derived.Test.YtcelbmpdnkaamaaBwI
import Derived.Test.YtcelbmpdnkaamaaBuT
import Derived.Test.YtcelbmpdnkaamaaBvB
namespace Go.Proofs.Ytcelbmpdnkaamaa
open Go Go.RowKit Go.WideMaps Go.Maps
set_option linter.unusedSimpArgs false
set_option linter.unusedVariables false

def listOf (err : Int) (L : List Int) : List Int := if err = 0 then L else []
theorem endL_any {w : World} {err : Int} {L : List Int} {e : Ending} {w' : World} (h : EndL w err L e w') : ∃ a c, e = .returned (.tuple #[.slice a (listOf err L).length c, .int .i64 err]) ∧ IntsAt w' a (listOf err L) ∧ Kp w w' := by
  unfold EndL at h
  unfold listOf
  by_cases h0 : err = 0
  · rw [if_pos h0] at h
    obtain ⟨⟨a, c, rfl, hi⟩, k⟩ := h
    rw [if_pos h0, h0]
    exact ⟨a, c, rfl, hi, k⟩
  · rw [if_neg h0] at h
    obtain ⟨rfl, k⟩ := h
    rw [if_neg h0]
    exact ⟨none, 0, rfl, IntsAt.nil _ _, k⟩
theorem respEnd_L {w : World} {ls : List Fr} {e : Ending} {w' : World} (h : RespEnd w ls e w') : EndL w (frErr ls) (respL ls ls.length) e w' := by
  unfold RespEnd at h
  unfold EndL
  rw [respL_len]
  exact h
theorem respV_two (ls : List Fr) (i : Int) : ∃ x y, RespV ls i = .tuple #[.int .i64 x, .int .i64 y] := by
  unfold RespV
  split
  · split
    · split <;> exact ⟨_, _, rfl⟩
    · exact ⟨_, _, rfl⟩
  · exact ⟨_, _, rfl⟩

set_option maxRecDepth 100000 in
set_option maxHeartbeats 6400000 in
theorem busResponds_any (la : Option Addr) (lc : Nat) (ls : List Fr) (i : Int) (w : World) (h : FramesAt w la ls) (hlc : ls.length ≤ lc) (hlc2 : lc ≤ maxLen) :
    Calls Try.prog 3 #[.slice la ls.length lc, .int .i64 i] w fun e w' => e = .returned (.bool true) ∧ Kp w w' := by
  have hwk : ∀ W, Kp w W → Calls Try.prog 11 #[] W fun e w' => e = .returned (.bool true) ∧ Kp w w' := fun W kW => (works_any W).mono (fun e w' hh => ⟨hh.1, kW.step hh.2⟩)
  have hhv := fun W (kW : Kp w W) => heavy_any la lc ls W (h.kp kW)
  obtain ⟨x, y, hv⟩ := respV_two ls i
  have h1 := fun W (kW : Kp w W) => busResponse_any la lc ls i W (h.kp kW) hlc hlc2
  have h2 := fun W (kW : Kp w W) => refResponse_any la lc ls i W (h.kp kW) hlc hlc2
  rw [hv] at h1 h2
  have h3 := fun W (kW : Kp w W) => (responses_any la lc ls W (h.kp kW) hlc hlc2).mono (fun e w' hh => endL_any (respEnd_L hh))
  have h4 := fun W (kW : Kp w W) => (refResponses_any la lc ls W (h.kp kW)).mono (fun e w' hh => endL_any (respEnd_L hh))
  have h5 := fun W (kW : Kp w W) => (busLate_any la lc ls W (h.kp kW) hlc hlc2).mono (fun e w' hh => endL_any hh)
  have h6 := fun W (kW : Kp w W) => (refLate_any la lc ls W (h.kp kW)).mono (fun e w' hh => endL_any hh)
  have hsm := fun xo yo xc yc xs W hx hy => sameInts_any xo yo xc yc xs xs W hx hy rfl
  have Hwk := Lib.hid hwk; have Hhv := Lib.hid hhv; have H1 := Lib.hid h1; have H2 := Lib.hid h2; have H3 := Lib.hid h3; have H4 := Lib.hid h4; have H5 := Lib.hid h5; have H6 := Lib.hid h6; have Hsm := Lib.hid hsm
  clear hwk hhv hv h1 h2 h3 h4 h5 h6 hsm h
  generalize listOf (frErr ls) (respL ls ls.length) = L1 at *
  generalize listOf (frErr ls) (lateL ls) = L2 at *
  generalize frErr ls = err at *
  have qe : (err != err) = false := by simp
  have qe2 : (err == err) = true := by simp
  have qx : (x != x) = false := by simp
  have qy : (y != y) = false := by simp
  go_enter Try.func3, Try.ntmps3
  go_wp2_with fail
  refine (Hhv.out _ (Kp.refl _)).mono ?_
  rintro e w1 ⟨⟨hb, rfl⟩, kp1⟩
  have K1 := Lib.hid kp1
  clear kp1
  cases hb
  case true =>
    go_wp2_with fail
    refine (Hwk.out _ K1.out).mono ?_
    rintro e w3 ⟨rfl, k3⟩
    go_wp2_with fail
    go_ret
    exact ⟨rfl, k3⟩
  go_wp2_with fail
  refine (H1.out _ K1.out).mono ?_
  rintro e w2 ⟨rfl, kp2⟩
  have K2 := Lib.hid (K1.out.step kp2)
  clear kp2
  go_wp2_with fail
  refine (H2.out _ K2.out).mono ?_
  rintro e w3 ⟨rfl, kp3⟩
  have K3 := Lib.hid (K2.out.step kp3)
  clear kp3
  go_wp2_with fail
  refine (H3.out _ K3.out).mono ?_
  rintro e w4 ⟨a1, c1, rfl, hi1, kp4⟩
  have K4 := Lib.hid (K3.out.step kp4); have I1 := Lib.hid hi1
  clear kp4 hi1
  go_wp2_with fail
  refine (H4.out _ K4.out).mono ?_
  rintro e w5 ⟨a2, c2, rfl, hi2, kp5⟩
  have K5 := Lib.hid (K4.out.step kp5); have I1b := Lib.hid (I1.out.kp kp5); have I2 := Lib.hid hi2
  clear kp5 hi2
  go_wp2_with fail
  refine (Hsm.out _ _ _ _ _ _ I1b.out I2.out).mono ?_
  rintro e w6 ⟨rfl, kp6⟩
  have K6 := Lib.hid (K5.out.step kp6)
  clear kp6
  go_wp2_with fail
  refine (H5.out _ K6.out).mono ?_
  rintro e w7 ⟨a3, c3, rfl, hi3, kp7⟩
  have K7 := Lib.hid (K6.out.step kp7); have I3 := Lib.hid hi3
  clear kp7 hi3
  go_wp2_with fail
  refine (H6.out _ K7.out).mono ?_
  rintro e w8 ⟨a4, c4, rfl, hi4, kp8⟩
  have K8 := Lib.hid (K7.out.step kp8); have I3b := Lib.hid (I3.out.kp kp8); have I4 := Lib.hid hi4
  clear kp8 hi4
  go_wp2_with fail
  refine (Hsm.out _ _ _ _ _ _ I3b.out I4.out).mono ?_
  rintro e w9 ⟨rfl, kp9⟩
  have K9 := Lib.hid (K8.out.step kp9)
  clear kp9
  go_wp2_with fail
  refine (Hwk.out _ K9.out).mono ?_
  rintro e w10 ⟨rfl, k10⟩
  go_wp2_with fail
  go_ret
  exact ⟨rfl, k10⟩
end Go.Proofs.Ytcelbmpdnkaamaa
