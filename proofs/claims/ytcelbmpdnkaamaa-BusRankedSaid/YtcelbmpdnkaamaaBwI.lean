/- The program's Response. -/
import Derived.Test.YtcelbmpdnkaamaaBwH
namespace Go.Proofs.Ytcelbmpdnkaamaa
open Go Go.RowKit Go.WideMaps Go.Maps
set_option linter.unusedSimpArgs false
set_option linter.unusedVariables false

set_option maxRecDepth 100000 in
set_option maxHeartbeats 3200000 in
theorem busResponse_any (la : Option Addr) (lc : Nat) (ls : List Fr) (i : Int) (w : World) (h : FramesAt w la ls) (hlc : ls.length ≤ lc) (hlc2 : lc ≤ maxLen) :
    Calls Try.prog 12 #[.slice la ls.length lc, .int .i64 i] w fun e w' => e = .returned (RespV ls i) ∧ Kp w w' := by
  have hl := h.len
  have hch := check_any la lc ls w h hlc hlc2
  have hwi := fun W => isOf_any i (ls.length : Int) W
  have hv : RespV ls i = if frErr ls = 0 then (if fromB 0 i ((ls.length : Int) - 1) = true then (if respI ls i.toNat < 0 then .tuple #[.int .i64 0, .int .i64 41] else .tuple #[.int .i64 (respI ls i.toNat), .int .i64 0]) else .tuple #[.int .i64 0, .int .i64 1]) else .tuple #[.int .i64 0, .int .i64 (frErr ls)] := rfl
  unfold maxLen at hl
  by_cases h0 : frErr ls = 0
  case neg =>
    have hne : ((frErr ls) != 0) = true := by simpa using h0
    have Hz : Hid (RespV ls i = .tuple #[.int .i64 0, .int .i64 (frErr ls)]) := Lib.hid (by rw [hv, if_neg h0])
    have Hch := Lib.hid hch
    clear h0 hv hch h hwi
    generalize RespV ls i = RV at *
    generalize frErr ls = x at *
    go_enter Try.func12, Try.ntmps12
    go_wp2_with fail
    refine Hch.out.mono ?_
    rintro e w1 ⟨rfl, kp1⟩
    go_wp2_with fail
    go_ret2
    exact ⟨by rw [Hz.out]; rfl, kp1⟩
  rw [h0] at hch
  by_cases hb : fromB 0 i ((ls.length : Int) - 1) = true
  case neg =>
    have hb' : fromB 0 i ((ls.length : Int) - 1) = false := by simpa using hb
    have Hz : Hid (RespV ls i = .tuple #[.int .i64 0, .int .i64 1]) := Lib.hid (by rw [hv, if_pos h0, if_neg hb])
    have Hch := Lib.hid hch; have Hwi := Lib.hid hwi
    clear h0 hv hch h hwi hb
    generalize RespV ls i = RV at *
    go_enter Try.func12, Try.ntmps12
    go_wp2_with fail
    refine Hch.out.mono ?_
    rintro e w1 ⟨rfl, kp1⟩
    go_wp2_with fail
    refine (Hwi.out _).mono ?_
    rintro e w2 ⟨rfl, rfl⟩
    rw [hb']
    go_wp2_with fail
    go_ret2
    exact ⟨by rw [Hz.out]; rfl, kp1⟩
  have hb2 := hb
  unfold fromB at hb2
  simp only [Bool.and_eq_true, decide_eq_true_eq] at hb2
  obtain ⟨n, rfl⟩ : ∃ n : Nat, i = n := ⟨i.toNat, by omega⟩
  rw [if_pos h0, if_pos hb] at hv
  rw [Int.toNat_natCast] at hv
  have hn : n < ls.length := by omega
  have i1 : (n : Int) < (ls.length : Int) := by omega
  obtain ⟨b1, o1, rfl, hc1⟩ := h.cells (by omega)
  obtain ⟨c0, c1, c2, c3, c4⟩ := hc1 n hn
  have ok := frErr_okW h0
  have fo := ok.2 n hn
  have rok := rivOk_of ok fo
  have hri := fun W (kW : Kp w W) => rivalsOf_any (some ⟨b1, o1, none⟩) lc ls (frAt ls n) W (h.kp kW) ok
  have hre := fun W a c (hA : FramesAt W a (abTo ls (frAt ls n).r ls.length)) => response_any a c (abTo ls (frAt ls n).r ls.length) (restTo ls (frAt ls n).r ls.length) (frAt ls n) 9223372036854775807 W hA rok
  have hrI : respI ls n = (respOf (restTo ls (frAt ls n).r ls.length) (abTo ls (frAt ls n).r ls.length) (frAt ls n) 9223372036854775807).getD (-1) := rfl
  have hge : ∀ v, respOf (restTo ls (frAt ls n).r ls.length) (abTo ls (frAt ls n).r ls.length) (frAt ls n) 9223372036854775807 = some v → 0 ≤ v := fun v e => by
    unfold respOf at e
    cases e1 : lfp (busyG (restTo ls (frAt ls n).r ls.length) (abTo ls (frAt ls n).r ls.length) (frAt ls n)) 1 with
    | none => rw [e1] at e; cases e
    | some t =>
      rw [e1] at e
      simp only [Option.bind_some] at e
      cases e2 : respTo (restTo ls (frAt ls n).r ls.length) (abTo ls (frAt ls n).r ls.length) (frAt ls n) 9223372036854775807 (upI (t + (frAt ls n).j) (frAt ls n).e).toNat with
      | none => rw [e2] at e; cases e
      | some mb =>
        rw [e2] at e
        simp only [Option.map_some, Option.some.injEq] at e
        subst e
        exact (respTo_ok rok _ mb.1 mb.2 e2).m0
  unfold frV at hri hre
  generalize abTo ls (frAt ls n).r ls.length = A at *
  generalize restTo ls (frAt ls n).r ls.length = R at *
  generalize respOf R A (frAt ls n) 9223372036854775807 = O at *
  generalize respI ls n = I at *
  generalize RespV ls n = RV at *
  generalize frAt ls n = f at *
  have Hch := Lib.hid hch; have Hwi := Lib.hid hwi; have Hri := Lib.hid hri; have Hre := Lib.hid hre; have HrI := Lib.hid hrI; have Hv := Lib.hid hv; have Hge := Lib.hid hge
  clear hch hwi hri hre hrI hv hge hc1 h h0 hb2 ok fo rok
  cases O with
  | none =>
    have hI : I = -1 := HrI.out
    subst hI
    have Hz : Hid (RV = .tuple #[.int .i64 0, .int .i64 41]) := Lib.hid (by rw [Hv.out]; rfl)
    go_enter Try.func12, Try.ntmps12
    go_wp2_with fail
    refine Hch.out.mono ?_
    rintro e w1 ⟨rfl, kp1⟩
    have d0 := kp1.cell c0; have d1 := kp1.cell c1; have d2 := kp1.cell c2; have d3 := kp1.cell c3; have d4 := kp1.cell c4
    have K1 := Lib.hid kp1
    clear kp1 c0 c1 c2 c3 c4
    go_wp2_with fail
    refine (Hwi.out _).mono ?_
    rintro e w2 ⟨rfl, rfl⟩
    rw [hb]
    go_wp2_with fail
    go_region_law (first
      | (go_simp; go_at_call 39; refine (Hri.out _ (by first | exact K1.out | exact Keeps.drew K1.out)).mono ?_; rintro e w5 ⟨a5, c5, rfl, hA5, kp5⟩; have d0 := kp5.cell (show w2.drew.cell? _ = _ from d0); have d1 := kp5.cell (show w2.drew.cell? _ = _ from d1); have d2 := kp5.cell (show w2.drew.cell? _ = _ from d2); have d3 := kp5.cell (show w2.drew.cell? _ = _ from d3); have d4 := kp5.cell (show w2.drew.cell? _ = _ from d4))
      | (go_simp; go_at_call 40; refine (Hre.out _ a5 c5 hA5).mono ?_; rintro e w6 ⟨rfl, kp6⟩; unfold optV))
    all_goals
     have kW6 : Kp w2 w6 := ⟨(kp5.step kp6).os, (kp5.step kp6).tape, (kp5.step kp6).output, (kp5.step kp6).size, (kp5.step kp6).block⟩
     have K6 := Lib.hid (K1.out.step kW6)
     clear kp5 kp6 kW6 hA5 d0 d1 d2 d3 d4
     go_simp
     go_wp2_with fail
     go_ret2
     exact ⟨by rw [Hz.out]; rfl, K6.out⟩
  | some v =>
    have hI : I = v := HrI.out
    subst hI
    have h0 := Hge.out I rfl
    have q0 : decide (I < 0) = false := decide_eq_false (by omega)
    have Hz : Hid (RV = .tuple #[.int .i64 I, .int .i64 0]) := Lib.hid (by rw [Hv.out, if_neg (by omega)])
    go_enter Try.func12, Try.ntmps12
    go_wp2_with fail
    refine Hch.out.mono ?_
    rintro e w1 ⟨rfl, kp1⟩
    have d0 := kp1.cell c0; have d1 := kp1.cell c1; have d2 := kp1.cell c2; have d3 := kp1.cell c3; have d4 := kp1.cell c4
    have K1 := Lib.hid kp1
    clear kp1 c0 c1 c2 c3 c4
    go_wp2_with fail
    refine (Hwi.out _).mono ?_
    rintro e w2 ⟨rfl, rfl⟩
    rw [hb]
    go_wp2_with fail
    go_region_law (first
      | (go_simp; go_at_call 39; refine (Hri.out _ (by first | exact K1.out | exact Keeps.drew K1.out)).mono ?_; rintro e w5 ⟨a5, c5, rfl, hA5, kp5⟩; have d0 := kp5.cell (show w2.drew.cell? _ = _ from d0); have d1 := kp5.cell (show w2.drew.cell? _ = _ from d1); have d2 := kp5.cell (show w2.drew.cell? _ = _ from d2); have d3 := kp5.cell (show w2.drew.cell? _ = _ from d3); have d4 := kp5.cell (show w2.drew.cell? _ = _ from d4))
      | (go_simp; go_at_call 40; refine (Hre.out _ a5 c5 hA5).mono ?_; rintro e w6 ⟨rfl, kp6⟩; unfold optV))
    all_goals
     have kW6 : Kp w2 w6 := ⟨(kp5.step kp6).os, (kp5.step kp6).tape, (kp5.step kp6).output, (kp5.step kp6).size, (kp5.step kp6).block⟩
     have K6 := Lib.hid (K1.out.step kW6)
     clear kp5 kp6 kW6 hA5 d0 d1 d2 d3 d4
     go_simp
     go_wp2_with fail
     go_ret2
     exact ⟨by rw [Hz.out]; rfl, K6.out⟩
end Go.Proofs.Ytcelbmpdnkaamaa
