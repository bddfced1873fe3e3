/- checkVariant, Holds, Buildable, and the reference's. -/
import Derived.Test.YtngjjmniigkeoaaGreatDoorHold
namespace Go.Proofs.YtngjjmniigkeoaaGreatDoor
open Go Go.RowKit Go.WideMaps Go.Maps
set_option linter.unusedSimpArgs false
set_option linter.unusedVariables false

def variantErr (ss : List ByteArray) (fs l : List (List Int)) (n : Nat) : Int := if checkErr ss fs l = 0 then (if n = ss.length then 0 else 1) else checkErr ss fs l

set_option maxHeartbeats 1600000 in
theorem checkVariant_any (ao ar al av : Option Addr) (ca cr cl cv n : Nat) (ss : List ByteArray) (fs l : List (List Int)) (w : World) (h : ModelAt w ao ar ss fs) (hl : FormsAt w al l) (hn : n ≤ maxLen) :
    Calls Tryz.prog 37 #[.agg #[.slice ao ss.length ca, .slice ar fs.length cr], .slice av n cv, .slice al l.length cl] w fun e w' => e = .returned (.int .i64 (variantErr ss fs l n)) ∧ Keeps (fun _ => False) w w' := by
  have hl1 := h.strs.len
  unfold maxLen at hl1 hn
  have hkA := keeps_alloc w (.cells #[.slice ao ss.length ca, .slice ar fs.length cr] 25)
  have hc := check_any ao ar al ca cr cl ss fs l (w.alloc (.cells #[.slice ao ss.length ca, .slice ar fs.length cr] 25)) (h.keeps hkA) (hl.keeps hkA)
  have hbx := box0 w (.slice ao ss.length ca) (.slice ar fs.length cr) 25
  by_cases hz : checkErr ss fs l = 0
  · have he : variantErr ss fs l n = if n = ss.length then 0 else 1 := if_pos hz
    have He := Lib.hid he; have Hc := Lib.hid hc; have HkA := Lib.hid hkA; have Hz := Lib.hid hz
    clear he hc hkA h hl hz
    by_cases hq : n = ss.length
    · have hne : ((n : Int) != (ss.length : Int)) = false := by rw [hq]; simp
      have Hq := Lib.hid hq
      clear hq
      go_enter Tryz.func37, Tryz.ntmps37
      go_wp2_with fail
      refine Hc.out.mono ?_
      rintro e w1 ⟨rfl, hb1⟩
      rw [Hz.out]
      have hc0 := cell_kept hbx hb1 (Nat.le_refl _)
      go_wp2_with fail
      go_ret
      exact ⟨by rw [He.out, if_pos Hq.out]; rfl, HkA.out.step (Keeps.of_bel hb1)⟩
    · have hne : ((n : Int) != (ss.length : Int)) = true := by rw [bne_iff_ne]; omega
      have Hq := Lib.hid hq
      clear hq
      go_enter Tryz.func37, Tryz.ntmps37
      go_wp2_with fail
      refine Hc.out.mono ?_
      rintro e w1 ⟨rfl, hb1⟩
      rw [Hz.out]
      have hc0 := cell_kept hbx hb1 (Nat.le_refl _)
      go_wp2_with fail
      go_ret
      exact ⟨by rw [He.out, if_neg Hq.out]; rfl, HkA.out.step (Keeps.of_bel hb1)⟩
  · have he : variantErr ss fs l n = checkErr ss fs l := if_neg hz
    have hne : ((checkErr ss fs l) != 0) = true := by simpa using hz
    have He := Lib.hid he; have Hc := Lib.hid hc; have HkA := Lib.hid hkA
    clear he hc hkA h hl hz
    generalize hx : checkErr ss fs l = x at *
    go_enter Tryz.func37, Tryz.ntmps37
    go_wp2_with fail
    refine Hc.out.mono ?_
    rintro e w1 ⟨rfl, hb1⟩
    go_wp2_with fail
    go_ret
    exact ⟨by rw [He.out]; rfl, HkA.out.step (Keeps.of_bel hb1)⟩

/-- What Holds must answer. -/
def holdsErr (ss : List ByteArray) (fs : List (List Int)) (f : List Int) (n : Nat) : Int := variantErr ss fs [f] n
def holdsAns (ss : List ByteArray) (fs : List (List Int)) (f : List Int) (vs : List Bool) : Bool := if variantErr ss fs [f] vs.length = 0 then evalF (vT vs) f else false
theorem variantErr_zero {ss : List ByteArray} {fs l : List (List Int)} {n : Nat} (h : variantErr ss fs l n = 0) : checkErr ss fs l = 0 ∧ n = ss.length := by
  unfold variantErr at h
  split at h
  · rename_i h1
    split at h
    · exact ⟨h1, by assumption⟩
    · cases h
  · contradiction

set_option maxHeartbeats 1600000 in
theorem Holds_any (ao ar af av : Option Addr) (ca cr cf cv : Nat) (ss : List ByteArray) (fs : List (List Int)) (f : List Int) (vs : List Bool) (w : World) (h : ModelAt w ao ar ss fs) (hf : IntsAt w af cf f) (hv : BoolsAt w av vs) :
    Calls Tryz.prog 18 #[.agg #[.slice ao ss.length ca, .slice ar fs.length cr], .slice af f.length cf, .slice av vs.length cv] w fun e w' => e = .returned (.tuple #[.bool (holdsAns ss fs f vs), .int .i64 (variantErr ss fs [f] vs.length)]) ∧ Keeps (fun _ => False) w w' := by
  have hkA := (keeps_alloc w (.cells #[.slice ao ss.length ca, .slice ar fs.length cr] 25)).alloc (.cells #[.slice af f.length cf] 27)
  have hc := checkVariant_any ao ar (some ⟨w.heap.size + 1, 0, none⟩) av ca cr 1 cv vs.length ss fs [f] ((w.alloc (.cells #[.slice ao ss.length ca, .slice ar fs.length cr] 25)).alloc (.cells #[.slice af f.length cf] 27)) (h.keeps hkA)
    (by have := formsAt_one (hf.keeps (keeps_alloc w (.cells #[.slice ao ss.length ca, .slice ar fs.length cr] 25))) 27; simpa using this) hv.len
  have hh : ∀ w1, Keeps (fun _ => False) w w1 → variantErr ss fs [f] vs.length = 0 → Calls Tryz.prog 38 #[.slice af f.length cf, .slice av vs.length cv] w1 fun e w' => e = .returned (.bool (evalF (vT vs) f)) ∧ Keeps (fun _ => False) w1 w' := fun w1 k hz =>
    holds_any af av cf cv f vs w1 (hf.keeps k) (hv.keeps k) (by obtain ⟨h1, h2⟩ := variantErr_zero hz; rw [h2]; exact (checkErr_zero h1).2)
  have Hc := Lib.hid hc; have HkA := Lib.hid hkA; have Hh := Lib.hid hh
  clear hc hkA h hf hv hh
  unfold holdsAns
  by_cases hz : variantErr ss fs [f] vs.length = 0
  · rw [if_pos hz]
    have Hz := Lib.hid hz
    go_enter Tryz.func18, Tryz.ntmps18
    go_wp2_with fail
    refine Hc.out.mono ?_
    rintro e w1 ⟨rfl, k1⟩
    rw [hz]
    clear hz
    go_wp2_with fail
    refine (Hh.out _ (by first | exact HkA.out.step k1 | exact (HkA.out.step k1).drew | exact (HkA.out.step k1).drewN _) Hz.out).mono ?_
    rintro e w2 ⟨rfl, k2⟩
    go_wp2_with fail
    go_ret2
    exact ⟨by rw [Hz.out]; rfl, (HkA.out.step k1).step ⟨k2.os, k2.tape, k2.output, k2.size, k2.block⟩⟩
  · rw [if_neg hz]
    have hne : ((variantErr ss fs [f] vs.length) != 0) = true := by simpa using hz
    clear hz Hh
    generalize variantErr ss fs [f] vs.length = x at *
    go_enter Tryz.func18, Tryz.ntmps18
    go_wp2_with fail
    refine Hc.out.mono ?_
    rintro e w1 ⟨rfl, k1⟩
    go_wp2_with fail
    go_ret2
    exact ⟨rfl, HkA.out.step k1⟩

set_option maxHeartbeats 1600000 in
theorem refHolds_any (ao ar af av : Option Addr) (ca cr cf cv : Nat) (ss : List ByteArray) (fs : List (List Int)) (f : List Int) (vs : List Bool) (w : World) (h : ModelAt w ao ar ss fs) (hf : IntsAt w af cf f) (hv : BoolsAt w av vs) :
    Calls Tryz.prog 19 #[.agg #[.slice ao ss.length ca, .slice ar fs.length cr], .slice af f.length cf, .slice av vs.length cv] w fun e w' => e = .returned (.tuple #[.bool (holdsAns ss fs f vs), .int .i64 (variantErr ss fs [f] vs.length)]) ∧ Keeps (fun _ => False) w w' := by
  have hl1 := h.strs.len
  have hl2 := hv.len
  unfold maxLen at hl1 hl2
  have hkA := keeps_alloc w (.cells #[.slice ao ss.length ca, .slice ar fs.length cr] 25)
  have hc := refCheckFormula_any ao ar af ca cr cf ss fs f (w.alloc (.cells #[.slice ao ss.length ca, .slice ar fs.length cr] 25)) (h.keeps hkA) (hf.keeps hkA)
  have hbx := box0 w (.slice ao ss.length ca) (.slice ar fs.length cr) 25
  have hh : ∀ w1, Keeps (fun _ => False) w w1 → checkErr ss fs [f] = 0 → vs.length = ss.length → Calls Tryz.prog 39 #[.slice af f.length cf, .slice av vs.length cv] w1 fun e w' => e = .returned (.bool (evalF (vT vs) f)) ∧ Keeps (fun _ => False) w1 w' := fun w1 k hz h2 =>
    refTrue_any af av cf cv f vs w1 (hf.keeps k) (hv.keeps k) (by rw [h2]; exact (checkErr_zero hz).2)
  have Hc := Lib.hid hc; have HkA := Lib.hid hkA; have Hh := Lib.hid hh
  clear hc hkA h hf hv hh
  by_cases hz : checkErr ss fs [f] = 0
  · by_cases hq : vs.length = ss.length
    · have e1 : variantErr ss fs [f] vs.length = 0 := by unfold variantErr; rw [if_pos hz, if_pos hq]
      have e2 : holdsAns ss fs f vs = evalF (vT vs) f := if_pos e1
      rw [e1, e2]
      have hne : ((vs.length : Int) != (ss.length : Int)) = false := by rw [hq]; simp
      have Hz := Lib.hid hz; have Hq := Lib.hid hq
      clear e1 e2 hq
      go_enter Tryz.func19, Tryz.ntmps19
      go_wp2_with fail
      refine Hc.out.mono ?_
      rintro e w1 ⟨rfl, hb1⟩
      rw [hz]
      clear hz
      have hc0 := cell_kept hbx hb1 (Nat.le_refl _)
      go_wp2_with fail
      refine (Hh.out _ (by first | exact HkA.out.step (Keeps.of_bel hb1) | exact (HkA.out.step (Keeps.of_bel hb1)).drew | exact (HkA.out.step (Keeps.of_bel hb1)).drewN _) Hz.out Hq.out).mono ?_
      rintro e w2 ⟨rfl, k2⟩
      go_wp2_with fail
      go_ret2
      exact ⟨rfl, (HkA.out.step (Keeps.of_bel hb1)).step ⟨k2.os, k2.tape, k2.output, k2.size, k2.block⟩⟩
    · have e1 : variantErr ss fs [f] vs.length = 1 := by unfold variantErr; rw [if_pos hz, if_neg hq]
      have e2 : holdsAns ss fs f vs = false := by unfold holdsAns; rw [e1, if_neg (by omega)]
      rw [e1, e2]
      have hne : ((vs.length : Int) != (ss.length : Int)) = true := by rw [bne_iff_ne]; omega
      have Hz := Lib.hid hz
      clear e1 e2 hq hz Hh
      go_enter Tryz.func19, Tryz.ntmps19
      go_wp2_with fail
      refine Hc.out.mono ?_
      rintro e w1 ⟨rfl, hb1⟩
      rw [Hz.out]
      have hc0 := cell_kept hbx hb1 (Nat.le_refl _)
      go_wp2_with fail
      go_ret2
      exact ⟨rfl, HkA.out.step (Keeps.of_bel hb1)⟩
  · have e1 : variantErr ss fs [f] vs.length = checkErr ss fs [f] := if_neg hz
    have e2 : holdsAns ss fs f vs = false := by unfold holdsAns; rw [e1, if_neg hz]
    rw [e1, e2]
    have hne : ((checkErr ss fs [f]) != 0) = true := by simpa using hz
    clear e1 e2 hz Hh
    generalize checkErr ss fs [f] = x at *
    go_enter Tryz.func19, Tryz.ntmps19
    go_wp2_with fail
    refine Hc.out.mono ?_
    rintro e w1 ⟨rfl, hb1⟩
    go_wp2_with fail
    go_ret2
    exact ⟨rfl, HkA.out.step (Keeps.of_bel hb1)⟩
end Go.Proofs.YtngjjmniigkeoaaGreatDoor
