/- Buildable and the reference's, and the walk of OptionsHolds. -/
import Derived.Test.YtngjjmniigkeoaaGreatDoorHoldB
namespace Go.Proofs.YtngjjmniigkeoaaGreatDoor
open Go Go.RowKit Go.WideMaps Go.Maps
set_option linter.unusedSimpArgs false
set_option linter.unusedVariables false

def firstI (vs : List Bool) (fs : List (List Int)) : Int := if fs.all (fun f => evalF (vT vs) f) = true then -1 else (fs.findIdx (fun f => !evalF (vT vs) f) : Nat)
theorem firstI_all {vs : List Bool} {fs : List (List Int)} (h : ∀ j, j < fs.length → evalF (vT vs) (fs.getD j []) = true) : firstI vs fs = -1 := by
  unfold firstI
  rw [if_pos]
  rw [List.all_eq_true]
  intro f hf
  obtain ⟨j, hj, rfl⟩ := List.getElem_of_mem hf
  have := h j hj
  simpa [List.getD, hj] using this
theorem firstI_at {vs : List Bool} {fs : List (List Int)} {i : Nat} (hi : i < fs.length) (h : ∀ j, j < i → evalF (vT vs) (fs.getD j []) = true) (hb : evalF (vT vs) (fs.getD i []) = false) : firstI vs fs = i := by
  unfold firstI
  rw [if_neg]
  · congr 1
    rw [List.findIdx_eq hi]
    refine ⟨by simpa [List.getD, hi] using hb, fun j hj => ?_⟩
    have := h j hj
    have hj2 : j < fs.length := by omega
    simpa [List.getD, hj2] using this
  · rw [List.all_eq_true]
    intro ha
    have := ha (fs.getD i []) (by simp [List.getD, hi])
    rw [hb] at this; cases this

theorem checkErr_nil (ss : List ByteArray) (fs : List (List Int)) : checkErr ss fs [] = modelErr ss fs := by
  unfold checkErr formsErr
  split
  · rename_i h; rw [h]; rfl
  · rfl

set_option maxRecDepth 100000 in
set_option maxHeartbeats 1600000 in
theorem refFirst_any (ao ar av : Option Addr) (ca cr cv : Nat) (ss : List ByteArray) (fs : List (List Int)) (vs : List Bool) (w : World) (h : ModelAt w ao ar ss fs) (hv : BoolsAt w av vs) (hok : ∀ k, k < fs.length → validB (fs.getD k []) vs.length = true) :
    Calls Tryz.prog 40 #[.agg #[.slice ao ss.length ca, .slice ar fs.length cr], .slice av vs.length cv] w fun e w' => e = .returned (.int .i64 (firstI vs fs)) ∧ Keeps (fun _ => False) w w' := by
  have hl2 := h.forms.len
  unfold maxLen at hl2
  have hkA := keeps_alloc w (.cells #[.slice ao ss.length ca, .slice ar fs.length cr] 25)
  have hbx1 := box1 w (.slice ao ss.length ca) (.slice ar fs.length cr) 25
  have hT : ∀ w1, Keeps (fun _ => False) w w1 → ∀ i, i < fs.length → ∀ a c, IntsAt w1 a c (fs.getD i []) → Calls Tryz.prog 39 #[.slice a (fs.getD i []).length c, .slice av vs.length cv] w1 fun e w' => e = .returned (.bool (evalF (vT vs) (fs.getD i []))) ∧ Keeps (fun _ => False) w1 w' := fun w1 k i hi a c hf => refTrue_any a av c cv (fs.getD i []) vs w1 hf (hv.keeps k) (hok i hi)
  have hF : ∀ w1, Keeps (fun _ => False) w w1 → FormsAt w1 ar fs := fun w1 k => h.forms.keeps k
  have HT := Lib.hid hT; have HF := Lib.hid hF; have HkA := Lib.hid hkA
  clear hT hF hkA h hv hok
  go_enter Tryz.func40, Tryz.ntmps40
  go_wp2_with fail
  go_loopw [5] (fun i wr => ∃ q : Nat, q ≤ fs.length ∧ i = .int .i64 q ∧ Keeps (fun _ => False) (w.alloc (.cells #[.slice ao ss.length ca, .slice ar fs.length cr] 25)) wr ∧ Hid (∀ j, j < q → evalF (vT vs) (fs.getD j []) = true)) (fun i _ => fs.length - (intOf i).toNat)
  case atStart => exact ⟨0, Nat.zero_le _, rfl, Keeps.refl _ _, Lib.hid (fun j hj => by omega)⟩
  case round =>
    obtain ⟨q, hq, rfl, kp, hok⟩ := hrel
    have hca := kp.cell hbx1 (fun e => e)
    have blm : w.heap.size < wr.heap.size := World.block_lt_of_cell? wr _ hca
    have Kp := Lib.hid (HkA.out.step kp)
    by_cases hlt : q < fs.length
    · obtain ⟨b, off, rfl, hcs⟩ := (HF.out wr Kp.out).cells (by omega)
      obtain ⟨a, c, c0, hf⟩ := hcs q hlt
      have bl0 : b < wr.heap.size := World.block_lt_of_cell? wr _ c0
      have i1 : (q : Int) < (fs.length : Int) := by omega
      have ht := HT.out wr Kp.out q hlt a c hf
      have hbad : evalF (vT vs) (fs.getD q []) = false → firstI vs fs = q := firstI_at hlt hok.out
      have hnext : evalF (vT vs) (fs.getD q []) = true → ∀ j, j < q + 1 → evalF (vT vs) (fs.getD j []) = true := fun hh j hj => by
        by_cases e : j = q
        · subst e; exact hh
        · exact hok.out j (by omega)
      generalize fs.getD q [] = f at *
      have Ht := Lib.hid ht; have Hbad := Lib.hid hbad; have Hnext := Lib.hid hnext; have Kq := Lib.hid kp
      clear hcs hf ht hbad hnext hok kp
      go_wp2_with fail
      refine Ht.out.mono ?_
      rintro e w2 ⟨rfl, k2⟩
      have k2' : Keeps (fun _ => False) wr w2 := ⟨k2.os, k2.tape, k2.output, k2.size, k2.block⟩
      cases hx : evalF (vT vs) f
      · have He := Lib.hid (Hbad.out hx)
        clear hx
        go_wp2_with fail
        go_ret
        exact ⟨by rw [He.out]; rfl, Kp.out.step k2'⟩
      · have He := Lib.hid (Hnext.out hx)
        clear hx
        go_wp2_with fail
        go_roundw
        case rel => exact ⟨q + 1, by omega, by go_num, Kq.out.step k2', He⟩
        case measure => simp [intOf]; omega
    · have He := Lib.hid (firstI_all (vs := vs) (fs := fs) (fun j hj => hok.out j (by omega)))
      clear hok kp
      go_wp2_with fail
      go_ret
      exact ⟨by rw [He.out]; rfl, Kp.out⟩

/-- What Buildable must answer. -/
def buildAns (ss : List ByteArray) (fs : List (List Int)) (vs : List Bool) : Value :=
  if variantErr ss fs [] vs.length = 0 then .tuple #[.int .i64 (firstI vs fs), .bool (decide (firstI vs fs < 0)), .int .i64 0] else .tuple #[.int .i64 0, .bool false, .int .i64 (variantErr ss fs [] vs.length)]

set_option maxRecDepth 100000 in
set_option maxHeartbeats 1600000 in
theorem refBuildable_any (ao ar av : Option Addr) (ca cr cv : Nat) (ss : List ByteArray) (fs : List (List Int)) (vs : List Bool) (w : World) (h : ModelAt w ao ar ss fs) (hv : BoolsAt w av vs) :
    Calls Tryz.prog 21 #[.agg #[.slice ao ss.length ca, .slice ar fs.length cr], .slice av vs.length cv] w fun e w' => e = .returned (buildAns ss fs vs) ∧ Keeps (fun _ => False) w w' := by
  have hl1 := h.strs.len
  have hl2 := hv.len
  unfold maxLen at hl1 hl2
  have hkA := keeps_alloc w (.cells #[.slice ao ss.length ca, .slice ar fs.length cr] 25)
  have hbx := box0 w (.slice ao ss.length ca) (.slice ar fs.length cr) 25
  have hbx1 := box1 w (.slice ao ss.length ca) (.slice ar fs.length cr) 25
  have hM := refCheckModel_any ao ar ca cr ss fs _ (h.keeps hkA)
  have hF : ∀ w1, Keeps (fun _ => False) w w1 → modelErr ss fs = 0 → vs.length = ss.length → Calls Tryz.prog 40 #[.agg #[.slice ao ss.length ca, .slice ar fs.length cr], .slice av vs.length cv] w1 fun e w' => e = .returned (.int .i64 (firstI vs fs)) ∧ Keeps (fun _ => False) w1 w' := fun w1 k hm hq =>
    refFirst_any ao ar av ca cr cv ss fs vs w1 (h.keeps k) (hv.keeps k) (by rw [hq]; exact (modelErr_zero hm).2.2.2)
  have HM := Lib.hid hM; have HF := Lib.hid hF; have HkA := Lib.hid hkA
  clear hM hF hkA h hv
  have hve : variantErr ss fs [] vs.length = if modelErr ss fs = 0 then (if vs.length = ss.length then 0 else 1) else modelErr ss fs := by unfold variantErr; rw [checkErr_nil]
  by_cases hm : modelErr ss fs = 0
  · rw [if_pos hm] at hve
    by_cases hq : vs.length = ss.length
    · rw [if_pos hq] at hve
      have ha : buildAns ss fs vs = .tuple #[.int .i64 (firstI vs fs), .bool (decide (firstI vs fs < 0)), .int .i64 0] := if_pos hve
      have hne : ((vs.length : Int) != (ss.length : Int)) = false := by rw [hq]; simp
      have Ha := Lib.hid ha; have Hm := Lib.hid hm; have Hq := Lib.hid hq
      clear ha hve hq
      go_enter Tryz.func21, Tryz.ntmps21
      go_wp2_with fail
      refine HM.out.mono ?_
      rintro e w1 ⟨rfl, hb1⟩
      rw [hm]
      clear hm
      have hc0 := cell_kept hbx hb1 (Nat.le_refl _)
      have hc1 := cell_kept hbx1 hb1 (Nat.le_refl _)
      have K1 := Lib.hid (HkA.out.step (Keeps.of_bel hb1))
      go_wp2_with fail
      refine (HF.out _ (by first | exact K1.out | exact K1.out.drew | exact K1.out.drewN _) Hm.out Hq.out).mono ?_
      rintro e w2 ⟨rfl, k2⟩
      go_wp2_with fail
      go_ret3
      exact ⟨by rw [Ha.out]; rfl, K1.out.step ⟨k2.os, k2.tape, k2.output, k2.size, k2.block⟩⟩
    · rw [if_neg hq] at hve
      have ha : buildAns ss fs vs = .tuple #[.int .i64 0, .bool false, .int .i64 1] := by unfold buildAns; rw [hve]; rfl
      have hne : ((vs.length : Int) != (ss.length : Int)) = true := by rw [bne_iff_ne]; omega
      have Ha := Lib.hid ha; have Hm := Lib.hid hm
      clear ha hve hq hm HF
      go_enter Tryz.func21, Tryz.ntmps21
      go_wp2_with fail
      refine HM.out.mono ?_
      rintro e w1 ⟨rfl, hb1⟩
      rw [Hm.out]
      have hc0 := cell_kept hbx hb1 (Nat.le_refl _)
      go_wp2_with fail
      go_ret3
      exact ⟨by rw [Ha.out]; rfl, HkA.out.step (Keeps.of_bel hb1)⟩
  · rw [if_neg hm] at hve
    have ha : buildAns ss fs vs = .tuple #[.int .i64 0, .bool false, .int .i64 (modelErr ss fs)] := by unfold buildAns; rw [hve, if_neg hm]
    have hne : ((modelErr ss fs) != 0) = true := by simpa using hm
    have Ha := Lib.hid ha
    clear ha hve hm HF
    go_enter Tryz.func21, Tryz.ntmps21
    go_wp2_with fail
    refine HM.out.mono ?_
    rintro e w1 ⟨rfl, hb1⟩
    go_wp2_with fail
    go_ret3
    exact ⟨by rw [Ha.out]; rfl, HkA.out.step (Keeps.of_bel hb1)⟩

set_option maxRecDepth 100000 in
set_option maxHeartbeats 1600000 in
theorem buildable_any (ao ar av : Option Addr) (ca cr cv : Nat) (ss : List ByteArray) (fs : List (List Int)) (vs : List Bool) (w : World) (h : ModelAt w ao ar ss fs) (hv : BoolsAt w av vs) :
    Calls Tryz.prog 20 #[.agg #[.slice ao ss.length ca, .slice ar fs.length cr], .slice av vs.length cv] w fun e w' => e = .returned (buildAns ss fs vs) ∧ Keeps (fun _ => False) w w' := by
  have hl1 := h.forms.len
  have hl2 := hv.len
  unfold maxLen at hl1
  have hkA := keeps_alloc w (.cells #[.slice ao ss.length ca, .slice ar fs.length cr] 25)
  have hbx1 := box1 w (.slice ao ss.length ca) (.slice ar fs.length cr) 25
  have hV := checkVariant_any ao ar none av ca cr 0 cv vs.length ss fs [] (w.alloc (.cells #[.slice ao ss.length ca, .slice ar fs.length cr] 25)) (h.keeps hkA) ⟨Nat.zero_le _, fun h0 => absurd h0 (by simp)⟩ hl2
  have hT : ∀ w1, Keeps (fun _ => False) w w1 → variantErr ss fs [] vs.length = 0 → ∀ i, i < fs.length → ∀ a c, IntsAt w1 a c (fs.getD i []) → Calls Tryz.prog 38 #[.slice a (fs.getD i []).length c, .slice av vs.length cv] w1 fun e w' => e = .returned (.bool (evalF (vT vs) (fs.getD i []))) ∧ Keeps (fun _ => False) w1 w' := fun w1 k hz i hi a c hf => holds_any a av c cv (fs.getD i []) vs w1 hf (hv.keeps k) (by
      obtain ⟨h1, h2⟩ := variantErr_zero hz
      rw [checkErr_nil] at h1
      rw [h2]; exact (modelErr_zero h1).2.2.2 i hi)
  have hF : ∀ w1, Keeps (fun _ => False) w w1 → FormsAt w1 ar fs := fun w1 k => h.forms.keeps k
  have HT := Lib.hid hT; have HF := Lib.hid hF; have HkA := Lib.hid hkA; have HV := Lib.hid hV
  clear hT hF hkA h hv hV
  by_cases hz : variantErr ss fs [] vs.length = 0
  case neg =>
    have ha : buildAns ss fs vs = .tuple #[.int .i64 0, .bool false, .int .i64 (variantErr ss fs [] vs.length)] := if_neg hz
    have hne : ((variantErr ss fs [] vs.length) != 0) = true := by simpa using hz
    have Ha := Lib.hid ha
    clear ha hz HT HF
    generalize variantErr ss fs [] vs.length = x at *
    go_enter Tryz.func20, Tryz.ntmps20
    go_wp2_with fail
    refine HV.out.mono ?_
    rintro e w1 ⟨rfl, k1⟩
    go_wp2_with fail
    go_ret3
    exact ⟨by rw [Ha.out]; rfl, HkA.out.step k1⟩
  have ha : buildAns ss fs vs = .tuple #[.int .i64 (firstI vs fs), .bool (decide (firstI vs fs < 0)), .int .i64 0] := if_pos hz
  have HT2 := Lib.hid (fun w1 k => HT.out w1 k hz)
  have Ha := Lib.hid ha; have Hz := Lib.hid hz
  clear ha hz HT
  go_enter Tryz.func20, Tryz.ntmps20
  go_wp2_with fail
  refine HV.out.mono ?_
  rintro e w1 ⟨rfl, k1⟩
  rw [Hz.out]
  have hc1 := k1.cell hbx1 (fun e => e)
  have K1 := Lib.hid (HkA.out.step k1)
  clear k1
  go_wp2_with fail
  go_loopw [19] (fun i wr => ∃ q : Nat, q ≤ fs.length ∧ i = .int .i64 q ∧ Keeps (fun _ => False) w1 wr ∧ Hid (∀ j, j < q → evalF (vT vs) (fs.getD j []) = true)) (fun i _ => fs.length - (intOf i).toNat)
  case atStart => exact ⟨0, Nat.zero_le _, rfl, Keeps.refl _ _, Lib.hid (fun j hj => by omega)⟩
  case round =>
    obtain ⟨q, hq, rfl, kp, hok⟩ := hrel
    have Kp := Lib.hid (K1.out.step kp)
    by_cases hlt : q < fs.length
    · obtain ⟨b, off, rfl, hcs⟩ := (HF.out wr Kp.out).cells (by omega)
      obtain ⟨a, c, c0, hf⟩ := hcs q hlt
      have bl0 : b < wr.heap.size := World.block_lt_of_cell? wr _ c0
      have i1 : (q : Int) < (fs.length : Int) := by omega
      have ht := HT2.out wr Kp.out q hlt a c hf
      have hbad : evalF (vT vs) (fs.getD q []) = false → firstI vs fs = q := firstI_at hlt hok.out
      have hnext : evalF (vT vs) (fs.getD q []) = true → ∀ j, j < q + 1 → evalF (vT vs) (fs.getD j []) = true := fun hh j hj => by
        by_cases e : j = q
        · subst e; exact hh
        · exact hok.out j (by omega)
      generalize fs.getD q [] = f at *
      have Ht := Lib.hid ht; have Hbad := Lib.hid hbad; have Hnext := Lib.hid hnext; have Kq := Lib.hid kp
      clear hcs hf ht hbad hnext hok kp
      go_wp2_with fail
      refine Ht.out.mono ?_
      rintro e w2 ⟨rfl, k2⟩
      have k2' : Keeps (fun _ => False) wr w2 := ⟨k2.os, k2.tape, k2.output, k2.size, k2.block⟩
      cases hx : evalF (vT vs) f
      · have He := Lib.hid (Hbad.out hx)
        clear hx
        go_wp2_with fail
        go_ret3
        exact ⟨by rw [Ha.out, He.out]; simp, Kp.out.step k2'⟩
      · have He := Lib.hid (Hnext.out hx)
        clear hx
        go_wp2_with fail
        go_roundw
        case rel => exact ⟨q + 1, by omega, by go_num, Kq.out.step k2', He⟩
        case measure => simp [intOf]; omega
    · have He := Lib.hid (firstI_all (vs := vs) (fs := fs) (fun j hj => hok.out j (by omega)))
      clear hok kp
      go_wp2_with fail
      go_ret3
      exact ⟨by rw [Ha.out, He.out]; rfl, Kp.out⟩

set_option maxRecDepth 100000 in
set_option maxHeartbeats 3200000 in
theorem optionsHolds_any (ao ar af av : Option Addr) (ca cr cf cv : Nat) (ss : List ByteArray) (fs : List (List Int)) (f : List Int) (vs : List Bool) (w : World) (h : ModelAt w ao ar ss fs) (hf : IntsAt w af cf f) (hv : BoolsAt w av vs) (tab : Tab w.heap.size w) :
    Calls Tryz.prog 6 #[.agg #[.slice ao ss.length ca, .slice ar fs.length cr], .slice af f.length cf, .slice av vs.length cv] w fun e w' => e = .returned (.bool true) ∧ Below w.heap.size w w' := by
  have h5 : ∀ W, Keeps (fun _ => False) w W → Calls Tryz.prog 12 #[] W fun e w' => e = .returned (.bool true) ∧ Keeps (fun _ => False) W w' := fun W k => works_keeps W w.heap.size w tab (Nat.le_refl _) k
  have h1 := fun W (k : Keeps (fun _ => False) w W) => Holds_any ao ar af av ca cr cf cv ss fs f vs W (h.keeps k) (hf.keeps k) (hv.keeps k)
  have h2 := fun W (k : Keeps (fun _ => False) w W) => refHolds_any ao ar af av ca cr cf cv ss fs f vs W (h.keeps k) (hf.keeps k) (hv.keeps k)
  have h3 := fun W (k : Keeps (fun _ => False) w W) => buildable_any ao ar av ca cr cv ss fs vs W (h.keeps k) (hv.keeps k)
  have h4 := fun W (k : Keeps (fun _ => False) w W) => refBuildable_any ao ar av ca cr cv ss fs vs W (h.keeps k) (hv.keeps k)
  have kA := keeps_alloc w (.cells #[.slice ao ss.length ca, .slice ar fs.length cr] 25)
  have hform : ∃ r b n, buildAns ss fs vs = .tuple #[.int .i64 r, .bool b, .int .i64 n] := by unfold buildAns; split <;> exact ⟨_, _, _, rfl⟩
  obtain ⟨r, b2, n2, eB⟩ := hform
  rw [eB] at h3 h4
  generalize hx : holdsAns ss fs f vs = b at *
  generalize hy : variantErr ss fs [f] vs.length = n at *
  clear hx hy eB
  have q1 : ((n : Int) == n) = true := by simp
  have q1' : ((n : Int) != n) = false := by simp
  have q2 : ((r : Int) == r) = true := by simp
  have q3 : ((n2 : Int) == n2) = true := by simp
  have KA := Lib.hid kA; have H1 := Lib.hid h1; have H2 := Lib.hid h2; have H3 := Lib.hid h3; have H4 := Lib.hid h4; have H5 := Lib.hid h5
  clear kA h1 h2 h3 h4 h5 h hf hv tab
  have hcell : ∀ W, Keeps (fun _ => False) (w.alloc (.cells #[.slice ao ss.length ca, .slice ar fs.length cr] 25)) W → W.cell? ⟨w.heap.size, 0, none⟩ = some (.slice ao ss.length ca) ∧ W.cell? ⟨w.heap.size, 1, none⟩ = some (.slice ar fs.length cr) := fun W k => ⟨k.cell (by simp) (fun e => e), k.cell (by simp) (fun e => e)⟩
  have HC := Lib.hid hcell
  clear hcell
  go_enter Tryz.func6, Tryz.ntmps6
  go_wp2_with fail
  refine (H1.out _ (by first | exact KA.out | exact KA.out.drew | exact KA.out.drewN _)).mono ?_
  rintro e w1 ⟨rfl, k1⟩
  have k1' : Keeps (fun _ => False) (w.alloc (.cells #[.slice ao ss.length ca, .slice ar fs.length cr] 25)) w1 := ⟨k1.os, k1.tape, k1.output, k1.size, k1.block⟩
  obtain ⟨c0, c1⟩ := HC.out _ k1'
  have L1 := Lib.hid k1'
  clear k1 k1'
  go_wp2_with fail
  refine (H2.out _ (by first | exact KA.out.step L1.out | exact (KA.out.step L1.out).drew | exact (KA.out.step L1.out).drewN _)).mono ?_
  rintro e w2 ⟨rfl, k2⟩
  have k2' := L1.out.step (⟨k2.os, k2.tape, k2.output, k2.size, k2.block⟩ : Keeps (fun _ => False) w1 w2)
  clear c0 c1
  obtain ⟨c0, c1⟩ := HC.out _ k2'
  have L2 := Lib.hid k2'
  clear k2 k2'
  cases b
  all_goals
    go_wp2_with fail
    refine (H3.out _ (by first | exact KA.out.step L2.out | exact (KA.out.step L2.out).drew | exact (KA.out.step L2.out).drewN _)).mono ?_
    rintro e w3 ⟨rfl, k3⟩
    have k3' := L2.out.step (⟨k3.os, k3.tape, k3.output, k3.size, k3.block⟩ : Keeps (fun _ => False) w2 w3)
    clear c0 c1
    obtain ⟨c0, c1⟩ := HC.out _ k3'
    have L3 := Lib.hid k3'
    clear k3 k3'
    go_wp2_with fail
    refine (H4.out _ (by first | exact KA.out.step L3.out | exact (KA.out.step L3.out).drew | exact (KA.out.step L3.out).drewN _)).mono ?_
    rintro e w4 ⟨rfl, k4⟩
    have k4' := L3.out.step (⟨k4.os, k4.tape, k4.output, k4.size, k4.block⟩ : Keeps (fun _ => False) w3 w4)
    have L4 := Lib.hid k4'
    clear k4 k4' c0 c1
    cases b2
    all_goals
      go_wp2_with fail
      refine (H5.out _ (by first | exact KA.out.step L4.out | exact (KA.out.step L4.out).drew | exact (KA.out.step L4.out).drewN _)).mono ?_
      rintro e w5 ⟨rfl, k5⟩
      go_wp2_with fail
      go_ret
      exact ⟨rfl, ((KA.out.step L4.out).step ⟨k5.os, k5.tape, k5.output, k5.size, k5.block⟩).bel⟩
end Go.Proofs.YtngjjmniigkeoaaGreatDoor
