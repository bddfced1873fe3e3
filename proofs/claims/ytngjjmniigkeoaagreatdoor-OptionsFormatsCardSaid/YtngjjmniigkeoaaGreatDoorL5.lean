/- check, CheckFormula; the reference's CheckModel, CheckFormula. -/
import Derived.Test.YtngjjmniigkeoaaGreatDoorL4
import Derived.WalkSmall
namespace Go.Proofs.YtngjjmniigkeoaaGreatDoor
open Go.RowKit Go.WideMaps Go.Maps
set_option linter.unusedSimpArgs false
set_option linter.unusedVariables false

def checkErr (ss : List ByteArray) (fs l : List (List Int)) : Int := if modelErr ss fs = 0 then formsErr l ss.length else modelErr ss fs
theorem checkErr_model {ss : List ByteArray} {fs l : List (List Int)} (h : ¬ modelErr ss fs = 0) : checkErr ss fs l = modelErr ss fs := if_neg h
theorem checkErr_forms {ss : List ByteArray} {fs l : List (List Int)} (h : modelErr ss fs = 0) : checkErr ss fs l = formsErr l ss.length := if_pos h

set_option maxHeartbeats 1600000 in
theorem check_any (ao ar al : Option Addr) (ca cr cl : Nat) (ss : List ByteArray) (fs l : List (List Int)) (w : World) (h : ModelAt w ao ar ss fs) (hl : FormsAt w al l) :
    Calls Tryz.prog 28 #[.agg #[.slice ao ss.length ca, .slice ar fs.length cr], .slice al l.length cl] w fun e w' => e = .returned (.int .i64 (checkErr ss fs l)) ∧ Below w.heap.size w w' := by
  have hl1 := h.strs.len
  unfold maxLen at hl1
  have hM : ∀ o, ModelAt (w.alloc o) ao ar ss fs := fun o => h.kept (below_alloc w o) (Nat.le_refl _)
  have hL : ∀ o, FormsAt (w.alloc o) al l := fun o => hl.kept (below_alloc w o) (Nat.le_refl _)
  by_cases hm : modelErr ss fs = 0
  · have he := checkErr_forms (l := l) hm
    have He := Lib.hid he; have HM := Lib.hid hM; have HL := Lib.hid hL; have Hm := Lib.hid hm
    clear he hm h hM hl hL
    go_enter Tryz.func28, Tryz.ntmps28
    go_wp2_with fail
    refine (checkModel_any _ _ _ _ _ _ _ (HM.out _)).mono ?_
    rintro e w1 ⟨rfl, hb1⟩
    rw [Hm.out]
    have hc0 := cell_kept (box0 w (.slice ao ss.length ca) (.slice ar fs.length cr) 25) hb1 (Nat.le_refl _)
    go_wp2_with fail
    refine (checkFormulas_any _ _ _ _ _ ((HL.out _).kept hb1 (Nat.le_refl _)) (by omega)).mono ?_
    rintro e w2 ⟨rfl, rfl⟩
    go_wp2_with fail
    go_ret
    exact ⟨by rw [He.out]; rfl, ((below_alloc w _).trans (hb1.mono (by simp)))⟩
  · have he := checkErr_model (l := l) hm
    have hne : ((modelErr ss fs) != 0) = true := by simpa using hm
    have He := Lib.hid he; have HM := Lib.hid hM
    clear he hm h hM hl hL
    go_enter Tryz.func28, Tryz.ntmps28
    go_wp2_with fail
    refine (checkModel_any _ _ _ _ _ _ _ (HM.out _)).mono ?_
    rintro e w1 ⟨rfl, hb1⟩
    go_wp2_with fail
    go_ret
    exact ⟨by rw [He.out]; rfl, ((below_alloc w _).trans (hb1.mono (by simp)))⟩

theorem formsAt_one {w : World} {a : Option Addr} {c : Nat} {f : List Int} (h : IntsAt w a c f) (t : TypeId) : FormsAt (w.alloc (.cells #[.slice a f.length c] t)) (some ⟨w.heap.size, 0, none⟩) [f] := by
  refine ⟨by simp [maxLen], fun _ => ⟨w.heap.size, 0, rfl, fun k hk => ?_⟩⟩
  obtain rfl : k = 0 := by simp at hk; omega
  exact ⟨a, c, by simp, h.kept (below_alloc w _) (Nat.le_refl _)⟩

set_option maxHeartbeats 1600000 in
theorem checkFormula_any (ao ar af : Option Addr) (ca cr cf : Nat) (ss : List ByteArray) (fs : List (List Int)) (f : List Int) (w : World) (h : ModelAt w ao ar ss fs) (hf : IntsAt w af cf f) :
    Calls Tryz.prog 10 #[.agg #[.slice ao ss.length ca, .slice ar fs.length cr], .slice af f.length cf] w fun e w' => e = .returned (.int .i64 (checkErr ss fs [f])) ∧ Below w.heap.size w w' := by
  have hM : ∀ o o', ModelAt ((w.alloc o).alloc o') ao ar ss fs := fun o o' => (h.kept (below_alloc w o) (Nat.le_refl _)).kept (below_alloc _ o') (Nat.le_refl _)
  have hF : ∀ o, IntsAt (w.alloc o) af cf f := fun o => hf.kept (below_alloc w o) (Nat.le_refl _)
  have HM := Lib.hid hM; have HF := Lib.hid hF
  clear h hM hf hF
  go_enter Tryz.func10, Tryz.ntmps10
  go_wp2_with fail
  have hc := check_any ao ar (some ⟨w.heap.size + 1, 0, none⟩) ca cr 1 ss fs [f] ((w.alloc (.cells #[.slice ao ss.length ca, .slice ar fs.length cr] 25)).alloc (.cells #[.slice af f.length cf] 27)) (HM.out _ _) (by have := formsAt_one (HF.out (.cells #[.slice ao ss.length ca, .slice ar fs.length cr] 25)) 27; simpa using this)
  generalize hx : checkErr ss fs [f] = x at hc
  have Hx := Lib.hid hx
  clear hx
  refine hc.mono ?_
  rintro e w1 ⟨rfl, hb1⟩
  go_wp2_with fail
  go_ret
  exact ⟨by rw [Hx.out]; rfl, ((below_alloc w _).trans ((below_alloc _ _).mono (by simp))).trans (hb1.mono (by simp; omega))⟩

/-! ### the reference's -/
theorem noDup_step {ss : List ByteArray} {i j : Nat} (hj : j < i) (hi : i < ss.length) (h : ss.getD j ByteArray.empty = ss.getD i ByteArray.empty) : ss.getD i ByteArray.empty ∈ ss.take i := by
  rw [← h]
  have h1 : j < (ss.take i).length := by simp; omega
  have h2 : ss.getD j ByteArray.empty = (ss.take i)[j] := by simp [List.getD, show j < ss.length by omega]
  rw [h2]; exact List.getElem_mem h1
theorem noDup_all {ss : List ByteArray} {i : Nat} (hi : i < ss.length) (h : ∀ j, j < i → ¬ ss.getD j ByteArray.empty = ss.getD i ByteArray.empty) : ss.getD i ByteArray.empty ∉ ss.take i := by
  intro hm
  obtain ⟨j, hj, e⟩ := List.getElem_of_mem hm
  rw [List.length_take] at hj
  refine h j (by omega) ?_
  rw [← e]; simp [List.getD, show j < ss.length by omega]

set_option maxHeartbeats 3200000 in
theorem refCheckModel_any (ao ar : Option Addr) (ca cr : Nat) (ss : List ByteArray) (fs : List (List Int)) (w : World) (h : ModelAt w ao ar ss fs) :
    Calls Tryz.prog 9 #[.agg #[.slice ao ss.length ca, .slice ar fs.length cr]] w fun e w' => e = .returned (.int .i64 (modelErr ss fs)) ∧ Below w.heap.size w w' := by
  have hl1 := h.strs.len
  have hl2 := h.forms.len
  unfold maxLen at hl1 hl2
  by_cases h40 : 40 < ss.length
  · have he := modelErr_many (fs := fs) (Or.inl h40)
    have He := Lib.hid he
    clear he
    go_enter Tryz.func9, Tryz.ntmps9
    go_wp2
    go_ret
    exact ⟨by rw [He.out]; rfl, below_alloc _ _⟩
  by_cases h60 : 60 < fs.length
  · have he := modelErr_many (ss := ss) (Or.inr h60)
    have h40' : decide (40 < (ss.length : Int)) = false := decide_eq_false (by omega)
    have He := Lib.hid he
    clear he
    go_enter Tryz.func9, Tryz.ntmps9
    go_wp2
    go_ret
    exact ⟨by rw [He.out]; rfl, below_alloc _ _⟩
  have h40' : decide (40 < (ss.length : Int)) = false := decide_eq_false (by omega)
  have h60' : decide (60 < (fs.length : Int)) = false := decide_eq_false (by omega)
  have hnot : ¬ (40 < ss.length ∨ 60 < fs.length) := by omega
  have hM : ∀ o, ModelAt (w.alloc o) ao ar ss fs := fun o => h.kept (below_alloc w o) (Nat.le_refl _)
  have hbad := modelErr_names hnot
  have hgood := modelErr_forms hnot
  have HM := Lib.hid hM; have Hbad := Lib.hid hbad; have Hgood := Lib.hid hgood
  clear h hM hnot hbad hgood
  go_enter Tryz.func9, Tryz.ntmps9
  go_wp2
  have hb0 := box0 w (.slice ao ss.length ca) (.slice ar fs.length cr) 25
  have hb1 := box1 w (.slice ao ss.length ca) (.slice ar fs.length cr) 25
  have hM1 := HM.out (.cells #[.slice ao ss.length ca, .slice ar fs.length cr] 25)
  have hbl := below_alloc w (.cells #[.slice ao ss.length ca, .slice ar fs.length cr] 25)
  have hsz : w.heap.size < (w.alloc (.cells #[.slice ao ss.length ca, .slice ar fs.length cr] 25)).heap.size := by simp
  generalize w.alloc (.cells #[.slice ao ss.length ca, .slice ar fs.length cr] 25) = w1 at *
  go_loopw [3, 4] (fun i k wr => ∃ i' : Nat, i' ≤ ss.length ∧ i = .int .i64 i' ∧ Below w1.heap.size w1 wr ∧ Hid (∀ j, j < i' → nameB (ss.getD j ByteArray.empty).toList = true ∧ ss.getD j ByteArray.empty ∉ ss.take j)) (fun i _ _ => ss.length - (intOf i).toNat)
  case atStart => exact ⟨0, Nat.zero_le _, rfl, Below.refl _ _, fun j hj => absurd hj (by omega)⟩
  case round =>
    obtain ⟨i, hi, rfl, hbw, hok⟩ := hrel
    have hc0 := cell_kept hb0 hbw (Nat.le_refl _)
    have hc1 := cell_kept hb1 hbw (Nat.le_refl _)
    by_cases hlt : i < ss.length
    · obtain ⟨b, off, rfl, hc⟩ := hM1.strs.cells (by omega)
      have hck1 := hc i hlt
      have hck := cell_kept hck1 hbw (Nat.le_refl _)
      have hsl := hM1.strs.fits (ss.getD i ByteArray.empty) (by simp [List.getD, hlt])
      have hcells : ∀ j, j < i → w1.cell? ⟨b, off + j, none⟩ = some (.string (ss.getD j ByteArray.empty)) := fun j hj => hc j (by omega)
      have hokn : nameB (ss.getD i ByteArray.empty).toList = true → (∀ j, j < i → ¬ ss.getD j ByteArray.empty = ss.getD i ByteArray.empty) → Hid (∀ j, j < i + 1 → nameB (ss.getD j ByteArray.empty).toList = true ∧ ss.getD j ByteArray.empty ∉ ss.take j) := by
        intro a b j hj
        by_cases e : j = i
        · subst e; exact ⟨a, noDup_all hlt b⟩
        · exact hok.out j (by omega)
      have hstop : ¬ (nameB (ss.getD i ByteArray.empty).toList = true) → ¬ namesOk ss := fun a b => a (b i hlt).1
      have hdup : ∀ j, j < i → ss.getD j ByteArray.empty = ss.getD i ByteArray.empty → ¬ namesOk ss := fun j hj e b => (b i hlt).2 (noDup_step hj hlt e)
      generalize hss : ss.getD i ByteArray.empty = s at *
      have Hc := Lib.hid hcells; have Ho := Lib.hid hokn; have Hs := Lib.hid hstop; have Hd := Lib.hid hdup
      clear hc hokn hstop hdup hok hcells hss
      cases hnm : nameB s.toList with
      | false =>
        have Hnm := Lib.hid hnm
        clear hnm
        go_wp2_with (go_at_call 26; refine (refName_any _ _ hsl).mono ?_; rintro e w' ⟨rfl, rfl⟩; rw [Hnm.out])
        go_ret
        exact ⟨by rw [Hbad.out (Hs.out (by simp [Hnm.out]))]; rfl, hbl.trans (hbw.mono (by omega))⟩
      | true =>
        have Hnm := Lib.hid hnm
        clear hnm
        go_wp2_with (go_at_call 26; refine (refName_any _ _ hsl).mono ?_; rintro e w' ⟨rfl, rfl⟩; rw [Hnm.out])
        obtain ⟨wo, rfl⟩ : ∃ wo : World, wo = wr := ⟨_, rfl⟩
        go_loopw [4] (fun k wr => ∃ k' : Nat, k' ≤ i ∧ k = .int .i64 k' ∧ Below w1.heap.size w1 wr ∧ Hid (∀ j, j < k' → ¬ ss.getD j ByteArray.empty = s)) (fun k _ => i - (intOf k).toNat)
        case atStart => exact ⟨0, Nat.zero_le _, rfl, hbw, fun j hj => absurd hj (by omega)⟩
        case round =>
          obtain ⟨k, hk, rfl, hbw2, hno⟩ := hrel
          have hd0 := cell_kept hb0 hbw2 (Nat.le_refl _)
          have hd1 := cell_kept hb1 hbw2 (Nat.le_refl _)
          by_cases hki : k < i
          · have hcj := cell_kept (Hc.out k hki) hbw2 (Nat.le_refl _)
            have hci := cell_kept hck1 hbw2 (Nat.le_refl _)
            have i1 : (k : Int) < (ss.length : Int) := by omega
            have i2 : (i : Int) < (ss.length : Int) := by omega
            have i3 : (0 : Int) ≤ (k : Int) := by omega
            have i4 : (0 : Int) ≤ (i : Int) := by omega
            have hd := Hd.out k hki
            have hno' : ¬ ss.getD k ByteArray.empty = s → Hid (∀ j, j < k + 1 → ¬ ss.getD j ByteArray.empty = s) := by
              intro a j hj
              by_cases e : j = k
              · subst e; exact a
              · exact hno.out j (by omega)
            have hfit := hM1.strs.fits (ss.getD k ByteArray.empty) (by simp [List.getD, show k < ss.length by omega])
            generalize ss.getD k ByteArray.empty = t at *
            have Hd2 := Lib.hid hd; have Hno2 := Lib.hid hno'
            clear hd hno' hno
            by_cases hts : t = s
            · subst hts
              have hbad' := Hbad.out (Hd2.out rfl)
              have Hb2 := Lib.hid hbad'
              clear hbad'
              go_wp2_with fail
              go_quiet (fail)
              go_wp2
              go_ret
              exact ⟨by rw [Hb2.out]; rfl, hbl.trans ((below_drewN hbw2 _).mono (by omega))⟩
            · have hne : (t.toList == s.toList) = false := by
                rw [beq_eq_false_iff_ne, ByteArray.toList_eq, ByteArray.toList_eq]
                intro e; exact hts (WideShapes.bytes_inj e)
              have Hn3 := Hno2.out hts
              clear hts
              go_wp2_with fail
              go_quiet (fail)
              go_wp2
              go_roundw
              case rel => exact ⟨k + 1, by omega, by go_num, below_drewN hbw2 _, Hn3⟩
              case measure => simp [intOf]; omega
          · obtain rfl : k = i := by omega
            have hok2 := Ho.out Hnm.out hno.out
            go_wp2
            go_roundw
            case rel => exact ⟨k + 1, by omega, by go_num, hbw2, hok2⟩
            case measure => simp [intOf]; omega
    · obtain rfl : i = ss.length := by omega
      have hall : namesOk ss := hok.out
      have hg := Hgood.out hall
      have Hg := Lib.hid hg
      clear hall hok hg
      go_wp2
      obtain ⟨wo, rfl⟩ : ∃ wo : World, wo = wr := ⟨_, rfl⟩
      go_loopw [5] (fun k wr => ∃ k' : Nat, k' ≤ fs.length ∧ k = .int .i64 k' ∧ Below w1.heap.size w1 wr ∧ Hid (∀ j, j < k' → validB (fs.getD j []) ss.length = true)) (fun k _ => fs.length - (intOf k).toNat)
      case atStart => exact ⟨0, Nat.zero_le _, rfl, hbw, fun j hj => absurd hj (by omega)⟩
      case round =>
        obtain ⟨k, hk, rfl, hbw2, hok⟩ := hrel
        have hd0 := cell_kept hb0 hbw2 (Nat.le_refl _)
        have hd1 := cell_kept hb1 hbw2 (Nat.le_refl _)
        by_cases hlt : k < fs.length
        · obtain ⟨b, off, rfl, hc⟩ := hM1.forms.cells (by omega)
          obtain ⟨a, c, hck, hints⟩ := hc k hlt
          have hck2 := cell_kept hck hbw2 (Nat.le_refl _)
          have hst := formsErr_stop fs ss.length k hlt
          have hokn : validB (fs.getD k []) ss.length = true → Hid (∀ j, j < k + 1 → validB (fs.getD j []) ss.length = true) := by
            intro a j hj
            by_cases e : j = k
            · subst e; exact a
            · exact hok.out j (by omega)
          generalize fs.getD k [] = f at *
          have Hst := Lib.hid hst; have Ho := Lib.hid hokn
          have hints2 : ∀ n, IntsAt (wr.drewN n) a c f := fun n => hints.kept (below_drewN hbw2 n) (Nat.le_refl _)
          clear hc hst hokn hok hck hints
          have i1 : (k : Int) < (fs.length : Int) := by omega
          have i3 : (0 : Int) ≤ (k : Int) := by omega
          have hn0 : (0 : Int) ≤ (ss.length : Int) := by omega
          cases hv : validB f ss.length with
          | false =>
            have Hv := Lib.hid hv
            clear hv
            go_wp2_with fail
            go_quiet ((go_at_call 27; exact Calls.quiet_of_same ((refValid_any _ _ _ _ _ (hints2 _) hn0).mono fun e w' h => ⟨by rw [h.1, Hv.out], h.2.symm⟩)))
            go_wp2
            go_ret
            exact ⟨by rw [Hg.out, Hst.out Hv.out]; rfl, hbl.trans ((below_drewN hbw2 _).mono (by omega))⟩
          | true =>
            have Hv := Lib.hid hv
            clear hv
            go_wp2_with fail
            go_quiet ((go_at_call 27; exact Calls.quiet_of_same ((refValid_any _ _ _ _ _ (hints2 _) hn0).mono fun e w' h => ⟨by rw [h.1, Hv.out], h.2.symm⟩)))
            go_wp2
            go_roundw
            case rel => exact ⟨k + 1, by omega, by go_num, below_drewN hbw2 _, Ho.out Hv.out⟩
            case measure => simp [intOf]; omega
        · obtain rfl : k = fs.length := by omega
          have hall := formsErr_all fs ss.length hok.out
          have Ha := Lib.hid hall
          clear hall hok
          go_wp2
          go_ret
          exact ⟨by rw [Hg.out, Ha.out]; rfl, hbl.trans (hbw2.mono (by omega))⟩
end Go.Proofs.YtngjjmniigkeoaaGreatDoor
