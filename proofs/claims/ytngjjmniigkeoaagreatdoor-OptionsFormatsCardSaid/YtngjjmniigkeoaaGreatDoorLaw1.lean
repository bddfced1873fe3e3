/- The reference's CheckFormula, and the walk of OptionsChecks. -/
import Derived.Test.YtngjjmniigkeoaaGreatDoorWorks
import Derived.WalkKit
import Derived.ProofKit
import Derived.OpenShut
import Derived.Deep.Strs
import Derived.Deep.Matrix
import Derived.Lib.LaidTab
namespace Go.Proofs.YtngjjmniigkeoaaGreatDoor
open Go Go.RowKit Go.WideMaps Go.Maps
set_option linter.unusedSimpArgs false
set_option linter.unusedVariables false

theorem formsErr_one (f : List Int) (n : Int) : formsErr [f] n = if validB f n = true then 0 else 11 := by
  unfold formsErr; simp

set_option maxHeartbeats 3200000 in
theorem refCheckFormula_any (ao ar af : Option Addr) (ca cr cf : Nat) (ss : List ByteArray) (fs : List (List Int)) (f : List Int) (w : World) (h : ModelAt w ao ar ss fs) (hf : IntsAt w af cf f) :
    Calls Tryz.prog 11 #[.agg #[.slice ao ss.length ca, .slice ar fs.length cr], .slice af f.length cf] w fun e w' => e = .returned (.int .i64 (checkErr ss fs [f])) ∧ Below w.heap.size w w' := by
  have hl1 := h.strs.len
  unfold maxLen at hl1
  have hM : ∀ o, ModelAt (w.alloc o) ao ar ss fs := fun o => h.kept (below_alloc w o) (Nat.le_refl _)
  by_cases hm : modelErr ss fs = 0
  · have he := checkErr_forms (l := [f]) hm
    rw [formsErr_one] at he
    have He := Lib.hid he; have HM := Lib.hid hM; have HF := Lib.hid hf; have Hm := Lib.hid hm
    clear he hm h hM hf
    go_enter Tryz.func11, Tryz.ntmps11
    go_wp2_with fail
    refine (refCheckModel_any _ _ _ _ _ _ _ (HM.out _)).mono ?_
    rintro e w1 ⟨rfl, hb1⟩
    rw [Hm.out]
    have hc0 := cell_kept (box0 w (.slice ao ss.length ca) (.slice ar fs.length cr) 25) hb1 (Nat.le_refl _)
    have hbw : Below w.heap.size w w1 := (below_alloc w _).trans (hb1.mono (by simp))
    have hv := refValid_any af cf f (ss.length : Int) w1 (HF.out.kept hbw (Nat.le_refl _)) (by omega)
    have Hbw := Lib.hid hbw; have Hv := Lib.hid hv
    clear hbw hv hb1
    go_wp2_with fail
    refine Hv.out.mono ?_
    rintro e w2 ⟨rfl, hw2⟩
    have Hw2 := Lib.hid hw2
    clear hw2
    cases hx : validB f (ss.length : Int)
    all_goals
      have Hx := Lib.hid hx
      clear hx
      go_wp2_with fail
      go_ret
      exact ⟨by rw [He.out, Hx.out]; rfl, by have := Hw2.out; subst this; exact Hbw.out⟩
  · have he := checkErr_model (l := [f]) hm
    have hne : ((modelErr ss fs) != 0) = true := by simpa using hm
    have He := Lib.hid he; have HM := Lib.hid hM
    clear he hm h hM hf
    go_enter Tryz.func11, Tryz.ntmps11
    go_wp2_with fail
    refine (refCheckModel_any _ _ _ _ _ _ _ (HM.out _)).mono ?_
    rintro e w1 ⟨rfl, hb1⟩
    go_wp2_with fail
    go_ret
    exact ⟨by rw [He.out]; rfl, ((below_alloc w _).trans (hb1.mono (by simp)))⟩

set_option maxHeartbeats 6400000 in
theorem optionsChecks_any (ao ar af : Option Addr) (ca cr cf : Nat) (ss : List ByteArray) (fs : List (List Int)) (f : List Int) (w : World) (h : ModelAt w ao ar ss fs) (hf : IntsAt w af cf f) (tab : Tab w.heap.size w) :
    Calls Tryz.prog 3 #[.agg #[.slice ao ss.length ca, .slice ar fs.length cr], .slice af f.length cf] w fun e w' => e = .returned (.bool true) ∧ Below w.heap.size w w' := by
  have hk0 : Keeps (fun _ => False) w (w.alloc (.cells #[.slice ao ss.length ca, .slice ar fs.length cr] 25)) := (Keeps.refl _ _).alloc _
  have hB : ∀ W, Keeps (fun _ => False) (w.alloc (.cells #[.slice ao ss.length ca, .slice ar fs.length cr] 25)) W → Below w.heap.size w W := fun W k => (hk0.trans k (fun _ e => e.elim)).below (Nat.le_refl _) (fun _ e => e.elim)
  have hS : ∀ W, Keeps (fun _ => False) (w.alloc (.cells #[.slice ao ss.length ca, .slice ar fs.length cr] 25)) W → W.cell? ⟨w.heap.size, 0, none⟩ = some (.slice ao ss.length ca) ∧ W.cell? ⟨w.heap.size, 1, none⟩ = some (.slice ar fs.length cr) := fun W k => ⟨k.cell (box_at0 rfl) (fun e => e), k.cell (box_at1 rfl) (fun e => e)⟩
  have up : ∀ (W w' : World), Keeps (fun _ => False) (w.alloc (.cells #[.slice ao ss.length ca, .slice ar fs.length cr] 25)) W → Below W.heap.size W w' → Keeps (fun _ => False) (w.alloc (.cells #[.slice ao ss.length ca, .slice ar fs.length cr] 25)) w' := fun W w' k b => k.trans (Keeps.of_below (S := fun _ => False) b (Nat.le_refl _)) (fun _ e => e.elim)
  have h1 : ∀ W, Keeps (fun _ => False) (w.alloc (.cells #[.slice ao ss.length ca, .slice ar fs.length cr] 25)) W → Calls Tryz.prog 8 #[.agg #[.slice ao ss.length ca, .slice ar fs.length cr]] W (fun e w' => e = .returned (.int .i64 (modelErr ss fs)) ∧ Keeps (fun _ => False) (w.alloc (.cells #[.slice ao ss.length ca, .slice ar fs.length cr] 25)) w') := fun W k =>
    (checkModel_any ao ar ca cr ss fs W (h.kept (hB W k) (Nat.le_refl _))).mono (fun e w' hh => ⟨hh.1, up W w' k hh.2⟩)
  have h2 : ∀ W, Keeps (fun _ => False) (w.alloc (.cells #[.slice ao ss.length ca, .slice ar fs.length cr] 25)) W → Calls Tryz.prog 9 #[.agg #[.slice ao ss.length ca, .slice ar fs.length cr]] W (fun e w' => e = .returned (.int .i64 (modelErr ss fs)) ∧ Keeps (fun _ => False) (w.alloc (.cells #[.slice ao ss.length ca, .slice ar fs.length cr] 25)) w') := fun W k =>
    (refCheckModel_any ao ar ca cr ss fs W (h.kept (hB W k) (Nat.le_refl _))).mono (fun e w' hh => ⟨hh.1, up W w' k hh.2⟩)
  have h3 : ∀ W, Keeps (fun _ => False) (w.alloc (.cells #[.slice ao ss.length ca, .slice ar fs.length cr] 25)) W → Calls Tryz.prog 10 #[.agg #[.slice ao ss.length ca, .slice ar fs.length cr], .slice af f.length cf] W (fun e w' => e = .returned (.int .i64 (checkErr ss fs [f])) ∧ Keeps (fun _ => False) (w.alloc (.cells #[.slice ao ss.length ca, .slice ar fs.length cr] 25)) w') := fun W k =>
    (checkFormula_any ao ar af ca cr cf ss fs f W (h.kept (hB W k) (Nat.le_refl _)) (hf.kept (hB W k) (Nat.le_refl _))).mono (fun e w' hh => ⟨hh.1, up W w' k hh.2⟩)
  have h4 : ∀ W, Keeps (fun _ => False) (w.alloc (.cells #[.slice ao ss.length ca, .slice ar fs.length cr] 25)) W → Calls Tryz.prog 11 #[.agg #[.slice ao ss.length ca, .slice ar fs.length cr], .slice af f.length cf] W (fun e w' => e = .returned (.int .i64 (checkErr ss fs [f])) ∧ Keeps (fun _ => False) (w.alloc (.cells #[.slice ao ss.length ca, .slice ar fs.length cr] 25)) w') := fun W k =>
    (refCheckFormula_any ao ar af ca cr cf ss fs f W (h.kept (hB W k) (Nat.le_refl _)) (hf.kept (hB W k) (Nat.le_refl _))).mono (fun e w' hh => ⟨hh.1, up W w' k hh.2⟩)
  have h5 : ∀ W, Keeps (fun _ => False) (w.alloc (.cells #[.slice ao ss.length ca, .slice ar fs.length cr] 25)) W → Calls Tryz.prog 12 #[] W (fun e w' => e = .returned (.bool true) ∧ Keeps (fun _ => False) (w.alloc (.cells #[.slice ao ss.length ca, .slice ar fs.length cr] 25)) w') := fun W k =>
    (works_any W ((tab.on (hB W k)).up (hB W k).size)).mono (fun e w' hh => ⟨hh.1, up W w' k hh.2⟩)
  have H1 := Lib.hid h1; have H2 := Lib.hid h2; have H3 := Lib.hid h3; have H4 := Lib.hid h4; have H5 := Lib.hid h5; have HS := Lib.hid hS; have HB := Lib.hid hB
  clear h1 h2 h3 h4 h5 hS hB up h hf tab hk0
  generalize hx : modelErr ss fs = x at *
  generalize hy : checkErr ss fs [f] = y at *
  clear hx hy
  have q1 : ((x : Int) == x) = true := by simp
  have q2 : ((y : Int) == y) = true := by simp
  go_enter Tryz.func3, Tryz.ntmps3
  go_wp2_with fail
  generalize (w.alloc (.cells #[.slice ao ss.length ca, .slice ar fs.length cr] 25)) = V at *
  go_region_held3 (fun W => W.cell? ⟨w.heap.size, 0, none⟩ = some (.slice ao ss.length ca) ∧ W.cell? ⟨w.heap.size, 1, none⟩ = some (.slice ar fs.length cr))
    (first | exact HS.out _ (Keeps.refl _ _) | exact HS.out _ (Keeps.refl _ _).drew | exact HS.out _ (by assumption) | exact HS.out _ (Keeps.drew (by assumption)))
    (first
      | (go_at_call 8; (with_reducible refine (H1.out _ (by first | exact Keeps.refl _ _ | exact (Keeps.refl _ _).drew)).mono ?_); rintro e w1 ⟨rfl, k1⟩)
      | (go_at_call 9; (with_reducible refine (H2.out _ (by first | exact k1 | exact k1.drew)).mono ?_); rintro e w2 ⟨rfl, k2⟩)
      | (go_at_call 10; (with_reducible refine (H3.out _ (by first | exact k2 | exact k2.drew)).mono ?_); rintro e w3 ⟨rfl, k3⟩)
      | (go_at_call 11; (with_reducible refine (H4.out _ (by first | exact k3 | exact k3.drew)).mono ?_); rintro e w4 ⟨rfl, k4⟩)
      | (go_at_call 12; (with_reducible refine (H5.out _ (by first | exact k4 | exact k4.drew)).mono ?_); rintro e w5 ⟨rfl, k5⟩))
  all_goals
    go_wp2_with fail
    go_ret
    exact ⟨rfl, HB.out _ (by first | exact k5 | exact k5.drew)⟩

/-! ### A model and a formula that come in, as they lie in memory. -/
open Go Go.RowKit Go.WideMaps Go.Maps Go.ChangeShapes Go.WideShapes Go.ChangeAt
set_option linter.unusedSimpArgs false
set_option linter.unusedVariables false

theorem add_none (b off k : Nat) : (⟨b, off, none⟩ : Addr).add k = ⟨b, off + k, none⟩ := by
  unfold Addr.add
  first | rfl | (simp; done) | (split <;> simp_all)
theorem spot_none {W : World} {b off : Nat} {spot : Option Nat} {k : Nat} {v : Value} (h : W.cell? ((⟨b, off, spot⟩ : Addr).add k) = some v) (hk : k = 0) : spot = none := by
  subst hk
  have := World.cell?_spot h
  unfold Addr.add at this
  first | simpa using this | (split at this <;> simp_all)
theorem wf_bounds {n : Int} (h : (Lit.int .i64 n).wf = true) : -9223372036854775808 ≤ n ∧ n ≤ 9223372036854775807 := by
  simp [Lit.wf] at h
  have e1 : IntKind.i64.min = -9223372036854775808 := rfl
  have e2 : IntKind.i64.max = 9223372036854775807 := rfl
  omega
theorem cells_strs : Tryz.prog.cellsOf 22 = 1 := by kernel_rfl
theorem cells_str : Tryz.prog.cellsOf 9 = 1 := by kernel_rfl
theorem cells_forms : Tryz.prog.cellsOf 23 = 1 := by kernel_rfl
theorem cells_form : Tryz.prog.cellsOf 27 = 1 := by kernel_rfl
theorem cells_int1 : Tryz.prog.cellsOf 3 = 1 := by kernel_rfl
theorem cells_model : Tryz.prog.cellsOf 25 = 2 := by kernel_rfl

set_option maxRecDepth 100000 in
theorem formula_open {H : Type} {enc : TypeId × Value → H} {W : World} {base : Nat} {v : Value} {d : DataW H} {p : List MemPlace} (hv : Value.okWide Tryz.prog W .any base 27 v) (h : DataW.Trod enc Tryz.prog W 0 (fun _ => true) true 27 v d p) :
    ∃ af cf f, v = .slice af f.length cf ∧ IntsAt W af cf f := by
  obtain ⟨a, len, cap, rfl⟩ := okWide_slice Tryz.underlying27 hv
  obtain ⟨fuel, hf⟩ := h
  rcases open_ints Tryz.underlying27 Tryz.underlying3 cells_int1 hf with ⟨hcs, _⟩ | ⟨ad, l, c, zs, hcs, _, hl, hm, hz, _, hcell, hw⟩
  · simp [Value.cells] at hcs
    obtain ⟨rfl, rfl, rfl⟩ := hcs
    exact ⟨none, 0, [], rfl, ⟨Nat.zero_le _, fun h0 => absurd h0 (by simp), fun x hx => by simp at hx⟩⟩
  · simp [Value.cells] at hcs
    obtain ⟨rfl, rfl, rfl⟩ := hcs
    simp only [if_true] at hz
    refine ⟨some ad, cap, zs.take len, by simp [hz, Nat.min_eq_left hl], ⟨by simp; omega, fun h0 => ?_, fun x hx => wf_bounds (hw x (List.mem_of_mem_take hx))⟩⟩
    have hl0 : 0 < len := by simp at h0; omega
    have hs := hcell 0 (by omega)
    obtain ⟨b, off, spot⟩ := ad
    have hsp : spot = none := spot_none hs rfl
    subst hsp
    refine ⟨b, off, rfl, fun k hk => ?_⟩
    have hk2 : k < len := by simp at hk; omega
    have := hcell k (by omega)
    rw [add_none] at this
    rw [this]
    simp [List.getD, List.getElem?_take, hk2]

set_option maxRecDepth 100000 in
theorem model_open {H : Type} {enc : TypeId × Value → H} {W : World} {base : Nat} {v : Value} {d : DataW H} {p : List MemPlace} (hv : Value.okWide Tryz.prog W .any base 25 v) (h : DataW.Trod enc Tryz.prog W 0 (fun _ => true) true 25 v d p) :
    ∃ ao ar ca cr ss fs, v = .agg #[.slice ao (List.length ss) ca, .slice ar (List.length fs) cr] ∧ ModelAt W ao ar ss fs := by
  obtain ⟨cs, rfl, hsz⟩ := okWide_struct Tryz.underlying25 hv
  rw [cells_model] at hsz
  obtain ⟨a, b, rfl⟩ : ∃ a b, cs = #[a, b] := by
    rcases cs with ⟨l⟩
    match l, hsz with
    | [a, b], _ => exact ⟨a, b, rfl⟩
  obtain ⟨fuel, hf⟩ := h
  obtain ⟨y0, y1, n, _, _, g0, g1⟩ := trod_struct2 Tryz.underlying25 hf
  dsimp only at g0 g1
  rw [cells_strs] at g0
  rw [cells_forms] at g1
  have g0' : DataW.trod enc Tryz.prog W 0 (fun _ => true) true n 22 [a] = some y0 := g0
  have g1' : DataW.trod enc Tryz.prog W 0 (fun _ => true) true n 23 [b] = some y1 := g1
  have hS : ∃ ao ca ss, a = .slice ao (List.length ss) ca ∧ StrsAt W ao ss := by
    rcases Deep.open_strs Tryz.underlying22 Tryz.underlying9 cells_str g0' with ⟨hcs, _⟩ | ⟨ad, len, cap, m, Sx, hcs, _, hl, hm, hmm, _, hcell⟩
    · simp at hcs
      subst hcs
      exact ⟨none, 0, [], rfl, ⟨Nat.zero_le _, fun h0 => absurd h0 (by simp), fun x hx => by simp at hx⟩⟩
    · simp at hcs
      subst hcs
      simp only [if_true] at hmm
      subst hmm
      refine ⟨some ad, m, (List.range len).map Sx, by simp, ⟨by simp; omega, fun h0 => ?_, fun x hx => ?_⟩⟩
      · have hl0 : 0 < len := by simpa using h0
        have hs := (hcell 0 (by omega)).1
        obtain ⟨b, off, spot⟩ := ad
        have hsp : spot = none := spot_none hs rfl
        subst hsp
        refine ⟨b, off, rfl, fun k hk => ?_⟩
        have hk2 : k < len := by simpa using hk
        have := (hcell k (by omega)).1
        rw [add_none] at this
        rw [this]
        simp [List.getD, hk2]
      · simp at hx
        obtain ⟨i, hi, rfl⟩ := hx
        exact (hcell i (by omega)).2
  have hR : ∃ ar cr fs, b = .slice ar (List.length fs) cr ∧ FormsAt W ar fs := by
    rcases Deep.open_int_rows Tryz.underlying23 Tryz.underlying27 Tryz.underlying3 cells_form cells_int1 g1' with ⟨hcs, _⟩ | ⟨ad, len, cap, A, L, C, Z, hcs, _, hl, hm, _, hcell⟩
    · simp at hcs
      subst hcs
      exact ⟨none, 0, [], rfl, ⟨Nat.zero_le _, fun h0 => absurd h0 (by simp)⟩⟩
    · simp at hcs
      subst hcs
      refine ⟨some ad, cap, (List.range len).map (fun r => (Z r).take (L r)), by simp, ⟨by simp; omega, fun h0 => ?_⟩⟩
      have hl0 : 0 < len := by simpa using h0
      have hs := (hcell 0 (by omega)).1
      obtain ⟨b, off, spot⟩ := ad
      have hsp : spot = none := spot_none hs rfl
      subst hsp
      refine ⟨b, off, rfl, fun k hk => ?_⟩
      have hk2 : k < len := by simpa using hk
      obtain ⟨h1, h2, h3, h4, h5, h6, h7⟩ := hcell k (by omega)
      have e : ((List.range len).map (fun r => (Z r).take (L r))).getD k [] = (Z k).take (L k) := by simp [List.getD, hk2]
      rw [e]
      have el : ((Z k).take (L k)).length = L k := by simp [h4, Nat.min_eq_left h2]
      rw [el]
      rw [add_none] at h1
      refine ⟨A k, C k, h1, ⟨by omega, fun h0 => ?_, fun x hx => wf_bounds (h5 x (List.mem_of_mem_take hx))⟩⟩
      rw [el] at h0
      cases hA : A k with
      | none => have := h6 hA; omega
      | some a' =>
        have hc := (h7 a' hA).2
        have hs2 := hc 0 (by omega)
        obtain ⟨b2, off2, spot2⟩ := a'
        have hsp2 : spot2 = none := spot_none hs2 rfl
        subst hsp2
        refine ⟨b2, off2, rfl, fun j hj => ?_⟩
        rw [el] at hj
        have := hc j (by omega)
        rw [add_none] at this
        rw [this]
        simp [List.getD, List.getElem?_take, hj]
  obtain ⟨ao, ca, ss, rfl, hs⟩ := hS
  obtain ⟨ar, cr, fs, rfl, hfm⟩ := hR
  exact ⟨ao, ar, ca, cr, ss, fs, rfl, ⟨hs, hfm⟩⟩
end Go.Proofs.YtngjjmniigkeoaaGreatDoor
