/- BusDelays: the walk. -/
import Derived.Test.YtcelbmpdnkaamaaBxK
import Derived.Deep.RegionHeld3
namespace Go.Proofs.Ytcelbmpdnkaamaa
open Go Go.RowKit Go.WideMaps Go.Maps
set_option linter.unusedSimpArgs false
set_option linter.unusedVariables false

/-- What both Delays answer. -/
def delV (gs : List Ga) (fs : List Fl) : List Int × List Int × Int :=
  if netErr gs fs = 0 then (match boundsOf gs fs with | none => ([], [], 41) | some s => (s.ws, s.ds, 0)) else ([], [], netErr gs fs)
theorem del_val {w : World} {gs : List Ga} {fs : List Fl} {e : Ending} {w' : World} (h : DelEnd w gs fs e w') :
    (∃ wa wc da dc, e = .returned (.tuple #[.slice wa (delV gs fs).1.length wc, .slice da (delV gs fs).2.1.length dc, .int .i64 (delV gs fs).2.2]) ∧ IntsAt w' wa (delV gs fs).1 ∧ IntsAt w' da (delV gs fs).2.1) ∧ Kp w w' := by
  unfold DelEnd at h
  unfold delV
  by_cases h0 : netErr gs fs = 0
  · rw [if_pos h0] at h ⊢
    cases hb : boundsOf gs fs with
    | none =>
      rw [hb] at h
      dsimp only at h ⊢
      obtain ⟨rfl, k⟩ := h
      exact ⟨⟨none, 0, none, 0, rfl, IntsAt.nil _ _, IntsAt.nil _ _⟩, k⟩
    | some s =>
      rw [hb] at h
      dsimp only at h ⊢
      obtain ⟨⟨gw, gd, rfl, i1, i2⟩, k⟩ := h
      have ok := netErr_zero h0
      have sm := boundsTo_small ok.paths ok.nf ok.rates ok.gates ok.bursts _ (Nat.le_refl _) s hb
      exact ⟨⟨_, gs.length, _, fs.length, by rw [sm.wl, sm.dl], i1, i2⟩, k⟩
  · rw [if_neg h0] at h ⊢
    obtain ⟨rfl, k⟩ := h
    exact ⟨⟨none, 0, none, 0, rfl, IntsAt.nil _ _, IntsAt.nil _ _⟩, k⟩

set_option maxRecDepth 100000 in
set_option maxHeartbeats 3200000 in
theorem busDelays_any (ga fa : Option Addr) (gc fc : Nat) (gs : List Ga) (fs : List Fl) (w : World) (hg : GatesAt w ga gs) (hf : FlowsAt w fa fs) :
    Calls Try.prog 7 #[.agg #[.slice ga gs.length gc, .slice fa fs.length fc]] w fun e w' => e = .returned (.bool true) ∧ Kp w w' := by
  have hk := kp_alloc w (.cells #[.slice ga gs.length gc, .slice fa fs.length fc] 47)
  have c0 := box0 w (.slice ga gs.length gc) (.slice fa fs.length fc) 47
  have c1 := box1 w (.slice ga gs.length gc) (.slice fa fs.length fc) 47
  have h1 := fun W (kW : Kp w W) => checkNet_any ga fa gc fc gs fs W (hg.kp kW) (hf.kp kW)
  have h2 := fun W (kW : Kp w W) => refCheckNet_any ga fa gc fc gs fs W (hg.kp kW) (hf.kp kW)
  have h3 := fun W (kW : Kp w W) => (delays_any ga fa gc fc gs fs W (hg.kp kW) (hf.kp kW)).mono fun e w' h => del_val h
  have h4 := fun W (kW : Kp w W) => (refDelays_any ga fa gc fc gs fs W (hg.kp kW) (hf.kp kW)).mono fun e w' h => del_val h
  generalize hV : (w.alloc (.cells #[.slice ga gs.length gc, .slice fa fs.length fc] 47)) = V at *
  have h1' : ∀ W, Kp V W → Calls Try.prog 29 #[.agg #[.slice ga gs.length gc, .slice fa fs.length fc]] W fun e w' => e = .returned (.int .i64 (netErr gs fs)) ∧ Kp V w' := fun W kW => (h1 W (hk.step kW)).mono fun e w' hh => ⟨hh.1, kW.step hh.2⟩
  have h2' : ∀ W, Kp V W → Calls Try.prog 30 #[.agg #[.slice ga gs.length gc, .slice fa fs.length fc]] W fun e w' => e = .returned (.int .i64 (netErr gs fs)) ∧ Kp V w' := fun W kW => (h2 W (hk.step kW)).mono fun e w' hh => ⟨hh.1, kW.step hh.2⟩
  have h3' := fun W (kW : Kp V W) => h3 W (hk.step kW)
  have h4' := fun W (kW : Kp V W) => h4 W (hk.step kW)
  have h5' : ∀ W, Kp V W → Calls Try.prog 11 #[] W fun e w' => e = .returned (.bool true) ∧ Kp V w' := fun W kW => (works_any W).mono fun e w' hh => ⟨hh.1, kW.step hh.2⟩
  have h6' : ∀ xo yo xc yc xs W, IntsAt W xo xs → IntsAt W yo xs → Calls Try.prog 16 #[.slice xo xs.length xc, .slice yo xs.length yc] W fun e w' => e = .returned (.bool true) ∧ Kp W w' := fun xo yo xc yc xs W i j => sameInts_any xo yo xc yc xs xs W i j rfl
  have hS : ∀ X, Kp V X → X.cell? ⟨w.heap.size, 0, none⟩ = some (.slice ga gs.length gc) ∧ X.cell? ⟨w.heap.size, 1, none⟩ = some (.slice fa fs.length fc) := fun X kX => ⟨kX.cell c0, kX.cell c1⟩
  have hbl : w.heap.size < V.heap.size := World.block_lt_of_cell? V _ c0
  generalize delV gs fs = d at *
  generalize netErr gs fs = x at *
  obtain ⟨d1, d2, d3⟩ := d
  dsimp only at h3' h4'
  have q1 : ((x : Int) != x) = false := by simp
  have q2 : ((d3 : Int) == d3) = true := by simp
  have H1 := Lib.hid h1'; have H2 := Lib.hid h2'; have H3 := Lib.hid h3'; have H4 := Lib.hid h4'; have H5 := Lib.hid h5'; have H6 := Lib.hid h6'; have HS := Lib.hid hS; have Hk := Lib.hid hk
  subst hV
  clear h1 h2 h3 h4 h1' h2' h3' h4' h5' h6' hS hk hg hf c0 c1
  go_enter Try.func7, Try.ntmps7
  go_wp2_with fail
  generalize (w.alloc (.cells #[.slice ga gs.length gc, .slice fa fs.length fc] 47)) = V at *
  go_region_held3 (fun X => X.cell? ⟨w.heap.size, 0, none⟩ = some (.slice ga gs.length gc) ∧ X.cell? ⟨w.heap.size, 1, none⟩ = some (.slice fa fs.length fc))
    (first | exact HS.out _ (Kp.refl _) | exact HS.out _ (Keeps.drew (Kp.refl _)) | exact HS.out _ (by assumption) | exact HS.out _ (Keeps.drew (by assumption)))
    (first
      | (go_at_call 29; (with_reducible refine (H1.out _ (by first | assumption | exact Kp.refl _ | exact Keeps.drew (Kp.refl _) | exact Keeps.drew (by assumption))).mono ?_); rintro e w1 ⟨rfl, k1⟩)
      | (go_at_call 30; (with_reducible refine (H2.out _ (by first | assumption | exact Kp.refl _ | exact Keeps.drew (Kp.refl _) | exact Keeps.drew (by assumption))).mono ?_); rintro e w2 ⟨rfl, k2⟩))
  all_goals
    have K2 := Lib.hid k2
    obtain ⟨e0, e1⟩ := HS.out _ k2
    clear k1 k2
    go_wp2_with fail
    refine (H3.out _ K2.out).mono ?_
    rintro e w3 ⟨⟨a1, n1, a2, n2, rfl, hi1, hi2⟩, k3⟩
    have K3 := Lib.hid (K2.out.step k3)
    have I1 := Lib.hid hi1; have I2 := Lib.hid hi2
    have f0 := k3.cell e0
    have f1 := k3.cell e1
    clear k3 hi1 hi2 e0 e1
    go_wp2_with fail
    refine (H4.out _ K3.out).mono ?_
    rintro e w4 ⟨⟨a3, n3, a4, n4, rfl, hi3, hi4⟩, k4⟩
    have K4 := Lib.hid (K3.out.step k4)
    have J1 := Lib.hid (I1.out.kp k4); have J2 := Lib.hid (I2.out.kp k4); have J3 := Lib.hid hi3; have J4 := Lib.hid hi4
    clear k4 hi3 hi4 f0 f1
    go_wp2_with fail
    refine (H6.out _ _ _ _ _ _ J1.out J3.out).mono ?_
    rintro e w5 ⟨rfl, k5⟩
    have K5 := Lib.hid (K4.out.step k5)
    have L2 := Lib.hid (J2.out.kp k5); have L4 := Lib.hid (J4.out.kp k5)
    clear k5
    go_wp2_with fail
    refine (H6.out _ _ _ _ _ _ L2.out L4.out).mono ?_
    rintro e w6 ⟨rfl, k6⟩
    have K6 := Lib.hid (K5.out.step k6)
    clear k6
    go_wp2_with fail
    refine (H5.out _ K6.out).mono ?_
    rintro e w7 ⟨rfl, k7⟩
    go_wp2_with fail
    go_ret
    exact ⟨rfl, Hk.out.step k7⟩
end Go.Proofs.Ytcelbmpdnkaamaa
