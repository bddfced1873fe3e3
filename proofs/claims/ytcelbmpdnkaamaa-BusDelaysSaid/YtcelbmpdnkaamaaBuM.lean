/- CheckNet and Delays. -/
import Derived.Test.YtcelbmpdnkaamaaBuL
namespace Go.Proofs.Ytcelbmpdnkaamaa
open Go Go.RowKit Go.WideMaps Go.Maps
set_option linter.unusedSimpArgs false
set_option linter.unusedVariables false

theorem fromB_iff {lo n hi : Int} : fromB lo n hi = true ↔ lo ≤ n ∧ n ≤ hi := by unfold fromB; simp
theorem flAt_out {fs : List Fl} {k : Nat} (h : fs.length ≤ k) : flAt fs k = ⟨0, 0, []⟩ := by
  unfold flAt; simp [List.getD, List.getElem?_eq_none h]
structure NetOk (gs : List Ga) (fs : List Fl) : Prop where
  ng : gs.length ≤ 30
  nf : fs.length ≤ 40
  gates : GatesOk gs
  bursts : BurstsOk fs
  rates : RatesAt fs
  paths : PathsOk gs.length fs
theorem hasI_take_lt {p : List Int} {i j : Nat} (hi : i < j) (hj : j < p.length) (h : hasI (p.take j) (p.getD j 0) = false) : p.getD i 0 ≠ p.getD j 0 := by
  intro e
  unfold hasI at h
  rw [List.any_eq_false] at h
  have h1 := h (p.getD i 0) (by
    have : (p.take j)[i]'(by simp; omega) = p.getD i 0 := by simp [List.getD, show i < p.length by omega]
    rw [← this]; exact List.getElem_mem _)
  simp at h1
  exact h1 (by simpa [List.getD] using e)
theorem netB_ok {gs : List Ga} {fs : List Fl} (h : netB gs fs = true) : NetOk gs fs := by
  unfold netB at h
  simp only [Bool.and_eq_true, decide_eq_true_eq] at h
  obtain ⟨⟨h1, h2⟩, h3, h4⟩ := h
  have fl : ∀ k, k < fs.length → (1 ≤ (flAt fs k).b ∧ (flAt fs k).b ≤ 100000) ∧ (0 ≤ (flAt fs k).r ∧ (flAt fs k).r ≤ 10000) ∧ pathB gs.length (flAt fs k).p = true := fun k hk => by
    have := allR_get h4 hk
    unfold flB limB at this
    simp only [Bool.and_eq_true, fromB_iff] at this
    exact ⟨this.1.1, this.1.2, this.2⟩
  refine ⟨h1, h2, fun k hk => ?_, fun k hk => (fl k hk).1, fun k => ?_, fun k hk => ?_⟩
  · have := allR_get h3 hk
    unfold gaB at this
    simp only [Bool.and_eq_true, fromB_iff] at this
    omega
  · by_cases hk : k < fs.length
    · exact (fl k hk).2.1
    · rw [flAt_out (by omega)]; simp
  · have := (fl k hk).2.2
    unfold pathB at this
    rw [Bool.and_eq_true, fromB_iff] at this
    obtain ⟨h5, h6⟩ := this
    refine ⟨by omega, by omega, fun j hj => ?_⟩
    rw [List.all_eq_true] at h6
    have h7 := h6 j (List.mem_range.2 hj)
    unfold pathAt at h7
    rw [Bool.and_eq_true, fromB_iff] at h7
    exact ⟨((flAt fs k).p.getD j 0).toNat, by omega, by omega⟩

def netErr (gs : List Ga) (fs : List Fl) : Int := if netB gs fs = true then (if (orderL gs.length fs).length < gs.length then 46 else if overB gs fs = true then 47 else 0) else 45
theorem netErr_zero {gs : List Ga} {fs : List Fl} (h : netErr gs fs = 0) : NetOk gs fs := by
  unfold netErr at h
  split at h
  · rename_i h1; exact netB_ok h1
  · cases h

set_option maxRecDepth 100000 in
set_option maxHeartbeats 3200000 in
theorem checkNet_any (ga fa : Option Addr) (gc fc : Nat) (gs : List Ga) (fs : List Fl) (w : World) (hg : GatesAt w ga gs) (hf : FlowsAt w fa fs) :
    Calls Try.prog 29 #[.agg #[.slice ga gs.length gc, .slice fa fs.length fc]] w fun e w' => e = .returned (.int .i64 (netErr gs fs)) ∧ Kp w w' := by
  have hk := kp_alloc w (.cells #[.slice ga gs.length gc, .slice fa fs.length fc] 47)
  have hb0 := box0 w (.slice ga gs.length gc) (.slice fa fs.length fc) 47
  have hb1 := box1 w (.slice ga gs.length gc) (.slice fa fs.length fc) 47
  have hn := fun W k => isNet_any ga fa gc fc gs fs W (hg.kp (hk.step k)) (hf.kp (hk.step k))
  have hfa := fun W k => hf.kp (w' := W) (hk.step k)
  have hga := fun W k => hg.kp (w' := W) (hk.step k)
  have hne : netErr gs fs = if netB gs fs = true then (if (orderL gs.length fs).length < gs.length then 46 else if overB gs fs = true then 47 else 0) else 45 := rfl
  have Hk := Lib.hid hk; have Hn := Lib.hid hn; have Hfa := Lib.hid hfa; have Hga := Lib.hid hga
  clear hk hn hfa hga hg hf
  go_enter Try.func29, Try.ntmps29
  go_wp2_with fail
  generalize (w.alloc (.cells #[.slice ga gs.length gc, .slice fa fs.length fc] 47)) = V at *
  refine (Hn.out _ (Kp.refl _)).mono ?_
  rintro e w1 ⟨rfl, kp1⟩
  cases hnb : netB gs fs
  · rw [if_neg (by rw [hnb]; simp)] at hne
    have Hne := Lib.hid hne
    clear hne hnb
    go_wp2_with fail
    go_ret
    exact ⟨by rw [Hne.out]; rfl, Hk.out.step kp1⟩
  · rw [if_pos hnb] at hne
    have ok := netB_ok hnb
    obtain ⟨ol, _, _⟩ := orderL_gates ok.paths ok.nf
    have hb0' := kp1.cell hb0
    have hb1' := kp1.cell hb1
    have hbw : w.heap.size < w1.heap.size := World.block_lt_of_cell? w1 _ hb0'
    have hio := fun W kW => inOrder_any ga fa gs.length gc fc fs W (Hfa.out W (kp1.step kW)) ok.nf ok.ng ok.paths
    have hov := fun W kW => isOver_any ga fa gc fc gs fs W (Hga.out W (kp1.step kW)) (Hfa.out W (kp1.step kW)) ok.nf ok.ng (fun k _ => ok.rates k)
    have hng := ok.ng
    have Hne := Lib.hid hne; have Hio := Lib.hid hio; have Hov := Lib.hid hov; have K1 := Lib.hid (Hk.out.step kp1)
    clear hne hio hov kp1 hnb ok hb0 hb1
    by_cases ho : (orderL gs.length fs).length < gs.length
    · have He : Hid (netErr gs fs = 46) := Lib.hid (by rw [Hne.out, if_pos ho])
      have q1 : decide (((orderL gs.length fs).length : Int) < (gs.length : Int)) = true := decide_eq_true (by omega)
      have q2 : ((orderL gs.length fs).length : Int) < (gs.length : Int) := by omega
      clear ho
      go_wp2_with fail
      go_region_law (go_simp; go_at_call 56; refine (Hio.out _ (by first | exact Kp.refl _ | exact Keeps.drew (Kp.refl _) | exact Keeps.drewN (Kp.refl _) _)).mono ?_; rintro e w2 ⟨a1, c1, rfl, hb2, kp2⟩; have hb0' := kp2.cell (show w1.drew.cell? ⟨w.heap.size, 0, none⟩ = _ from hb0'); have hb1' := kp2.cell (show w1.drew.cell? ⟨w.heap.size, 1, none⟩ = _ from hb1'))
      all_goals
        have k2 : Kp w1 w2 := ⟨kp2.os, kp2.tape, kp2.output, kp2.size, kp2.block⟩
        have K2 := Lib.hid (K1.out.step k2)
        clear kp2 k2 hb2
        go_wp2_with fail
        go_ret
        exact ⟨by rw [He.out]; rfl, K2.out⟩
    · have He : Hid (netErr gs fs = if overB gs fs = true then 47 else 0) := Lib.hid (by rw [Hne.out, if_neg ho])
      have q1 : decide (((orderL gs.length fs).length : Int) < (gs.length : Int)) = false := decide_eq_false (by omega)
      have q3 : decide ((orderL gs.length fs).length < gs.length) = false := decide_eq_false ho
      have q4 : gs.length ≤ (orderL gs.length fs).length := by omega
      go_wp2_with fail
      go_region_law (go_simp; go_at_call 56; refine (Hio.out _ (by first | exact Kp.refl _ | exact Keeps.drew (Kp.refl _) | exact Keeps.drewN (Kp.refl _) _)).mono ?_; rintro e w2 ⟨a1, c1, rfl, hb2, kp2⟩; have hb0' := kp2.cell (show w1.drew.cell? ⟨w.heap.size, 0, none⟩ = _ from hb0'); have hb1' := kp2.cell (show w1.drew.cell? ⟨w.heap.size, 1, none⟩ = _ from hb1'))
      all_goals
        have k2 : Kp w1 w2 := ⟨kp2.os, kp2.tape, kp2.output, kp2.size, kp2.block⟩
        have K2 := Lib.hid (K1.out.step k2); have K12 := Lib.hid k2
        clear kp2 k2 hb2
        go_wp2_with fail
        refine (Hov.out _ K12.out).mono ?_
        rintro e w3 ⟨rfl, kp3⟩
        cases hx : overB gs fs
        all_goals
          have He2 : Hid (netErr gs fs = _) := Lib.hid (by rw [He.out, hx])
          clear hx
          go_wp2_with fail
          go_ret
          exact ⟨by rw [He2.out]; rfl, K2.out.step kp3⟩

def DelEnd (w : World) (gs : List Ga) (fs : List Fl) (e : Ending) (w' : World) : Prop :=
  if netErr gs fs = 0 then
    match boundsOf gs fs with
    | none => e = .returned (.tuple #[.slice none 0 0, .slice none 0 0, .int .i64 41]) ∧ Kp w w'
    | some s => (∃ gw gd, e = .returned (.tuple #[.slice (some ⟨gw, 0, none⟩) gs.length gs.length, .slice (some ⟨gd, 0, none⟩) fs.length fs.length, .int .i64 0]) ∧ IntsAt w' (some ⟨gw, 0, none⟩) s.ws ∧ IntsAt w' (some ⟨gd, 0, none⟩) s.ds) ∧ Kp w w'
  else e = .returned (.tuple #[.slice none 0 0, .slice none 0 0, .int .i64 (netErr gs fs)]) ∧ Kp w w'

set_option maxRecDepth 100000 in
set_option maxHeartbeats 3200000 in
theorem delays_any (ga fa : Option Addr) (gc fc : Nat) (gs : List Ga) (fs : List Fl) (w : World) (hg : GatesAt w ga gs) (hf : FlowsAt w fa fs) :
    Calls Try.prog 31 #[.agg #[.slice ga gs.length gc, .slice fa fs.length fc]] w (DelEnd w gs fs) := by
  have hk := kp_alloc w (.cells #[.slice ga gs.length gc, .slice fa fs.length fc] 47)
  have hb0 := box0 w (.slice ga gs.length gc) (.slice fa fs.length fc) 47
  have hb1 := box1 w (.slice ga gs.length gc) (.slice fa fs.length fc) 47
  have hn := fun W k => checkNet_any ga fa gc fc gs fs W (hg.kp (hk.step k)) (hf.kp (hk.step k))
  have hfa := fun W k => hf.kp (w' := W) (hk.step k)
  have hga := fun W k => hg.kp (w' := W) (hk.step k)
  have Hk := Lib.hid hk; have Hn := Lib.hid hn; have Hfa := Lib.hid hfa; have Hga := Lib.hid hga
  clear hk hn hfa hga hg hf
  have hde : ∀ e w', DelEnd w gs fs e w' ↔ DelEnd w gs fs e w' := fun _ _ => Iff.rfl
  by_cases h0 : netErr gs fs = 0
  case neg =>
    have hfin : ∀ w', Kp w w' → DelEnd w gs fs (.returned (.tuple #[.slice none 0 0, .slice none 0 0, .int .i64 (netErr gs fs)])) w' := fun w' k => by
      unfold DelEnd; rw [if_neg h0]; exact ⟨rfl, k⟩
    have hne : ((netErr gs fs) != 0) = true := by simpa using h0
    have Hf := Lib.hid hfin
    clear hde hfin h0
    generalize netErr gs fs = x at *
    go_enter Try.func31, Try.ntmps31
    go_wp2_with fail
    refine (Hn.out _ (Kp.refl _)).mono ?_
    rintro e w1 ⟨rfl, kp1⟩
    go_wp2_with fail
    go_ret3
    exact Hf.out _ (Hk.out.step kp1)
  have ok := netErr_zero h0
  have hbn := fun W k => bounds_any ga fa gc fc gs fs W (Hga.out W k) (Hfa.out W k) ok.nf ok.ng ok.paths ok.rates ok.gates ok.bursts
  have hfin : ∀ e e' w1 w', BoundsEnd w1 gs.length fs.length (boundsOf gs fs) e' w' → Kp w w1 → (e' = .returned (.tuple #[.slice none 0 0, .slice none 0 0, .bool false]) ∧ e = .returned (.tuple #[.slice none 0 0, .slice none 0 0, .int .i64 41]) ∨ ∃ gw gd, e' = .returned (.tuple #[.slice (some ⟨gw, 0, none⟩) gs.length gs.length, .slice (some ⟨gd, 0, none⟩) fs.length fs.length, .bool true]) ∧ e = .returned (.tuple #[.slice (some ⟨gw, 0, none⟩) gs.length gs.length, .slice (some ⟨gd, 0, none⟩) fs.length fs.length, .int .i64 0])) → DelEnd w gs fs e w' := by
    intro e e' w1 w' hb k1 h
    unfold DelEnd
    rw [if_pos h0]
    unfold BoundsEnd at hb
    cases hbo : boundsOf gs fs with
    | none =>
      rw [hbo] at hb
      obtain ⟨hb, k2⟩ := hb
      rcases h with ⟨h1, h2⟩ | ⟨gw, gd, h1, h2⟩
      · exact ⟨h2, k1.step k2⟩
      · rw [h1] at hb; simp at hb
    | some s =>
      rw [hbo] at hb
      obtain ⟨⟨gw, gd, hb, i1, i2⟩, k2⟩ := hb
      rcases h with ⟨h1, h2⟩ | ⟨gw2, gd2, h1, h2⟩
      · rw [h1] at hb; simp at hb
      · rw [h1] at hb
        simp at hb
        obtain ⟨rfl, rfl⟩ := hb
        exact ⟨⟨gw2, gd2, h2, i1, i2⟩, k1.step k2⟩
  have Hbn := Lib.hid hbn; have Hf := Lib.hid hfin; have H0 := Lib.hid h0
  clear hbn hfin hde ok h0
  go_enter Try.func31, Try.ntmps31
  go_wp2_with fail
  generalize (w.alloc (.cells #[.slice ga gs.length gc, .slice fa fs.length fc] 47)) = V at *
  refine (Hn.out _ (Kp.refl _)).mono ?_
  rintro e w1 ⟨rfl, kp1⟩
  rw [H0.out]
  have hb0' := kp1.cell hb0
  have hb1' := kp1.cell hb1
  go_wp2_with fail
  refine (Hbn.out _ kp1).mono ?_
  intro e w2 hbe
  have Hbe := Lib.hid hbe
  unfold BoundsEnd at hbe
  cases hbo : boundsOf gs fs with
  | none =>
    rw [hbo] at hbe
    obtain ⟨rfl, k2⟩ := hbe
    clear hbo k2
    go_wp2_with fail
    go_ret3
    exact Hf.out _ _ _ _ Hbe.out (Hk.out.step kp1) (.inl ⟨rfl, rfl⟩)
  | some s =>
    rw [hbo] at hbe
    obtain ⟨⟨gw, gd, rfl, _, _⟩, k2⟩ := hbe
    clear hbo k2
    go_wp2_with fail
    go_ret3
    exact Hf.out _ _ _ _ Hbe.out (Hk.out.step kp1) (.inr ⟨gw, gd, rfl, rfl⟩)
end Go.Proofs.Ytcelbmpdnkaamaa
