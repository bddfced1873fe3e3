/- When slotted buses are valid, both. -/
import Derived.Test.YtcelbmpdnkaamaaBsA
namespace Go.Proofs.Ytcelbmpdnkaamaa
open Go Go.RowKit Go.WideMaps Go.Maps
set_option linter.unusedSimpArgs false
set_option linter.unusedVariables false

def msgB (nc : Int) (m : Ga) : Bool := fromB 0 m.1 1000 && powB m.2 nc
def sltB (ns nc : Int) (ms : List Ga) : Bool := ((fromB 1 ns 30 && powB nc 64) && decide (ms.length ≤ 60)) && allR ms.length (fun k => msgB nc (gaAt ms k))

set_option maxRecDepth 100000 in
set_option maxHeartbeats 1600000 in
theorem isSlotted1_any (m : Ga) (nc : Int) (sb : Nat) (w : World) (hnc : nc ≤ 1000) (hb : w.cell? ⟨sb, 1, none⟩ = some (.int .i64 nc)) :
    Calls Try.prog 75 #[.agg #[.int .i64 m.1, .int .i64 m.2], .pointer (some ⟨sb, 0, none⟩)] w fun e w' => e = .returned (.bool (!msgB nc m)) ∧ Kp w w' := by
  obtain ⟨x, y⟩ := m
  have hl : sb < w.heap.size := World.block_lt_of_cell? w _ hb
  have hk := kp_alloc w (.cells #[.int .i64 x, .int .i64 y] 82)
  have c1 := hk.cell hb
  have h1 := isFrom_any 0 x 1000
  have h2 := fun W => isPower_any y nc W hnc
  have hm : msgB nc (x, y) = (fromB 0 x 1000 && powB y nc) := rfl
  have H1 := Lib.hid h1; have H2 := Lib.hid h2; have Hk := Lib.hid hk; have Hm := Lib.hid hm
  clear h1 h2 hk hm
  dsimp only
  go_enter Try.func75, Try.ntmps75
  go_wp2_with fail
  refine (H1.out _).mono ?_
  rintro e w1 ⟨rfl, rfl⟩
  cases hx : fromB 0 x 1000
  · go_wp2_with fail
    go_ret
    exact ⟨by rw [Hm.out, hx]; rfl, Hk.out⟩
  · go_wp2_with fail
    refine (H2.out _).mono ?_
    rintro e w1 ⟨rfl, rfl⟩
    cases hy : powB y nc
    all_goals
      go_wp2_with fail
      go_ret
      exact ⟨by rw [Hm.out, hx, hy]; rfl, Hk.out⟩

set_option maxHeartbeats 1600000 in
theorem indexMsgs_any (ma : Option Addr) (mc sb : Nat) (ms : List Ga) (nc : Int) (w : World) (h : GatesAt w ma ms) (hnc : nc ≤ 1000) (hb : w.cell? ⟨sb, 1, none⟩ = some (.int .i64 nc)) :
    Calls Try.prog 95 #[.slice ma ms.length mc, .func (Fn.func 75) #[] #[.pointer (some ⟨sb, 0, none⟩)]] w fun e w' => IdxEnd ms.length (fun k => msgB nc (gaAt ms k)) e ∧ Kp w w' := by
  have hl1 := h.len
  unfold maxLen at hl1
  have Hx := Lib.hid h
  clear h
  go_enter Try.func95, Try.ntmps95
  go_wp2_with fail
  go_loopw [8] (fun i wr => ∃ (k : Nat), k ≤ ms.length ∧ i = .int .i64 k ∧ Kp w wr ∧ ∀ j, j < k → msgB nc (gaAt ms j) = true) (fun i _ => ms.length - (intOf i).toNat)
  case atStart => exact ⟨0, Nat.zero_le _, rfl, Kp.refl _, fun j hj => by omega⟩
  case round =>
    obtain ⟨k, hk, rfl, kp, hno⟩ := hrel
    by_cases hlt : k < ms.length
    · obtain ⟨b1, o1, rfl, hc1⟩ := (Hx.out.kp kp).cells (by omega)
      obtain ⟨c0, c1⟩ := hc1 k hlt
      have i1 : (k : Int) < (ms.length : Int) := by omega
      have hcl := isSlotted1_any (gaAt ms k) nc sb wr hnc (kp.cell hb)
      have hbad : msgB nc (gaAt ms k) = false → IdxEnd ms.length (fun k => msgB nc (gaAt ms k)) (.returned (.int .i64 k)) := fun hh => by
        unfold IdxEnd
        rw [if_neg (by rw [allR_bad hlt hh]; simp)]
        exact ⟨k, hlt, rfl⟩
      have hnext : msgB nc (gaAt ms k) = true → ∀ j, j < k + 1 → msgB nc (gaAt ms j) = true := fun hh j hj => by
        by_cases e : j = k
        · subst e; exact hh
        · exact hno j (by omega)
      have Hbad := Lib.hid hbad; have Hn := Lib.hid hnext; have Kq := Lib.hid kp; have Hcl := Lib.hid hcl
      clear hbad hnext kp hcl hno hc1
      generalize msgB nc (gaAt ms k) = x at *
      generalize gaAt ms k = f at *
      go_wp2_with fail
      refine Hcl.out.mono ?_
      rintro e w1 ⟨rfl, kp1⟩
      have K2 := Lib.hid (Kq.out.step kp1)
      clear kp1
      cases x
      · have Hz := Lib.hid (Hbad.out rfl)
        go_wp2_with fail
        go_ret
        exact ⟨Hz.out, K2.out⟩
      · have Hz := Lib.hid (Hn.out rfl)
        go_wp2_with fail
        go_roundw
        case rel => exact ⟨k + 1, by omega, by go_num, K2.out, Hz.out⟩
        case measure => simp [intOf]; omega
    · obtain rfl : k = ms.length := by omega
      have Hz : Hid (IdxEnd ms.length (fun k => msgB nc (gaAt ms k)) (.returned (.int .i64 (-1)))) := Lib.hid (by
        unfold IdxEnd
        rw [if_pos (allR_good hno)])
      clear hno
      go_wp2_with fail
      go_ret
      exact ⟨Hz.out, kp⟩

theorem containsMsgs_any (ma : Option Addr) (mc sb : Nat) (ms : List Ga) (nc : Int) (w : World) (h : GatesAt w ma ms) (hnc : nc ≤ 1000) (hb : w.cell? ⟨sb, 1, none⟩ = some (.int .i64 nc)) :
    Calls Try.prog 74 #[.slice ma ms.length mc, .func (Fn.func 75) #[] #[.pointer (some ⟨sb, 0, none⟩)]] w fun e w' => e = .returned (.bool (!allR ms.length (fun k => msgB nc (gaAt ms k)))) ∧ Kp w w' := by
  have hi := indexMsgs_any ma mc sb ms nc w h hnc hb
  have Hi := Lib.hid hi
  clear hi h
  go_enter Try.func74, Try.ntmps74
  go_wp2_with fail
  refine Hi.out.mono ?_
  rintro e w1 ⟨he, kp⟩
  unfold IdxEnd at he
  cases hb : allR ms.length (fun k => msgB nc (gaAt ms k))
  · rw [if_neg (by rw [hb]; simp)] at he
    obtain ⟨k, hk, rfl⟩ := he
    go_wp2_with fail
    go_ret
    exact ⟨by rw [hb]; rfl, kp⟩
  · rw [if_pos hb] at he
    subst he
    go_wp2_with fail
    go_ret
    exact ⟨by rw [hb]; rfl, kp⟩

abbrev sltV (ns nc : Int) (ma : Option Addr) (n mc : Nat) : Value := .agg #[.int .i64 ns, .int .i64 nc, .slice ma n mc]
set_option maxRecDepth 100000 in
set_option maxHeartbeats 1600000 in
theorem isSlotted_any (ns nc : Int) (ma : Option Addr) (mc : Nat) (ms : List Ga) (w : World) (h : GatesAt w ma ms) :
    Calls Try.prog 46 #[.agg #[.int .i64 ns, .int .i64 nc, .slice ma ms.length mc]] w fun e w' => e = .returned (.bool (sltB ns nc ms)) ∧ Kp w w' := by
  have hl1 := h.len
  unfold maxLen at hl1
  have hk := kp_alloc w (.cells #[.int .i64 ns, .int .i64 nc, .slice ma ms.length mc] 35)
  have c1 : (w.alloc (.cells #[.int .i64 ns, .int .i64 nc, .slice ma ms.length mc] 35)).cell? ⟨w.heap.size, 1, none⟩ = some (.int .i64 nc) := by simp
  have h1 := isFrom_any 1 ns 30
  have h2 := fun W => isPower_any nc 64 W (by omega)
  have h3 := fun W (kW : Kp (w.alloc (.cells #[.int .i64 ns, .int .i64 nc, .slice ma ms.length mc] 35)) W) (hnc : nc ≤ 1000) => containsMsgs_any ma mc w.heap.size ms nc W (h.kp (hk.step kW)) hnc (kW.cell c1)
  have hm : sltB ns nc ms = (((fromB 1 ns 30 && powB nc 64) && decide (ms.length ≤ 60)) && allR ms.length (fun k => msgB nc (gaAt ms k))) := rfl
  have hnc : powB nc 64 = true → nc ≤ 1000 := fun e => by unfold powB fromB at e; simp only [Bool.and_eq_true, decide_eq_true_eq] at e; omega
  have H1 := Lib.hid h1; have H2 := Lib.hid h2; have H3 := Lib.hid h3; have Hk := Lib.hid hk; have Hm := Lib.hid hm; have Hnc := Lib.hid hnc
  clear h1 h2 h3 hk hm hnc h c1
  go_enter Try.func46, Try.ntmps46
  go_wp2_with fail
  refine (H1.out _).mono ?_
  rintro e w1 ⟨rfl, rfl⟩
  cases hx : fromB 1 ns 30
  · go_wp2_with fail
    go_ret
    exact ⟨by rw [Hm.out, hx]; rfl, Hk.out⟩
  · go_wp2_with fail
    refine (H2.out _).mono ?_
    rintro e w1 ⟨rfl, rfl⟩
    cases hy : powB nc 64
    · go_wp2_with fail
      go_ret
      exact ⟨by rw [Hm.out, hx, hy]; rfl, Hk.out⟩
    · by_cases hl : ms.length ≤ 60
      · have q1 : decide ((60 : Int) < ms.length) = false := decide_eq_false (by omega)
        have hc := H3.out _ (Kp.refl _) (Hnc.out hy)
        have Hc := Lib.hid hc
        clear hc
        go_wp2_with fail
        refine Hc.out.mono ?_
        rintro e w2 ⟨rfl, k2⟩
        cases hz : allR ms.length (fun k => msgB nc (gaAt ms k))
        all_goals
          go_wp2_with fail
          go_ret
          exact ⟨by rw [Hm.out, hx, hy, hz, decide_eq_true hl]; rfl, Hk.out.step k2⟩
      · have q1 : decide ((60 : Int) < ms.length) = true := decide_eq_true (by omega)
        go_wp2_with fail
        go_ret
        exact ⟨by rw [Hm.out, hx, hy, decide_eq_false hl]; rfl, Hk.out⟩

def sltErr (ns nc : Int) (ms : List Ga) : Int := if sltB ns nc ms = true then 0 else 43
set_option maxRecDepth 100000 in
set_option maxHeartbeats 1600000 in
theorem refSlotted_any (ns nc : Int) (ma : Option Addr) (mc : Nat) (ms : List Ga) (w : World) (h : GatesAt w ma ms) :
    Calls Try.prog 48 #[.agg #[.int .i64 ns, .int .i64 nc, .slice ma ms.length mc]] w fun e w' => e = .returned (.int .i64 (sltErr ns nc ms)) ∧ Kp w w' := by
  have hl1 := h.len
  unfold maxLen at hl1
  have hk := kp_alloc w (.cells #[.int .i64 ns, .int .i64 nc, .slice ma ms.length mc] 35)
  have c1 : (w.alloc (.cells #[.int .i64 ns, .int .i64 nc, .slice ma ms.length mc] 35)).cell? ⟨w.heap.size, 1, none⟩ = some (.int .i64 nc) := by simp
  have c2 : (w.alloc (.cells #[.int .i64 ns, .int .i64 nc, .slice ma ms.length mc] 35)).cell? ⟨w.heap.size, 2, none⟩ = some (.slice ma ms.length mc) := by simp
  have h1 := within_any 1 ns 30
  have h2 := fun W => refPower_any nc 64 W (by omega)
  have hm : sltB ns nc ms = (((fromB 1 ns 30 && powB nc 64) && decide (ms.length ≤ 60)) && allR ms.length (fun k => msgB nc (gaAt ms k))) := rfl
  have he : sltErr ns nc ms = if sltB ns nc ms = true then 0 else 43 := rfl
  have hnc : powB nc 64 = true → nc ≤ 1000 := fun e => by unfold powB fromB at e; simp only [Bool.and_eq_true, decide_eq_true_eq] at e; omega
  have h4 := fun x W => within_any 0 x 1000 W
  have h5 := fun x (hh : nc ≤ 1000) W => refPower_any x nc W hh
  have Hh := Lib.hid (h.kp hk)
  have H1 := Lib.hid h1; have H2 := Lib.hid h2; have H4 := Lib.hid h4; have H5 := Lib.hid h5; have Hk := Lib.hid hk; have Hm := Lib.hid hm; have Hnc := Lib.hid hnc; have He := Lib.hid he
  clear h1 h2 h4 h5 hk hm hnc h he
  go_enter Try.func48, Try.ntmps48
  go_wp2_with fail
  refine (H1.out _).mono ?_
  rintro e w1 ⟨rfl, rfl⟩
  cases hx : fromB 1 ns 30
  · go_wp2_with fail
    go_ret
    exact ⟨by rw [He.out, Hm.out, hx]; rfl, Hk.out⟩
  go_wp2_with fail
  refine (H2.out _).mono ?_
  rintro e w1 ⟨rfl, rfl⟩
  cases hy : powB nc 64
  · go_wp2_with fail
    go_ret
    exact ⟨by rw [He.out, Hm.out, hx, hy]; rfl, Hk.out⟩
  by_cases hl : ms.length ≤ 60
  case neg =>
    have q1 : decide ((60 : Int) < ms.length) = true := decide_eq_true (by omega)
    go_wp2_with fail
    go_ret
    exact ⟨by rw [He.out, Hm.out, hx, hy, decide_eq_false hl]; rfl, Hk.out⟩
  have q1 : decide ((60 : Int) < ms.length) = false := decide_eq_false (by omega)
  have hn := Hnc.out hy
  have hm2 : sltB ns nc ms = allR ms.length (fun k => msgB nc (gaAt ms k)) := by rw [Hm.out, hx, hy, decide_eq_true hl]; rfl
  have Hm2 := Lib.hid hm2
  clear hm2 Hm H1 H2 hx hy Hnc
  go_wp2_with fail
  generalize (w.alloc (.cells #[.int .i64 ns, .int .i64 nc, .slice ma ms.length mc] 35)) = V at *
  go_loopw [3] (fun i wr => ∃ (k : Nat), k ≤ ms.length ∧ i = .int .i64 k ∧ Kp V wr ∧ Hid (∀ j, j < k → msgB nc (gaAt ms j) = true)) (fun i _ => ms.length - (intOf i).toNat)
  case atStart => exact ⟨0, Nat.zero_le _, rfl, Kp.refl _, Lib.hid (fun j hj => by omega)⟩
  case round =>
    obtain ⟨k, hk, rfl, kp, hno⟩ := hrel
    have d9 := kp.cell c1; have d8 := kp.cell c2
    have Hkk := Lib.hid (Hk.out.step kp)
    by_cases hlt : k < ms.length
    case pos =>
      obtain ⟨b1, o1, rfl, hc1⟩ := (Hh.out.kp kp).cells (by omega)
      obtain ⟨d0, d1⟩ := hc1 k hlt
      have i1 : (k : Int) < (ms.length : Int) := by omega
      have hbad : msgB nc (gaAt ms k) = false → sltErr ns nc ms = 43 := fun hh => by
        rw [He.out, Hm2.out, allR_bad hlt hh]; rfl
      have hnext : msgB nc (gaAt ms k) = true → ∀ j, j < k + 1 → msgB nc (gaAt ms j) = true := fun hh j hj => by
        by_cases e : j = k
        · subst e; exact hh
        · exact hno.out j (by omega)
      have hmb : msgB nc (gaAt ms k) = (fromB 0 (gaAt ms k).1 1000 && powB (gaAt ms k).2 nc) := rfl
      have Hbad := Lib.hid hbad; have Hn := Lib.hid hnext; have Hmb := Lib.hid hmb
      clear hbad hnext hno hc1 hmb
      generalize msgB nc (gaAt ms k) = x at *
      generalize gaAt ms k = f at *
      obtain ⟨u, v⟩ := f
      dsimp only at *
      have h4 := fun W => H4.out u W
      have h5 := fun W => H5.out v hn W
      have hbs : msgB nc (u, v) = (fromB 0 u 1000 && powB v nc) := rfl
      generalize fromB 0 u 1000 = bu at *
      generalize powB v nc = bv at *
      have H4u := Lib.hid h4; have H5v := Lib.hid h5
      clear h4 h5 hbs
      cases bu
      · have Hz := Lib.hid (Hbad.out (by rw [Hmb.out]; rfl))
        go_wp2_with fail
        go_quiet (first
          | (go_at_call 41; first | exact Calls.quiet_of_same ((H4u.out _).mono fun e w' h => ⟨h.1, h.2⟩) | exact (H4u.out _).mono fun e w' h => ⟨h.1, _, h.2⟩)
          | (go_at_call 78; first | exact Calls.quiet_of_same ((H5v.out _).mono fun e w' h => ⟨h.1, h.2⟩) | exact (H5v.out _).mono fun e w' h => ⟨h.1, _, h.2⟩))
        go_wp2_with fail
        go_ret
        exact ⟨by rw [Hz.out]; rfl, Keeps.drewN Hkk.out _⟩
      cases bv
      · have Hz := Lib.hid (Hbad.out (by rw [Hmb.out]; rfl))
        go_wp2_with fail
        go_quiet (first
          | (go_at_call 41; first | exact Calls.quiet_of_same ((H4u.out _).mono fun e w' h => ⟨h.1, h.2⟩) | exact (H4u.out _).mono fun e w' h => ⟨h.1, _, h.2⟩)
          | (go_at_call 78; first | exact Calls.quiet_of_same ((H5v.out _).mono fun e w' h => ⟨h.1, h.2⟩) | exact (H5v.out _).mono fun e w' h => ⟨h.1, _, h.2⟩))
        go_wp2_with fail
        go_ret
        exact ⟨by rw [Hz.out]; rfl, Keeps.drewN Hkk.out _⟩
      · have Hz := Lib.hid (Hn.out (by rw [Hmb.out]; rfl))
        go_wp2_with fail
        go_quiet (first
          | (go_at_call 41; first | exact Calls.quiet_of_same ((H4u.out _).mono fun e w' h => ⟨h.1, h.2⟩) | exact (H4u.out _).mono fun e w' h => ⟨h.1, _, h.2⟩)
          | (go_at_call 78; first | exact Calls.quiet_of_same ((H5v.out _).mono fun e w' h => ⟨h.1, h.2⟩) | exact (H5v.out _).mono fun e w' h => ⟨h.1, _, h.2⟩))
        go_wp2_with fail
        go_roundw
        case rel => exact ⟨k + 1, by omega, by go_num, by first | rfl | trivial | exact Keeps.drewN kp _, Hz⟩
        case measure => simp [intOf]; omega
    case neg =>
      obtain rfl : k = ms.length := by omega
      have Hz : Hid (sltErr ns nc ms = 0) := Lib.hid (by rw [He.out, Hm2.out, allR_good hno.out]; rfl)
      clear hno
      go_wp2_with fail
      go_ret
      exact ⟨by rw [Hz.out]; rfl, Hkk.out⟩
end Go.Proofs.Ytcelbmpdnkaamaa
