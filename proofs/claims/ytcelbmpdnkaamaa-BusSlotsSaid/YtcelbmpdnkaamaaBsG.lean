/- CheckSlots, both. -/
import Derived.Test.YtcelbmpdnkaamaaBsH
import Derived.Test.YtcelbmpdnkaamaaBsF
namespace Go.Proofs.Ytcelbmpdnkaamaa
open Go Go.RowKit Go.WideMaps Go.Maps
set_option linter.unusedSimpArgs false
set_option linter.unusedVariables false

set_option maxRecDepth 100000 in
set_option maxHeartbeats 3200000 in
theorem checkSlots_any (ns nc : Int) (ma sa : Option Addr) (mc sc : Nat) (ms ss : List Ga) (w : World) (h : GatesAt w ma ms) (hs : GatesAt w sa ss) :
    Calls Try.prog 27 #[.agg #[.int .i64 ns, .int .i64 nc, .slice ma ms.length mc], .slice sa ss.length sc] w fun e w' => e = .returned (.int .i64 (chkV ns nc ms ss)) ∧ Kp w w' := by
  have hk := kp_alloc w (.cells #[.int .i64 ns, .int .i64 nc, .slice ma ms.length mc] 35)
  have c0 : (w.alloc (.cells #[.int .i64 ns, .int .i64 nc, .slice ma ms.length mc] 35)).cell? ⟨w.heap.size, 0, none⟩ = some (.int .i64 ns) := by simp
  have c1 : (w.alloc (.cells #[.int .i64 ns, .int .i64 nc, .slice ma ms.length mc] 35)).cell? ⟨w.heap.size, 1, none⟩ = some (.int .i64 nc) := by simp
  have c2 : (w.alloc (.cells #[.int .i64 ns, .int .i64 nc, .slice ma ms.length mc] 35)).cell? ⟨w.heap.size, 2, none⟩ = some (.slice ma ms.length mc) := by simp
  have h1 := fun W (kW : Kp w W) => isSlotted_any ns nc ma mc ms W (h.kp kW)
  have h2 := fun W (kW : Kp w W) => areSlots_any ns nc ma sa mc sc ms ss W (h.kp kW) (hs.kp kW)
  have h3 : sltB ns nc ms = true → areB ns ms ss = true → ∀ W, Kp w W → Calls Try.prog 53 #[.agg #[.int .i64 ns, .int .i64 nc, .slice ma ms.length mc], .slice sa ss.length sc] W fun e w' => e = .returned (.bool (!allR ms.length (freeR ms ss))) ∧ Kp W w' := fun a1 a2 W kW => by
    obtain ⟨n, p, rfl, rfl, hp⟩ := slp_of a1 a2
    rw [← clash_same hp]
    exact clash_any n (2 ^ p) ma sa mc sc ms ss W (h.kp kW) (hs.kp kW) hp.v
  have hv : chkV ns nc ms ss = if sltB ns nc ms = true then (if areB ns ms ss = true then (if allR ms.length (freeR ms ss) = true then 0 else 44) else 1) else 43 := rfl
  have Hk := Lib.hid hk; have H1 := Lib.hid h1; have H2 := Lib.hid h2; have H3 := Lib.hid h3; have Hv := Lib.hid hv
  clear hk h1 h2 h3 hv h hs
  go_enter Try.func27, Try.ntmps27
  go_wp2_with fail
  refine (H1.out _ Hk.out).mono ?_
  rintro e w1 ⟨rfl, k1⟩
  have d0 := k1.cell c0; have d1 := k1.cell c1; have d2 := k1.cell c2
  have K1 := Lib.hid (Hk.out.step k1)
  have hb1 : w.heap.size < w1.heap.size := World.block_lt_of_cell? w1 _ d0
  clear k1 c0 c1 c2
  cases hx : sltB ns nc ms
  · go_wp2_with fail
    go_ret
    exact ⟨by rw [Hv.out, hx]; rfl, K1.out⟩
  go_wp2_with fail
  refine (H2.out _ K1.out).mono ?_
  rintro e w2 ⟨rfl, k2⟩
  have e0 := k2.cell d0; have e1 := k2.cell d1; have e2 := k2.cell d2
  have K2 := Lib.hid (K1.out.step k2)
  have hb2 : w.heap.size < w2.heap.size := World.block_lt_of_cell? w2 _ e0
  clear k2 d0 d1 d2
  cases hy : areB ns ms ss
  · go_wp2_with fail
    go_ret
    exact ⟨by rw [Hv.out, hx, hy]; rfl, K2.out⟩
  have h4 := H3.out hx hy
  have H4 := Lib.hid h4
  clear h4
  go_wp2_with fail
  refine (H4.out _ K2.out).mono ?_
  rintro e w3 ⟨rfl, k3⟩
  cases hz : allR ms.length (freeR ms ss)
  all_goals
    go_wp2_with fail
    go_ret
    exact ⟨by rw [Hv.out, hx, hy, hz]; rfl, K2.out.step k3⟩

set_option maxRecDepth 100000 in
set_option maxHeartbeats 6400000 in
theorem refCheckSlots_any (ns nc : Int) (ma sa : Option Addr) (mc sc : Nat) (ms ss : List Ga) (w : World) (h : GatesAt w ma ms) (hs : GatesAt w sa ss) (hsc : ss.length ≤ sc) (hsc2 : sc ≤ maxLen) :
    Calls Try.prog 28 #[.agg #[.int .i64 ns, .int .i64 nc, .slice ma ms.length mc], .slice sa ss.length sc] w fun e w' => e = .returned (.int .i64 (chkV ns nc ms ss)) ∧ Kp w w' := by
  have hl1 := h.len
  have hl2 := hs.len
  unfold maxLen at hl1 hl2 hsc2
  have hk := kp_alloc w (.cells #[.int .i64 ns, .int .i64 nc, .slice ma ms.length mc] 35)
  have c0 : (w.alloc (.cells #[.int .i64 ns, .int .i64 nc, .slice ma ms.length mc] 35)).cell? ⟨w.heap.size, 0, none⟩ = some (.int .i64 ns) := by simp
  have c1 : (w.alloc (.cells #[.int .i64 ns, .int .i64 nc, .slice ma ms.length mc] 35)).cell? ⟨w.heap.size, 1, none⟩ = some (.int .i64 nc) := by simp
  have c2 : (w.alloc (.cells #[.int .i64 ns, .int .i64 nc, .slice ma ms.length mc] 35)).cell? ⟨w.heap.size, 2, none⟩ = some (.slice ma ms.length mc) := by simp
  have h1 := fun W (kW : Kp w W) => refSlotted_any ns nc ma mc ms W (h.kp kW)
  have h2 := fun x y W => within_any 0 x y W
  have h3 : sltB ns nc ms = true → areB ns ms ss = true → ∀ k, k < ms.length → ∀ c W, Kp w W → Calls Try.prog 54 #[.agg #[.int .i64 ns, .int .i64 nc, .slice ma ms.length mc], .slice sa (k + 1) c] W fun e w' => e = .returned (.bool (freeR ms ss k)) ∧ Kp W w' := fun a1 a2 k hkk c W kW => by
    obtain ⟨n, p, rfl, rfl, hp⟩ := slp_of a1 a2
    exact refFree_any n _ ma sa mc c ms ss k W (h.kp kW) (hs.kp kW) hp.o hkk
  have hv : chkV ns nc ms ss = if sltB ns nc ms = true then (if areB ns ms ss = true then (if allR ms.length (freeR ms ss) = true then 0 else 44) else 1) else 43 := rfl
  have hse : sltErr ns nc ms = if sltB ns nc ms = true then 0 else 43 := rfl
  have hbd : sltB ns nc ms = true → (1 ≤ ns ∧ ns ≤ 30) ∧ (ms.length ≤ 60) ∧ ∀ k, k < ms.length → 1 ≤ (gaAt ms k).2 ∧ (gaAt ms k).2 ≤ 64 := fun a1 => by
    unfold sltB at a1
    simp only [Bool.and_eq_true, decide_eq_true_eq] at a1
    obtain ⟨⟨⟨b1, b2⟩, b3⟩, b4⟩ := a1
    unfold fromB at b1
    simp only [Bool.and_eq_true, decide_eq_true_eq] at b1
    refine ⟨b1, b3, fun k hk => ?_⟩
    have c1 := allR_get b4 hk
    unfold msgB at c1
    simp only [Bool.and_eq_true, decide_eq_true_eq] at c1
    obtain ⟨p, hp, hnc, _⟩ := powB_two b2 (by omega)
    have h64 := pow64 hp
    obtain ⟨q, hq, he, hle⟩ := powB_two c1.2 (by omega)
    have := Nat.two_pow_pos q
    omega
  have hab : areB ns ms ss = (decide (ss.length = ms.length) && allR ms.length (areAt ns ms ss)) := rfl
  have Hh := Lib.hid (h.kp hk); have Hs := Lib.hid (hs.kp hk)
  have Hk := Lib.hid hk; have H1 := Lib.hid h1; have H2 := Lib.hid h2; have H3 := Lib.hid h3; have Hv := Lib.hid hv; have Hse := Lib.hid hse; have Hbd := Lib.hid hbd; have Hab := Lib.hid hab
  clear hk h1 h2 h3 hv h hs hse hbd hab
  go_enter Try.func28, Try.ntmps28
  go_wp2_with fail
  generalize (w.alloc (.cells #[.int .i64 ns, .int .i64 nc, .slice ma ms.length mc] 35)) = V at *
  refine (H1.out _ Hk.out).mono ?_
  rintro e w1 ⟨rfl, k1⟩
  have d2 := k1.cell c2
  have hb1 : w.heap.size < w1.heap.size := World.block_lt_of_cell? w1 _ d2
  have K1 := Lib.hid k1
  clear k1
  cases hx : sltB ns nc ms
  · rw [Hse.out, hx]
    go_wp2_with fail
    go_ret
    exact ⟨by rw [Hv.out, hx]; rfl, Hk.out.step K1.out⟩
  rw [Hse.out, hx]
  obtain ⟨hns, hm60, hev⟩ := Hbd.out hx
  have Hev := Lib.hid hev
  clear hev
  by_cases hl : ss.length = ms.length
  case neg =>
    have q1 : ((ss.length : Int) != (ms.length : Int)) = true := by rw [bne_iff_ne]; omega
    have Hz : Hid (areB ns ms ss = false) := Lib.hid (by rw [Hab.out, decide_eq_false hl]; rfl)
    clear hl
    go_wp2_with fail
    go_ret
    exact ⟨by rw [Hv.out, hx, Hz.out]; rfl, Hk.out.step K1.out⟩
  have q1 : ((ss.length : Int) != (ms.length : Int)) = false := by simp [hl]
  have hm2 : areB ns ms ss = allR ms.length (areAt ns ms ss) := by rw [Hab.out, decide_eq_true hl]; rfl
  have Hm2 := Lib.hid hm2
  have hA : ss.length ≤ ms.length := by omega
  have hB : ms.length ≤ ss.length := by omega
  clear hm2 Hab hl
  go_wp2_with fail
  go_loopw [6] (fun i wq => ∃ (k : Nat), k ≤ ss.length ∧ i = .int .i64 k ∧ Kp V wq ∧ Hid (∀ j, j < k → areAt ns ms ss j = true)) (fun i _ => ss.length - (intOf i).toNat)
  case atStart => exact ⟨0, Nat.zero_le _, rfl, K1.out, Lib.hid (fun j hj => by omega)⟩
  case round =>
    obtain ⟨w3, rfl⟩ : ∃ w3, w3 = wr := ⟨wr, rfl⟩
    obtain ⟨k, hk, rfl, kp, hno⟩ := hrel
    have x0 := kp.cell c0; have x1 := kp.cell c1; have x2 := kp.cell c2
    have Kq := Lib.hid (Hk.out.step kp)
    have hbl : w.heap.size < w3.heap.size := World.block_lt_of_cell? w3 _ x0
    by_cases hlt : k < ss.length
    case pos =>
      obtain ⟨b1, o1, rfl, hc1⟩ := (Hh.out.kp kp).cells (by omega)
      obtain ⟨e0, e1⟩ := hc1 k (by omega)
      obtain ⟨b2, o2, rfl, hc2⟩ := (Hs.out.kp kp).cells (by omega)
      obtain ⟨g0, g1⟩ := hc2 k (by omega)
      have i1 : (k : Int) < (ms.length : Int) := by omega
      have i2 : (k : Int) < (ss.length : Int) := by omega
      have hbad : areAt ns ms ss k = false → areB ns ms ss = false := fun hh => by rw [Hm2.out, allR_bad (by omega) hh]
      have hnext : areAt ns ms ss k = true → ∀ j, j < k + 1 → areAt ns ms ss j = true := fun hh j hj => by
        by_cases e : j = k
        · subst e; exact hh
        · exact hno.out j (by omega)
      have hmb : areAt ns ms ss k = (fromB 0 (gaAt ss k).1 (ns - 1) && fromB 0 (gaAt ss k).2 ((gaAt ms k).2 - 1)) := rfl
      have h4 := fun W => H2.out (gaAt ss k).1 (ns - 1) W
      have h5 := fun W => H2.out (gaAt ss k).2 ((gaAt ms k).2 - 1) W
      have hek := Hev.out k (by omega)
      have qa : wrap64 (ns - 1) = ns - 1 := wrap_in (by omega) (by omega)
      have qb : wrap64 ((gaAt ms k).2 - 1) = (gaAt ms k).2 - 1 := wrap_in (by omega) (by omega)
      have Hbad := Lib.hid hbad; have Hn := Lib.hid hnext; have Kv := Lib.hid kp
      clear hbad hnext hno hc1 hc2 kp c0 c1 c2 d2
      generalize areAt ns ms ss k = x at *
      generalize fromB 0 (gaAt ss k).1 (ns - 1) = bu at *
      generalize fromB 0 (gaAt ss k).2 ((gaAt ms k).2 - 1) = bv at *
      generalize gaAt ms k = f at *
      generalize gaAt ss k = g at *
      have Hmb := Lib.hid hmb
      have H4u := Lib.hid h4; have H5v := Lib.hid h5
      clear h4 h5 hmb
      obtain ⟨f1, f2⟩ := f
      obtain ⟨g1', g2'⟩ := g
      dsimp only at *
      cases bu
      · have Hz := Lib.hid (Hbad.out (by rw [Hmb.out]; rfl))
        go_wp2_with fail
        go_quiet ((go_at_call 41; first | with_reducible exact Calls.quiet_of_same ((H4u.out _).mono fun e w' h => ⟨h.1, h.2⟩) | with_reducible exact Calls.quiet_of_same ((H5v.out _).mono fun e w' h => ⟨h.1, h.2⟩) | with_reducible exact (H4u.out _).mono fun e w' h => ⟨h.1, _, h.2⟩ | with_reducible exact (H5v.out _).mono fun e w' h => ⟨h.1, _, h.2⟩))
        go_wp2_with fail
        go_ret
        exact ⟨by rw [Hv.out, hx, Hz.out]; rfl, Keeps.drewN Kq.out _⟩
      cases bv
      · have Hz := Lib.hid (Hbad.out (by rw [Hmb.out]; rfl))
        go_wp2_with fail
        go_quiet ((go_at_call 41; first | with_reducible exact Calls.quiet_of_same ((H4u.out _).mono fun e w' h => ⟨h.1, h.2⟩) | with_reducible exact Calls.quiet_of_same ((H5v.out _).mono fun e w' h => ⟨h.1, h.2⟩) | with_reducible exact (H4u.out _).mono fun e w' h => ⟨h.1, _, h.2⟩ | with_reducible exact (H5v.out _).mono fun e w' h => ⟨h.1, _, h.2⟩))
        go_wp2_with fail
        go_ret
        exact ⟨by rw [Hv.out, hx, Hz.out]; rfl, Keeps.drewN Kq.out _⟩
      · have Hz := Lib.hid (Hn.out (by rw [Hmb.out]; rfl))
        go_wp2_with fail
        go_quiet ((go_at_call 41; first | with_reducible exact Calls.quiet_of_same ((H4u.out _).mono fun e w' h => ⟨h.1, h.2⟩) | with_reducible exact Calls.quiet_of_same ((H5v.out _).mono fun e w' h => ⟨h.1, h.2⟩) | with_reducible exact (H4u.out _).mono fun e w' h => ⟨h.1, _, h.2⟩ | with_reducible exact (H5v.out _).mono fun e w' h => ⟨h.1, _, h.2⟩))
        go_wp2_with fail
        go_roundw
        case rel => exact ⟨k + 1, by omega, by go_num, Keeps.drewN Kv.out _, Hz⟩
        case measure => simp [intOf]; omega
    case neg =>
      obtain rfl : k = ss.length := by omega
      have hy : areB ns ms ss = true := by rw [Hm2.out]; exact allR_good (fun j hj => hno.out j (by omega))
      have hfr := H3.out hx hy
      have hv2 : chkV ns nc ms ss = if allR ms.length (freeR ms ss) = true then 0 else 44 := by rw [Hv.out, hx, hy]; rfl
      have Hfr := Lib.hid hfr; have Hv2 := Lib.hid hv2; have Kv := Lib.hid kp
      clear hno kp hy hfr hv2 H3 Hv d2 x0 x1 x2
      go_wp2_with fail
      go_loopw [7] (fun i wq => ∃ (k : Nat), k ≤ ss.length ∧ i = .int .i64 k ∧ Kp V wq ∧ Hid (∀ j, j < k → freeR ms ss j = true)) (fun i _ => ss.length - (intOf i).toNat)
      case atStart => exact ⟨0, Nat.zero_le _, rfl, Kv.out, Lib.hid (fun j hj => by omega)⟩
      case round =>
        obtain ⟨w4, rfl⟩ : ∃ w4, w4 = wr := ⟨wr, rfl⟩
        obtain ⟨k, hk, rfl, kp, hno⟩ := hrel
        have x0 := kp.cell c0; have x1 := kp.cell c1; have x2 := kp.cell c2
        have Kq := Lib.hid (Hk.out.step kp)
        have hbl : w.heap.size < w4.heap.size := World.block_lt_of_cell? w4 _ x0
        by_cases hlt : k < ss.length
        case neg =>
          obtain rfl : k = ss.length := by omega
          have Hz : Hid (chkV ns nc ms ss = 0) := Lib.hid (by rw [Hv2.out, if_pos (allR_good (fun j hj => hno.out j (by omega)))])
          clear hno kp
          go_wp2_with fail
          go_ret
          exact ⟨by rw [Hz.out]; rfl, Kq.out⟩
        case pos =>
          obtain ⟨b2, o2, rfl, hc2⟩ := (Hs.out.kp kp).cells (by omega)
          have i2 : (k : Int) < (ss.length : Int) := by omega
          have qa : wrap64 ((k : Int) + 1) = (k : Int) + 1 := wrap_in (by omega) (by omega)
          have qw : IntKind.i64.wrap ((k : Int) + 1) = (k : Int) + 1 := IntWalk.i64_in _ ⟨by omega, by omega⟩
          have i3 : (k : Int) + 1 ≤ (sc : Int) := by omega
          have i4 : (0 : Int) ≤ (k : Int) + 1 := by omega
          have i5 : ((k : Int) + 1).toNat = k + 1 := by omega
          have hf := fun c W (kW : Kp w W) => Hfr.out k (by omega) c W kW
          have hbad : freeR ms ss k = false → chkV ns nc ms ss = 44 := fun hh => by rw [Hv2.out, allR_bad (by omega) hh]; rfl
          have hnext : freeR ms ss k = true → ∀ j, j < k + 1 → freeR ms ss j = true := fun hh j hj => by
            by_cases e : j = k
            · subst e; exact hh
            · exact hno.out j (by omega)
          have Hf := Lib.hid hf; have Hbad := Lib.hid hbad; have Hn := Lib.hid hnext; have Kv4 := Lib.hid kp
          clear hf hbad hnext hno hc2 kp c0 c1 c2
          generalize freeR ms ss k = fr at *
          have hcall : ∀ c X, Kp w4 X → Calls Try.prog 54 #[.agg #[.int .i64 ns, .int .i64 nc, .slice ma ms.length mc], .slice (some ⟨b2, o2, none⟩) (k + 1) c] X fun e w' => e = .returned (.bool fr) ∧ Kp w4 w' := fun c X kX => (Hf.out c X (Kq.out.step kX)).mono fun e w' h => ⟨h.1, kX.step h.2⟩
          have Hcall := Lib.hid hcall
          clear hcall
          cases fr
          · have Hz := Lib.hid (Hbad.out rfl)
            go_wp2_with fail
            go_region_law (go_simp; go_at_call 54; (with_reducible refine (Hcall.out _ _ (by first | exact Kp.refl _ | exact Keeps.drew (Kp.refl _))).mono ?_); rintro e w6 ⟨rfl, k6⟩)
            all_goals
              go_simp
              go_wp2_with fail
              go_ret
              exact ⟨by rw [Hz.out]; rfl, Kq.out.step k6⟩
          · have Hz := Lib.hid (Hn.out rfl)
            go_wp2_with fail
            go_region_law (go_simp; go_at_call 54; (with_reducible refine (Hcall.out _ _ (by first | exact Kp.refl _ | exact Keeps.drew (Kp.refl _))).mono ?_); rintro e w6 ⟨rfl, k6⟩)
            all_goals
              have K6 := Lib.hid (Kv4.out.step k6)
              clear k6
              go_simp
              go_wp2_with fail
              go_roundw
              case rel => exact ⟨k + 1, by omega, by go_num, K6.out, Hz⟩
              case measure => simp [intOf]; omega
end Go.Proofs.Ytcelbmpdnkaamaa
