/- areSlots; isFree, with; the reference's clash and free. -/
import Derived.Test.YtcelbmpdnkaamaaBsB
namespace Go.Proofs.Ytcelbmpdnkaamaa
open Go Go.RowKit Go.WideMaps Go.Maps
set_option linter.unusedSimpArgs false
set_option linter.unusedVariables false

def areAt (ns : Int) (ms ss : List Ga) (i : Nat) : Bool := fromB 0 (gaAt ss i).1 (ns - 1) && fromB 0 (gaAt ss i).2 ((gaAt ms i).2 - 1)
def areB (ns : Int) (ms ss : List Ga) : Bool := decide (ss.length = ms.length) && allR ms.length (areAt ns ms ss)

set_option maxRecDepth 100000 in
set_option maxHeartbeats 3200000 in
theorem areSlots_any (ns nc : Int) (ma sa : Option Addr) (mc sc : Nat) (ms ss : List Ga) (w : World) (h : GatesAt w ma ms) (hs : GatesAt w sa ss) :
    Calls Try.prog 52 #[.agg #[.int .i64 ns, .int .i64 nc, .slice ma ms.length mc], .slice sa ss.length sc] w fun e w' => e = .returned (.bool (areB ns ms ss)) ∧ Kp w w' := by
  have hl1 := h.len
  have hl2 := hs.len
  unfold maxLen at hl1 hl2
  have hk := kp_alloc w (.cells #[.int .i64 ns, .int .i64 nc, .slice ma ms.length mc] 35)
  have c0 : (w.alloc (.cells #[.int .i64 ns, .int .i64 nc, .slice ma ms.length mc] 35)).cell? ⟨w.heap.size, 0, none⟩ = some (.int .i64 ns) := by simp
  have c2 : (w.alloc (.cells #[.int .i64 ns, .int .i64 nc, .slice ma ms.length mc] 35)).cell? ⟨w.heap.size, 2, none⟩ = some (.slice ma ms.length mc) := by simp
  have hm : areB ns ms ss = (decide (ss.length = ms.length) && allR ms.length (areAt ns ms ss)) := rfl
  have h1 := fun x y W => isOf_any x y W
  have Hh := Lib.hid (h.kp hk); have Hs := Lib.hid (hs.kp hk)
  have H1 := Lib.hid h1; have Hk := Lib.hid hk; have Hm := Lib.hid hm
  clear h1 hk hm h hs
  by_cases hl : ss.length = ms.length
  case neg =>
    have q1 : ((ss.length : Int) != (ms.length : Int)) = true := by rw [bne_iff_ne]; omega
    have Hz : Hid (areB ns ms ss = false) := Lib.hid (by rw [Hm.out, decide_eq_false hl]; rfl)
    clear hl
    go_enter Try.func52, Try.ntmps52
    go_wp2_with fail
    go_ret
    exact ⟨by rw [Hz.out]; rfl, Hk.out⟩
  have q1 : ((ss.length : Int) != (ms.length : Int)) = false := by simp [hl]
  have hm2 : areB ns ms ss = allR ms.length (areAt ns ms ss) := by rw [Hm.out, decide_eq_true hl]; rfl
  have Hm2 := Lib.hid hm2
  clear hm2 Hm
  go_enter Try.func52, Try.ntmps52
  go_wp2_with fail
  generalize (w.alloc (.cells #[.int .i64 ns, .int .i64 nc, .slice ma ms.length mc] 35)) = V at *
  go_loopw [16] (fun i wq => ∃ (k : Nat), k ≤ ms.length ∧ i = .int .i64 k ∧ Kp V wq ∧ Hid (∀ j, j < k → areAt ns ms ss j = true)) (fun i _ => ms.length - (intOf i).toNat)
  case atStart => exact ⟨0, Nat.zero_le _, rfl, Kp.refl _, Lib.hid (fun j hj => by omega)⟩
  case round =>
    obtain ⟨w3, rfl⟩ : ∃ w3, w3 = wr := ⟨wr, rfl⟩
    obtain ⟨k, hk, rfl, kp, hno⟩ := hrel
    have d0 := kp.cell c0; have d2 := kp.cell c2
    have Kq := Lib.hid (Hk.out.step kp)
    by_cases hlt : k < ms.length
    case neg =>
      obtain rfl : k = ms.length := by omega
      have Hz : Hid (areB ns ms ss = true) := Lib.hid (by rw [Hm2.out, allR_good hno.out])
      clear hno kp
      go_wp2_with fail
      go_ret
      exact ⟨by rw [Hz.out]; rfl, Kq.out⟩
    case pos =>
      obtain ⟨b1, o1, rfl, hc1⟩ := (Hh.out.kp kp).cells (by omega)
      obtain ⟨e0, e1⟩ := hc1 k hlt
      obtain ⟨b2, o2, rfl, hc2⟩ := (Hs.out.kp kp).cells (by omega)
      obtain ⟨g0, g1⟩ := hc2 k (by omega)
      have i1 : (k : Int) < (ms.length : Int) := by omega
      have i2 : (k : Int) < (ss.length : Int) := by omega
      have ka := kp_alloc w3 (.cells #[.int .i64 (gaAt ms k).1, .int .i64 (gaAt ms k).2] 82)
      have x0 := ka.cell d0; have x2 := ka.cell d2; have y0 := ka.cell g0; have y1 := ka.cell g1
      have z1 : (w3.alloc (.cells #[.int .i64 (gaAt ms k).1, .int .i64 (gaAt ms k).2] 82)).cell? ⟨w3.heap.size, 1, none⟩ = some (.int .i64 (gaAt ms k).2) := by simp
      have hbl : w.heap.size < w3.heap.size := World.block_lt_of_cell? w3 _ d0
      have hbad : areAt ns ms ss k = false → areB ns ms ss = false := fun hh => by rw [Hm2.out, allR_bad hlt hh]
      have hnext : areAt ns ms ss k = true → ∀ j, j < k + 1 → areAt ns ms ss j = true := fun hh j hj => by
        by_cases e : j = k
        · subst e; exact hh
        · exact hno.out j (by omega)
      have hmb : areAt ns ms ss k = (fromB 0 (gaAt ss k).1 (ns - 1) && fromB 0 (gaAt ss k).2 ((gaAt ms k).2 - 1)) := rfl
      have h4 := fun W => H1.out (gaAt ss k).1 ns W
      have h5 := fun W => H1.out (gaAt ss k).2 (gaAt ms k).2 W
      have Hbad := Lib.hid hbad; have Hn := Lib.hid hnext
      have Kp2 := Lib.hid (kp.step ka); have Kp3 := Lib.hid (Kq.out.step ka)
      clear hbad hnext hno hc1 hc2 kp ka d0 d2 g0 g1
      generalize areAt ns ms ss k = x at *
      generalize fromB 0 (gaAt ss k).1 (ns - 1) = bu at *
      generalize fromB 0 (gaAt ss k).2 ((gaAt ms k).2 - 1) = bv at *
      generalize gaAt ms k = f at *
      generalize gaAt ss k = g at *
      have Hmb := Lib.hid hmb
      have H4u := Lib.hid h4; have H5v := Lib.hid h5
      clear h4 h5 hmb
      obtain ⟨f1, f2⟩ := f
      obtain ⟨g1', g2'⟩ := g
      dsimp only at *
      cases bu
      · have Hz := Lib.hid (Hbad.out (by rw [Hmb.out]; rfl))
        go_wp2_with fail
        generalize (w3.alloc (.cells #[.int .i64 f1, .int .i64 f2] 82)) = W at *
        have hb2 : w3.heap.size < W.heap.size := World.block_lt_of_cell? W _ z1
        have hb3 : w.heap.size < W.heap.size := by omega
        go_quiet ((go_at_call 38; first | with_reducible exact Calls.quiet_of_same ((H4u.out _).mono fun e w' h => ⟨h.1, h.2⟩) | with_reducible exact Calls.quiet_of_same ((H5v.out _).mono fun e w' h => ⟨h.1, h.2⟩) | with_reducible exact (H4u.out _).mono fun e w' h => ⟨h.1, _, h.2⟩ | with_reducible exact (H5v.out _).mono fun e w' h => ⟨h.1, _, h.2⟩))
        go_wp2_with fail
        go_ret
        exact ⟨by rw [Hz.out]; rfl, Keeps.drewN Kp3.out _⟩
      cases bv
      · have Hz := Lib.hid (Hbad.out (by rw [Hmb.out]; rfl))
        go_wp2_with fail
        generalize (w3.alloc (.cells #[.int .i64 f1, .int .i64 f2] 82)) = W at *
        have hb2 : w3.heap.size < W.heap.size := World.block_lt_of_cell? W _ z1
        have hb3 : w.heap.size < W.heap.size := by omega
        go_quiet ((go_at_call 38; first | with_reducible exact Calls.quiet_of_same ((H4u.out _).mono fun e w' h => ⟨h.1, h.2⟩) | with_reducible exact Calls.quiet_of_same ((H5v.out _).mono fun e w' h => ⟨h.1, h.2⟩) | with_reducible exact (H4u.out _).mono fun e w' h => ⟨h.1, _, h.2⟩ | with_reducible exact (H5v.out _).mono fun e w' h => ⟨h.1, _, h.2⟩))
        go_wp2_with fail
        go_ret
        exact ⟨by rw [Hz.out]; rfl, Keeps.drewN Kp3.out _⟩
      · have Hz := Lib.hid (Hn.out (by rw [Hmb.out]; rfl))
        go_wp2_with fail
        generalize (w3.alloc (.cells #[.int .i64 f1, .int .i64 f2] 82)) = W at *
        have hb2 : w3.heap.size < W.heap.size := World.block_lt_of_cell? W _ z1
        have hb3 : w.heap.size < W.heap.size := by omega
        go_quiet ((go_at_call 38; first | with_reducible exact Calls.quiet_of_same ((H4u.out _).mono fun e w' h => ⟨h.1, h.2⟩) | with_reducible exact Calls.quiet_of_same ((H5v.out _).mono fun e w' h => ⟨h.1, h.2⟩) | with_reducible exact (H4u.out _).mono fun e w' h => ⟨h.1, _, h.2⟩ | with_reducible exact (H5v.out _).mono fun e w' h => ⟨h.1, _, h.2⟩))
        go_wp2_with fail
        go_roundw
        case rel => exact ⟨k + 1, by omega, by go_num, Keeps.drewN Kp2.out _, Hz⟩
        case measure => simp [intOf]; omega

def freeRow (rs : Int) (rc : Nat) (sender : Int) (m : Nat) : Bool := rc == 0 || (rs == sender && rc &&& m == 0)
set_option maxRecDepth 100000 in
set_option maxHeartbeats 1600000 in
theorem isFree_any (rs : Int) (rc m : Nat) (sender : Int) (w : World) (h1 : rc < 18446744073709551616) (h2 : m < 18446744073709551616) :
    Calls Try.prog 81 #[.agg #[.int .i64 rs, .int .u64 (rc : Int)], .int .i64 sender, .int .u64 (m : Int)] w fun e w' => e = .returned (.bool (freeRow rs rc sender m)) ∧ Kp w w' := by
  have hk := kp_alloc w (.cells #[.int .i64 rs, .int .u64 (rc : Int)] 104)
  have hb := bits_and_u64_nat rc m h1 h2
  have hf : freeRow rs rc sender m = (rc == 0 || (rs == sender && rc &&& m == 0)) := rfl
  have Hk := Lib.hid hk; have Hf := Lib.hid hf
  clear hk hf
  have e0 : ((rc : Int) == 0) = (rc == 0) := by
    rw [Bool.eq_iff_iff]; simp
  have e1 : (((rc &&& m : Nat) : Int) == 0) = (rc &&& m == 0) := by
    rw [Bool.eq_iff_iff]; simp only [beq_iff_eq]; omega
  have E1 := Lib.hid e1; have Hb := Lib.hid hb
  clear e1 hb
  cases hx : (rc == 0)
  · rw [hx] at e0
    cases hy : (rs == sender)
    · go_enter Try.func81, Try.ntmps81
      go_wp2_with fail
      go_ret
      exact ⟨by rw [Hf.out, hx, hy]; rfl, Hk.out⟩
    · go_enter Try.func81, Try.ntmps81
      go_wp2_with fail
      go_ret
      refine ⟨?_, Hk.out⟩
      rw [Hf.out, hx, hy, ← E1.out, ← Hb.out]; rfl
  · rw [hx] at e0
    go_enter Try.func81, Try.ntmps81
    go_wp2_with fail
    go_ret
    exact ⟨by rw [Hf.out, hx]; rfl, Hk.out⟩

set_option maxRecDepth 100000 in
set_option maxHeartbeats 1600000 in
theorem with_any (rs : Int) (rc m : Nat) (sender : Int) (w : World) (h1 : rc < 18446744073709551616) (h2 : m < 18446744073709551616) :
    Calls Try.prog 82 #[.agg #[.int .i64 rs, .int .u64 (rc : Int)], .int .i64 sender, .int .u64 (m : Int)] w fun e w' => e = .returned (.agg #[.int .i64 sender, .int .u64 ((rc ||| m : Nat) : Int)]) ∧ Kp w w' := by
  have hb := bits_or_u64_nat rc m h1 h2
  have Hb := Lib.hid hb
  clear hb
  go_enter Try.func82, Try.ntmps82
  go_wp2_with fail
  refine bodyPost_ret (v := .agg #[.int .i64 sender, .int .u64 ((rc ||| m : Nat) : Int)]) ?_ rfl ⟨rfl, (kp_alloc _ _).step (kp_alloc _ _)⟩
  simp [results, Try.results82, go_sem, Hb.out]

/-! ### The reference -/
def clR (a b x y : Ga) : Bool := (x.1 == y.1) && ((a.1 != b.1) || ((x.2 - y.2).tmod (min a.2 b.2) == 0))
def freeAt (ms ss : List Ga) (n i : Nat) : Bool := !clR (gaAt ms i) (gaAt ms n) (gaAt ss i) (gaAt ss n)
def freeR (ms ss : List Ga) (n : Nat) : Bool := allR n (freeAt ms ss n)
set_option maxRecDepth 100000 in
set_option maxHeartbeats 1600000 in
theorem refClash_any (a b x y : Ga) (w : World) (ha : 1 ≤ a.2 ∧ a.2 ≤ 64) (hb : 1 ≤ b.2 ∧ b.2 ≤ 64) (hx : 0 ≤ x.2 ∧ x.2 ≤ 64) (hy : 0 ≤ y.2 ∧ y.2 ≤ 64) :
    Calls Try.prog 83 #[.agg #[.int .i64 a.1, .int .i64 a.2], .agg #[.int .i64 b.1, .int .i64 b.2], .agg #[.int .i64 x.1, .int .i64 x.2], .agg #[.int .i64 y.1, .int .i64 y.2]] w fun e w' => e = .returned (.bool (clR a b x y)) ∧ Kp w w' := by
  obtain ⟨a1, a2⟩ := a
  obtain ⟨b1, b2⟩ := b
  obtain ⟨x1, x2⟩ := x
  obtain ⟨y1, y2⟩ := y
  dsimp only at *
  have hk := (((kp_alloc w (.cells #[.int .i64 a1, .int .i64 a2] 82)).step (kp_alloc _ (.cells #[.int .i64 b1, .int .i64 b2] 82))).step (kp_alloc _ (.cells #[.int .i64 x1, .int .i64 x2] 80))).step (kp_alloc _ (.cells #[.int .i64 y1, .int .i64 y2] 80))
  have hf : clR (a1, a2) (b1, b2) (x1, x2) (y1, y2) = ((x1 == y1) && ((a1 != b1) || ((x2 - y2).tmod (min a2 b2) == 0))) := rfl
  have q1 : wrap64 (x2 - y2) = x2 - y2 := wrap_in (by omega) (by omega)
  have Hk := Lib.hid hk; have Hf := Lib.hid hf
  clear hk hf
  cases h1 : (x1 == y1)
  · have q2 : (x1 != y1) = true := by simpa using h1
    go_enter Try.func83, Try.ntmps83
    go_wp2_with fail
    go_ret
    exact ⟨by rw [Hf.out, h1]; rfl, Hk.out⟩
  · have q2 : (x1 != y1) = false := by simpa using h1
    cases h2 : (a1 != b1)
    case true =>
      go_enter Try.func83, Try.ntmps83
      go_wp2_with fail
      go_ret
      exact ⟨by rw [Hf.out, h1, h2]; rfl, Hk.out⟩
    case false =>
      by_cases h3 : b2 < a2
      · have hm : min a2 b2 = b2 := by omega
        rw [hm] at Hf
        clear hm
        go_enter Try.func83, Try.ntmps83
        go_wp2_with fail
        go_ret
        exact ⟨by rw [Hf.out, h1, h2]; rfl, Hk.out⟩
      · have hm : min a2 b2 = a2 := by omega
        rw [hm] at Hf
        clear hm
        go_enter Try.func83, Try.ntmps83
        go_wp2_with fail
        go_ret
        exact ⟨by rw [Hf.out, h1, h2]; rfl, Hk.out⟩
end Go.Proofs.Ytcelbmpdnkaamaa
