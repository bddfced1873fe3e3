/- busy and response. -/
import Derived.Test.YtcelbmpdnkaamaaBuP
namespace Go.Proofs.Ytcelbmpdnkaamaa
open Go Go.RowKit Go.WideMaps Go.Maps
set_option linter.unusedSimpArgs false
set_option linter.unusedVariables false

theorem enters_busy1 : Enters 94 := enter_of Try.func94 (by kernel_rfl) (by kernel_rfl)
theorem enters_resp1 : Enters 68 := enter_of Try.func68 (by kernel_rfl) (by kernel_rfl)

theorem rivBox_of {w : World} {aa : Option Addr} {ac : Nat} {ab : List Fr} {rest : Int} {f : Fr} (h : FramesAt w aa ab) :
    RivBox ((w.alloc (.cells #[.slice aa ab.length ac, .int .i64 rest] 65)).alloc (.cells #[.int .i64 f.s, .int .i64 f.e, .int .i64 f.j, .int .i64 f.d, .int .i64 f.r] 56)) w.heap.size (w.heap.size + 1) aa ac ab rest f := by
  have k1 := kp_alloc w (.cells #[.slice aa ab.length ac, .int .i64 rest] 65)
  have k2 := kp_alloc (w.alloc (.cells #[.slice aa ab.length ac, .int .i64 rest] 65)) (.cells #[.int .i64 f.s, .int .i64 f.e, .int .i64 f.j, .int .i64 f.d, .int .i64 f.r] 56)
  refine ⟨k2.cell (box0 _ _ _ _), k2.cell (box1 _ _ _ _), by simp, by simp, by simp, by simp, by simp, (h.kp k1).kp k2⟩

set_option maxRecDepth 100000 in
set_option maxHeartbeats 3200000 in
theorem busy_any (aa : Option Addr) (ac : Nat) (ab : List Fr) (rest : Int) (f : Fr) (w : World) (h : FramesAt w aa ab) (ok : RivOk f ab rest) :
    Calls Try.prog 65 #[.agg #[.slice aa ab.length ac, .int .i64 rest], frV f] w fun e w' => e = .returned (lfpV (lfp (busyG rest ab f) 1)) ∧ Kp w w' := by
  have hbx := rivBox_of (ac := ac) (rest := rest) (f := f) h
  have kp2 : Kp w ((w.alloc (.cells #[.slice aa ab.length ac, .int .i64 rest] 65)).alloc (.cells #[.int .i64 f.s, .int .i64 f.e, .int .i64 f.j, .int .i64 f.d, .int .i64 f.r] 56)) := (kp_alloc _ _).step (kp_alloc _ _)
  have hlc : ∀ W, Kp ((w.alloc (.cells #[.slice aa ab.length ac, .int .i64 rest] 65)).alloc (.cells #[.int .i64 f.s, .int .i64 f.e, .int .i64 f.j, .int .i64 f.d, .int .i64 f.r] 56)) W → Calls Try.prog 67 #[.int .i64 1, .func (Fn.func 94) #[] #[.pointer (some ⟨w.heap.size, 0, none⟩), .pointer (some ⟨w.heap.size + 1, 0, none⟩)]] W fun e w' => e = .returned (lfpV (lfp (busyG rest ab f) 1)) ∧ Kp W w' := fun W k =>
    least_any _ _ _ 1 W enters_busy1 (busy_up ok) (by omega) (by omega) (fun W2 n k2 h1 h2 => busy1_any _ _ aa ac ab rest f n W2 (hbx.kp (k.step k2)) ok h1 h2)
  have Hlc := Lib.hid hlc; have Kp2 := Lib.hid kp2
  clear hlc kp2 hbx h ok
  unfold frV
  generalize lfp (busyG rest ab f) 1 = R at *
  unfold lfpV at *
  go_enter Try.func65, Try.ntmps65
  go_wp2_with fail
  refine (Hlc.out _ (Kp.refl _)).mono ?_
  rintro e w1 ⟨rfl, kp1⟩
  go_wp2_with fail
  go_ret2
  exact ⟨rfl, Kp2.out.step kp1⟩

def optV (r : Option Int) : Value := .tuple #[.int .i64 (r.getD 0), .bool r.isSome]
theorem respTo_stop {rest : Int} {ab : List Fr} {f : Fr} {lim : Int} {q : Nat} (h : respTo rest ab f lim q = none) : ∀ d, respTo rest ab f lim (q + d) = none
  | 0 => h
  | d + 1 => by
    have e : respTo rest ab f lim (q + (d + 1)) = (respTo rest ab f lim (q + d)).bind (fun mb => (lfp (waitG rest ((q + d : Nat) : Int) ab f) mb.2).bind (fun w => if lim < max mb.1 (w + f.s + f.j - ((q + d : Nat) : Int) * f.e) then none else some (max mb.1 (w + f.s + f.j - ((q + d : Nat) : Int) * f.e), w + f.s))) := rfl
    rw [e, respTo_stop h d]; rfl

set_option maxRecDepth 100000 in
set_option maxHeartbeats 6400000 in
theorem response_any (aa : Option Addr) (ac : Nat) (ab : List Fr) (rest : Int) (f : Fr) (lim : Int) (w : World) (h : FramesAt w aa ab) (ok : RivOk f ab rest) :
    Calls Try.prog 40 #[.agg #[.slice aa ab.length ac, .int .i64 rest], frV f, .int .i64 lim] w fun e w' => e = .returned (optV (respOf rest ab f lim)) ∧ Kp w w' := by
  have hbx := rivBox_of (ac := ac) (rest := rest) (f := f) h
  have kp2 : Kp w ((w.alloc (.cells #[.slice aa ab.length ac, .int .i64 rest] 65)).alloc (.cells #[.int .i64 f.s, .int .i64 f.e, .int .i64 f.j, .int .i64 f.d, .int .i64 f.r] 56)) := (kp_alloc _ _).step (kp_alloc _ _)
  have hby := fun W (k : Kp w W) => busy_any aa ac ab rest f W (h.kp k) ok
  have hro : respOf rest ab f lim = (lfp (busyG rest ab f) 1).bind (fun t => (respTo rest ab f lim (upI (t + f.j) f.e).toNat).map (fun mb => mb.1)) := rfl
  have hls := fun t e => lfp_some (busy_up ok) (r := t) e
  have Hby := Lib.hid hby; have Kp2 := Lib.hid kp2; have Hro := Lib.hid hro; have Hok := Lib.hid ok; have Hbx := Lib.hid hbx; have Hls := Lib.hid hls
  have hok := ok
  clear hby kp2 hro ok h hls
  unfold frV at *
  go_enter Try.func40, Try.ntmps40
  go_wp2_with fail
  generalize ((w.alloc (.cells #[.slice aa ab.length ac, .int .i64 rest] 65)).alloc (.cells #[.int .i64 f.s, .int .i64 f.e, .int .i64 f.j, .int .i64 f.d, .int .i64 f.r] 56)) = V at *
  refine (Hby.out _ Kp2.out).mono ?_
  rintro e w1 ⟨rfl, kp1⟩
  have hb1 := hbx.kp kp1
  have c0 := hb1.r0; have c1 := hb1.r1; have d0 := hb1.f0; have d1 := hb1.f1; have d2 := hb1.f2
  have hw1 := kp1.size
  have bl0 : w.heap.size < w1.heap.size := World.block_lt_of_cell? w1 _ c0
  have bl1 : w.heap.size + 1 < w1.heap.size := World.block_lt_of_cell? w1 _ d0
  clear hb1 hbx
  cases hlf : lfp (busyG rest ab f) 1 with
  | none =>
    have He : Hid (respOf rest ab f lim = none) := Lib.hid (by rw [Hro.out, hlf]; rfl)
    unfold lfpV
    clear hlf
    go_wp2_with fail
    go_ret2
    exact ⟨by rw [He.out]; rfl, Kp2.out.step kp1⟩
  | some t =>
    have He : Hid (respOf rest ab f lim = (respTo rest ab f lim (upI (t + f.j) f.e).toNat).map (fun mb => mb.1)) := Lib.hid (by rw [Hro.out, hlf]; rfl)
    obtain ⟨t1, t2, _⟩ := Hls.out t hlf
    have hj := hok.fo.j; have hs := hok.fo.s; have he := hok.fo.e
    have hu := upT_bd hok.fo (t := t) (by omega) t2
    have hupc := fun W => up_any (t + f.j) f.e W (by omega) (by omega) (by omega) (by omega)
    have Hup := Lib.hid hupc; have Kq := Lib.hid kp1; have Hbx2 := Lib.hid (Hbx.out.kp kp1)
    unfold lfpV
    clear hlf hupc kp1 hok
    go_wp2_with fail
    go_quiet (fail)
    go_wp2_with fail
    refine (Hup.out _).mono ?_
    rintro e w2 ⟨rfl, rfl⟩
    generalize hU : upI (t + f.j) f.e = U at *
    have Hbx3 : Hid (RivBox (w1.drewN nq) w.heap.size (w.heap.size + 1) aa ac ab rest f) := Lib.hid (Hbx2.out.kp (Keeps.drewN (Kp.refl w1) nq))
    have K3 : Hid (Kp w (w1.drewN nq)) := Lib.hid (Keeps.drewN (Kp2.out.step Kq.out) nq)
    clear Hbx2 Kq c0 c1 d0 d1 d2 hw1 bl0 bl1 Hup hU
    generalize w1.drewN nq = w2 at *
    have bl0 : w.heap.size + 1 < w2.heap.size := World.block_lt_of_cell? w2 _ Hbx3.out.f0
    obtain ⟨n, rfl⟩ : ∃ n : Nat, U = n := ⟨U.toNat, by omega⟩
    rw [Int.toNat_natCast] at He
    go_wp2_with fail
    go_loopw [10, 11, 32] (fun vm vb i wq => ∃ (q : Nat) (m b : Int), q ≤ n ∧ i = .int .i64 q ∧ vm = .int .i64 m ∧ vb = .int .i64 b ∧ respTo rest ab f lim q = some (m, b) ∧ Kp w2 wq) (fun _ _ i _ => n - (intOf i).toNat)
    case atStart => exact ⟨0, 0, rest, Nat.zero_le _, rfl, rfl, rfl, rfl, Kp.refl _⟩
    case round =>
      obtain ⟨w4, rfl⟩ : ∃ w4, w4 = wr := ⟨wr, rfl⟩
      obtain ⟨q, m, b, hq, rfl, rfl, rfl, hrt, kp⟩ := hrel
      have hb1 := Hbx3.out.kp kp
      by_cases hlt : q < n
      · have bo := respTo_ok Hok.out q m b hrt
        have b0 := bo.b0; have b1 := bo.b1; have m0 := bo.m0; have m1 := bo.m1
        have i1 : (q : Int) < (n : Int) := by omega
        have kA := kp_alloc w4 (.cells #[.int .i64 (q : Int)] 3)
        have hqb : (w4.alloc (.cells #[.int .i64 (q : Int)] 3)).cell? ⟨w4.heap.size, 0, none⟩ = some (.int .i64 (q : Int)) := by simp
        have hlc : ∀ W, Kp (w4.alloc (.cells #[.int .i64 (q : Int)] 3)) W → Calls Try.prog 67 #[.int .i64 b, .func (Fn.func 68) #[] #[.pointer (some ⟨w.heap.size, 0, none⟩), .pointer (some ⟨w4.heap.size, 0, none⟩), .pointer (some ⟨w.heap.size + 1, 0, none⟩)]] W fun e w' => e = .returned (lfpV (lfp (waitG rest q ab f) b)) ∧ Kp W w' := fun W k =>
          least_any _ _ _ b W enters_resp1 bo.up b0 (by omega) (fun W2 x k2 h1 h2 => resp1_any _ _ _ aa ac ab rest q f x W2 (hb1.kp (kA.step (k.step k2))) ((k.step k2).cell hqb) Hok.out (by omega) h2 (by omega) (by omega))
        have hnx : respTo rest ab f lim (q + 1) = (respTo rest ab f lim q).bind (fun mb => (lfp (waitG rest q ab f) mb.2).bind (fun w => if lim < max mb.1 (w + f.s + f.j - q * f.e) then none else some (max mb.1 (w + f.s + f.j - q * f.e), w + f.s))) := rfl
        rw [hrt] at hnx
        simp only [Option.bind_some] at hnx
        have hsome := fun x e => lfp_some bo.up (r := x) e
        have hst := respTo_stop (rest := rest) (ab := ab) (f := f) (lim := lim) (q := q + 1)
        have c0 := hb1.f0; have c1 := hb1.f1; have c2 := hb1.f2
        have bl4 : w.heap.size + 1 < w4.heap.size := World.block_lt_of_cell? w4 _ c0
        have bl5 : w.heap.size < w4.heap.size := by omega
        have hpr : 0 ≤ (q : Int) * f.e ∧ (q : Int) * f.e ≤ 1100000 * 100000 := ⟨Int.mul_nonneg (by omega) (by omega), Int.mul_le_mul (by omega) (by omega) (by omega) (by omega)⟩
        have Hlc := Lib.hid hlc; have Hnx := Lib.hid hnx; have Hsome := Lib.hid hsome; have Hst := Lib.hid hst; have Kq := Lib.hid kp; have KA := Lib.hid kA
        clear hlc hnx hsome hst kp kA hqb hb1 bo hrt
        go_wp2_with fail
        refine (Hlc.out _ (Kp.refl _)).mono ?_
        rintro e w5 ⟨rfl, kp5⟩
        have c0' := kp5.cell (KA.out.cell c0)
        have c1' := kp5.cell (KA.out.cell c1)
        have c2' := kp5.cell (KA.out.cell c2)
        have cq' : w5.cell? ⟨w4.heap.size, 0, none⟩ = some (.int .i64 (q : Int)) := kp5.cell (by simp)
        have K5 := Lib.hid (Kq.out.step (KA.out.step kp5))
        clear kp5 c0 c1 c2 KA Kq
        generalize hQE : (q : Int) * f.e = QE at *
        have hqw : wrap64 ((q : Int) * f.e) = QE := by rw [hQE]; exact wrap_in (by omega) (by omega)
        have HQE := Lib.hid hQE
        clear hQE
        cases hlf : lfp (waitG rest q ab f) b with
        | none =>
          have h1 := Hst.out (by rw [Hnx.out, hlf]; rfl) (n - (q + 1))
          rw [show q + 1 + (n - (q + 1)) = n by omega] at h1
          have Hf : Hid (respOf rest ab f lim = none) := Lib.hid (by rw [He.out, h1]; rfl)
          unfold lfpV
          clear hlf h1
          by_cases hmx : m < f.s + f.j - QE
          all_goals
            go_wp2_with fail
            go_ret2
            exact ⟨by rw [Hf.out]; rfl, K3.out.step K5.out⟩
        | some x =>
          obtain ⟨x1, x2, x3⟩ := Hsome.out x hlf
          have hn2 := Hnx.out
          rw [hlf] at hn2
          simp only [Option.bind_some] at hn2
          unfold lfpV
          clear hlf x3
          by_cases hmx : m < x + f.s + f.j - QE
          · have hmax : max m (x + f.s + f.j - QE) = x + f.s + f.j - QE := by omega
            rw [hmax] at hn2
            clear hmax
            by_cases hl : lim < x + f.s + f.j - QE
            · rw [if_pos hl] at hn2
              have h1 := Hst.out hn2 (n - (q + 1))
              rw [show q + 1 + (n - (q + 1)) = n by omega] at h1
              have Hf : Hid (respOf rest ab f lim = none) := Lib.hid (by rw [He.out, h1]; rfl)
              have ql : decide (lim < x + f.s + f.j - QE) = true := decide_eq_true hl
              clear hn2 h1
              go_wp2_with fail
              go_ret2
              exact ⟨by rw [Hf.out]; rfl, K3.out.step K5.out⟩
            · rw [if_neg hl] at hn2
              have Hn2 := Lib.hid hn2
              have ql : decide (lim < x + f.s + f.j - QE) = false := decide_eq_false hl
              clear hn2
              go_wp2_with fail
              go_roundw
              case rel => exact ⟨q + 1, x + f.s + f.j - QE, x + f.s, by omega, by go_num, rfl, rfl, Hn2.out, K5.out⟩
              case measure => simp [intOf]; omega
          · have hmax : max m (x + f.s + f.j - QE) = m := by omega
            rw [hmax] at hn2
            clear hmax
            by_cases hl : lim < m
            · rw [if_pos hl] at hn2
              have h1 := Hst.out hn2 (n - (q + 1))
              rw [show q + 1 + (n - (q + 1)) = n by omega] at h1
              have Hf : Hid (respOf rest ab f lim = none) := Lib.hid (by rw [He.out, h1]; rfl)
              have ql : decide (lim < m) = true := decide_eq_true hl
              clear hn2 h1
              go_wp2_with fail
              go_ret2
              exact ⟨by rw [Hf.out]; rfl, K3.out.step K5.out⟩
            · rw [if_neg hl] at hn2
              have Hn2 := Lib.hid hn2
              have ql : decide (lim < m) = false := decide_eq_false hl
              clear hn2
              go_wp2_with fail
              go_roundw
              case rel => exact ⟨q + 1, m, x + f.s, by omega, by go_num, rfl, rfl, Hn2.out, K5.out⟩
              case measure => simp [intOf]; omega
      · obtain rfl : q = n := by omega
        have Hf : Hid (respOf rest ab f lim = some m) := Lib.hid (by rw [He.out, hrt]; rfl)
        have Kq := Lib.hid kp
        clear hrt kp hb1
        go_wp2_with fail
        go_ret2
        exact ⟨by rw [Hf.out]; rfl, K3.out.step Kq.out⟩
end Go.Proofs.Ytcelbmpdnkaamaa
