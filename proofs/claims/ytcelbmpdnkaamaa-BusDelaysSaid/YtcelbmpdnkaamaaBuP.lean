/- How long the bus is busy; the closures of response. -/
import Derived.Test.YtcelbmpdnkaamaaBuO
namespace Go.Proofs.Ytcelbmpdnkaamaa
open Go Go.RowKit Go.WideMaps Go.Maps
set_option linter.unusedSimpArgs false
set_option linter.unusedVariables false

/-- Rivals and a frame in their boxes. -/
structure RivBox (w : World) (rb fb : Nat) (aa : Option Addr) (ac : Nat) (ab : List Fr) (rest : Int) (f : Fr) : Prop where
  r0 : w.cell? ⟨rb, 0, none⟩ = some (.slice aa ab.length ac)
  r1 : w.cell? ⟨rb, 1, none⟩ = some (.int .i64 rest)
  f0 : w.cell? ⟨fb, 0, none⟩ = some (.int .i64 f.s)
  f1 : w.cell? ⟨fb, 1, none⟩ = some (.int .i64 f.e)
  f2 : w.cell? ⟨fb, 2, none⟩ = some (.int .i64 f.j)
  f3 : w.cell? ⟨fb, 3, none⟩ = some (.int .i64 f.d)
  f4 : w.cell? ⟨fb, 4, none⟩ = some (.int .i64 f.r)
  at' : FramesAt w aa ab
theorem RivBox.kp {w w' : World} {rb fb : Nat} {aa : Option Addr} {ac : Nat} {ab : List Fr} {rest : Int} {f : Fr} (h : RivBox w rb fb aa ac ab rest f) (k : Kp w w') : RivBox w' rb fb aa ac ab rest f :=
  ⟨k.cell h.r0, k.cell h.r1, k.cell h.f0, k.cell h.f1, k.cell h.f2, k.cell h.f3, k.cell h.f4, h.at'.kp k⟩
theorem wrap_in {x : Int} (h1 : -9223372036854775808 ≤ x) (h2 : x ≤ 9223372036854775807) : wrap64 x = x := (IntWalk.i64_left _).symm.trans (IntWalk.i64_in _ ⟨h1, h2⟩)

set_option maxRecDepth 100000 in
set_option maxHeartbeats 3200000 in
theorem busy1_any (rb fb : Nat) (aa : Option Addr) (ac : Nat) (ab : List Fr) (rest : Int) (f : Fr) (t : Int) (w : World) (h : RivBox w rb fb aa ac ab rest f) (ok : RivOk f ab rest) (h1 : 1 ≤ t) (h2 : t ≤ 1000000) :
    Calls Try.prog 94 #[.int .i64 t, .pointer (some ⟨rb, 0, none⟩), .pointer (some ⟨fb, 0, none⟩)] w fun e w' => e = .returned (.int .i64 (busyG rest ab f t)) ∧ Kp w w' := by
  have c0 := h.r0; have c1 := h.r1; have d0 := h.f0; have d1 := h.f1; have d2 := h.f2
  have hrb : rb < w.heap.size := World.block_lt_of_cell? w _ c0
  have hfb : fb < w.heap.size := World.block_lt_of_cell? w _ d0
  have hro := ok.ro
  have hj := ok.fo.j; have he := ok.fo.e; have hs := ok.fo.s
  have hu := upT_bd ok.fo (t := t) (by omega) h2
  have hn := ok.n
  have hbg : busyG rest ab f t = rest + upT f t + sumN (fun k => upT (frAt ab k) t) ab.length := rfl
  have hut : upT f t = upI (t + f.j) f.e * f.s := rfl
  have hup := fun W => up_any (t + f.j) f.e W (by omega) (by omega) (by omega) (by omega)
  have hsum := fun m (hm : m ≤ ab.length) => sumN_le (f := fun k => upT (frAt ab k) t) (n := m) (b := 1100000000) (fun j hj => (upT_bd (ok.abo j (by omega)) (by omega) h2).2.2)
  have hA := h.at'
  have HA := Lib.hid hA; have Hok := Lib.hid ok.abo; have Hbg := Lib.hid hbg; have Hup := Lib.hid hup; have Hsum := Lib.hid hsum
  clear hA h ok hbg hup hsum
  generalize f.s = s at *
  generalize f.e = e at *
  generalize f.j = j at *
  generalize hU : upI (t + j) e = U at *
  generalize upT f t = P at *
  have q1 : wrap64 (t + j) = t + j := wrap_in (by omega) (by omega)
  have q2 : wrap64 (U * s) = P := by rw [← hut]; exact wrap_in (by omega) (by omega)
  have q3 : wrap64 (rest + P) = rest + P := wrap_in (by omega) (by omega)
  clear hut
  go_enter Try.func94, Try.ntmps94
  go_wp2_with fail
  go_quiet ((go_at_call 66; exact Calls.quiet_of_same ((Hup.out _).mono fun e w' h => ⟨h.1, h.2⟩)))
  go_wp2_with fail
  go_loopw [5, 24] (fun sm i wq => ∃ (m : Nat), m ≤ ab.length ∧ i = .int .i64 m ∧ sm = .int .i64 (rest + P + sumN (fun k => upT (frAt ab k) t) m) ∧ Kp w wq) (fun _ i _ => ab.length - (intOf i).toNat)
  case atStart => exact ⟨0, Nat.zero_le _, rfl, by simp [sumN], Keeps.drewN (Kp.refl w) _⟩
  case round =>
    obtain ⟨m, hm, rfl, rfl, kp⟩ := hrel
    have hsm := Hsum.out m hm
    by_cases hlt : m < ab.length
    · obtain ⟨b1, o1, rfl, hc1⟩ := (HA.out.kp kp).cells (by omega)
      obtain ⟨e0, e1, e2, e3, e4⟩ := hc1 m hlt
      have i1 : (m : Int) < (ab.length : Int) := by omega
      have fo := Hok.out m hlt
      have hj' := fo.j; have he' := fo.e; have hs' := fo.s
      have hu' := upT_bd fo (t := t) (by omega) h2
      have hup := fun W => up_any (t + (frAt ab m).j) (frAt ab m).e W (by omega) (by omega) (by omega) (by omega)
      have hut : upT (frAt ab m) t = upI (t + (frAt ab m).j) (frAt ab m).e * (frAt ab m).s := rfl
      have hsn : sumN (fun k => upT (frAt ab k) t) (m + 1) = sumN (fun k => upT (frAt ab k) t) m + upT (frAt ab m) t := rfl
      have kpa : Kp w (wr.alloc (.cells #[.int .i64 (frAt ab m).s, .int .i64 (frAt ab m).e, .int .i64 (frAt ab m).j, .int .i64 (frAt ab m).d, .int .i64 (frAt ab m).r] 56)) := kp.step (kp_alloc _ _)
      have Hup' := Lib.hid hup; have Hsn := Lib.hid hsn; have Kpa := Lib.hid kpa
      clear hup hsn fo hc1 kp kpa
      generalize sumN (fun k => upT (frAt ab k) t) m = S at *
      generalize upT (frAt ab m) t = P' at *
      generalize (frAt ab m).s = s' at *
      generalize (frAt ab m).e = e' at *
      generalize (frAt ab m).j = j' at *
      generalize (frAt ab m).d = d' at *
      generalize (frAt ab m).r = r' at *
      generalize hU' : upI (t + j') e' = U' at *
      have q1' : wrap64 (t + j') = t + j' := wrap_in (by omega) (by omega)
      have q2' : wrap64 (U' * s') = P' := by rw [← hut]; exact wrap_in (by omega) (by omega)
      have q3' : wrap64 (rest + P + S + P') = rest + P + S + P' := wrap_in (by omega) (by omega)
      clear hut q1 q2 q3
      go_wp2_with fail
      go_quiet ((go_at_call 66; exact Calls.quiet_of_same ((Hup'.out _).mono fun e w' h => ⟨h.1, h.2⟩)))
      go_wp2_with fail
      go_roundw
      case rel => exact ⟨m + 1, by omega, by go_num, by rw [Hsn.out, Int.add_assoc (rest + P)], Keeps.drewN Kpa.out _⟩
      case measure => simp [intOf]; omega
    · obtain rfl : m = ab.length := by omega
      go_wp2_with fail
      go_ret
      exact ⟨by rw [Hbg.out]; rfl, kp⟩

set_option maxRecDepth 100000 in
set_option maxHeartbeats 3200000 in
theorem resp1_any (rb qb fb : Nat) (aa : Option Addr) (ac : Nat) (ab : List Fr) (rest q : Int) (f : Fr) (x : Int) (w : World) (h : RivBox w rb fb aa ac ab rest f) (hq : w.cell? ⟨qb, 0, none⟩ = some (.int .i64 q)) (ok : RivOk f ab rest) (h1 : 0 ≤ x) (h2 : x ≤ 1000000) (hq1 : 0 ≤ q) (hq2 : q ≤ 2000000) :
    Calls Try.prog 68 #[.int .i64 x, .pointer (some ⟨rb, 0, none⟩), .pointer (some ⟨qb, 0, none⟩), .pointer (some ⟨fb, 0, none⟩)] w fun e w' => e = .returned (.int .i64 (waitG rest q ab f x)) ∧ Kp w w' := by
  have c0 := h.r0; have c1 := h.r1; have d0 := h.f0
  have hrb : rb < w.heap.size := World.block_lt_of_cell? w _ c0
  have hfb : fb < w.heap.size := World.block_lt_of_cell? w _ d0
  have hqb : qb < w.heap.size := World.block_lt_of_cell? w _ hq
  have hro := ok.ro
  have hs := ok.fo.s
  have hn := ok.n
  have hpr := prod_bd hq1 hq2 hs.1 hs.2
  have hbg : waitG rest q ab f x = rest + q * f.s + sumN (fun k => wtT (frAt ab k) x) ab.length := rfl
  have hsum := fun m (hm : m ≤ ab.length) => sumN_le (f := fun k => wtT (frAt ab k) x) (n := m) (b := 1100001000) (fun j hj => (wtT_bd (ok.abo j (by omega)) h1 h2).2.2)
  have hA := h.at'
  have HA := Lib.hid hA; have Hok := Lib.hid ok.abo; have Hbg := Lib.hid hbg; have Hsum := Lib.hid hsum
  clear hA h ok hbg hsum
  generalize f.s = s at *
  have q2 : wrap64 (q * s) = q * s := wrap_in (by omega) (by omega)
  have q3 : wrap64 (rest + q * s) = rest + q * s := wrap_in (by omega) (by omega)
  generalize hP : q * s = P at *
  have HP := Lib.hid hP
  clear hP
  go_enter Try.func68, Try.ntmps68
  go_wp2_with fail
  go_loopw [6, 19] (fun sm i wq => ∃ (m : Nat), m ≤ ab.length ∧ i = .int .i64 m ∧ sm = .int .i64 (rest + P + sumN (fun k => wtT (frAt ab k) x) m) ∧ Kp w wq) (fun _ i _ => ab.length - (intOf i).toNat)
  case atStart => exact ⟨0, Nat.zero_le _, rfl, by rw [HP.out, q2, q3]; simp [sumN], Kp.refl w⟩
  case round =>
    obtain ⟨m, hm, rfl, rfl, kp⟩ := hrel
    have hsm := Hsum.out m hm
    by_cases hlt : m < ab.length
    · obtain ⟨b1, o1, rfl, hc1⟩ := (HA.out.kp kp).cells (by omega)
      obtain ⟨e0, e1, e2, e3, e4⟩ := hc1 m hlt
      have i1 : (m : Int) < (ab.length : Int) := by omega
      have fo := Hok.out m hlt
      have hj' := fo.j; have he' := fo.e; have hs' := fo.s
      have hu' := wtT_bd fo (t := x) h1 h2
      have hut : wtT (frAt ab m) x = ((x + (frAt ab m).j) / (frAt ab m).e + 1) * (frAt ab m).s := rfl
      have hsn : sumN (fun k => wtT (frAt ab k) x) (m + 1) = sumN (fun k => wtT (frAt ab k) x) m + wtT (frAt ab m) x := rfl
      have kpa : Kp w (wr.alloc (.cells #[.int .i64 (frAt ab m).s, .int .i64 (frAt ab m).e, .int .i64 (frAt ab m).j, .int .i64 (frAt ab m).d, .int .i64 (frAt ab m).r] 56)) := kp.step (kp_alloc _ _)
      have Hsn := Lib.hid hsn; have Kpa := Lib.hid kpa
      clear hsn fo hc1 kp kpa
      generalize sumN (fun k => wtT (frAt ab k) x) m = S at *
      generalize wtT (frAt ab m) x = P' at *
      generalize (frAt ab m).s = s' at *
      generalize (frAt ab m).e = e' at *
      generalize (frAt ab m).j = j' at *
      generalize (frAt ab m).d = d' at *
      generalize (frAt ab m).r = r' at *
      have q1' : wrap64 (x + j') = x + j' := wrap_in (by omega) (by omega)
      have q4' : wrap64 ((x + j') / e') = (x + j') / e' := wrap_in (by omega) (by omega)
      have q5' : wrap64 ((x + j') / e' + 1) = (x + j') / e' + 1 := wrap_in (by omega) (by omega)
      have q2' : wrap64 (((x + j') / e' + 1) * s') = P' := by rw [← hut]; exact wrap_in (by omega) (by omega)
      have q3' : wrap64 (rest + P + S + P') = rest + P + S + P' := wrap_in (by omega) (by omega)
      clear hut q2 q3
      go_wp2_with fail
      go_quiet (fail)
      go_wp2_with fail
      go_roundw
      case rel => exact ⟨m + 1, by omega, by go_num, by rw [Hsn.out, Int.add_assoc (rest + P)], Keeps.drewN Kpa.out _⟩
      case measure => simp [intOf]; omega
    · obtain rfl : m = ab.length := by omega
      go_wp2_with fail
      go_ret
      exact ⟨by rw [Hbg.out]; rfl, kp⟩
end Go.Proofs.Ytcelbmpdnkaamaa
