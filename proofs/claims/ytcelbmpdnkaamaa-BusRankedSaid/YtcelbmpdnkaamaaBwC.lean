/- The reference's wait. -/
import Derived.Test.YtcelbmpdnkaamaaBwB
namespace Go.Proofs.Ytcelbmpdnkaamaa
open Go Go.RowKit Go.WideMaps Go.Maps
set_option linter.unusedSimpArgs false
set_option linter.unusedVariables false

theorem sumLt_bd {u : Fr → Int} {ls : List Fr} {r M : Int} (hM : 0 ≤ M) (h : ∀ k, k < ls.length → 0 ≤ u (frAt ls k) ∧ u (frAt ls k) ≤ M) : ∀ k, k ≤ ls.length → 0 ≤ sumLt u ls r k ∧ sumLt u ls r k ≤ k * M
  | 0, _ => by simp [sumLt]
  | k + 1, hk => by
    have h1 := sumLt_bd (r := r) hM h k (by omega)
    have h2 := h k (by omega)
    have e : ((k + 1 : Nat) : Int) * M = k * M + M := by push_cast; rw [Int.add_mul, Int.one_mul]
    unfold sumLt
    rw [e]
    split <;> omega
set_option maxRecDepth 100000 in
set_option maxHeartbeats 3200000 in
theorem refWait_any (la : Option Addr) (lc : Nat) (ls : List Fr) (i : Nat) (b q x : Int) (w : World) (h : FramesAt w la ls) (ok : FrsOk ls) (hi : i < ls.length) (hb : 0 ≤ b ∧ b ≤ 1000) (hq1 : 0 ≤ q) (hq2 : q ≤ 2000000) (h1 : 0 ≤ x) (h2 : x ≤ 1000000) :
    Calls Try.prog 70 #[.slice la ls.length lc, .int .i64 i, .int .i64 b, .int .i64 q, .int .i64 x] w fun e w' => e = .returned (.int .i64 (b + q * (frAt ls i).s + sumLt (fun f => wtT f x) ls (frAt ls i).r ls.length)) ∧ Kp w w' := by
  have hn := ok.1
  have hs := (ok.2 i hi).s
  have hpr := prod_bd hq1 hq2 hs.1 hs.2
  have hsum := fun m (hm : m ≤ ls.length) => sumLt_bd (u := fun f => wtT f x) (r := (frAt ls i).r) (M := 1100001000) (by omega) (fun k hk => (wtT_bd (ok.2 k hk) h1 h2).2.2) m hm
  have HA := Lib.hid h; have Hok := Lib.hid ok.2; have Hsum := Lib.hid hsum
  have iI : (i : Int) < (ls.length : Int) := by omega
  obtain ⟨b1, o1, rfl, hc0⟩ := h.cells (by omega)
  have c0 := (hc0 i hi).1
  clear hc0 h ok hsum
  have q2 : wrap64 (q * (frAt ls i).s) = q * (frAt ls i).s := wrap_in (by omega) (by omega)
  have q3 : wrap64 (b + q * (frAt ls i).s) = b + q * (frAt ls i).s := wrap_in (by omega) (by omega)
  generalize hP : q * (frAt ls i).s = P at *
  have HP := Lib.hid hP
  have hPw : IntKind.i64.wrap (q * (frAt ls i).s) = P := by rw [hP]; exact IntWalk.i64_in _ ⟨by omega, by omega⟩
  have hPv : wrap64 (q * (frAt ls i).s) = P := by rw [hP]; exact wrap_in (by omega) (by omega)
  clear hP
  go_enter Try.func70, Try.ntmps70
  go_wp2_with fail
  go_loopw [11, 12] (fun sm i' wq => ∃ (m : Nat), m ≤ ls.length ∧ i' = .int .i64 m ∧ sm = .int .i64 (b + P + sumLt (fun f => wtT f x) ls (frAt ls i).r m) ∧ Kp w wq) (fun _ i' _ => ls.length - (intOf i').toNat)
  case atStart => exact ⟨0, Nat.zero_le _, rfl, by first | (simp [sumLt]; done) | (rw [HP.out]; simp [sumLt, q2, q3]; done) | (simp [sumLt, hPv, q2, q3]; done), Kp.refl w⟩
  case round =>
    obtain ⟨m, hm, rfl, rfl, kp⟩ := hrel
    have hsm := Hsum.out m hm
    by_cases hlt : m < ls.length
    · obtain ⟨b2, o2, e9, hc1⟩ := (HA.out.kp kp).cells (by omega)
      simp only [Option.some.injEq, Addr.mk.injEq] at e9
      obtain ⟨rfl, rfl, -⟩ := e9
      obtain ⟨e0, e1, e2, e3, e4⟩ := hc1 m hlt
      obtain ⟨_, _, _, _, d4⟩ := hc1 i hi
      have i1 : (m : Int) < (ls.length : Int) := by omega
      have fo := Hok.out m hlt
      have hj' := fo.j; have he' := fo.e; have hs' := fo.s
      have hu' := wtT_bd fo (t := x) h1 h2
      have hut : wtT (frAt ls m) x = ((x + (frAt ls m).j) / (frAt ls m).e + 1) * (frAt ls m).s := rfl
      have hsn : sumLt (fun f => wtT f x) ls (frAt ls i).r (m + 1) = if (frAt ls m).r < (frAt ls i).r then sumLt (fun f => wtT f x) ls (frAt ls i).r m + wtT (frAt ls m) x else sumLt (fun f => wtT f x) ls (frAt ls i).r m := rfl
      have Hsn := Lib.hid hsn; have Kpa := Lib.hid kp
      clear hsn fo hc1 kp hPw hPv q2 q3 c0
      generalize sumLt (fun f => wtT f x) ls (frAt ls i).r m = S at *
      generalize wtT (frAt ls m) x = P' at *
      generalize (frAt ls m).s = s' at *
      generalize (frAt ls m).e = e' at *
      generalize (frAt ls m).j = j' at *
      generalize (frAt ls m).d = d' at *
      generalize (frAt ls m).r = r' at *
      generalize (frAt ls i).r = ri at *
      have q1' : wrap64 (x + j') = x + j' := wrap_in (by omega) (by omega)
      have q4' : wrap64 ((x + j') / e') = (x + j') / e' := wrap_in (by omega) (by omega)
      have q5' : wrap64 ((x + j') / e' + 1) = (x + j') / e' + 1 := wrap_in (by omega) (by omega)
      have q2' : wrap64 (((x + j') / e' + 1) * s') = P' := by rw [← hut]; exact wrap_in (by omega) (by omega)
      have q3' : wrap64 (b + P + S + P') = b + P + S + P' := wrap_in (by omega) (by omega)
      clear hut
      by_cases hr : r' < ri
      · have hd : decide (r' < ri) = true := decide_eq_true hr
        go_wp2_with fail
        go_quiet (fail)
        go_wp2_with fail
        go_quiet (fail)
        go_wp2_with fail
        go_roundw
        case rel => exact ⟨m + 1, by omega, by go_num, by rw [Hsn.out, if_pos hr, Int.add_assoc (b + P)], Keeps.drewN Kpa.out _⟩
        case measure => simp [intOf]; omega
      · have hd : decide (r' < ri) = false := decide_eq_false hr
        go_wp2_with fail
        go_quiet (fail)
        go_wp2_with fail
        go_roundw
        case rel => exact ⟨m + 1, by omega, by go_num, by rw [Hsn.out, if_neg (by omega)], Keeps.drewN Kpa.out _⟩
        case measure => simp [intOf]; omega
    · obtain rfl : m = ls.length := by omega
      go_wp2_with fail
      go_ret
      exact ⟨rfl, kp⟩
end Go.Proofs.Ytcelbmpdnkaamaa
