/- Heavy answers. -/
import Derived.Test.YtcelbmpdnkaamaaBvA
namespace Go.Proofs.Ytcelbmpdnkaamaa
open Go Go.RowKit Go.WideMaps Go.Maps
set_option linter.unusedSimpArgs false
set_option linter.unusedVariables false

theorem frErr_ok {ls : List Fr} (h : frErr ls = 0) : FrsOk ls := by
  unfold frErr at h
  split at h
  · rename_i hb; exact framesB_ok hb
  · cases h

def BoolEnd (e : Ending) : Prop := ∃ b, e = .returned (.bool b)

set_option maxRecDepth 100000 in
set_option maxHeartbeats 3200000 in
theorem heavy_any (la : Option Addr) (lc : Nat) (ls : List Fr) (w : World) (h : FramesAt w la ls) :
    Calls Try.prog 10 #[.slice la ls.length lc] w fun e w' => BoolEnd e ∧ Kp w w' := by
  have hlm := h.len
  unfold maxLen at hlm
  by_cases h12 : 12 < ls.length ∧ ls.length ≤ 40
  · have q1 : decide ((12 : Int) < ls.length) = true := decide_eq_true (by omega)
    have q2 : decide ((ls.length : Int) ≤ 40) = true := decide_eq_true (by omega)
    clear h
    go_enter Try.func10, Try.ntmps10
    go_wp2_with fail
    go_ret
    exact ⟨⟨_, rfl⟩, Kp.refl _⟩
  have hq : decide ((12 : Int) < ls.length) = false ∨ (decide ((12 : Int) < ls.length) = true ∧ decide ((ls.length : Int) ≤ 40) = false) := by
    by_cases h1 : 12 < ls.length
    · exact Or.inr ⟨decide_eq_true (by omega), decide_eq_false (by omega)⟩
    · exact Or.inl (decide_eq_false (by omega))
  have hch := refCheck_any la lc ls w h
  have Hch := Lib.hid hch; have Hh := Lib.hid h
  clear hch h
  by_cases h0 : frErr ls = 0
  case neg =>
    have hne : ((frErr ls) != 0) = true := by simpa using h0
    clear h0
    generalize frErr ls = x at *
    rcases hq with q1 | ⟨q1, q2⟩
    all_goals
      go_enter Try.func10, Try.ntmps10
      go_wp2_with fail
      refine Hch.out.mono ?_
      rintro e w1 ⟨rfl, kp1⟩
      go_wp2_with fail
      go_ret
      exact ⟨⟨_, rfl⟩, kp1⟩
  have ok := frErr_ok h0
  have hl40 := ok.1
  have Hok := Lib.hid ok.2; have H0 := Lib.hid h0
  clear ok h0
  rcases hq with q1 | ⟨q1, q2⟩
  rotate_left
  · exfalso
    have := of_decide_eq_false q2
    omega
  go_enter Try.func10, Try.ntmps10
  go_wp2_with fail
  refine Hch.out.mono ?_
  rintro e w1 ⟨rfl, kp1⟩
  rw [H0.out]
  have K1 := Lib.hid kp1
  clear kp1
  go_wp2_with fail
  go_loopw [3, 4] (fun sm i wq => ∃ (k : Nat) (x : Int), k ≤ ls.length ∧ i = .int .i64 k ∧ sm = .int .i64 x ∧ (0 ≤ x ∧ x ≤ k * 1000000000) ∧ Kp w wq) (fun _ i _ => ls.length - (intOf i).toNat)
  case atStart => exact ⟨0, 0, Nat.zero_le _, rfl, rfl, by simp, K1.out⟩
  case round =>
    clear K1
    obtain ⟨k, x, hk, rfl, rfl, hx, kp⟩ := hrel
    by_cases hlt : k < ls.length
    · have hfr := Hh.out.kp kp
      obtain ⟨b1, o1, rfl, hc1⟩ := hfr.cells (by omega)
      obtain ⟨c0, c1, c2, c3, c4⟩ := hc1 k hlt
      have i1 : (k : Int) < (ls.length : Int) := by omega
      have fo := Hok.out k hlt
      have hs := fo.s; have he := fo.e; have hj := fo.j
      have Kq := Lib.hid kp
      clear hc1 fo kp hfr
      generalize frAt ls k = f at *
      obtain ⟨s, e, j, d, r⟩ := f
      dsimp only at *
      have p1 : wrap64 (s * 1000000) = s * 1000000 := wrap_in (by omega) (by omega)
      have p2 : wrap64 (s * 1000000 + e) = s * 1000000 + e := wrap_in (by omega) (by omega)
      have p3 : wrap64 (s * 1000000 + e - 1) = s * 1000000 + e - 1 := wrap_in (by omega) (by omega)
      have hq0 : 0 ≤ (s * 1000000 + e - 1) / e := Int.ediv_nonneg (by omega) (by omega)
      have hq1 : (s * 1000000 + e - 1) / e ≤ 1000000000 := by
        have := (upI_nn (a := s * 1000000) (b := e) (by omega) he.1).2
        unfold upI at this
        omega
      have p4 : wrap64 ((s * 1000000 + e - 1) / e) = (s * 1000000 + e - 1) / e := wrap_in (by omega) (by omega)
      have p5 : wrap64 (x + (s * 1000000 + e - 1) / e) = x + (s * 1000000 + e - 1) / e := wrap_in (by omega) (by omega)
      have p6 : wrap64 (20 * e) = 20 * e := wrap_in (by omega) (by omega)
      go_wp2_with fail
      go_quiet (fail)
      go_wp2_with fail
      by_cases hj2 : 20 * e < j
      · have q5 : decide (20 * e < j) = true := decide_eq_true hj2
        go_quiet (fail)
        go_wp2_with fail
        go_ret
        exact ⟨⟨_, rfl⟩, by first | exact Keeps.drewN Kq.out _ | exact Keeps.drewN (Keeps.drewN Kq.out _) _⟩
      · have q5 : decide (20 * e < j) = false := decide_eq_false hj2
        go_quiet (fail)
        go_wp2_with fail
        go_roundw
        case rel => exact ⟨k + 1, x + (s * 1000000 + e - 1) / e, by omega, by go_num, rfl, by omega, by first | exact Keeps.drewN Kq.out _ | exact Keeps.drewN (Keeps.drewN Kq.out _) _⟩
        case measure => simp [intOf]; omega
    · obtain rfl : k = ls.length := by omega
      by_cases hj2 : 980000 < x
      all_goals
        go_wp2_with fail
        go_ret
        exact ⟨⟨_, rfl⟩, kp⟩
end Go.Proofs.Ytcelbmpdnkaamaa
