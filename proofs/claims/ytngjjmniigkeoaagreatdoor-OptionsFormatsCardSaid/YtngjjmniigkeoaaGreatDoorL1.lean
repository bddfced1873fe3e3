/- Leaf contracts: formulas' numbers. -/
import Derived.Test.YtngjjmniigkeoaaGreatDoorChecked
import Derived.Test.YtngjjmniigkeoaaGreatDoorBase
import Derived.Test.YtngjjmniigkeoaaGreatDoorPlain
import Derived.WalkLawsBesides
import Derived.BigQuiet
import Derived.Deep.QuietTactic
namespace Go.Proofs.YtngjjmniigkeoaaGreatDoor
open Go.RowKit
set_option linter.unusedSimpArgs false
set_option linter.unusedVariables false

set_option maxHeartbeats 400000 in
theorem isLetter_any (c : Nat) (w : World) (h1 : c ≤ 255) :
    Calls Tryz.prog 64 #[.int .u8 c] w fun e w' => e = .returned (.bool (isLow c)) ∧ w = w' := by
  by_cases a : 97 ≤ c
  · have a' : decide (97 ≤ (c : Int)) = true := decide_eq_true (by omega)
    by_cases b : c ≤ 122
    all_goals
      go_enter Tryz.func64, Tryz.ntmps64
      go_wp2
      go_ret
      exact ⟨by simp [isLow, a, b]; try omega, rfl⟩
  · have a' : decide (97 ≤ (c : Int)) = false := decide_eq_false (by omega)
    go_enter Tryz.func64, Tryz.ntmps64
    go_wp2
    go_ret
    exact ⟨by simp [isLow, a]; try omega, rfl⟩

set_option maxHeartbeats 400000 in
theorem isDigit_any (c : Nat) (w : World) (h1 : c ≤ 255) :
    Calls Tryz.prog 65 #[.int .u8 c] w fun e w' => e = .returned (.bool (isDig c)) ∧ w = w' := by
  by_cases a : 48 ≤ c
  · have a' : decide (48 ≤ (c : Int)) = true := decide_eq_true (by omega)
    by_cases b : c ≤ 57
    all_goals
      go_enter Tryz.func65, Tryz.ntmps65
      go_wp2
      go_ret
      exact ⟨by simp [isDig, a, b]; try omega, rfl⟩
  · have a' : decide (48 ≤ (c : Int)) = false := decide_eq_false (by omega)
    go_enter Tryz.func65, Tryz.ntmps65
    go_wp2
    go_ret
    exact ⟨by simp [isDig, a]; try omega, rfl⟩

set_option maxHeartbeats 800000 in
theorem operands_any (x n : Int) (w : World) (hn : 0 ≤ n) :
    Calls Tryz.prog 66 #[.int .i64 x, .int .i64 n] w fun e w' => e = .returned (.tuple #[.int .i64 (opC x), .bool (opB x n)]) ∧ w = w' := by
  rcases (show x = -1 ∨ x = -2 ∨ x = -3 ∨ x = -4 ∨ x = -5 ∨ x = -6 ∨ (x < -6 ∨ 0 ≤ x) by omega) with h | h | h | h | h | h | h
  any_goals
    subst h
    go_enter Tryz.func66, Tryz.ntmps66
    go_wp2
    go_ret2
    exact ⟨by simp [opC, opB]; omega, rfl⟩
  have e1 : opC x = 0 := by unfold opC; rw [if_neg (by omega), if_neg (by omega)]
  have e2 : opB x n = decide (0 ≤ x ∧ x < n) := by unfold opB; congr 1; simp; omega
  have a1 : (x == -1) = false := beq_eq_false_iff_ne.2 (by omega)
  have a2 : (x == -2) = false := beq_eq_false_iff_ne.2 (by omega)
  have a3 : (x == -3) = false := beq_eq_false_iff_ne.2 (by omega)
  have a4 : (x == -4) = false := beq_eq_false_iff_ne.2 (by omega)
  have a5 : (x == -5) = false := beq_eq_false_iff_ne.2 (by omega)
  have a6 : (x == -6) = false := beq_eq_false_iff_ne.2 (by omega)
  rw [e1, e2]
  clear e1 e2
  by_cases a : 0 ≤ x
  · by_cases b : x < n
    all_goals
      go_enter Tryz.func66, Tryz.ntmps66
      go_wp2
      go_ret2
      exact ⟨by simp [a, b], rfl⟩
  · go_enter Tryz.func66, Tryz.ntmps66
    go_wp2
    go_ret2
    exact ⟨by simp [a]; omega, rfl⟩

set_option maxHeartbeats 800000 in
theorem valid_any (ao : Option Addr) (cap : Nat) (xs : List Int) (n : Int) (w : World) (h : IntsAt w ao cap xs) (hn : 0 ≤ n) :
    Calls Tryz.prog 44 #[.slice ao xs.length cap, .int .i64 n] w fun e w' => e = .returned (.bool (validB xs n)) ∧ w = w' := by
  have hlen := h.len
  unfold maxLen at hlen
  by_cases hl : 100 < xs.length
  · have e0 : validB xs n = false := by unfold validB; simp; omega
    rw [e0]; clear e0
    go_enter Tryz.func44, Tryz.ntmps44
    go_wp2
    go_ret
    exact ⟨rfl, rfl⟩
  have hl' : xs.length ≤ 100 := by omega
  go_enter Tryz.func44, Tryz.ntmps44
  go_wp2
  go_loop [5, 15] (fun d i => ∃ k e : Nat, k ≤ xs.length ∧ lack n 1 (xs.take k) = some e ∧ i = .int .i64 k ∧ d = .int .i64 e) (fun _ i => xs.length - (intOf i).toNat)
  case atStart => exact ⟨0, 1, Nat.zero_le _, rfl, rfl, rfl⟩
  case round =>
    obtain ⟨k, d, hk, hd, rfl, rfl⟩ := hrel
    have hd1 := lack_le n _ _ _ hd
    simp at hd1
    have hd2 : d ≤ 1 + 100 := by omega
    clear hd1
    by_cases hlt : k < xs.length
    · obtain ⟨b, off, rfl, hc⟩ := h.cells (by omega)
      have hck := hc k hlt
      have hb := h.fits (xs.getD k 0) (by simp [List.getD, hlt])
      have hs := lack_step n xs k d hlt hd
      have ht := lack_stop n xs k d hlt hd
      have hoc := opC_le (xs.getD k 0)
      generalize xs.getD k 0 = x at *
      have Hs := Lib.hid hs; have Ht := Lib.hid ht; have Hd := Lib.hid hd
      clear hc hs ht hd h
      by_cases hop : opB x n = true
      · have Hop := Lib.hid hop
        by_cases hz : d = 0
        · subst hz
          go_wp2_with (go_at_call 66; refine (operands_any _ _ _ hn).mono ?_; rintro e w' ⟨rfl, rfl⟩)
          go_ret
          exact ⟨by simp [validB, Ht.out], rfl⟩
        · have hz' : ((d : Int) == 0) = false := beq_eq_false_iff_ne.2 (by omega)
          go_wp2_with (go_at_call 66; refine (operands_any _ _ _ hn).mono ?_; rintro e w' ⟨rfl, rfl⟩)
          go_round
          case rel => exact ⟨k + 1, d + opC x - 1, by omega, Hs.out hop (by omega), by go_num, by go_num⟩
          case measure => simp [intOf]; omega
      · have hop' : opB x n = false := by simpa using hop
        go_wp2_with (go_at_call 66; refine (operands_any _ _ _ hn).mono ?_; rintro e w' ⟨rfl, rfl⟩)
        go_ret
        exact ⟨by simp [validB, Ht.out (by simp [hop'])], rfl⟩
    · have : k = xs.length := by omega
      subst this
      have hv : validB xs n = ((d : Int) == 0) := by
        simp only [List.take_length] at hd
        unfold validB; rw [hd]; simp [hl']
        rw [Bool.eq_iff_iff]; simp
      have Hv := Lib.hid hv
      clear hd hv
      go_wp2
      go_ret
      exact ⟨by rw [Hv.out]; simp, rfl⟩

/-! ### the reference's -/
def EndPost (xs : List Int) (n : Int) (e : Ending) : Prop := ∃ r : Int, e = .returned (.int .i64 r) ∧ (r = xs.length ↔ lack n 1 xs = some 0)

theorem endPost_no {xs : List Int} {n : Int} (h : lack n 1 xs ≠ some 0) : EndPost xs n (.returned (.int .i64 (-1))) := ⟨-1, rfl, ⟨fun h' => by omega, fun h' => absurd h' h⟩⟩

set_option maxHeartbeats 1600000 in
theorem refEnd_any (ao : Option Addr) (cap : Nat) (xs : List Int) (n : Int) (w : World) (h : IntsAt w ao cap xs) (hn : 0 ≤ n) (hl' : xs.length ≤ 100) :
    Calls Tryz.prog 45 #[.slice ao xs.length cap, .int .i64 0, .int .i64 n] w fun e w' => EndPost xs n e ∧ w = w' := by
  have hlen := h.len
  unfold maxLen at hlen
  go_enter Tryz.func45, Tryz.ntmps45
  go_wp2
  go_loop [1, 7] (fun i d => ∃ k e : Nat, k ≤ xs.length ∧ lack n 1 (xs.take k) = some e ∧ i = .int .i64 k ∧ d = .int .i64 e) (fun i _ => xs.length - (intOf i).toNat)
  case atStart => exact ⟨0, 1, Nat.zero_le _, rfl, rfl, rfl⟩
  case round =>
    obtain ⟨k, d, hk, hd, rfl, rfl⟩ := hrel
    have hd1 := lack_le n _ _ _ hd
    simp at hd1
    have hd2 : d ≤ 1 + k := by omega
    clear hd1
    by_cases hlt : k < xs.length
    · obtain ⟨b, off, rfl, hc⟩ := h.cells (by omega)
      have hck := hc k hlt
      have hb := h.fits (xs.getD k 0) (by simp [List.getD, hlt])
      have hs := lack_step n xs k d hlt hd
      have ht := lack_stop n xs k d hlt hd
      have hoc : opC (xs.getD k 0) = if xs.getD k 0 = -3 then 1 else if xs.getD k 0 = -4 ∨ xs.getD k 0 = -5 ∨ xs.getD k 0 = -6 then 2 else 0 := rfl
      by_cases hz : d = 0
      · subst hz
        have Ht := Lib.hid (ht (by simp))
        have hne : ¬ ((k : Int) = xs.length) := by omega
        clear ht hs hd hc h hoc hck
        go_wp2
        go_ret
        exact ⟨⟨_, rfl, ⟨fun h => absurd h hne, fun h => by rw [Ht.out] at h; cases h⟩⟩, rfl⟩
      · have hz' : 0 < d := by omega
        have hfacts : ∀ r : Nat, r = d + opC (xs.getD k 0) - 1 → (-6 ≤ xs.getD k 0 ∧ xs.getD k 0 < n) → lack n 1 (xs.take (k + 1)) = some r := fun r hr hx => by rw [hr]; exact hs (by simpa [opB] using hx) hz'
        have hstop : ¬ (-6 ≤ xs.getD k 0 ∧ xs.getD k 0 < n) → lack n 1 xs ≠ some 0 := fun hx => by rw [ht (by rintro ⟨hx', _⟩; exact hx (by simpa [opB] using hx'))]; simp
        generalize hxx : xs.getD k 0 = x at *
        have Hf := Lib.hid hfacts; have Ht := Lib.hid hstop; have Ho := Lib.hid hoc
        clear hc hs ht hd h hfacts hstop hxx hoc
        rcases (show (x < -6 ∨ n ≤ x) ∨ ((0 ≤ x ∧ x < n) ∨ x = -1 ∨ x = -2 ∨ x = -3 ∨ x = -4 ∨ x = -5 ∨ x = -6) by omega) with hx | hx
        · by_cases h1 : n ≤ x
          all_goals
            go_wp2
            go_ret
            exact ⟨endPost_no (Ht.out (by omega)), rfl⟩
        · have hnx : x < n := by omega
          have hcnt := Ho.out
          rcases hx with hx | rfl | rfl | rfl | rfl | rfl | rfl
          · have h3 : (x == -3) = false := beq_eq_false_iff_ne.2 (by omega)
            clear hcnt
            have hopc : opC x = 0 := by rw [Ho.out, if_neg (by omega), if_neg (by omega)]
            have Hopc := Lib.hid hopc; clear hopc
            go_wp2
            go_round
            case rel => exact ⟨k + 1, d - 1, by omega, Hf.out _ (by rw [Hopc.out]; omega) (by omega), by go_num, by go_num⟩
            case measure => simp [intOf]; omega
          all_goals
            clear hcnt
            go_wp2
            go_round
            case rel => exact ⟨k + 1, _, by omega, Hf.out _ rfl (by omega), by go_num, by simp only [opC1, opC2, opC3, opC4, opC5, opC6]; go_num⟩
            case measure => simp [intOf]; omega
    · have : k = xs.length := by omega
      subst this
      have hv : lack n 1 xs = some d := by simpa using hd
      have Hv := Lib.hid hv
      clear hd hv
      by_cases hz : d = 0
      · subst hz
        go_wp2
        go_ret
        exact ⟨⟨_, rfl, ⟨fun _ => Hv.out, fun _ => rfl⟩⟩, rfl⟩
      · go_wp2
        go_ret
        exact ⟨endPost_no (by rw [Hv.out]; simp; omega), rfl⟩

set_option maxHeartbeats 800000 in
theorem refValid_any (ao : Option Addr) (cap : Nat) (xs : List Int) (n : Int) (w : World) (h : IntsAt w ao cap xs) (hn : 0 ≤ n) :
    Calls Tryz.prog 27 #[.slice ao xs.length cap, .int .i64 n] w fun e w' => e = .returned (.bool (validB xs n)) ∧ w = w' := by
  have hlen := h.len
  unfold maxLen at hlen
  by_cases hl : 100 < xs.length
  · have e0 : validB xs n = false := by unfold validB; simp; omega
    rw [e0]; clear e0
    have hd : decide ((xs.length : Int) ≤ 100) = false := decide_eq_false (by omega)
    go_enter Tryz.func27, Tryz.ntmps27
    go_wp2
    go_ret
    exact ⟨rfl, rfl⟩
  by_cases h0 : xs.length = 0
  · have e0 : validB xs n = false := by
      have : xs = [] := List.length_eq_zero_iff.1 h0
      subst this; simp [validB, lack]
    rw [e0]; clear e0
    have hd : decide (0 < (xs.length : Int)) = false := decide_eq_false (by omega)
    go_enter Tryz.func27, Tryz.ntmps27
    go_wp2
    go_ret
    exact ⟨rfl, rfl⟩
  have hl1 : xs.length ≤ 100 := by omega
  have hl2 : 0 < xs.length := by omega
  have key : ∀ r : Int, (r = xs.length ↔ lack n 1 xs = some 0) → (r == (xs.length : Int)) = validB xs n := by
    intro r hr
    rw [Bool.eq_iff_iff]; simp [validB, hr, hl1]
  have Key := Lib.hid key
  clear key h0
  go_enter Tryz.func27, Tryz.ntmps27
  go_wp2_with (go_at_call 45; refine (refEnd_any _ _ _ _ _ h hn hl1).mono ?_; rintro e w' ⟨⟨r, rfl, hr⟩, rfl⟩)
  go_ret
  exact ⟨by rw [Key.out _ (by assumption)]; rfl, rfl⟩
end Go.Proofs.YtngjjmniigkeoaaGreatDoor
