/- Names. -/
import Derived.Test.YtngjjmniigkeoaaGreatDoorL1
namespace Go.Proofs.YtngjjmniigkeoaaGreatDoor
open Go.RowKit
set_option linter.unusedSimpArgs false
set_option linter.unusedVariables false

theorem byte_at (s : ByteArray) (k : Nat) (h : k < s.size) : s[k] = s.toList.getD k 0 := by
  rw [ByteArray.toList_eq]; simp [List.getD, h]; rfl

theorem byte_le (c : UInt8) : c.toNat ≤ 255 := by have := c.toNat_lt; omega

set_option maxHeartbeats 1600000 in
theorem isName_any (s : ByteArray) (w : World) (h : s.size ≤ maxLen) :
    Calls Tryz.prog 43 #[.string s] w fun e w' => e = .returned (.bool (nameB s.toList)) ∧ w = w' := by
  unfold maxLen at h
  have hsz : s.toList.length = s.size := by rw [ByteArray.toList_eq]; simp
  by_cases h0 : s.size = 0
  · have e0 : nameB s.toList = false := by unfold nameB; simp [hsz, h0]
    rw [e0]; clear e0 hsz
    go_enter Tryz.func43, Tryz.ntmps43
    go_wp2
    go_ret
    exact ⟨rfl, rfl⟩
  have h0' : ((s.size : Int) == 0) = false := beq_eq_false_iff_ne.2 (by omega)
  by_cases h8 : 8 < s.size
  · have e0 : nameB s.toList = false := by unfold nameB; simp [hsz]; omega
    rw [e0]; clear e0 hsz
    go_enter Tryz.func43, Tryz.ntmps43
    go_wp2
    go_ret
    exact ⟨rfl, rfl⟩
  have h8' : decide (8 < (s.size : Int)) = false := decide_eq_false (by omega)
  have h8'' : s.size ≤ 8 := by omega
  have h1' : 0 < s.size := by omega
  by_cases hy : (s.toList == [121, 101, 115]) = true
  · rw [nameB_yes _ hy]; clear hsz
    go_enter Tryz.func43, Tryz.ntmps43
    go_wp2
    go_ret
    exact ⟨rfl, rfl⟩
  have hy' : (s.toList == [121, 101, 115]) = false := by simpa using hy
  by_cases hn : (s.toList == [110, 111]) = true
  · rw [nameB_no _ hn]; clear hsz hy
    go_enter Tryz.func43, Tryz.ntmps43
    go_wp2
    go_ret
    exact ⟨rfl, rfl⟩
  have hn' : (s.toList == [110, 111]) = false := by simpa using hn
  have hb0 := byte_at s 0 h1'
  have hle := byte_le s[0]
  cases hf : isLow (s[0]).toNat with
  | false =>
    rw [nameB_first _ (by rw [← hb0]; exact hf)]
    have Hf := Lib.hid hf
    clear hsz hy hn hb0 hf
    go_enter Tryz.func43, Tryz.ntmps43
    go_wp2_with (go_at_call 64; refine (isLetter_any _ _ (by omega)).mono ?_; rintro e w' ⟨rfl, rfl⟩; rw [Hf.out])
    go_ret
    exact ⟨rfl, rfl⟩
  | true =>
    have hall := nameB_eq s.toList (by omega) (by omega) hy' hn' (by rw [← hb0]; exact hf)
    have hbytes : ∀ k, k < s.size → s.toList.getD k 0 = s[k]! := fun k hk => by rw [getElem!_pos s k hk, byte_at s k hk]
    rw [hall]
    have Hf := Lib.hid hf; have Hb := Lib.hid hbytes; have Hsz := Lib.hid hsz
    clear hsz hy hn hb0 hf hall hbytes
    go_enter Tryz.func43, Tryz.ntmps43
    go_wp2_with (go_at_call 64; refine (isLetter_any _ _ (by omega)).mono ?_; rintro e w' ⟨rfl, rfl⟩; rw [Hf.out])
    go_loop [28] (fun i => ∃ k : Nat, k ≤ s.size ∧ i = .int .i64 k ∧ Hid ((s.toList.take k).all (fun c => isLow c.toNat || isDig c.toNat) = true)) (fun i => s.size - (intOf i).toNat)
    case atStart => exact ⟨0, Nat.zero_le _, rfl, Lib.hid rfl⟩
    case round =>
      obtain ⟨k, hk, rfl, hd⟩ := hrel
      by_cases hlt : k < s.size
      · have hbk : s[k] = s.toList.getD k 0 := byte_at s k hlt
        have hle := byte_le s[k]
        have hnext := all_take_succ (fun c => isLow c.toNat || isDig c.toNat) s.toList k (by have := Hsz.out; omega) hd.out
        have hstop := all_stop (fun c => isLow c.toNat || isDig c.toNat) s.toList k (by have := Hsz.out; omega)
        rw [← hbk] at hnext hstop
        have Hn := Lib.hid hnext; have Hs := Lib.hid hstop
        clear hbk hnext hstop
        cases hl : isLow (s[k]).toNat with
        | true =>
          have Hl := Lib.hid hl
          clear hl
          go_wp2_with (go_at_call 64; refine (isLetter_any _ _ (by omega)).mono ?_; rintro e w' ⟨rfl, rfl⟩; rw [Hl.out])
          go_round
          case rel => exact ⟨k + 1, by omega, by go_num, Lib.hid (Hn.out (by simp [Hl.out]))⟩
          case measure => simp [intOf]; omega
        | false =>
          have Hl := Lib.hid hl
          clear hl
          cases hg : isDig (s[k]).toNat with
          | true =>
            have Hg := Lib.hid hg
            clear hg
            go_wp2_with (first | (go_at_call 64; refine (isLetter_any _ _ (by omega)).mono ?_; rintro e w' ⟨rfl, rfl⟩; rw [Hl.out]) | (go_at_call 65; refine (isDigit_any _ _ (by omega)).mono ?_; rintro e w' ⟨rfl, rfl⟩; rw [Hg.out]))
            go_round
            case rel => exact ⟨k + 1, by omega, by go_num, Lib.hid (Hn.out (by simp [Hg.out]))⟩
            case measure => simp [intOf]; omega
          | false =>
            have Hg := Lib.hid hg
            clear hg
            go_wp2_with (first | (go_at_call 64; refine (isLetter_any _ _ (by omega)).mono ?_; rintro e w' ⟨rfl, rfl⟩; rw [Hl.out]) | (go_at_call 65; refine (isDigit_any _ _ (by omega)).mono ?_; rintro e w' ⟨rfl, rfl⟩; rw [Hg.out]))
            go_ret
            exact ⟨by rw [Hs.out (by simp [Hl.out, Hg.out])]; rfl, rfl⟩
      · have : k = s.size := by omega
        subst this
        go_wp2
        go_ret
        exact ⟨by have := hd.out; rw [List.take_of_length_le (by have := Hsz.out; omega)] at this; rw [this]; rfl, rfl⟩

set_option maxHeartbeats 1600000 in
theorem refName_any (s : ByteArray) (w : World) (h : s.size ≤ maxLen) :
    Calls Tryz.prog 26 #[.string s] w fun e w' => e = .returned (.bool (nameB s.toList)) ∧ w = w' := by
  unfold maxLen at h
  have hsz : s.toList.length = s.size := by rw [ByteArray.toList_eq]; simp
  by_cases h0 : s.size = 0
  · have e0 : nameB s.toList = false := by unfold nameB; simp [hsz, h0]
    rw [e0]; clear e0 hsz
    go_enter Tryz.func26, Tryz.ntmps26
    go_wp2
    go_ret
    exact ⟨rfl, rfl⟩
  have h0' : decide ((s.size : Int) < 1) = false := decide_eq_false (by omega)
  by_cases h8 : 8 < s.size
  · have e0 : nameB s.toList = false := by unfold nameB; simp [hsz]; omega
    rw [e0]; clear e0 hsz
    go_enter Tryz.func26, Tryz.ntmps26
    go_wp2
    go_ret
    exact ⟨rfl, rfl⟩
  have h8' : decide (8 < (s.size : Int)) = false := decide_eq_false (by omega)
  have h8'' : s.size ≤ 8 := by omega
  have h1' : 0 < s.size := by omega
  by_cases hy : (s.toList == [121, 101, 115]) = true
  · rw [nameB_yes _ hy]; clear hsz
    go_enter Tryz.func26, Tryz.ntmps26
    go_wp2
    go_ret
    exact ⟨rfl, rfl⟩
  have hy' : (s.toList == [121, 101, 115]) = false := by simpa using hy
  by_cases hn : (s.toList == [110, 111]) = true
  · rw [nameB_no _ hn]; clear hsz hy
    go_enter Tryz.func26, Tryz.ntmps26
    go_wp2
    go_ret
    exact ⟨rfl, rfl⟩
  have hn' : (s.toList == [110, 111]) = false := by simpa using hn
  have hb0 := byte_at s 0 h1'
  have hall : isLow (s[0]).toNat = true → nameB s.toList = s.toList.all (fun c => isLow c.toNat || isDig c.toNat) := fun h => nameB_eq s.toList (by omega) (by omega) hy' hn' (by rw [← hb0]; exact h)
  have hfirst : isLow (s[0]).toNat = false → nameB s.toList = false := fun h => nameB_first s.toList (by rw [← hb0]; exact h)
  have Ha := Lib.hid hall; have Hf := Lib.hid hfirst; have Hsz := Lib.hid hsz
  clear hall hfirst hsz hb0 hy hn
  go_enter Tryz.func26, Tryz.ntmps26
  go_wp2
  go_loop [3] (fun i => ∃ k : Nat, k ≤ s.size ∧ i = .int .i64 k ∧ Hid ((s.toList.take k).all (fun c => isLow c.toNat || isDig c.toNat) = true ∧ (0 < k → isLow (s[0]).toNat = true))) (fun i => s.size - (intOf i).toNat)
  case atStart => exact ⟨0, Nat.zero_le _, rfl, Lib.hid ⟨rfl, fun h => absurd h (by omega)⟩⟩
  case round =>
    obtain ⟨k, hk, rfl, hd⟩ := hrel
    by_cases hlt : k < s.size
    · have hbk : s[k] = s.toList.getD k 0 := byte_at s k hlt
      have hle := byte_le s[k]
      have hnext := all_take_succ (fun c => isLow c.toNat || isDig c.toNat) s.toList k (by have := Hsz.out; omega) hd.out.1
      have hstop := all_stop (fun c => isLow c.toNat || isDig c.toNat) s.toList k (by have := Hsz.out; omega)
      rw [← hbk] at hnext hstop
      have hz : k = 0 → s[k] = s[0] := fun e => by subst e; rfl
      have Hn := Lib.hid hnext; have Hs := Lib.hid hstop; have Hz := Lib.hid hz
      clear hbk hnext hstop hz
      by_cases hl : isLow (s[k]).toNat = true
      · have hl1 : decide (97 ≤ ((s[k]).toNat : Int)) = true := by unfold isLow at hl; simp at hl ⊢; omega
        have hl2 : decide (((s[k]).toNat : Int) ≤ 122) = true := by unfold isLow at hl; simp at hl ⊢; omega
        have hl3 : decide (((s[k]).toNat : Int) ≤ 57) = false := by unfold isLow at hl; simp at hl ⊢; omega
        have hl4 : decide (48 ≤ ((s[k]).toNat : Int)) = true := by unfold isLow at hl; simp at hl ⊢; omega
        have Hl := Lib.hid hl
        clear hl
        go_wp2
        go_round
        case rel => exact ⟨k + 1, by omega, by go_num, Lib.hid ⟨Hn.out (by simp [Hl.out]), fun _ => Or.elim (Nat.eq_zero_or_pos k) (fun e => by rw [← Hz.out e]; exact Hl.out) (fun e => hd.out.2 e)⟩⟩
        case measure => simp [intOf]; omega
      · have hl' : (decide (97 ≤ ((s[k]).toNat : Int)) && decide (((s[k]).toNat : Int) ≤ 122)) = false := by unfold isLow at hl; simp at hl ⊢; omega
        have Hl := Lib.hid hl
        clear hl
        by_cases hg : isDig (s[k]).toNat = true
        · have hg1 : decide (48 ≤ ((s[k]).toNat : Int)) = true := by unfold isDig at hg; simp at hg ⊢; omega
          have hg2 : decide (((s[k]).toNat : Int) ≤ 57) = true := by unfold isDig at hg; simp at hg ⊢; omega
          have hg3 : decide (97 ≤ ((s[k]).toNat : Int)) = false := by unfold isDig at hg; simp at hg ⊢; omega
          have Hg := Lib.hid hg
          clear hg hl'
          by_cases hk0 : k = 0
          · have hr : nameB s.toList = false := Hf.out (by rw [← Hz.out hk0]; simpa using Hl.out)
            have Hr := Lib.hid hr
            clear hr
            subst hk0
            go_wp2
            go_ret
            exact ⟨by rw [Hr.out]; rfl, rfl⟩
          · have hk1 : ((k : Int) == 0) = false := beq_eq_false_iff_ne.2 (by omega)
            go_wp2
            go_round
            case rel => exact ⟨k + 1, by omega, by go_num, Lib.hid ⟨Hn.out (by simp [Hg.out]), fun _ => hd.out.2 (by omega)⟩⟩
            case measure => simp [intOf]; omega
        · have hr : nameB s.toList = false := by
            have hs := Hs.out (by simp [Hl.out, hg])
            cases hf0 : isLow (s[0]).toNat with
            | false => exact Hf.out hf0
            | true => rw [Ha.out hf0]; exact hs
          have Hr := Lib.hid hr
          clear hr
          rcases (show (s[k]).toNat < 48 ∨ (58 ≤ (s[k]).toNat ∧ (s[k]).toNat < 97) ∨ 122 < (s[k]).toNat by have h1 := Hl.out; unfold isLow at h1; unfold isDig at hg; simp at h1 hg; omega) with hc | hc | hc
          · have c1 : decide (97 ≤ ((s[k]).toNat : Int)) = false := decide_eq_false (by omega)
            have c2 : decide (48 ≤ ((s[k]).toNat : Int)) = false := decide_eq_false (by omega)
            clear hg hl'
            by_cases hk0 : k = 0
            · subst hk0
              go_wp2
              go_ret
              exact ⟨by rw [Hr.out]; rfl, rfl⟩
            · have hk1 : ((k : Int) == 0) = false := beq_eq_false_iff_ne.2 (by omega)
              go_wp2
              go_ret
              exact ⟨by rw [Hr.out]; rfl, rfl⟩
          · have c1 : decide (97 ≤ ((s[k]).toNat : Int)) = false := decide_eq_false (by omega)
            have c2 : decide (48 ≤ ((s[k]).toNat : Int)) = true := decide_eq_true (by omega)
            have c3 : decide (((s[k]).toNat : Int) ≤ 57) = false := decide_eq_false (by omega)
            clear hg hl'
            by_cases hk0 : k = 0
            · subst hk0
              go_wp2
              go_ret
              exact ⟨by rw [Hr.out]; rfl, rfl⟩
            · have hk1 : ((k : Int) == 0) = false := beq_eq_false_iff_ne.2 (by omega)
              go_wp2
              go_ret
              exact ⟨by rw [Hr.out]; rfl, rfl⟩
          · have c1 : decide (97 ≤ ((s[k]).toNat : Int)) = true := decide_eq_true (by omega)
            have c4 : decide (((s[k]).toNat : Int) ≤ 122) = false := decide_eq_false (by omega)
            have c2 : decide (48 ≤ ((s[k]).toNat : Int)) = true := decide_eq_true (by omega)
            have c3 : decide (((s[k]).toNat : Int) ≤ 57) = false := decide_eq_false (by omega)
            clear hg hl'
            by_cases hk0 : k = 0
            · subst hk0
              go_wp2
              go_ret
              exact ⟨by rw [Hr.out]; rfl, rfl⟩
            · have hk1 : ((k : Int) == 0) = false := beq_eq_false_iff_ne.2 (by omega)
              go_wp2
              go_ret
              exact ⟨by rw [Hr.out]; rfl, rfl⟩
    · have : k = s.size := by omega
      subst this
      have hr : nameB s.toList = true := by
        rw [Ha.out (hd.out.2 h1')]
        have := hd.out.1; rw [List.take_of_length_le (by have := Hsz.out; omega)] at this; exact this
      have Hr := Lib.hid hr
      clear hr
      go_wp2
      go_ret
      exact ⟨by rw [Hr.out]; rfl, rfl⟩
end Go.Proofs.YtngjjmniigkeoaaGreatDoor
