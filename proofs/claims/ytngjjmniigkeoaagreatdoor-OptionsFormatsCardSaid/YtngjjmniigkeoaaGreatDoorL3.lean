/- Models: the names, the rules. -/
import Derived.Test.YtngjjmniigkeoaaGreatDoorL2
import Derived.Maps.Own
namespace Go.Proofs.YtngjjmniigkeoaaGreatDoor
open Go.RowKit Go.WideMaps Go.Maps
set_option linter.unusedSimpArgs false
set_option linter.unusedVariables false

theorem strLaw : Keyed Tryz.prog 9 := string_keyed Tryz.underlying9
theorem zeroBool (w : World) : (zeroValue 4).run Tryz.prog w = .ok (.bool false) w := by kernel_rfl

def namesErr (ss : List ByteArray) : Int := if namesOk ss then 0 else 10
theorem namesErr_yes {ss : List ByteArray} (h : namesOk ss) : namesErr ss = 0 := if_pos h
theorem namesErr_no {ss : List ByteArray} (h : ¬ namesOk ss) : namesErr ss = 10 := if_neg h

/-- What 'seen' holds behind k rounds. -/
noncomputable def seenF (ss : List ByteArray) : Nat → Value → Option Value
  | 0 => fun _ => none
  | k + 1 => putV (seenF ss k) (.string (ss.getD k ByteArray.empty)) (.bool true)

theorem seenF_at (ss : List ByteArray) (s : ByteArray) : ∀ k, k ≤ ss.length → (seenF ss k (.string s)).getD (.bool false) = .bool (decide (s ∈ ss.take k))
  | 0, _ => by simp [seenF]
  | k + 1, hk => by
    have ih := seenF_at ss s k (by omega)
    have e1 : ss.take (k + 1) = ss.take k ++ [ss.getD k ByteArray.empty] := by rw [List.take_succ_eq_append_getElem (by omega)]; simp [List.getD, show k < ss.length by omega]
    simp only [seenF]
    by_cases h : s = ss.getD k ByteArray.empty
    · rw [← h, putV_same, e1, ← h]; simp
    · rw [putV_other _ _ _ (by simpa using h), ih, e1]
      congr 1
      rw [decide_eq_decide, List.mem_append, List.mem_singleton]
      exact ⟨Or.inl, fun h' => h'.resolve_right h⟩

set_option maxHeartbeats 1600000 in
theorem checkNames_any (ao : Option Addr) (cap : Nat) (ss : List ByteArray) (w : World) (h : StrsAt w ao ss) :
    Calls Tryz.prog 24 #[.slice ao ss.length cap] w fun e w' => e = .returned (.int .i64 (namesErr ss)) ∧ Below w.heap.size w w' := by
  have hlen := h.len
  unfold maxLen at hlen
  have hmm := @run_makeMap Tryz.prog
  go_enter Tryz.func24, Tryz.ntmps24
  go_wp2
  go_loopw [9] (fun i wr => ∃ k : Nat, k ≤ ss.length ∧ i = .int .i64 k ∧ MapV wr Tryz.prog 9 w.heap.size k (seenF ss k) ∧ Below w.heap.size w wr ∧ Hid (∀ j, j < k → nameB (ss.getD j ByteArray.empty).toList = true ∧ ss.getD j ByteArray.empty ∉ ss.take j)) (fun i _ => ss.length - (intOf i).toNat)
  case atStart => exact ⟨0, Nat.zero_le _, rfl, MapV.made _ _ _, below_alloc _ _, fun j hj => absurd hj (by omega)⟩
  case round =>
    obtain ⟨k, hk, rfl, hm, hb, hok⟩ := hrel
    by_cases hlt : k < ss.length
    · obtain ⟨b, off, rfl, hc⟩ := h.cells (by omega)
      have hck := cell_kept (hc k hlt) hb (Nat.le_refl _)
      have hsl := h.fits (ss.getD k ByteArray.empty) (by simp [List.getD, hlt])
      have hat := seenF_at ss (ss.getD k ByteArray.empty) k hk
      have hnext : seenF ss (k + 1) = putV (seenF ss k) (.string (ss.getD k ByteArray.empty)) (.bool true) := rfl
      have hokn : nameB (ss.getD k ByteArray.empty).toList = true → ss.getD k ByteArray.empty ∉ ss.take k → Hid (∀ j, j < k + 1 → nameB (ss.getD j ByteArray.empty).toList = true ∧ ss.getD j ByteArray.empty ∉ ss.take j) := by
        intro a b j hj
        by_cases e : j = k
        · subst e; exact ⟨a, b⟩
        · exact hok.out j (by omega)
      have hstop : ¬ (nameB (ss.getD k ByteArray.empty).toList = true ∧ ss.getD k ByteArray.empty ∉ ss.take k) → ¬ namesOk ss := fun a b => a (b k hlt)
      generalize ss.getD k ByteArray.empty = s at *
      have hrun := hm.look strLaw Tryz.underlying78 (zeroBool wr) (keyOf_string_mk Tryz.underlying9 hsl)
      rw [hat] at hrun
      have Hn := Lib.hid hnext; have Ho := Lib.hid hokn; have Hs := Lib.hid hstop
      clear hc hat hnext hokn hstop hok
      cases hnm : nameB s.toList with
      | false =>
        have Hnm := Lib.hid hnm
        clear hrun
        go_wp2_with (go_at_call 43; refine (isName_any _ _ hsl).mono ?_; rintro e w' ⟨rfl, rfl⟩; rw [Hnm.out])
        go_ret
        exact ⟨by rw [namesErr_no (Hs.out (by simp [Hnm.out]))]; rfl, hb⟩
      | true =>
        have Hnm := Lib.hid hnm
        clear hnm
        by_cases hmem : s ∈ ss.take k
        · rw [decide_eq_true hmem] at hrun
          go_wp2_with (go_at_call 43; refine (isName_any _ _ hsl).mono ?_; rintro e w' ⟨rfl, rfl⟩; rw [Hnm.out])
          go_ret
          exact ⟨by rw [namesErr_no (Hs.out (by simp [hmem]))]; rfl, hb⟩
        · rw [decide_eq_false hmem] at hrun
          go_wp2_with (first | (go_at_call 43; refine (isName_any _ _ hsl).mono ?_; rintro e w' ⟨rfl, rfl⟩; rw [Hnm.out]) | (at_mapUpdate; refine wpList_mapUpdate_V _ rfl _ _ _ 78 rfl 9 4 strLaw Tryz.underlying78 _ _ _ rfl hm (by unfold maxLen; omega) _ _ rfl rfl _ (keyOf_string_mk Tryz.underlying9 hsl) ?_; intro w1 hm1 hg1))
          go_roundw
          case rel => exact ⟨k + 1, by omega, by go_num, by rw [Hn.out]; exact hm1, hb.grown hg1 hb.size (fun j hj => by cases hj; exact Nat.le_refl _), Ho.out Hnm.out hmem⟩
          case measure => simp [intOf]; omega
    · have : k = ss.length := by omega
      subst this
      have hall : namesOk ss := hok.out
      have Ha := Lib.hid hall
      clear hall hok hm
      go_wp2
      go_ret
      exact ⟨by rw [namesErr_yes Ha.out]; rfl, hb⟩

set_option maxHeartbeats 1600000 in
theorem checkFormulas_any (ao : Option Addr) (cap : Nat) (fs : List (List Int)) (n : Int) (w : World) (h : FormsAt w ao fs) (hn : 0 ≤ n) :
    Calls Tryz.prog 25 #[.int .i64 n, .slice ao fs.length cap] w fun e w' => e = .returned (.int .i64 (formsErr fs n)) ∧ w = w' := by
  have hlen := h.len
  unfold maxLen at hlen
  go_enter Tryz.func25, Tryz.ntmps25
  go_wp2
  go_loop [9] (fun i => ∃ k : Nat, k ≤ fs.length ∧ i = .int .i64 k ∧ Hid (∀ j, j < k → validB (fs.getD j []) n = true)) (fun i => fs.length - (intOf i).toNat)
  case atStart => exact ⟨0, Nat.zero_le _, rfl, fun j hj => absurd hj (by omega)⟩
  case round =>
    obtain ⟨k, hk, rfl, hok⟩ := hrel
    by_cases hlt : k < fs.length
    · obtain ⟨b, off, rfl, hc⟩ := h.cells (by omega)
      obtain ⟨a, c, hck, hints⟩ := hc k hlt
      have hst := formsErr_stop fs n k hlt
      have hokn : validB (fs.getD k []) n = true → Hid (∀ j, j < k + 1 → validB (fs.getD j []) n = true) := by
        intro a j hj
        by_cases e : j = k
        · subst e; exact a
        · exact hok.out j (by omega)
      generalize fs.getD k [] = f at *
      have Hst := Lib.hid hst; have Ho := Lib.hid hokn
      clear hc hst hokn hok
      cases hv : validB f n with
      | false =>
        have Hv := Lib.hid hv
        clear hv
        go_wp2_with (go_at_call 44; refine (valid_any _ _ _ _ _ hints hn).mono ?_; rintro e w' ⟨rfl, rfl⟩; rw [Hv.out])
        go_ret
        exact ⟨by rw [Hst.out Hv.out]; rfl, rfl⟩
      | true =>
        have Hv := Lib.hid hv
        clear hv
        go_wp2_with (go_at_call 44; refine (valid_any _ _ _ _ _ hints hn).mono ?_; rintro e w' ⟨rfl, rfl⟩; rw [Hv.out])
        go_round
        case rel => exact ⟨k + 1, by omega, by go_num, Ho.out Hv.out⟩
        case measure => simp [intOf]; omega
    · have : k = fs.length := by omega
      subst this
      have hall := formsErr_all fs n hok.out
      have Ha := Lib.hid hall
      clear hall hok
      go_wp2
      go_ret
      exact ⟨by rw [Ha.out]; rfl, rfl⟩
end Go.Proofs.YtngjjmniigkeoaaGreatDoor
