/- The program's rank and Rank. -/
import Derived.Test.YtcelbmpdnkaamaaByC
import Derived.OwnWalk
namespace Go.Proofs.Ytcelbmpdnkaamaa
open Go Go.RowKit Go.WideMaps Go.Maps
set_option linter.unusedSimpArgs false
set_option linter.unusedVariables false

def fillT (n : Nat) : Nat → List Int
  | 0 => List.replicate n 0
  | k + 1 => (fillT n k).set k (-1)
theorem fillT_len (n : Nat) : ∀ k, (fillT n k).length = n
  | 0 => by simp [fillT]
  | k + 1 => by simp [fillT, fillT_len n k]
theorem fillT_at (n : Nat) : ∀ k j, k ≤ n → (fillT n k).getD j 0 = if j < k then -1 else 0
  | 0, j, _ => by
    simp [fillT, List.getD, List.getElem?_replicate]
    split <;> rfl
  | k + 1, j, hk => by
    have ih := fillT_at n k j (by omega)
    show ((fillT n k).set k (-1)).getD j 0 = _
    rw [getD_setI (by rw [fillT_len]; omega), ih]
    by_cases e : j = k
    · subst e; rw [if_pos rfl, if_pos (by omega)]
    · rw [if_neg e]
      by_cases h2 : j < k
      · rw [if_pos h2, if_pos (by omega)]
      · rw [if_neg h2, if_neg (by omega)]
theorem fillT_all (n : Nat) : fillT n n = List.replicate n (-1) := by
  apply List.ext_getElem
  · rw [fillT_len]; simp
  · intro i h1 h2
    have h := fillT_at n n i (Nat.le_refl _)
    rw [fillT_len] at h1
    rw [if_pos h1] at h
    have e : (fillT n n).getD i 0 = (fillT n n)[i] := by simp [List.getD, fillT_len, h1]
    rw [← e, h]; simp
def RkEnd (w : World) (n : Nat) (R : Option (List Int)) (e : Ending) (w' : World) : Prop :=
  match R with
  | some r => ∃ a c, e = .returned (.tuple #[.slice a n c, .bool true]) ∧ IntsAt w' a r ∧ Kp w w'
  | none => e = .returned (.tuple #[.slice none 0 0, .bool false]) ∧ Kp w w'

set_option maxRecDepth 100000 in
set_option maxHeartbeats 6400000 in
theorem busRank1_any (la : Option Addr) (lc : Nat) (ls : List Fr) (w : World) (h : FramesAt w la ls) (ok : FrsOk ls) :
    Calls Try.prog 45 #[.slice la ls.length lc] w (RkEnd w ls.length (rankOf ls)) := by
  have hl40 := ok.1
  obtain ⟨i0, hi0, hz0, hz1, hz2⟩ := info_parts infoInt
  have hfi := fun W ra rk (kW : Kp w W) (hr : IntsAt W ra rk) (hrl : rk.length = ls.length) => firstInTime_any la ra lc ls.length ls rk W (h.kp kW) hr hrl ok
  have hro : rankTo ls ls.length (fillT ls.length ls.length) = rankOf ls := by rw [fillT_all]; rfl
  have Hfi := Lib.hid hfi; have Hro := Lib.hid hro
  clear hfi h ok hro
  generalize rankOf ls = R at *
  go_enter Try.func45, Try.ntmps45
  go_wp2_with (first | (at_make; refine wpList_make_full _ rfl _ _ 28 rfl w.heap.size 3 i0 (.int .i64 0) 1 Try.underlying28 hi0 hz0 hz1 .i64 .i64 _ _ ls.length rfl rfl rfl rfl (by rw [hz2]; omega) (by unfold maxLen; omega) (by simp) ?_; intro w2 hown hgrow) | fail)
  have k2 : Kp w w2 := (Keeps.refl _ _).grown hgrow (fun k e => by cases e)
  have hrow0 : IRow w2 w.heap.size w.heap.size ls.length ls.length (fillT ls.length 0) := irow_made hown
  clear hown hgrow
  go_loopw [13] (fun i wq => ∃ (k : Nat), k ≤ ls.length ∧ i = .int .i64 k ∧ Kp w wq ∧ IRow wq w.heap.size w.heap.size ls.length ls.length (fillT ls.length k)) (fun i _ => ls.length - (intOf i).toNat)
  case atStart => exact ⟨0, Nat.zero_le _, rfl, k2, hrow0⟩
  case round =>
    clear k2 hrow0
    obtain ⟨w3, rfl⟩ : ∃ w3, w3 = wr := ⟨wr, rfl⟩
    obtain ⟨k, hk, rfl, kp, row⟩ := hrel
    by_cases hlt : k < ls.length
    case pos =>
      have i1 : (k : Int) < (ls.length : Int) := by omega
      have d1 := row.cell hlt
      have fz := row.frozen k
      have row2 := row.set k (-1)
      have kp2 : Kp w (w3.setCell ⟨w.heap.size, k, none⟩ (.int .i64 (-1))) := kp.setCell (Or.inr (Nat.le_refl _)) _
      have Row2 : Hid (IRow (w3.setCell ⟨w.heap.size, k, none⟩ (.int .i64 (-1))) w.heap.size w.heap.size ls.length ls.length (fillT ls.length (k + 1))) := Lib.hid row2
      have Kp2 := Lib.hid kp2
      clear row2 kp2 row kp
      generalize (fillT ls.length k).getD k 0 = x at *
      go_wp2_with fail
      go_roundw
      case rel => exact ⟨k + 1, by omega, by go_num, Kp2.out, Row2.out⟩
      case measure => simp [intOf]; omega
    case neg =>
      obtain rfl : k = ls.length := by omega
      have Row := Lib.hid row; have Kq := Lib.hid kp
      clear row kp
      go_wp2_with fail
      go_loopw [6] (fun i wq => ∃ (m : Nat) (rk : List Int), m ≤ ls.length ∧ i = .int .i64 ((m : Int) - 1) ∧ Kp w wq ∧ IRow wq w.heap.size w.heap.size ls.length ls.length rk ∧ Hid (rankTo ls m rk = R)) (fun i _ => (intOf i + 1).toNat)
      case atStart => exact ⟨ls.length, _, Nat.le_refl _, by go_num, Kq.out, Row.out, Hro⟩
      case round =>
        clear Row Kq
        obtain ⟨w4, rfl⟩ : ∃ w4, w4 = wr := ⟨wr, rfl⟩
        obtain ⟨m, rk, hm, rfl, kp, row, hR⟩ := hrel
        cases m with
        | zero =>
          have hR2 := hR.out
          unfold rankTo at hR2
          have q1 : decide ((0 : Int) ≤ ((0 : Nat) : Int) - 1) = false := by simp
          have hi := row.ints (by unfold maxLen; omega)
          have Hi := Lib.hid hi; have Kq := Lib.hid kp; have HR2 := Lib.hid hR2
          clear hi kp hR2 hR row
          go_wp2_with fail
          go_ret2
          rw [← HR2.out]
          exact ⟨some ⟨w.heap.size, 0, none⟩, ls.length, rfl, Hi.out, Kq.out⟩
        | succ m =>
          have hlen := row.len
          have hcall := Hfi.out w4 (some ⟨w.heap.size, 0, none⟩) rk kp (row.ints (by unfold maxLen; omega)) hlen
          have hR2 : (match firstO ls rk with | some i => rankTo ls m (rk.set i (m : Int)) | none => none) = R := hR.out
          have hfs := fun i => first_some (ls := ls) (rk := rk) (k := i)
          have q1 : decide ((0 : Int) ≤ ((m + 1 : Nat) : Int) - 1) = true := decide_eq_true (by omega)
          have hf : firstI ls rk = match firstO ls rk with | some i => (i : Int) | none => -1 := rfl
          have Hcall := Lib.hid hcall; have Kq := Lib.hid kp; have Row := Lib.hid row
          clear hcall kp row hR
          generalize firstI ls rk = F at *
          cases hfo : firstO ls rk with
          | none =>
            rw [hfo] at hf hR2
            subst hf
            have HR2 := Lib.hid hR2
            clear hR2 hfs hfo
            go_wp2_with fail
            refine Hcall.out.mono ?_
            rintro e w5 ⟨rfl, kp5⟩
            go_wp2_with fail
            go_ret2
            rw [← HR2.out]
            exact ⟨rfl, Kq.out.step kp5⟩
          | some i =>
            rw [hfo] at hf hR2
            obtain ⟨hil, _, _⟩ := hfs i hfo
            subst hf
            have HR2 := Lib.hid hR2
            clear hR2 hfs hfo
            go_wp2_with fail
            refine Hcall.out.mono ?_
            rintro e w5 ⟨rfl, kp5⟩
            have row5 := Row.out.kp kp5
            have kw5 := Kq.out.step kp5
            have d1 := row5.cell hil
            have fz := row5.frozen i
            have i1 : (i : Int) < (ls.length : Int) := by omega
            have q2 : decide ((i : Int) < 0) = false := decide_eq_false (by omega)
            have em : ((m + 1 : Nat) : Int) - 1 = (m : Int) := by omega
            have Row6 : Hid (IRow (w5.setCell ⟨w.heap.size, i, none⟩ (.int .i64 (m : Int))) w.heap.size w.heap.size ls.length ls.length (rk.set i (m : Int))) := Lib.hid (row5.set i (m : Int))
            have Kp6 : Hid (Kp w (w5.setCell ⟨w.heap.size, i, none⟩ (.int .i64 (m : Int)))) := Lib.hid (kw5.setCell (Or.inr (Nat.le_refl _)) _)
            clear row5 kw5 kp5
            generalize rk.getD i 0 = x at *
            go_wp2_with fail
            go_roundw
            case rel => exact ⟨m, _, by omega, by go_num, Kp6.out, Row6.out, HR2⟩
            case measure => simp [intOf]

set_option maxRecDepth 100000 in
set_option maxHeartbeats 3200000 in
theorem busRank_any (la : Option Addr) (lc : Nat) (ls : List Fr) (w : World) (h : FramesAt w la ls) (hlc : ls.length ≤ lc) (hlc2 : lc ≤ maxLen) :
    Calls Try.prog 19 #[.slice la ls.length lc] w (EndL w (rankErr ls) (rankL ls)) := by
  have hch := check_any la lc ls w h hlc hlc2
  by_cases h0 : frErr ls = 0
  case neg =>
    have hre : rankErr ls = frErr ls := by unfold rankErr; rw [if_neg h0]
    have hfin : ∀ w', Kp w w' → EndL w (rankErr ls) (rankL ls) (.returned (.tuple #[.slice none 0 0, .int .i64 (frErr ls)])) w' := fun w' k => by
      unfold EndL; rw [hre, if_neg h0]; exact ⟨rfl, k⟩
    have hne : ((frErr ls) != 0) = true := by simpa using h0
    have Hf := Lib.hid hfin; have Hch := Lib.hid hch
    clear hfin h0 hch h hre
    generalize frErr ls = x at *
    go_enter Try.func19, Try.ntmps19
    go_wp2_with fail
    refine Hch.out.mono ?_
    rintro e w1 ⟨rfl, kp1⟩
    go_wp2_with fail
    go_ret2
    exact Hf.out _ kp1
  have ok := frErr_okW h0
  have hrk := fun W (kW : Kp w W) => busRank1_any la lc ls W (h.kp kW) ok
  rw [h0] at hch
  cases hR : rankOf ls with
  | none =>
    have hfin : ∀ w', Kp w w' → EndL w (rankErr ls) (rankL ls) (.returned (.tuple #[.slice none 0 0, .int .i64 42])) w' := fun w' k => by
      unfold EndL rankErr; rw [if_pos h0, hR]; exact ⟨rfl, k⟩
    rw [hR] at hrk
    have Hf := Lib.hid hfin; have Hch := Lib.hid hch; have Hrk := Lib.hid hrk
    clear hfin h0 hch h hrk ok hR
    go_enter Try.func19, Try.ntmps19
    go_wp2_with fail
    refine Hch.out.mono ?_
    rintro e w1 ⟨rfl, kp1⟩
    go_wp2_with fail
    refine (Hrk.out _ kp1).mono ?_
    rintro e w2 ⟨rfl, kp2⟩
    go_wp2_with fail
    go_ret2
    exact Hf.out _ (kp1.step kp2)
  | some r =>
    have hlen := rankTo_len ls _ _ _ hR
    have hl2 : r.length = ls.length := by simpa using hlen
    have hfin : ∀ a c w', IntsAt w' a r → Kp w w' → EndL w (rankErr ls) (rankL ls) (.returned (.tuple #[.slice a ls.length c, .int .i64 0])) w' := fun a c w' i k => by
      unfold EndL rankErr rankL; rw [if_pos h0, hR]; exact ⟨⟨a, c, by simp [hl2], i⟩, k⟩
    rw [hR] at hrk
    have Hf := Lib.hid hfin; have Hch := Lib.hid hch; have Hrk := Lib.hid hrk
    clear hfin h0 hch h hrk ok hR hlen
    go_enter Try.func19, Try.ntmps19
    go_wp2_with fail
    refine Hch.out.mono ?_
    rintro e w1 ⟨rfl, kp1⟩
    go_wp2_with fail
    refine (Hrk.out _ kp1).mono ?_
    rintro e w2 ⟨a, c, rfl, hi, kp2⟩
    go_wp2_with fail
    go_ret2
    exact Hf.out _ _ _ hi (kp1.step kp2)
end Go.Proofs.Ytcelbmpdnkaamaa
