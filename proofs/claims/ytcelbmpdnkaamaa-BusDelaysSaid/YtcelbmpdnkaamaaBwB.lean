/- The reference's up and busy. -/
import Derived.Test.YtcelbmpdnkaamaaBwA
namespace Go.Proofs.Ytcelbmpdnkaamaa
open Go Go.RowKit Go.WideMaps Go.Maps
set_option linter.unusedSimpArgs false
set_option linter.unusedVariables false

theorem refUp_any (a b : Int) (w : World) (ha : 0 ≤ a) (ha2 : a ≤ 1000000000000000000) (hb : 0 < b) (hb2 : b ≤ 1000000000000000000) : Calls Try.prog 62 #[.int .i64 a, .int .i64 b] w fun e w' => e = .returned (.int .i64 (upI a b)) ∧ w' = w := by
  go_enter Try.func62, Try.ntmps62
  go_wp2_with fail
  go_ret
  exact ⟨by simp [upI], rfl⟩
theorem sumLe_bd {u : Fr → Int} {ls : List Fr} {r M : Int} (hM : 0 ≤ M) (h : ∀ k, k < ls.length → 0 ≤ u (frAt ls k) ∧ u (frAt ls k) ≤ M) : ∀ k, k ≤ ls.length → 0 ≤ sumLe u ls r k ∧ sumLe u ls r k ≤ k * M
  | 0, _ => by simp [sumLe]
  | k + 1, hk => by
    have h1 := sumLe_bd (r := r) hM h k (by omega)
    have h2 := h k (by omega)
    have e : ((k + 1 : Nat) : Int) * M = k * M + M := by push_cast; rw [Int.add_mul, Int.one_mul]
    unfold sumLe
    rw [e]
    split <;> omega
set_option maxRecDepth 100000 in
set_option maxHeartbeats 3200000 in
theorem refBusy_any (la : Option Addr) (lc : Nat) (ls : List Fr) (i : Nat) (b t : Int) (w : World) (h : FramesAt w la ls) (ok : FrsOk ls) (hi : i < ls.length) (hb : 0 ≤ b ∧ b ≤ 1000) (h1 : 1 ≤ t) (h2 : t ≤ 1000000) :
    Calls Try.prog 69 #[.slice la ls.length lc, .int .i64 i, .int .i64 b, .int .i64 t] w fun e w' => e = .returned (.int .i64 (b + sumLe (fun f => upT f t) ls (frAt ls i).r ls.length)) ∧ Kp w w' := by
  have hn := ok.1
  have hsum := fun m (hm : m ≤ ls.length) => sumLe_bd (u := fun f => upT f t) (r := (frAt ls i).r) (M := 1100000000) (by omega) (fun k hk => (upT_bd (ok.2 k hk) (by omega) h2).2.2) m hm
  have HA := Lib.hid h; have Hok := Lib.hid ok.2; have Hsum := Lib.hid hsum
  have iI : (i : Int) < (ls.length : Int) := by omega
  clear h ok hsum
  go_enter Try.func69, Try.ntmps69
  go_wp2_with fail
  go_loopw [9, 10] (fun sm i' wq => ∃ (m : Nat), m ≤ ls.length ∧ i' = .int .i64 m ∧ sm = .int .i64 (b + sumLe (fun f => upT f t) ls (frAt ls i).r m) ∧ Kp w wq) (fun _ i' _ => ls.length - (intOf i').toNat)
  case atStart => exact ⟨0, Nat.zero_le _, rfl, by simp [sumLe], Kp.refl w⟩
  case round =>
    obtain ⟨m, hm, rfl, rfl, kp⟩ := hrel
    have hsm := Hsum.out m hm
    by_cases hlt : m < ls.length
    · obtain ⟨b1, o1, rfl, hc1⟩ := (HA.out.kp kp).cells (by omega)
      obtain ⟨e0, e1, e2, e3, e4⟩ := hc1 m hlt
      obtain ⟨_, _, _, _, d4⟩ := hc1 i hi
      have i1 : (m : Int) < (ls.length : Int) := by omega
      have fo := Hok.out m hlt
      have hj' := fo.j; have he' := fo.e; have hs' := fo.s
      have hu' := upT_bd fo (t := t) (by omega) h2
      have hup := fun W => refUp_any (t + (frAt ls m).j) (frAt ls m).e W (by omega) (by omega) (by omega) (by omega)
      have hut : upT (frAt ls m) t = upI (t + (frAt ls m).j) (frAt ls m).e * (frAt ls m).s := rfl
      have hsn : sumLe (fun f => upT f t) ls (frAt ls i).r (m + 1) = if (frAt ls m).r ≤ (frAt ls i).r then sumLe (fun f => upT f t) ls (frAt ls i).r m + upT (frAt ls m) t else sumLe (fun f => upT f t) ls (frAt ls i).r m := rfl
      have Hup' := Lib.hid hup; have Hsn := Lib.hid hsn; have Kpa := Lib.hid kp
      clear hup hsn fo hc1 kp
      generalize sumLe (fun f => upT f t) ls (frAt ls i).r m = S at *
      generalize upT (frAt ls m) t = P' at *
      generalize (frAt ls m).s = s' at *
      generalize (frAt ls m).e = e' at *
      generalize (frAt ls m).j = j' at *
      generalize (frAt ls m).d = d' at *
      generalize (frAt ls m).r = r' at *
      generalize (frAt ls i).r = ri at *
      generalize hU' : upI (t + j') e' = U' at *
      have q1' : wrap64 (t + j') = t + j' := wrap_in (by omega) (by omega)
      have q2' : wrap64 (U' * s') = P' := by rw [← hut]; exact wrap_in (by omega) (by omega)
      have q3' : wrap64 (b + S + P') = b + S + P' := wrap_in (by omega) (by omega)
      have q1w : IntKind.i64.wrap (t + j') = t + j' := IntWalk.i64_in _ ⟨by omega, by omega⟩
      have q2w : IntKind.i64.wrap (U' * s') = P' := by rw [← hut]; exact IntWalk.i64_in _ ⟨by omega, by omega⟩
      have q3w : IntKind.i64.wrap (b + S + P') = b + S + P' := IntWalk.i64_in _ ⟨by omega, by omega⟩
      clear hut
      by_cases hr : r' ≤ ri
      · have hd : decide (r' ≤ ri) = true := decide_eq_true hr
        go_wp2_with fail
        go_quiet (fail)
        go_wp2_with fail
        go_quiet ((go_at_call 62; exact (Hup'.out _).mono fun e w' h => ⟨h.1, _, h.2⟩))
        go_wp2_with fail
        go_roundw
        case rel => exact ⟨m + 1, by omega, by go_num, by rw [Hsn.out, if_pos hr, Int.add_assoc], Keeps.drewN Kpa.out _⟩
        case measure => simp [intOf]; omega
      · have hd : decide (r' ≤ ri) = false := decide_eq_false hr
        go_wp2_with fail
        go_quiet (fail)
        go_wp2_with fail
        go_roundw
        case rel => exact ⟨m + 1, by omega, by go_num, by rw [Hsn.out, if_neg (by omega)], Keeps.drewN Kpa.out _⟩
        case measure => simp [intOf]; omega
    · obtain rfl : m = ls.length := by omega
      go_wp2_with fail
      go_ret
      exact ⟨rfl, kp⟩
end Go.Proofs.Ytcelbmpdnkaamaa
