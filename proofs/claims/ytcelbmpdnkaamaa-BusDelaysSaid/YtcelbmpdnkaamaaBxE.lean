/- The reference's has and flow. -/
import Derived.Test.YtcelbmpdnkaamaaBxD
namespace Go.Proofs.Ytcelbmpdnkaamaa
open Go Go.RowKit Go.WideMaps Go.Maps
set_option linter.unusedSimpArgs false
set_option linter.unusedVariables false

set_option maxHeartbeats 1600000 in
theorem refHas_any (ao : Option Addr) (c : Nat) (xs : List Int) (v : Int) (w : World) (h : IntsAt w ao xs) :
    Calls Try.prog 60 #[.slice ao xs.length c, .int .i64 v] w fun e w' => e = .returned (.bool (hasI xs v)) ∧ Kp w w' := by
  have hl1 := h.len
  unfold maxLen at hl1
  have Hx := Lib.hid h
  clear h
  go_enter Try.func60, Try.ntmps60
  go_wp2_with fail
  go_loopw [5] (fun i wr => ∃ (k : Nat), k ≤ xs.length ∧ i = .int .i64 k ∧ Kp w wr ∧ ∀ j, j < k → xs.getD j 0 ≠ v) (fun i _ => xs.length - (intOf i).toNat)
  case atStart => exact ⟨0, Nat.zero_le _, rfl, Kp.refl _, fun j hj => by omega⟩
  case round =>
    obtain ⟨k, hk, rfl, kp, hno⟩ := hrel
    by_cases hlt : k < xs.length
    · obtain ⟨b1, o1, rfl, hc1⟩ := Hx.out.cells (by omega)
      have c1 := kp.cell (hc1 k hlt)
      have Kq := Lib.hid kp
      clear kp
      have i1 : (k : Int) < (xs.length : Int) := by omega
      by_cases hv : xs.getD k 0 = v
      · have he := (idx_at hlt hv hno).2
        have He := Lib.hid he
        have q0 : (v == v) = true := by simp
        clear he hno hc1
        rw [hv] at c1
        go_wp2_with fail
        go_ret
        exact ⟨by rw [He.out]; rfl, Kq.out⟩
      · have hn2 : ∀ j, j < k + 1 → xs.getD j 0 ≠ v := fun j hj => by
          by_cases e : j = k
          · subst e; exact hv
          · exact hno j (by omega)
        have Hn := Lib.hid hn2
        generalize xs.getD k 0 = x at *
        have q0 : (x == v) = false := by simp; exact fun e => hv e
        clear hno hn2 hc1 hv
        go_wp2_with fail
        go_roundw
        case rel => exact ⟨k + 1, by omega, by go_num, Kq.out, Hn.out⟩
        case measure => simp [intOf]; omega
    · obtain rfl : k = xs.length := by omega
      have He := Lib.hid (idx_none hno).2
      clear hno
      go_wp2_with fail
      go_ret
      exact ⟨by rw [He.out]; rfl, kp⟩
theorem refFlow_any (f : Fl) (a : Option Addr) (c : Nat) (w : World) :
    Calls Try.prog 90 #[flV f a c] w fun e w' => e = .returned (.bool (limB f)) ∧ Kp w w' := by
  obtain ⟨b, r, p⟩ := f
  unfold flV limB
  dsimp only
  have hk := kp_alloc w (.cells #[.int .i64 b, .int .i64 r, .slice a p.length c] 61)
  have h1 := within_any 1 b 100000
  have h2 := within_any 0 r 10000
  have H1 := Lib.hid h1; have H2 := Lib.hid h2; have Hk := Lib.hid hk
  clear h1 h2 hk
  go_enter Try.func90, Try.ntmps90
  go_wp2_with fail
  refine (H1.out _).mono ?_
  rintro e w1 ⟨rfl, rfl⟩
  cases hx : fromB 1 b 100000
  · go_wp2_with fail
    go_ret
    exact ⟨by rw [hx]; rfl, Hk.out⟩
  · go_wp2_with fail
    refine (H2.out _).mono ?_
    rintro e w1 ⟨rfl, rfl⟩
    cases hy : fromB 0 r 10000
    all_goals
      go_wp2_with fail
      go_ret
      exact ⟨by rw [hx, hy]; rfl, Hk.out⟩
end Go.Proofs.Ytcelbmpdnkaamaa
