/- Powers of two; the cycles of a message, bit by bit. -/
import Derived.Test.YtcelbmpdnkaamaaBuT
import Derived.Laws.Bits64b
namespace Go.Proofs.Ytcelbmpdnkaamaa
open Go Go.RowKit Go.WideMaps Go.Maps
set_option linter.unusedSimpArgs false
set_option linter.unusedVariables false

def powB (n hi : Int) : Bool := fromB 1 n hi && (bits .and .i64 n (n - 1) == 0)
theorem isPower_any (n hi : Int) (w : World) (hh : hi ≤ 1000) : Calls Try.prog 73 #[.int .i64 n, .int .i64 hi] w fun e w' => e = .returned (.bool (powB n hi)) ∧ w' = w := by
  have h1 := isFrom_any 1 n hi
  have hp : powB n hi = (fromB 1 n hi && (bits .and .i64 n (n - 1) == 0)) := rfl
  have H1 := Lib.hid h1; have Hp := Lib.hid hp
  clear h1 hp
  go_enter Try.func73, Try.ntmps73
  go_wp2_with fail
  refine (H1.out _).mono ?_
  rintro e w1 ⟨rfl, rfl⟩
  cases hb : fromB 1 n hi
  · go_wp2_with fail
    go_ret
    exact ⟨by rw [Hp.out, hb]; rfl, rfl⟩
  · have hb2 := hb
    unfold fromB at hb2
    simp only [Bool.and_eq_true, decide_eq_true_eq] at hb2
    have q1 : wrap64 (n - 1) = n - 1 := wrap_in (by omega) (by omega)
    go_wp2_with fail
    go_ret
    exact ⟨by rw [Hp.out, hb]; rfl, rfl⟩
theorem refPower_any (n hi : Int) (w : World) (hh : hi ≤ 1000) : Calls Try.prog 78 #[.int .i64 n, .int .i64 hi] w fun e w' => e = .returned (.bool (powB n hi)) ∧ w' = w := by
  have h1 := within_any 1 n hi
  have hp : powB n hi = (fromB 1 n hi && (bits .and .i64 n (n - 1) == 0)) := rfl
  have H1 := Lib.hid h1; have Hp := Lib.hid hp
  clear h1 hp
  go_enter Try.func78, Try.ntmps78
  go_wp2_with fail
  refine (H1.out _).mono ?_
  rintro e w1 ⟨rfl, rfl⟩
  cases hb : fromB 1 n hi
  · go_wp2_with fail
    go_ret
    exact ⟨by rw [Hp.out, hb]; rfl, rfl⟩
  · have hb2 := hb
    unfold fromB at hb2
    simp only [Bool.and_eq_true, decide_eq_true_eq] at hb2
    have q1 : wrap64 (n - 1) = n - 1 := wrap_in (by omega) (by omega)
    go_wp2_with fail
    go_ret
    exact ⟨by rw [Hp.out, hb]; rfl, rfl⟩
theorem pow_list : ∀ n : Fin 65, (bits .and .i64 (n.val : Int) ((n.val : Int) - 1) == 0) = true → 1 ≤ n.val → ∃ p : Fin 7, n.val = 2 ^ p.val := by decide +kernel
theorem powB_two {n hi : Int} (h : powB n hi = true) (hh : hi ≤ 64) : ∃ p : Nat, p < 7 ∧ n = ((2 ^ p : Nat) : Int) ∧ n ≤ hi := by
  unfold powB fromB at h
  simp only [Bool.and_eq_true, decide_eq_true_eq] at h
  obtain ⟨⟨h1, h2⟩, h3⟩ := h
  obtain ⟨m, rfl⟩ : ∃ m : Nat, n = m := ⟨n.toNat, by omega⟩
  obtain ⟨p, hp⟩ := pow_list ⟨m, by omega⟩ h3 (by show 1 ≤ m; omega)
  exact ⟨p.val, p.isLt, by show (m : Int) = _; simp only at hp; rw [hp], h2⟩

/-! ### Cycles -/
def maskTo (every base : Nat) : Nat → Nat
  | 0 => 0
  | k + 1 => maskTo every base k ||| 2 ^ (base + k * every)
def maskOf (C every base : Nat) : Nat := maskTo every base ((C - base + every - 1) / every)
theorem maskTo_lt {every base : Nat} : ∀ k, (∀ j, j < k → base + j * every < 64) → maskTo every base k < 18446744073709551616
  | 0, _ => by simp [maskTo]
  | k + 1, h => by
    have h1 := maskTo_lt (every := every) (base := base) k (fun j hj => h j (by omega))
    have h2 := h k (by omega)
    unfold maskTo
    have h3 : 2 ^ (base + k * every) < 2 ^ 64 := Nat.pow_lt_pow_right (by omega) h2
    have := Nat.or_lt_two_pow (x := maskTo every base k) (y := 2 ^ (base + k * every)) (n := 64) (by omega) h3
    omega
theorem terms_eq {C every base k : Nat} (he : 0 < every) (hb : base < C) (h1 : ∀ j, j < k → base + j * every < C) (h2 : C ≤ base + k * every) : (C - base + every - 1) / every = k := by
  apply Nat.div_eq_of_lt_le
  · by_cases h0 : k = 0
    · subst h0; simp at h2; omega
    · have h3 := h1 (k - 1) (by omega)
      have e : k * every = (k - 1) * every + every := by
        rw [show k = (k - 1) + 1 by omega, Nat.add_mul]; simp
      omega
  · have e : (k + 1) * every = k * every + every := by rw [Nat.add_mul]; simp
    omega

set_option maxRecDepth 100000 in
theorem cyclesOf_any (ns : Int) (C every base : Nat) (ma : Option Addr) (mn mc : Nat) (w : World) (hC : C ≤ 64) (he : 0 < every) (he2 : every ≤ 64) (hb : base < C) : Calls Try.prog 80 #[.agg #[.int .i64 ns, .int .i64 (C : Int), .slice ma mn mc], .int .i64 (every : Int), .int .i64 (base : Int)] w fun e w' => e = .returned (.int .u64 (maskOf C every base : Nat)) ∧ Kp w w' := by
  have hk := kp_alloc w (.cells #[.int .i64 ns, .int .i64 (C : Int), .slice ma mn mc] 35)
  have c1 : (w.alloc (.cells #[.int .i64 ns, .int .i64 (C : Int), .slice ma mn mc] 35)).cell? ⟨w.heap.size, 1, none⟩ = some (.int .i64 (C : Int)) := by simp
  have Hk := Lib.hid hk
  clear hk
  go_enter Try.func80, Try.ntmps80
  go_wp2_with fail
  generalize (w.alloc (.cells #[.int .i64 ns, .int .i64 (C : Int), .slice ma mn mc] 35)) = V at *
  go_loopw [7, 8] (fun m i wr => ∃ (k c x : Nat), i = .int .i64 (c : Int) ∧ c = base + k * every ∧ m = .int .u64 (x : Int) ∧ x = maskTo every base k ∧ wr = V ∧ Hid (∀ j, j < k → base + j * every < C)) (fun _ i _ => (C - intOf i).toNat)
  case atStart => exact ⟨0, base, 0, rfl, by simp, rfl, rfl, rfl, Lib.hid (fun j hj => by omega)⟩
  case round =>
    obtain ⟨k, c, x, rfl, hc, rfl, hx, rfl, hj⟩ := hrel
    by_cases hlt : c < C
    · have i1 : (c : Int) < (C : Int) := by omega
      have q1 : wrap64 ((c : Int) + every) = ((c + every : Nat) : Int) := by rw [wrap_in (by omega) (by omega)]; omega
      have hxl : x < 18446744073709551616 := by rw [hx]; exact maskTo_lt k (fun j h => by have := hj.out j h; omega)
      have h3 : 2 ^ c < 2 ^ 64 := Nat.pow_lt_pow_right (by omega) (show c < 64 by omega)
      have he2 : ((2 : Int) ^ c) = ((2 ^ c : Nat) : Int) := by rw [Int.natCast_pow]; rfl
      have q2 : IntKind.u64.wrap ((2 : Int) ^ c) = (2 : Int) ^ c := by
        rw [he2]
        generalize 2 ^ c = P at *
        exact IntWalk.u64_in _ ⟨by omega, by omega⟩
      have q3 := bits_or_u64_nat x (2 ^ c) hxl (by omega)
      have hn : Hid (x ||| 2 ^ c = maskTo every base (k + 1)) := Lib.hid (by rw [hx, hc]; rfl)
      have hj2 : Hid (∀ j, j < k + 1 → base + j * every < C) := Lib.hid (fun j h => by
        by_cases e : j = k
        · subst e; omega
        · exact hj.out j (by omega))
      have hc2 : Hid (c + every = base + (k + 1) * every) := Lib.hid (by rw [hc, Nat.add_mul]; omega)
      have He2 := Lib.hid he2; have Q3 := Lib.hid q3
      clear hx hc hj h3 he2 q3
      go_wp2_with fail
      go_roundw
      case rel => exact ⟨k + 1, c + every, x ||| 2 ^ c, by first | rfl | rw [q1], hc2.out, by rw [He2.out, Q3.out], hn.out, by first | rfl | trivial, hj2⟩
      case measure => simp [intOf]; omega
    · have i1 : decide ((c : Int) < (C : Int)) = false := decide_eq_false (by omega)
      have hm : Hid (x = maskOf C every base) := Lib.hid (by
        unfold maskOf
        rw [terms_eq he hb hj.out (by omega), hx])
      clear hx hj
      go_wp2_with fail
      go_ret
      exact ⟨by rw [hm.out]; rfl, Hk.out⟩

/-! ### Two messages in one slot -/
def clashTable : Bool := (List.range 7).all fun p => (List.range (p + 1)).all fun a => (List.range (p + 1)).all fun b => (List.range (2 ^ a)).all fun x => (List.range (2 ^ b)).all fun y =>
  ((maskOf (2 ^ p) (2 ^ a) x &&& maskOf (2 ^ p) (2 ^ b) y == 0) == !(x % (2 ^ (min a b)) == y % (2 ^ (min a b)))) && !(maskOf (2 ^ p) (2 ^ a) x == 0)
theorem clash_table : clashTable = true := by decide +kernel
end Go.Proofs.Ytcelbmpdnkaamaa
