/- Small functions: ranges, quotients rounded up, lists that are equal, a number in a list. -/
import Derived.Test.YtcelbmpdnkaamaaBuA
import Derived.Test.YtcelbmpdnkaamaaChecked
import Derived.WalkLawsBesides
import Derived.BigQuiet
import Derived.Deep.QuietTactic
import Derived.Deep.AppendLies
import Derived.Deep.RegionLaw
import Derived.BigRegion
namespace Go.Proofs.Ytcelbmpdnkaamaa
open Go Go.RowKit Go.WideMaps Go.Maps
set_option linter.unusedSimpArgs false
set_option linter.unusedVariables false

def Enters (K : Nat) : Prop := ∀ (args : Array Value) (w : World), (callFunc K args).run Try.prog w = .ok (.enter K args) w
theorem enter_of {K : Nat} {fn : Func} (h : Try.prog.funcs[K]? = some fn) (hn : (fn.name == "runtime.NumGoroutine") = false) (hb : fn.body.isNone = false) : Enters K := by
  intro args w
  have hn2 : ¬ fn.name = "runtime.NumGoroutine" := by simpa using hn
  have hb2 : ¬ fn.body = none := by intro e; rw [e] at hb; cases hb
  simp [callFunc, go_sem, h, hn2, hb2]

def fromB (lo n hi : Int) : Bool := decide (lo ≤ n) && decide (n ≤ hi)
theorem isFrom_any (lo n hi : Int) (w : World) : Calls Try.prog 72 #[.int .i64 lo, .int .i64 n, .int .i64 hi] w fun e w' => e = .returned (.bool (fromB lo n hi)) ∧ w' = w := by
  by_cases h1 : lo ≤ n <;> by_cases h2 : n ≤ hi
  all_goals
    go_enter Try.func72, Try.ntmps72
    go_wp2_with fail
    go_ret
    exact ⟨by simp [fromB, h1, h2], rfl⟩
theorem within_any (lo n hi : Int) (w : World) : Calls Try.prog 41 #[.int .i64 n, .int .i64 lo, .int .i64 hi] w fun e w' => e = .returned (.bool (fromB lo n hi)) ∧ w' = w := by
  by_cases h1 : lo ≤ n <;> by_cases h2 : n ≤ hi
  all_goals
    go_enter Try.func41, Try.ntmps41
    go_wp2_with fail
    go_ret
    exact ⟨by simp [fromB, h1, h2], rfl⟩
theorem isOf_any (n m : Int) (w : World) : Calls Try.prog 38 #[.int .i64 n, .int .i64 m] w fun e w' => e = .returned (.bool (fromB 0 n (m - 1))) ∧ w' = w := by
  by_cases h1 : 0 ≤ n <;> by_cases h2 : n < m
  all_goals
    go_enter Try.func38, Try.ntmps38
    go_wp2_with fail
    go_ret
    exact ⟨by simp [fromB, h1]; (try omega), rfl⟩

def upI (a b : Int) : Int := (a + b - 1) / b
theorem up_any (a b : Int) (w : World) (ha : 0 ≤ a) (ha2 : a ≤ 1000000000000000000) (hb : 0 < b) (hb2 : b ≤ 1000000000000000000) : Calls Try.prog 66 #[.int .i64 a, .int .i64 b] w fun e w' => e = .returned (.int .i64 (upI a b)) ∧ w' = w := by
  go_enter Try.func66, Try.ntmps66
  go_wp2_with fail
  go_ret
  exact ⟨by simp [upI], rfl⟩

theorem sameInts_any (xo yo : Option Addr) (xc yc : Nat) (xs ys : List Int) (w : World) (hx : IntsAt w xo xs) (hy : IntsAt w yo ys) (he : xs = ys) :
    Calls Try.prog 16 #[.slice xo xs.length xc, .slice yo ys.length yc] w fun e w' => e = .returned (.bool true) ∧ Kp w w' := by
  subst he
  have hl1 := hx.len
  unfold maxLen at hl1
  have hq : (((xs.length : Int)) != (xs.length : Int)) = false := by simp
  have Hx := Lib.hid hx; have Hy := Lib.hid hy
  clear hx hy
  go_enter Try.func16, Try.ntmps16
  go_wp2_with fail
  go_loopw [5] (fun i wr => ∃ (k : Nat), k ≤ xs.length ∧ i = .int .i64 k ∧ Kp w wr) (fun i _ => xs.length - (intOf i).toNat)
  case atStart => exact ⟨0, Nat.zero_le _, rfl, Keeps.refl _ _⟩
  case round =>
    obtain ⟨k, hk, rfl, kp⟩ := hrel
    by_cases hlt : k < xs.length
    · obtain ⟨b1, o1, rfl, hc1⟩ := Hx.out.cells (by omega)
      obtain ⟨b2, o2, rfl, hc2⟩ := Hy.out.cells (by omega)
      have c1 := kp.cell (hc1 k hlt)
      have c2 := kp.cell (hc2 k hlt)
      have i1 : (k : Int) < (xs.length : Int) := by omega
      generalize xs.getD k 0 = x at *
      have q0 : ((x : Int) != x) = false := by simp
      have Kq := Lib.hid kp
      clear hc1 hc2 kp
      go_wp2_with fail
      go_quiet (fail)
      go_wp2_with fail
      go_roundw
      case rel => exact ⟨k + 1, by omega, by go_num, Kq.out.drewN _⟩
      case measure => simp [intOf]; omega
    · obtain rfl : k = xs.length := by omega
      go_wp2_with fail
      go_ret
      exact ⟨rfl, kp⟩
end Go.Proofs.Ytcelbmpdnkaamaa
