/- A number in a list; when paths, flows and gates are valid. -/
import Derived.Test.YtcelbmpdnkaamaaBuB
namespace Go.Proofs.Ytcelbmpdnkaamaa
open Go Go.RowKit Go.WideMaps Go.Maps
set_option linter.unusedSimpArgs false
set_option linter.unusedVariables false

def hasI (xs : List Int) (v : Int) : Bool := xs.any (· == v)
def idxI (xs : List Int) (v : Int) : Int := if hasI xs v = true then (xs.findIdx (· == v) : Nat) else -1
theorem idx_none {xs : List Int} {v : Int} (h : ∀ j, j < xs.length → xs.getD j 0 ≠ v) : idxI xs v = -1 ∧ hasI xs v = false := by
  have e : hasI xs v = false := by
    unfold hasI; rw [List.any_eq_false]
    intro x hx
    obtain ⟨j, hj, rfl⟩ := List.getElem_of_mem hx
    have := h j hj
    simpa [List.getD, hj] using this
  exact ⟨by unfold idxI; rw [e]; rfl, e⟩
theorem idx_at {xs : List Int} {v : Int} {k : Nat} (hk : k < xs.length) (hv : xs.getD k 0 = v) (h : ∀ j, j < k → xs.getD j 0 ≠ v) : idxI xs v = k ∧ hasI xs v = true := by
  have e : hasI xs v = true := by
    unfold hasI; rw [List.any_eq_true]
    refine ⟨xs[k], List.getElem_mem hk, ?_⟩
    simpa [List.getD, hk] using hv
  refine ⟨?_, e⟩
  unfold idxI
  rw [if_pos e]
  congr 1
  rw [List.findIdx_eq hk]
  refine ⟨by simpa [List.getD, hk] using hv, fun j hj => ?_⟩
  have := h j hj
  have hj2 : j < xs.length := by omega
  simpa [List.getD, hj2] using this

set_option maxHeartbeats 1600000 in
theorem index_any (ao : Option Addr) (c : Nat) (xs : List Int) (v : Int) (w : World) (h : IntsAt w ao xs) :
    Calls Try.prog 100 #[.slice ao xs.length c, .int .i64 v] w fun e w' => e = .returned (.int .i64 (idxI xs v)) ∧ Kp w w' := by
  have hl1 := h.len
  unfold maxLen at hl1
  have Hx := Lib.hid h
  clear h
  go_enter Try.func100, Try.ntmps100
  go_wp2_with fail
  go_loopw [8] (fun i wr => ∃ (k : Nat), k ≤ xs.length ∧ i = .int .i64 k ∧ Kp w wr ∧ ∀ j, j < k → xs.getD j 0 ≠ v) (fun i _ => xs.length - (intOf i).toNat)
  case atStart => exact ⟨0, Nat.zero_le _, rfl, Kp.refl _, fun j hj => by omega⟩
  case round =>
    obtain ⟨k, hk, rfl, kp, hno⟩ := hrel
    by_cases hlt : k < xs.length
    · obtain ⟨b1, o1, rfl, hc1⟩ := Hx.out.cells (by omega)
      have c1 := kp.cell (hc1 k hlt)
      have Kq := Lib.hid kp
      clear kp
      have i1 : (k : Int) < (xs.length : Int) := by omega
      by_cases hv : xs.getD k 0 = v
      · have he := (idx_at hlt hv hno).1
        have He := Lib.hid he
        have q0 : (v == v) = true := by simp
        clear he hno hc1
        rw [hv] at c1
        go_wp2_with fail
        go_ret
        exact ⟨by rw [He.out]; rfl, Kq.out⟩
      · have hn2 : ∀ j, j < k + 1 → xs.getD j 0 ≠ v := fun j hj => by
          by_cases e : j = k
          · subst e; exact hv
          · exact hno j (by omega)
        have Hn := Lib.hid hn2
        generalize xs.getD k 0 = x at *
        have q0 : (v == x) = false := by simp; exact fun e => hv e.symm
        clear hno hn2 hc1 hv
        go_wp2_with fail
        go_roundw
        case rel => exact ⟨k + 1, by omega, by go_num, Kq.out, Hn.out⟩
        case measure => simp [intOf]; omega
    · obtain rfl : k = xs.length := by omega
      have He := Lib.hid (idx_none hno).1
      clear hno
      go_wp2_with fail
      go_ret
      exact ⟨by rw [He.out]; rfl, kp⟩

theorem contains_any (ao : Option Addr) (c : Nat) (xs : List Int) (v : Int) (w : World) (h : IntsAt w ao xs) :
    Calls Try.prog 99 #[.slice ao xs.length c, .int .i64 v] w fun e w' => e = .returned (.bool (hasI xs v)) ∧ Kp w w' := by
  have hi := index_any ao c xs v w h
  have Hi := Lib.hid hi
  clear hi h
  cases hb : hasI xs v
  · have e : idxI xs v = -1 := by unfold idxI; rw [hb]; rfl
    go_enter Try.func99, Try.ntmps99
    go_wp2_with fail
    refine Hi.out.mono ?_
    rintro e w1 ⟨rfl, kp⟩
    rw [e]
    go_wp2_with fail
    go_ret
    exact ⟨rfl, kp⟩
  · obtain ⟨k, e⟩ : ∃ k : Nat, idxI xs v = k := ⟨_, by unfold idxI; rw [hb]; rfl⟩
    go_enter Try.func99, Try.ntmps99
    go_wp2_with fail
    refine Hi.out.mono ?_
    rintro e w1 ⟨rfl, kp⟩
    rw [e]
    go_wp2_with fail
    go_ret
    exact ⟨rfl, kp⟩

/-! ### Flows, paths -/
def flV (f : Fl) (a : Option Addr) (c : Nat) : Value := .agg #[.int .i64 f.b, .int .i64 f.r, .slice a f.p.length c]
def limB (f : Fl) : Bool := fromB 1 f.b 100000 && fromB 0 f.r 10000

theorem isLimited_any (f : Fl) (a : Option Addr) (c : Nat) (w : World) :
    Calls Try.prog 86 #[flV f a c] w fun e w' => e = .returned (.bool (limB f)) ∧ Kp w w' := by
  obtain ⟨b, r, p⟩ := f
  unfold flV limB
  dsimp only
  have hk := kp_alloc w (.cells #[.int .i64 b, .int .i64 r, .slice a p.length c] 61)
  have h1 := isFrom_any 1 b 100000
  have h2 := isFrom_any 0 r 10000
  have H1 := Lib.hid h1; have H2 := Lib.hid h2; have Hk := Lib.hid hk
  clear h1 h2 hk
  go_enter Try.func86, Try.ntmps86
  go_wp2_with fail
  refine (H1.out _).mono ?_
  rintro e w1 ⟨rfl, rfl⟩
  cases hb : fromB 1 b 100000
  · go_wp2_with fail
    go_ret
    exact ⟨by rw [hb]; rfl, Hk.out⟩
  · go_wp2_with fail
    refine (H2.out _).mono ?_
    rintro e w1 ⟨rfl, rfl⟩
    cases hb2 : fromB 0 r 10000
    all_goals
      go_wp2_with fail
      go_ret
      exact ⟨by rw [hb, hb2]; rfl, Hk.out⟩
end Go.Proofs.Ytcelbmpdnkaamaa
