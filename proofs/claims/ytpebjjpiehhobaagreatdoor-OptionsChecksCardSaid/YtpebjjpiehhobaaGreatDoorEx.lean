/- The look at the examples that every statement ends with: the model of the example. -/
import Derived.Test.YtpebjjpiehhobaaGreatDoorMostB
namespace Go.Proofs.YtpebjjpiehhobaaGreatDoor
open Go Go.RowKit Go.WideMaps Go.Maps
set_option linter.unusedSimpArgs false
set_option linter.unusedVariables false

def exS : List ByteArray := [⟨#[116, 111, 119]⟩, ⟨#[104, 101, 97, 116]⟩, ⟨#[108, 101, 100]⟩]
def exF : List (List Int) := [[-5, 1, 2], [-3, -4, 0, 2]]
def ExEnd (w : World) (e : Ending) (w' : World) : Prop := ∃ ao ar ca cr, e = .returned (.agg #[.slice (some ao) exS.length ca, .slice (some ar) exF.length cr]) ∧ ModelAt w' (some ao) (some ar) exS exF ∧ Below w.heap.size w w'

theorem ints_of_block {W : World} {b : Nat} {cs : Array Value} {t : TypeId} {xs : List Int} (h : W.heap[b]? = some (.cells cs t (0, 0))) (e : cs = (xs.map (fun x => Value.int .i64 x)).toArray) (hl : xs.length ≤ 1000) (hf : ∀ x ∈ xs, -9223372036854775808 ≤ x ∧ x ≤ 9223372036854775807) (c : Nat) : IntsAt W (some ⟨b, 0, none⟩) c xs := by
  subst e
  refine ⟨by unfold maxLen; omega, fun _ => ⟨b, 0, rfl, fun k hk => ?_⟩, hf⟩
  rw [Nat.zero_add, cell_of_row W b k _ _ (0, 0) h]
  simp [List.getD, hk]

set_option maxHeartbeats 1600000 in
theorem example_any (w : World) : Calls Tryz.prog 30 #[] w (ExEnd w) := by
  have hfin : ∀ W, W = (((((w.alloc (.cells #[.slice (some ⟨w.heap.size + 1, 0, none⟩) 3 3, .slice (some ⟨w.heap.size + 1 + 1 + 1 + 1, 0, none⟩) 2 2] 25)).alloc (.cells #[.string ⟨#[116, 111, 119]⟩, .string ⟨#[104, 101, 97, 116]⟩, .string ⟨#[108, 101, 100]⟩] 9)).alloc (.cells #[.int .i64 (-5), .int .i64 1, .int .i64 2] 3)).alloc (.cells #[.int .i64 (-3), .int .i64 (-4), .int .i64 0, .int .i64 2] 3)).alloc (.cells #[.slice (some ⟨w.heap.size + 1 + 1, 0, none⟩) 3 3, .slice (some ⟨w.heap.size + 1 + 1 + 1, 0, none⟩) 4 4] 27)) →
      (W.cell? ⟨w.heap.size, 0, none⟩ = some (.slice (some ⟨w.heap.size + 1, 0, none⟩) 3 3) ∧ W.cell? ⟨w.heap.size, 1, none⟩ = some (.slice (some ⟨w.heap.size + 1 + 1 + 1 + 1, 0, none⟩) 2 2)) ∧ ExEnd w (.returned (.agg #[.slice (some ⟨w.heap.size + 1, 0, none⟩) 3 3, .slice (some ⟨w.heap.size + 1 + 1 + 1 + 1, 0, none⟩) 2 2])) W := by
    intro W hW
    obtain ⟨x0, x1, x2, x3, x4, x5, x6⟩ := boxes5 w (.cells #[.slice (some ⟨w.heap.size + 1, 0, none⟩) 3 3, .slice (some ⟨w.heap.size + 1 + 1 + 1 + 1, 0, none⟩) 2 2] 25) (.cells #[.string ⟨#[116, 111, 119]⟩, .string ⟨#[104, 101, 97, 116]⟩, .string ⟨#[108, 101, 100]⟩] 9) (.cells #[.int .i64 (-5), .int .i64 1, .int .i64 2] 3) (.cells #[.int .i64 (-3), .int .i64 (-4), .int .i64 0, .int .i64 2] 3) (.cells #[.slice (some ⟨w.heap.size + 1 + 1, 0, none⟩) 3 3, .slice (some ⟨w.heap.size + 1 + 1 + 1, 0, none⟩) 4 4] 27)
    rw [← hW] at x0 x1 x2 x3 x4 x5 x6
    clear hW
    have i1 : IntsAt W (some ⟨w.heap.size + 1 + 1, 0, none⟩) 3 [-5, 1, 2] := ints_of_block x2 rfl (by decide) (by decide) 3
    have i2 : IntsAt W (some ⟨w.heap.size + 1 + 1 + 1, 0, none⟩) 4 [-3, -4, 0, 2] := ints_of_block x3 rfl (by decide) (by decide) 4
    refine ⟨⟨(cell_of_row W _ 0 _ _ (0, 0) x0).trans rfl, (cell_of_row W _ 1 _ _ (0, 0) x0).trans rfl⟩, ⟨w.heap.size + 1, 0, none⟩, ⟨w.heap.size + 1 + 1 + 1 + 1, 0, none⟩, 3, 2, rfl, ⟨⟨by simp [exS, maxLen], fun _ => ⟨_, 0, rfl, fun k hk => ?_⟩, ?_⟩, ⟨by simp [exF, maxLen], fun _ => ⟨_, 0, rfl, fun k hk => ?_⟩⟩⟩, x6⟩
    · rw [Nat.zero_add, cell_of_row W _ k _ _ (0, 0) x1]
      have : k = 0 ∨ k = 1 ∨ k = 2 := by simp [exS] at hk; omega
      rcases this with rfl | rfl | rfl <;> rfl
    · intro s hs
      simp [exS] at hs
      rcases hs with rfl | rfl | rfl <;> simp [ByteArray.size, maxLen]
    · have : k = 0 ∨ k = 1 := by simp [exF] at hk; omega
      rcases this with rfl | rfl
      · exact ⟨some ⟨w.heap.size + 1 + 1, 0, none⟩, 3, (cell_of_row W _ 0 _ _ (0, 0) x4).trans rfl, i1⟩
      · exact ⟨some ⟨w.heap.size + 1 + 1 + 1, 0, none⟩, 4, (cell_of_row W _ 1 _ _ (0, 0) x4).trans rfl, i2⟩
  have Hfin := Lib.hid hfin
  clear hfin
  go_enter Tryz.func30, Tryz.ntmps30
  go_wp2_with fail
  have hf := Hfin.out _ rfl
  generalize (((((w.alloc (.cells #[.slice (some ⟨w.heap.size + 1, 0, none⟩) 3 3, .slice (some ⟨w.heap.size + 1 + 1 + 1 + 1, 0, none⟩) 2 2] 25)).alloc (.cells #[.string ⟨#[116, 111, 119]⟩, .string ⟨#[104, 101, 97, 116]⟩, .string ⟨#[108, 101, 100]⟩] 9)).alloc (.cells #[.int .i64 (-5), .int .i64 1, .int .i64 2] 3)).alloc (.cells #[.int .i64 (-3), .int .i64 (-4), .int .i64 0, .int .i64 2] 3)).alloc (.cells #[.slice (some ⟨w.heap.size + 1 + 1, 0, none⟩) 3 3, .slice (some ⟨w.heap.size + 1 + 1 + 1, 0, none⟩) 4 4] 27)) = W at *
  obtain ⟨⟨z1, z2⟩, hend⟩ := hf
  refine bodyPost_ret ?_ rfl hend
  simp [results, Tryz.results30, go_sem, z1, z2]

/-! ### The look at the examples: the numbers (plain). -/
open Go Go.RowKit Go.WideMaps Go.Maps
set_option linter.unusedSimpArgs false
set_option linter.unusedVariables false

theorem ex_counted : counted 3 (exF ++ [[-1]]) = 4 := by rfl
theorem ex_all (σ : Nat → Bool) : allF 3 exF σ = ((σ 1 || σ 2) && !(σ 0 && σ 2)) := by
  unfold allF exF byLev evalF
  cases h0 : σ 0 <;> cases h1 : σ 1 <;> cases h2 : σ 2 <;> simp [foldS, tk, opC, opF, List.range, List.range.loop, h0, h1, h2]
theorem ex_sum (σ : Nat → Bool) : sumF (byLev (List.range 3) σ) [[1], [2], [0]] [3, 2, 2] = (if σ 1 then 3 else 0) + ((if σ 2 then 2 else 0) + (if σ 0 then 2 else 0)) := by
  cases h0 : σ 0 <;> cases h1 : σ 1 <;> cases h2 : σ 2 <;> simp [sumF, addT, byLev, evalF, foldS, tk, opC, opF, List.range, List.range.loop, h0, h1, h2]
theorem ex_best {sum : Int} {vs : List Bool} (h : Best (allF 3 exF) (fun σ => sumF (byLev (List.range 3) σ) [[1], [2], [0]] [3, 2, 2]) sum vs) (hl : vs.length = 3) : sum = 5 ∧ vs = [false, true, true] := by
  obtain ⟨a, b, c, rfl⟩ : ∃ a b c, vs = [a, b, c] := by
    match vs, hl with
    | [a, b, c], _ => exact ⟨a, b, c, rfl⟩
  obtain ⟨σ, h1, h2⟩ := h.att
  have e0 : ov [a, b, c] σ 0 = a := rfl
  have e1 : ov [a, b, c] σ 1 = b := rfl
  have e2 : ov [a, b, c] σ 2 = c := rfl
  (try dsimp only at h2)
  rw [ex_all, e0, e1, e2] at h1
  rw [ex_sum, e0, e1, e2] at h2
  have h3 := h.ub (fun i => decide (0 < i)) (by rw [ex_all]; decide)
  have h4 : a = true → (5 : Int) < sum := fun ha => by
    have h6 := h.first 0 (by simp) (by simpa using ha) (fun i => decide (0 < i)) (fun i hi => by omega) (by decide) (by rw [ex_all]; decide)
    (try dsimp only at h6)
    rw [ex_sum] at h6
    simpa using h6
  (try dsimp only at h3)
  rw [ex_sum] at h3
  have h5 : (5 : Int) ≤ sum := by simpa using h3
  have hx : sum = 5 ∧ a = false ∧ b = true ∧ c = true := by
    cases a <;> cases b <;> cases c <;> simp at h1 h2 h4 ⊢ <;> omega
  obtain ⟨x1, rfl, rfl, rfl⟩ := hx
  exact ⟨x1, rfl⟩

/-! ### SameVariant. -/
open Go Go.RowKit Go.WideMaps Go.Maps
set_option linter.unusedSimpArgs false
set_option linter.unusedVariables false

/-- A list of bools in memory. -/
structure BoolsAt (w : World) (ao : Option Addr) (xs : List Bool) : Prop where
  len : xs.length ≤ maxLen
  cells : 0 < xs.length → ∃ b off, ao = some ⟨b, off, none⟩ ∧ ∀ k, k < xs.length → w.cell? ⟨b, off + k, none⟩ = some (.bool (xs.getD k false))
theorem BRow.bools {w : World} {base g n cap : Nat} {xs : List Bool} (h : BRow w base g n cap xs) (hn : n ≤ 1000) : BoolsAt w (some ⟨g, 0, none⟩) xs := by
  have hl := h.len
  exact ⟨by unfold maxLen; omega, fun _ => ⟨g, 0, rfl, fun k hk => by rw [Nat.zero_add]; exact h.cell (by omega)⟩⟩

theorem same_at {xs ys : List Bool} {k : Nat} (hl : xs.length = ys.length) (h : ∀ j, j < k → xs.getD j false = ys.getD j false) (hk : k = xs.length) : (xs == ys) = true := by
  subst hk
  rw [beq_iff_eq]
  apply List.ext_getElem hl
  intro i h1 h2
  have := h i h1
  simpa [List.getD, h1, h2] using this
theorem same_not {xs ys : List Bool} {k : Nat} (h : xs.getD k false ≠ ys.getD k false) : (xs == ys) = false := by
  rw [beq_eq_false_iff_ne]
  rintro rfl
  exact h rfl

set_option maxHeartbeats 1600000 in
theorem same_any (xo yo : Option Addr) (xc yc : Nat) (xs ys : List Bool) (w : World) (hx : BoolsAt w xo xs) (hy : BoolsAt w yo ys) :
    Calls Tryz.prog 32 #[.slice xo xs.length xc, .slice yo ys.length yc] w fun e w' => e = .returned (.bool (xs == ys)) ∧ Keeps (fun _ => False) w w' := by
  have hl1 := hx.len; have hl2 := hy.len
  unfold maxLen at hl1 hl2
  by_cases hl : xs.length = ys.length
  · have hq : (((xs.length : Int)) != (ys.length : Int)) = false := by rw [hl]; simp
    have Hx := Lib.hid hx; have Hy := Lib.hid hy; have Hl := Lib.hid hl
    clear hx hy hl
    go_enter Tryz.func32, Tryz.ntmps32
    go_wp2_with fail
    go_loopw [5] (fun i wr => ∃ (k : Nat), k ≤ xs.length ∧ i = .int .i64 k ∧ Keeps (fun _ => False) w wr ∧ ∀ j, j < k → xs.getD j false = ys.getD j false) (fun i _ => xs.length - (intOf i).toNat)
    case atStart => exact ⟨0, Nat.zero_le _, rfl, Keeps.refl _ _, fun j hj => by omega⟩
    case round =>
      obtain ⟨k, hk, rfl, kp, hsame⟩ := hrel
      by_cases hlt : k < xs.length
      · obtain ⟨b1, o1, rfl, hc1⟩ := Hx.out.cells (by omega)
        obtain ⟨b2, o2, rfl, hc2⟩ := Hy.out.cells (by have := Hl.out; omega)
        have c1 := kp.cell (hc1 k hlt) (fun e => e)
        have c2 := kp.cell (hc2 k (by have := Hl.out; omega)) (fun e => e)
        have i1 : (k : Int) < (xs.length : Int) := by omega
        have i2 : (k : Int) < (ys.length : Int) := by have := Hl.out; omega
        have hs := Lib.hid hsame
        have Kp := Lib.hid kp
        clear hc1 hc2 hsame kp
        by_cases he : xs.getD k false = ys.getD k false
        · have hn : ∀ j, j < k + 1 → xs.getD j false = ys.getD j false := fun j hj => by
            by_cases e : j = k
            · subst e; exact he
            · exact hs.out j (by omega)
          have Hn := Lib.hid hn
          rw [he] at c1
          clear hn he
          cases hb : ys.getD k false
          all_goals
            rw [hb] at c1 c2
            clear hb
            go_wp2_with fail
            go_quiet (fail)
            go_wp2_with fail
            go_roundw
            case rel => exact ⟨k + 1, by omega, by go_num, Kp.out.drewN _, Hn.out⟩
            case measure => simp [intOf]; omega
        · have hf := Lib.hid (same_not he)
          have he2 : xs.getD k false = !ys.getD k false := by cases h1 : xs.getD k false <;> cases h2 : ys.getD k false <;> rw [h1, h2] at he <;> first | rfl | exact absurd rfl he
          rw [he2] at c1
          clear he he2
          cases hb : ys.getD k false
          all_goals
            rw [hb] at c1 c2
            clear hb
            simp only [Bool.not_false, Bool.not_true] at c1
            go_wp2_with fail
            go_quiet (fail)
            go_wp2_with fail
            go_ret
            exact ⟨by rw [hf.out]; rfl, Kp.out.drewN _⟩
      · obtain rfl : k = xs.length := by omega
        have hf := Lib.hid (same_at Hl.out hsame rfl)
        clear hsame
        go_wp2_with fail
        go_ret
        exact ⟨by rw [hf.out]; rfl, kp⟩
  · have hq : (((xs.length : Int)) != (ys.length : Int)) = true := by rw [bne_iff_ne]; omega
    have hf : (xs == ys) = false := by rw [beq_eq_false_iff_ne]; rintro rfl; exact hl rfl
    have Hf := Lib.hid hf
    clear hx hy hl hf
    go_enter Tryz.func32, Tryz.ntmps32
    go_wp2_with fail
    go_ret
    exact ⟨by rw [Hf.out]; rfl, Keeps.refl _ _⟩
end Go.Proofs.YtpebjjpiehhobaaGreatDoor
