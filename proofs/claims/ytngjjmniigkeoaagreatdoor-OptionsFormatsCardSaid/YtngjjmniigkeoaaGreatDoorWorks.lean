/- The look at the examples that every statement ends with: the model of the example. works: the look at the examples succeeds. -/
import Derived.Test.YtngjjmniigkeoaaGreatDoorMostB
namespace Go.Proofs.YtngjjmniigkeoaaGreatDoor
open Go Go.RowKit Go.WideMaps Go.Maps
set_option linter.unusedSimpArgs false
set_option linter.unusedVariables false

def exS : List ByteArray := [⟨#[116, 111, 119]⟩, ⟨#[104, 101, 97, 116]⟩, ⟨#[108, 101, 100]⟩]
def exF : List (List Int) := [[-5, 1, 2], [-3, -4, 0, 2]]
def ExEnd (w : World) (e : Ending) (w' : World) : Prop := ∃ ao ar ca cr, e = .returned (.agg #[.slice (some ao) exS.length ca, .slice (some ar) exF.length cr]) ∧ ModelAt w' (some ao) (some ar) exS exF ∧ Below w.heap.size w w'

theorem ints_of_block {W : World} {b : Nat} {cs : Array Value} {t : TypeId} {xs : List Int} (h : W.heap[b]? = some (.cells cs t (0, 0))) (e : cs = (xs.map (fun x => Value.int .i64 x)).toArray) (hl : xs.length ≤ 1000) (hf : ∀ x ∈ xs, -9223372036854775808 ≤ x ∧ x ≤ 9223372036854775807) (c : Nat) : IntsAt W (some ⟨b, 0, none⟩) c xs := by
  subst e
  refine ⟨by unfold maxLen; omega, fun _ => ⟨b, 0, rfl, fun k hk => ?_⟩, hf⟩
  rw [Nat.zero_add, cell_of_row W b k _ _ (0, 0) h]
  simp [List.getD, hk]

set_option maxHeartbeats 1600000 in
theorem example_any (w : World) : Calls Tryz.prog 30 #[] w (ExEnd w) := by
  have hfin : ∀ W, W = (((((w.alloc (.cells #[.slice (some ⟨w.heap.size + 1, 0, none⟩) 3 3, .slice (some ⟨w.heap.size + 1 + 1 + 1 + 1, 0, none⟩) 2 2] 25)).alloc (.cells #[.string ⟨#[116, 111, 119]⟩, .string ⟨#[104, 101, 97, 116]⟩, .string ⟨#[108, 101, 100]⟩] 9)).alloc (.cells #[.int .i64 (-5), .int .i64 1, .int .i64 2] 3)).alloc (.cells #[.int .i64 (-3), .int .i64 (-4), .int .i64 0, .int .i64 2] 3)).alloc (.cells #[.slice (some ⟨w.heap.size + 1 + 1, 0, none⟩) 3 3, .slice (some ⟨w.heap.size + 1 + 1 + 1, 0, none⟩) 4 4] 27)) →
      (W.cell? ⟨w.heap.size, 0, none⟩ = some (.slice (some ⟨w.heap.size + 1, 0, none⟩) 3 3) ∧ W.cell? ⟨w.heap.size, 1, none⟩ = some (.slice (some ⟨w.heap.size + 1 + 1 + 1 + 1, 0, none⟩) 2 2)) ∧ ExEnd w (.returned (.agg #[.slice (some ⟨w.heap.size + 1, 0, none⟩) 3 3, .slice (some ⟨w.heap.size + 1 + 1 + 1 + 1, 0, none⟩) 2 2])) W := by
    intro W hW
    obtain ⟨x0, x1, x2, x3, x4, x5, x6⟩ := boxes5 w (.cells #[.slice (some ⟨w.heap.size + 1, 0, none⟩) 3 3, .slice (some ⟨w.heap.size + 1 + 1 + 1 + 1, 0, none⟩) 2 2] 25) (.cells #[.string ⟨#[116, 111, 119]⟩, .string ⟨#[104, 101, 97, 116]⟩, .string ⟨#[108, 101, 100]⟩] 9) (.cells #[.int .i64 (-5), .int .i64 1, .int .i64 2] 3) (.cells #[.int .i64 (-3), .int .i64 (-4), .int .i64 0, .int .i64 2] 3) (.cells #[.slice (some ⟨w.heap.size + 1 + 1, 0, none⟩) 3 3, .slice (some ⟨w.heap.size + 1 + 1 + 1, 0, none⟩) 4 4] 27)
    rw [← hW] at x0 x1 x2 x3 x4 x5 x6
    clear hW
    have i1 : IntsAt W (some ⟨w.heap.size + 1 + 1, 0, none⟩) 3 [-5, 1, 2] := ints_of_block x2 rfl (by decide) (by decide) 3
    have i2 : IntsAt W (some ⟨w.heap.size + 1 + 1 + 1, 0, none⟩) 4 [-3, -4, 0, 2] := ints_of_block x3 rfl (by decide) (by decide) 4
    refine ⟨⟨(cell_of_row W _ 0 _ _ (0, 0) x0).trans rfl, (cell_of_row W _ 1 _ _ (0, 0) x0).trans rfl⟩, ⟨w.heap.size + 1, 0, none⟩, ⟨w.heap.size + 1 + 1 + 1 + 1, 0, none⟩, 3, 2, rfl, ⟨⟨by simp [exS, maxLen], fun _ => ⟨_, 0, rfl, fun k hk => ?_⟩, ?_⟩, ⟨by simp [exF, maxLen], fun _ => ⟨_, 0, rfl, fun k hk => ?_⟩⟩⟩, x6⟩
    · rw [Nat.zero_add, cell_of_row W _ k _ _ (0, 0) x1]
      have : k = 0 ∨ k = 1 ∨ k = 2 := by simp [exS] at hk; omega
      rcases this with rfl | rfl | rfl <;> rfl
    · intro s hs
      simp [exS] at hs
      rcases hs with rfl | rfl | rfl <;> simp [ByteArray.size, maxLen]
    · have : k = 0 ∨ k = 1 := by simp [exF] at hk; omega
      rcases this with rfl | rfl
      · exact ⟨some ⟨w.heap.size + 1 + 1, 0, none⟩, 3, (cell_of_row W _ 0 _ _ (0, 0) x4).trans rfl, i1⟩
      · exact ⟨some ⟨w.heap.size + 1 + 1 + 1, 0, none⟩, 4, (cell_of_row W _ 1 _ _ (0, 0) x4).trans rfl, i2⟩
  have Hfin := Lib.hid hfin
  clear hfin
  go_enter Tryz.func30, Tryz.ntmps30
  go_wp2_with fail
  have hf := Hfin.out _ rfl
  generalize (((((w.alloc (.cells #[.slice (some ⟨w.heap.size + 1, 0, none⟩) 3 3, .slice (some ⟨w.heap.size + 1 + 1 + 1 + 1, 0, none⟩) 2 2] 25)).alloc (.cells #[.string ⟨#[116, 111, 119]⟩, .string ⟨#[104, 101, 97, 116]⟩, .string ⟨#[108, 101, 100]⟩] 9)).alloc (.cells #[.int .i64 (-5), .int .i64 1, .int .i64 2] 3)).alloc (.cells #[.int .i64 (-3), .int .i64 (-4), .int .i64 0, .int .i64 2] 3)).alloc (.cells #[.slice (some ⟨w.heap.size + 1 + 1, 0, none⟩) 3 3, .slice (some ⟨w.heap.size + 1 + 1 + 1, 0, none⟩) 4 4] 27)) = W at *
  obtain ⟨⟨z1, z2⟩, hend⟩ := hf
  refine bodyPost_ret ?_ rfl hend
  simp [results, Tryz.results30, go_sem, z1, z2]

/-! ### The look at the examples: the numbers (plain). -/
open Go Go.RowKit Go.WideMaps Go.Maps
set_option linter.unusedSimpArgs false
set_option linter.unusedVariables false

theorem ex_counted : counted 3 (exF ++ [[-1]]) = 4 := by rfl
theorem ex_all (σ : Nat → Bool) : allF 3 exF σ = ((σ 1 || σ 2) && !(σ 0 && σ 2)) := by
  unfold allF exF byLev evalF
  cases h0 : σ 0 <;> cases h1 : σ 1 <;> cases h2 : σ 2 <;> simp [foldS, tk, opC, opF, List.range, List.range.loop, h0, h1, h2]
theorem ex_sum (σ : Nat → Bool) : sumF (byLev (List.range 3) σ) [[1], [2], [0]] [3, 2, 2] = (if σ 1 then 3 else 0) + ((if σ 2 then 2 else 0) + (if σ 0 then 2 else 0)) := by
  cases h0 : σ 0 <;> cases h1 : σ 1 <;> cases h2 : σ 2 <;> simp [sumF, addT, byLev, evalF, foldS, tk, opC, opF, List.range, List.range.loop, h0, h1, h2]
theorem ex_best {sum : Int} {vs : List Bool} (h : Best (allF 3 exF) (fun σ => sumF (byLev (List.range 3) σ) [[1], [2], [0]] [3, 2, 2]) sum vs) (hl : vs.length = 3) : sum = 5 ∧ vs = [false, true, true] := by
  obtain ⟨a, b, c, rfl⟩ : ∃ a b c, vs = [a, b, c] := by
    match vs, hl with
    | [a, b, c], _ => exact ⟨a, b, c, rfl⟩
  obtain ⟨σ, h1, h2⟩ := h.att
  have e0 : ov [a, b, c] σ 0 = a := rfl
  have e1 : ov [a, b, c] σ 1 = b := rfl
  have e2 : ov [a, b, c] σ 2 = c := rfl
  (try dsimp only at h2)
  rw [ex_all, e0, e1, e2] at h1
  rw [ex_sum, e0, e1, e2] at h2
  have h3 := h.ub (fun i => decide (0 < i)) (by rw [ex_all]; decide)
  have h4 : a = true → (5 : Int) < sum := fun ha => by
    have h6 := h.first 0 (by simp) (by simpa using ha) (fun i => decide (0 < i)) (fun i hi => by omega) (by decide) (by rw [ex_all]; decide)
    (try dsimp only at h6)
    rw [ex_sum] at h6
    simpa using h6
  (try dsimp only at h3)
  rw [ex_sum] at h3
  have h5 : (5 : Int) ≤ sum := by simpa using h3
  have hx : sum = 5 ∧ a = false ∧ b = true ∧ c = true := by
    cases a <;> cases b <;> cases c <;> simp at h1 h2 h4 ⊢ <;> omega
  obtain ⟨x1, rfl, rfl, rfl⟩ := hx
  exact ⟨x1, rfl⟩

/-! ### SameVariant. -/
open Go Go.RowKit Go.WideMaps Go.Maps
set_option linter.unusedSimpArgs false
set_option linter.unusedVariables false

/-- A list of bools in memory. -/
structure BoolsAt (w : World) (ao : Option Addr) (xs : List Bool) : Prop where
  len : xs.length ≤ maxLen
  cells : 0 < xs.length → ∃ b off, ao = some ⟨b, off, none⟩ ∧ ∀ k, k < xs.length → w.cell? ⟨b, off + k, none⟩ = some (.bool (xs.getD k false))
theorem BRow.bools {w : World} {base g n cap : Nat} {xs : List Bool} (h : BRow w base g n cap xs) (hn : n ≤ 1000) : BoolsAt w (some ⟨g, 0, none⟩) xs := by
  have hl := h.len
  exact ⟨by unfold maxLen; omega, fun _ => ⟨g, 0, rfl, fun k hk => by rw [Nat.zero_add]; exact h.cell (by omega)⟩⟩

theorem same_at {xs ys : List Bool} {k : Nat} (hl : xs.length = ys.length) (h : ∀ j, j < k → xs.getD j false = ys.getD j false) (hk : k = xs.length) : (xs == ys) = true := by
  subst hk
  rw [beq_iff_eq]
  apply List.ext_getElem hl
  intro i h1 h2
  have := h i h1
  simpa [List.getD, h1, h2] using this
theorem same_not {xs ys : List Bool} {k : Nat} (h : xs.getD k false ≠ ys.getD k false) : (xs == ys) = false := by
  rw [beq_eq_false_iff_ne]
  rintro rfl
  exact h rfl

set_option maxHeartbeats 1600000 in
theorem same_any (xo yo : Option Addr) (xc yc : Nat) (xs ys : List Bool) (w : World) (hx : BoolsAt w xo xs) (hy : BoolsAt w yo ys) :
    Calls Tryz.prog 32 #[.slice xo xs.length xc, .slice yo ys.length yc] w fun e w' => e = .returned (.bool (xs == ys)) ∧ Keeps (fun _ => False) w w' := by
  have hl1 := hx.len; have hl2 := hy.len
  unfold maxLen at hl1 hl2
  by_cases hl : xs.length = ys.length
  · have hq : (((xs.length : Int)) != (ys.length : Int)) = false := by rw [hl]; simp
    have Hx := Lib.hid hx; have Hy := Lib.hid hy; have Hl := Lib.hid hl
    clear hx hy hl
    go_enter Tryz.func32, Tryz.ntmps32
    go_wp2_with fail
    go_loopw [5] (fun i wr => ∃ (k : Nat), k ≤ xs.length ∧ i = .int .i64 k ∧ Keeps (fun _ => False) w wr ∧ ∀ j, j < k → xs.getD j false = ys.getD j false) (fun i _ => xs.length - (intOf i).toNat)
    case atStart => exact ⟨0, Nat.zero_le _, rfl, Keeps.refl _ _, fun j hj => by omega⟩
    case round =>
      obtain ⟨k, hk, rfl, kp, hsame⟩ := hrel
      by_cases hlt : k < xs.length
      · obtain ⟨b1, o1, rfl, hc1⟩ := Hx.out.cells (by omega)
        obtain ⟨b2, o2, rfl, hc2⟩ := Hy.out.cells (by have := Hl.out; omega)
        have c1 := kp.cell (hc1 k hlt) (fun e => e)
        have c2 := kp.cell (hc2 k (by have := Hl.out; omega)) (fun e => e)
        have i1 : (k : Int) < (xs.length : Int) := by omega
        have i2 : (k : Int) < (ys.length : Int) := by have := Hl.out; omega
        have hs := Lib.hid hsame
        have Kp := Lib.hid kp
        clear hc1 hc2 hsame kp
        by_cases he : xs.getD k false = ys.getD k false
        · have hn : ∀ j, j < k + 1 → xs.getD j false = ys.getD j false := fun j hj => by
            by_cases e : j = k
            · subst e; exact he
            · exact hs.out j (by omega)
          have Hn := Lib.hid hn
          rw [he] at c1
          clear hn he
          cases hb : ys.getD k false
          all_goals
            rw [hb] at c1 c2
            clear hb
            go_wp2_with fail
            go_quiet (fail)
            go_wp2_with fail
            go_roundw
            case rel => exact ⟨k + 1, by omega, by go_num, Kp.out.drewN _, Hn.out⟩
            case measure => simp [intOf]; omega
        · have hf := Lib.hid (same_not he)
          have he2 : xs.getD k false = !ys.getD k false := by cases h1 : xs.getD k false <;> cases h2 : ys.getD k false <;> rw [h1, h2] at he <;> first | rfl | exact absurd rfl he
          rw [he2] at c1
          clear he he2
          cases hb : ys.getD k false
          all_goals
            rw [hb] at c1 c2
            clear hb
            simp only [Bool.not_false, Bool.not_true] at c1
            go_wp2_with fail
            go_quiet (fail)
            go_wp2_with fail
            go_ret
            exact ⟨by rw [hf.out]; rfl, Kp.out.drewN _⟩
      · obtain rfl : k = xs.length := by omega
        have hf := Lib.hid (same_at Hl.out hsame rfl)
        clear hsame
        go_wp2_with fail
        go_ret
        exact ⟨by rw [hf.out]; rfl, kp⟩
  · have hq : (((xs.length : Int)) != (ys.length : Int)) = true := by rw [bne_iff_ne]; omega
    have hf : (xs == ys) = false := by rw [beq_eq_false_iff_ne]; rintro rfl; exact hl rfl
    have Hf := Lib.hid hf
    clear hx hy hl hf
    go_enter Tryz.func32, Tryz.ntmps32
    go_wp2_with fail
    go_ret
    exact ⟨by rw [Hf.out]; rfl, Keeps.refl _ _⟩

open Go Go.RowKit Go.WideMaps Go.Maps
set_option linter.unusedSimpArgs false
set_option linter.unusedVariables false

theorem ex_lens : exS.length = 3 ∧ exF.length = 2 := ⟨rfl, rfl⟩
theorem ex_names : namesOk exS := by
  have e0 : (exS.getD 0 ByteArray.empty).toList = [116, 111, 119] := by rw [ByteArray.toList_eq]; rfl
  have e1 : (exS.getD 1 ByteArray.empty).toList = [104, 101, 97, 116] := by rw [ByteArray.toList_eq]; rfl
  have e2 : (exS.getD 2 ByteArray.empty).toList = [108, 101, 100] := by rw [ByteArray.toList_eq]; rfl
  intro j hj
  have : j = 0 ∨ j = 1 ∨ j = 2 := by simp [exS] at hj; omega
  rcases this with rfl | rfl | rfl
  · exact ⟨by rw [e0]; decide, by simp [exS]⟩
  · exact ⟨by rw [e1]; decide, by simp [exS]⟩
  · exact ⟨by rw [e2]; decide, by simp [exS]⟩
theorem ex_model : modelErr exS exF = 0 := by
  unfold modelErr
  rw [if_neg (by decide), if_neg (by simpa using ex_names)]
  decide
theorem ex_check : checkErr exS exF [[-1]] = 0 := by
  rw [checkErr_forms ex_model]; decide
theorem ex_count (W : World) (ao ar : Addr) (ca cr : Nat) (af : Option Addr) (cf : Nat) (h : ModelAt W (some ao) (some ar) exS exF) (hf : IntsAt W af cf [-1]) :
    Calls Tryz.prog 29 #[.agg #[.slice (some ao) 3 ca, .slice (some ar) 2 cr], .slice af 1 cf] W fun e w' => e = .returned (.tuple #[.int .i64 4, .int .i64 0]) ∧ Below W.heap.size W w' := by
  have := count_all (some ao) (some ar) af ca cr cf exS exF [-1] W h hf (fun e => by cases e) ex_check (by decide) (by decide) (by decide) (by decide)
  have e : counted exS.length (exF ++ [[-1]]) = 4 := ex_counted
  rw [e] at this
  exact this

def WMost (e : Ending) (w' : World) : Prop := ∃ g, e = .returned (.tuple #[.int .i64 5, .slice (some ⟨g, 0, none⟩) 3 3, .int .i64 0]) ∧ BoolsAt w' (some ⟨g, 0, none⟩) [false, true, true]
theorem ex_most (W : World) (ao ar : Addr) (ca cr : Nat) (al wo : Option Addr) (cl wc : Nat) (h : ModelAt W (some ao) (some ar) exS exF) (hg : FormsAt W al [[1], [2], [0]]) (hws : IntsAt W wo wc [3, 2, 2]) (tab : Tab W.heap.size W) (hcl : al = none → cl = 0) :
    Calls Tryz.prog 31 #[.agg #[.slice (some ao) 3 ca, .slice (some ar) 2 cr], .slice al 3 cl, .slice wo 3 wc] W (fun e w' => WMost e w' ∧ Below W.heap.size W w') := by
  have := most_all (some ao) (some ar) al wo ca cr cl wc exS exF [[1], [2], [0]] [3, 2, 2] W h (fun e => by cases e) hcl hg hws tab ex_model (by decide) (by decide) (by decide) rfl (by decide) (by decide) (by decide) (by decide)
  refine this.mono ?_
  rintro e w' ⟨⟨sum, g, vs, he, hr, hb⟩ | ⟨_, hno⟩, hbl⟩
  · obtain ⟨rfl, rfl⟩ := ex_best hb hr.len
    exact ⟨⟨g, he, hr.bools (by decide)⟩, hbl⟩
  · exfalso
    have h1 := hno (fun i => decide (0 < i))
    have h2 : allF 3 exF (fun i => decide (0 < i)) = false := h1
    rw [ex_all] at h2
    revert h2
    decide

theorem ex_forms (w : World) : FormsAt (((((w.alloc (.cells #[.int .i64 1] 3)).alloc (.cells #[.int .i64 2] 3)).alloc (.cells #[.int .i64 0] 3)).alloc (.cells #[.slice (some ⟨w.heap.size, 0, none⟩) 1 1, .slice (some ⟨w.heap.size + 1, 0, none⟩) 1 1, .slice (some ⟨w.heap.size + 1 + 1, 0, none⟩) 1 1] 27)).alloc (.cells #[.int .i64 3, .int .i64 2, .int .i64 2] 3)) (some ⟨w.heap.size + 1 + 1 + 1, 0, none⟩) [[1], [2], [0]] ∧
    IntsAt (((((w.alloc (.cells #[.int .i64 1] 3)).alloc (.cells #[.int .i64 2] 3)).alloc (.cells #[.int .i64 0] 3)).alloc (.cells #[.slice (some ⟨w.heap.size, 0, none⟩) 1 1, .slice (some ⟨w.heap.size + 1, 0, none⟩) 1 1, .slice (some ⟨w.heap.size + 1 + 1, 0, none⟩) 1 1] 27)).alloc (.cells #[.int .i64 3, .int .i64 2, .int .i64 2] 3)) (some ⟨w.heap.size + 1 + 1 + 1 + 1, 0, none⟩) 3 [3, 2, 2] ∧
    Below w.heap.size w (((((w.alloc (.cells #[.int .i64 1] 3)).alloc (.cells #[.int .i64 2] 3)).alloc (.cells #[.int .i64 0] 3)).alloc (.cells #[.slice (some ⟨w.heap.size, 0, none⟩) 1 1, .slice (some ⟨w.heap.size + 1, 0, none⟩) 1 1, .slice (some ⟨w.heap.size + 1 + 1, 0, none⟩) 1 1] 27)).alloc (.cells #[.int .i64 3, .int .i64 2, .int .i64 2] 3)) := by
  obtain ⟨x0, x1, x2, x3, x4, x5, x6⟩ := boxes5 w (.cells #[.int .i64 1] 3) (.cells #[.int .i64 2] 3) (.cells #[.int .i64 0] 3) (.cells #[.slice (some ⟨w.heap.size, 0, none⟩) 1 1, .slice (some ⟨w.heap.size + 1, 0, none⟩) 1 1, .slice (some ⟨w.heap.size + 1 + 1, 0, none⟩) 1 1] 27) (.cells #[.int .i64 3, .int .i64 2, .int .i64 2] 3)
  generalize (((((w.alloc (.cells #[.int .i64 1] 3)).alloc (.cells #[.int .i64 2] 3)).alloc (.cells #[.int .i64 0] 3)).alloc (.cells #[.slice (some ⟨w.heap.size, 0, none⟩) 1 1, .slice (some ⟨w.heap.size + 1, 0, none⟩) 1 1, .slice (some ⟨w.heap.size + 1 + 1, 0, none⟩) 1 1] 27)).alloc (.cells #[.int .i64 3, .int .i64 2, .int .i64 2] 3)) = W at *
  refine ⟨⟨by simp [maxLen], fun _ => ⟨_, 0, rfl, fun k hk => ?_⟩⟩, ints_of_block x4 rfl (by decide) (by decide) 3, x6⟩
  have : k = 0 ∨ k = 1 ∨ k = 2 := by simp at hk; omega
  rcases this with rfl | rfl | rfl
  · exact ⟨some ⟨w.heap.size, 0, none⟩, 1, (cell_of_row W _ 0 _ _ (0, 0) x3).trans rfl, ints_of_block x0 rfl (by decide) (by decide) 1⟩
  · exact ⟨some ⟨w.heap.size + 1, 0, none⟩, 1, (cell_of_row W _ 1 _ _ (0, 0) x3).trans rfl, ints_of_block x1 rfl (by decide) (by decide) 1⟩
  · exact ⟨some ⟨w.heap.size + 1 + 1, 0, none⟩, 1, (cell_of_row W _ 2 _ _ (0, 0) x3).trans rfl, ints_of_block x2 rfl (by decide) (by decide) 1⟩
theorem ex_here (W : World) : Calls Tryz.prog 30 #[] W (fun e w' => ∃ ao ar ca cr, e = .returned (.agg #[.slice (some ao) 3 ca, .slice (some ar) 2 cr]) ∧ ModelAt w' (some ao) (some ar) exS exF ∧ Below W.heap.size W w') := example_any W

set_option maxRecDepth 100000 in
set_option maxHeartbeats 3200000 in
theorem works_any (w : World) (tab : Tab w.heap.size w) : Calls Tryz.prog 12 #[] w fun e w' => e = .returned (.bool true) ∧ Below w.heap.size w w' := by
  have hex := fun W => ex_here W
  have Hex := Lib.hid hex; have Htab := Lib.hid tab
  clear hex tab
  go_enter Tryz.func12, Tryz.ntmps12
  go_wp2_with fail
  refine (Hex.out w).mono ?_
  rintro e w1 ⟨ao, ar, ca, cr, rfl, hm1, hb1⟩
  have hi1 : IntsAt (w1.alloc (.cells #[.int .i64 (-1)] 3)) (some ⟨w1.heap.size, 0, none⟩) 1 [-1] := ints_of_block (cs := #[.int .i64 (-1)]) (xs := [-1]) (heap_alloc_new w1 _) rfl (by decide) (by decide) 1
  have hcount := ex_count (w1.alloc (.cells #[.int .i64 (-1)] 3)) ao ar ca cr (some ⟨w1.heap.size, 0, none⟩) 1 (hm1.kept (below_alloc w1 _) (Nat.le_refl _)) hi1
  have hb1a : Below w.heap.size w (w1.alloc (.cells #[.int .i64 (-1)] 3)) := hb1.trans ((below_alloc w1 _).mono hb1.size)
  have Hcount := Lib.hid hcount; have Hb1 := Lib.hid hb1a
  clear hcount hb1a hi1 hm1 hb1
  go_wp2_with fail
  refine Hcount.out.mono ?_
  rintro e w2 ⟨rfl, hb2⟩
  have hb2a : Below w.heap.size w w2 := Hb1.out.trans (hb2.mono Hb1.out.size)
  have Hb2 := Lib.hid hb2a
  clear hb2 hb2a Hb1 Hcount
  go_wp2_with fail
  refine (Hex.out w2).mono ?_
  rintro e w3 ⟨ao2, ar2, ca2, cr2, rfl, hm3, hb3⟩
  have hb3a : Below w.heap.size w w3 := Hb2.out.trans (hb3.mono Hb2.out.size)
  obtain ⟨hf, hi, hb4⟩ := ex_forms w3
  have hm5 := hm3.kept hb4 (Nat.le_refl _)
  have hb5 := hb3a.trans (hb4.mono hb3a.size)
  have hmost := ex_most _ ao2 ar2 ca2 cr2 (some ⟨w3.heap.size + 1 + 1 + 1, 0, none⟩) (some ⟨w3.heap.size + 1 + 1 + 1 + 1, 0, none⟩) 3 3 hm5 hf hi ((Htab.out.on hb5).up hb5.size) (fun e => by cases e)
  have Hmost := Lib.hid hmost; have Hb5 := Lib.hid hb5
  clear hmost hf hi hb4 hm5 hb5 hb3a hm3 hb3 Hb2 Hex Htab
  go_wp2_with fail
  refine Hmost.out.mono ?_
  rintro e w6 ⟨⟨g, rfl, hbl⟩, hbl6⟩
  have hb6 : Below w.heap.size w (w6.alloc (.cells #[.bool false, .bool true, .bool true] 4)) := (Hb5.out.trans (hbl6.mono Hb5.out.size)).trans ((below_alloc w6 _).mono (Nat.le_trans Hb5.out.size hbl6.size))
  have Hb6 := Lib.hid hb6
  have hbr : BoolsAt (w6.alloc (.cells #[.bool false, .bool true, .bool true] 4)) (some ⟨w6.heap.size, 0, none⟩) [false, true, true] := ⟨by simp [maxLen], fun _ => ⟨w6.heap.size, 0, rfl, fun k hk => by
    rw [Nat.zero_add, cell_of_row _ _ k _ _ (0, 0) (heap_alloc_new w6 _)]
    have : k = 0 ∨ k = 1 ∨ k = 2 := by simp at hk; omega
    rcases this with rfl | rfl | rfl <;> rfl⟩⟩
  have hbl2 : BoolsAt (w6.alloc (.cells #[.bool false, .bool true, .bool true] 4)) (some ⟨g, 0, none⟩) [false, true, true] := ⟨hbl.len, fun h0 => by
    obtain ⟨b, off, e, hc⟩ := hbl.cells h0
    exact ⟨b, off, e, fun k hk => alloc_cell (hc k hk) _⟩⟩
  have hsame := same_any (some ⟨g, 0, none⟩) (some ⟨w6.heap.size, 0, none⟩) 3 3 [false, true, true] [false, true, true] _ hbl2 hbr
  have e3 : ([false, true, true] == [false, true, true]) = true := by decide
  rw [e3] at hsame
  have Hsame := Lib.hid hsame
  clear hsame hbl hbl2 hbr e3 Hmost hbl6 hb6
  go_wp2_with fail
  refine (Hsame.out).mono ?_
  rintro e w7 ⟨rfl, hk7⟩
  have hb7 := Hb6.out.trans (hk7.below Hb6.out.size (fun _ e => e.elim))
  have Hb7 := Lib.hid hb7
  clear hb7 hk7
  go_wp2_with fail
  go_ret
  exact ⟨rfl, Hb7.out⟩
end Go.Proofs.YtngjjmniigkeoaaGreatDoor
