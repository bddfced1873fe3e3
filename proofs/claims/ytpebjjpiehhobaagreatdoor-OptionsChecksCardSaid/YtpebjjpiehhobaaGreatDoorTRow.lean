/- Terms of the call's own; how they are compared. -/
import Derived.Test.YtpebjjpiehhobaaGreatDoorKeyW
namespace Go.Proofs.YtpebjjpiehhobaaGreatDoor
open Go Go.RowKit Go.WideMaps Go.Maps
set_option linter.unusedSimpArgs false
set_option linter.unusedVariables false

def tmCells (t : Nat × Int) : List Value := [.int .i32 t.1, .int .i64 t.2]
theorem flat2_at (l : List (Nat × Int)) (k : Nat) (hk : k < l.length) : (l.flatMap tmCells)[k * 2]? = some (.int .i32 ((l.getD k (0, 0)).1 : Nat)) ∧ (l.flatMap tmCells)[k * 2 + 1]? = some (.int .i64 (l.getD k (0, 0)).2) := by
  induction l generalizing k with
  | nil => simp at hk
  | cons x l ih =>
    cases k with
    | zero => simp [tmCells]
    | succ k =>
      have := ih k (by simpa using hk)
      simp only [List.flatMap_cons]
      have e : ∀ j, (k + 1) * 2 + j = (k * 2 + j) + (tmCells x).length := by intro j; simp [tmCells]; omega
      have e0 : (k + 1) * 2 = k * 2 + (tmCells x).length := by simp [tmCells]; omega
      rw [e 1, e0]
      simp only [List.getElem?_append_right (Nat.le_add_left _ _), Nat.add_sub_cancel, List.getD_cons_succ]
      exact this
theorem flat2_len (l : List (Nat × Int)) : (l.flatMap tmCells).length = l.length * 2 := by
  induction l with
  | nil => rfl
  | cons x l ih => rw [List.flatMap_cons, List.length_append, ih]; simp [tmCells]; omega
theorem flat2_set : ∀ (l : List (Nat × Int)) (k x : Nat) (y : Int), k < l.length → ((l.flatMap tmCells).set (k * 2) (.int .i32 x)).set (k * 2 + 1) (.int .i64 y) = (l.set k (x, y)).flatMap tmCells
  | [], k, x, y, h => by simp at h
  | t :: l, 0, x, y, h => by simp [tmCells]
  | t :: l, k + 1, x, y, h => by
    have ih := flat2_set l k x y (by simpa using h)
    have e1 : (k + 1) * 2 = (k * 2) + 1 + 1 := by omega
    have e2 : (k + 1) * 2 + 1 = (k * 2 + 1) + 1 + 1 := by omega
    rw [e1, List.set_cons_succ]
    have e3 : ((t :: l).flatMap tmCells) = Value.int .i32 t.1 :: Value.int .i64 t.2 :: l.flatMap tmCells := rfl
    have e4 : ((t :: l.set k (x, y)).flatMap tmCells) = Value.int .i32 t.1 :: Value.int .i64 t.2 :: (l.set k (x, y)).flatMap tmCells := rfl
    rw [e3, e4, List.set_cons_succ, List.set_cons_succ, List.set_cons_succ, List.set_cons_succ, ih]
theorem set_getD_self (l : List Value) (k : Nat) (v : Value) (h : l[k]? = some v) : l.set k v = l := by
  obtain ⟨hk, rfl⟩ := List.getElem?_eq_some_iff.1 h
  exact List.set_getElem_self hk

structure TRow (w : World) (base g n cap : Nat) (ts : List (Nat × Int)) : Prop where
  row : w.ownsRow base 129 2 (.slice (some ⟨g, 0, none⟩) n cap) n (ts.flatMap tmCells)
theorem TRow.len {w : World} {base g n cap : Nat} {ts : List (Nat × Int)} (h : TRow w base g n cap ts) : ts.length = n := by have := h.row.1; rw [flat2_len] at this; omega
theorem TRow.cell {w : World} {base g n cap : Nat} {ts : List (Nat × Int)} (h : TRow w base g n cap ts) {j : Nat} (hj : j < n) : w.cell? ⟨g, j * 2, none⟩ = some (.int .i32 ((ts.getD j (0, 0)).1 : Nat)) ∧ w.cell? ⟨g, j * 2 + 1, none⟩ = some (.int .i64 (ts.getD j (0, 0)).2) := by
  have hl := h.len
  obtain ⟨f0, f1⟩ := flat2_at ts j (by omega)
  have h2 := flat2_len ts
  rw [h.row.cellAt (j * 2) (by omega), h.row.cellAt (j * 2 + 1) (by omega)]
  exact ⟨f0, f1⟩
theorem TRow.frozen {w : World} {base g n cap : Nat} {ts : List (Nat × Int)} (h : TRow w base g n cap ts) (j : Nat) : w.frozen? ⟨g, j, none⟩ = false := h.row.frozenAt j
theorem TRow.set {w : World} {base g n cap : Nat} {ts : List (Nat × Int)} (h : TRow w base g n cap ts) {j : Nat} (hj : j < n) (x : Nat) (y : Int) : TRow ((w.setCell ⟨g, j * 2, none⟩ (.int .i32 x)).setCell ⟨g, j * 2 + 1, none⟩ (.int .i64 y)) base g n cap (ts.set j (x, y)) := by
  have hl := h.len
  refine ⟨?_⟩
  rw [← flat2_set ts j x y (by omega)]
  exact (((h.row.stored (j * 2) (.int .i32 x)).1).stored (j * 2 + 1) (.int .i64 y)).1
theorem TRow.setW {w : World} {base g n cap : Nat} {ts : List (Nat × Int)} (h : TRow w base g n cap ts) {j : Nat} (hj : j < n) (y : Int) : TRow (w.setCell ⟨g, j * 2 + 1, none⟩ (.int .i64 y)) base g n cap (ts.set j ((ts.getD j (0, 0)).1, y)) := by
  have hl := h.len
  refine ⟨?_⟩
  rw [← flat2_set ts j _ y (by omega), set_getD_self _ _ _ (flat2_at ts j (by omega)).1]
  exact (h.row.stored (j * 2 + 1) (.int .i64 y)).1
theorem TRow.setF {w : World} {base g n cap : Nat} {ts : List (Nat × Int)} (h : TRow w base g n cap ts) {j : Nat} (hj : j < n) (x : Nat) : TRow (w.setCell ⟨g, j * 2, none⟩ (.int .i32 x)) base g n cap (ts.set j (x, (ts.getD j (0, 0)).2)) := by
  have hl := h.len
  refine ⟨?_⟩
  rw [← flat2_set ts j x _ (by omega)]
  have h2 := (h.row.stored (j * 2) (.int .i32 x)).1
  have e : ((ts.flatMap tmCells).set (j * 2) (.int .i32 x))[j * 2 + 1]? = some (.int .i64 (ts.getD j (0, 0)).2) := by
    rw [List.getElem?_set_ne (by omega)]; exact (flat2_at ts j (by omega)).2
  rw [set_getD_self _ _ _ e]
  exact h2
theorem TRow.of_block {w w' : World} {base g n cap : Nat} {ts : List (Nat × Int)} (h : TRow w base g n cap ts) (hk : w'.heap[g]? = w.heap[g]?) : TRow w' base g n cap ts :=
  ⟨ownsRow_of_block h.row (fun k e => by simp [Value.ownBlock] at e; subst e; exact hk)⟩
theorem TRow.drewN {w : World} {base g n cap : Nat} {ts : List (Nat × Int)} (h : TRow w base g n cap ts) (q : Nat) : TRow (w.drewN q) base g n cap ts := h.of_block rfl
theorem TRow.lt {w : World} {base g n cap : Nat} {ts : List (Nat × Int)} (h : TRow w base g n cap ts) : base ≤ g ∧ g < w.heap.size := h.row.lt g rfl
theorem TRow.terms {w : World} {base g n cap : Nat} {ts : List (Nat × Int)} (h : TRow w base g n cap ts) (hn : n ≤ 1000) : TermsAt w (some ⟨g, 0, none⟩) ts := by
  have hl := h.len
  exact ⟨by omega, fun h0 => ⟨g, rfl, fun k hk => h.cell (by omega)⟩⟩
theorem TRow.keeps {S : Nat → Prop} {w w' : World} {base g n cap : Nat} {ts : List (Nat × Int)} (h : TRow w base g n cap ts) (k : Keeps S w w') (hS : ¬ S g) : TRow w' base g n cap ts := h.of_block (k.block g h.lt.2 hS)

def cmpI (a b : Nat) : Int := if a < b then -1 else if b < a then 1 else 0
def CmpIEnd (a b : Nat) (e : Ending) : Prop := e = .returned (.int .i64 (cmpI a b))
theorem cmpI_bd (a b : Nat) : -1 ≤ cmpI a b ∧ cmpI a b ≤ 1 := by unfold cmpI; split <;> (try split) <;> omega

set_option maxHeartbeats 800000 in
theorem isNaN_any (a : Nat) (w : World) : Calls Tryz.prog 120 #[.int .i32 a] w fun e w' => e = .returned (.bool false) ∧ w = w' := by
  have hb : ((a : Int) != (a : Int)) = false := by simp
  go_enter Tryz.func120, Tryz.ntmps120
  go_wp2
  go_ret
  exact ⟨rfl, rfl⟩

set_option maxHeartbeats 1600000 in
theorem compare_any (a b : Nat) (w : World) : Calls Tryz.prog 100 #[.int .i32 a, .int .i32 b] w fun e w' => CmpIEnd a b e ∧ w = w' := by
  rcases Nat.lt_trichotomy a b with h | h | h
  · have he : CmpIEnd a b (.returned (.int .i64 (-1))) := by unfold CmpIEnd cmpI; rw [if_pos h]
    have He := Lib.hid he
    clear he
    go_enter Tryz.func100, Tryz.ntmps100
    go_wp2_with (go_at_call 120; refine (isNaN_any _ _).mono ?_; rintro e w' ⟨rfl, rfl⟩)
    go_ret
    exact ⟨He.out, rfl⟩
  · subst h
    have he : CmpIEnd a a (.returned (.int .i64 0)) := by unfold CmpIEnd cmpI; rw [if_neg (by omega), if_neg (by omega)]
    have He := Lib.hid he
    clear he
    have h1 : ¬ a < a := by omega
    go_enter Tryz.func100, Tryz.ntmps100
    go_wp2_with (go_at_call 120; refine (isNaN_any _ _).mono ?_; rintro e w' ⟨rfl, rfl⟩)
    go_ret
    exact ⟨He.out, rfl⟩
  · have he : CmpIEnd a b (.returned (.int .i64 1)) := by unfold CmpIEnd cmpI; rw [if_neg (by omega), if_pos h]
    have He := Lib.hid he
    clear he
    have h1 : ¬ a < b := by omega
    go_enter Tryz.func100, Tryz.ntmps100
    go_wp2_with (go_at_call 120; refine (isNaN_any _ _).mono ?_; rintro e w' ⟨rfl, rfl⟩)
    go_ret
    exact ⟨He.out, rfl⟩

set_option maxHeartbeats 1600000 in
theorem settle1_any (a b : Nat) (x y : Int) (w : World) : Calls Tryz.prog 99 #[.agg #[.int .i32 a, .int .i64 x], .agg #[.int .i32 b, .int .i64 y]] w fun e w' => CmpIEnd a b e ∧ Keeps (fun _ => False) w w' := by
  have hk : ∀ o o', Keeps (fun _ => False) w ((w.alloc o).alloc o') := fun o o' => ((Keeps.refl _ _).alloc o).alloc o'
  have Hk := Lib.hid hk
  clear hk
  go_enter Tryz.func99, Tryz.ntmps99
  go_wp2_with fail
  refine (compare_any a b _).mono ?_
  rintro e w1 ⟨he, rfl⟩
  unfold CmpIEnd at he
  subst he
  go_wp2_with fail
  go_ret
  exact ⟨rfl, Hk.out _ _⟩

set_option maxHeartbeats 1600000 in
theorem settle2_any (a : Nat) (x : Int) (w : World) : Calls Tryz.prog 102 #[.agg #[.int .i32 a, .int .i64 x]] w fun e w' => e = .returned (.bool (x == 0)) ∧ Keeps (fun _ => False) w w' := by
  have hk : ∀ o, Keeps (fun _ => False) w (w.alloc o) := fun o => (Keeps.refl _ _).alloc o
  have Hk := Lib.hid hk
  clear hk
  go_enter Tryz.func102, Tryz.ntmps102
  go_wp2_with fail
  go_ret
  exact ⟨rfl, Hk.out _⟩
end Go.Proofs.YtpebjjpiehhobaaGreatDoor
