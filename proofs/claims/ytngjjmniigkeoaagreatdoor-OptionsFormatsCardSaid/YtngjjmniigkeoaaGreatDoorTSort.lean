/- Terms of the call's own; how they are compared. The sort of terms, of at most 12: a permutation. -/
import Derived.Test.YtngjjmniigkeoaaGreatDoorKeyW
namespace Go.Proofs.YtngjjmniigkeoaaGreatDoor
open Go Go.RowKit Go.WideMaps Go.Maps
set_option linter.unusedSimpArgs false
set_option linter.unusedVariables false

def tmCells (t : Nat × Int) : List Value := [.int .i32 t.1, .int .i64 t.2]
theorem flat2_at (l : List (Nat × Int)) (k : Nat) (hk : k < l.length) : (l.flatMap tmCells)[k * 2]? = some (.int .i32 ((l.getD k (0, 0)).1 : Nat)) ∧ (l.flatMap tmCells)[k * 2 + 1]? = some (.int .i64 (l.getD k (0, 0)).2) := by
  induction l generalizing k with
  | nil => simp at hk
  | cons x l ih =>
    cases k with
    | zero => simp [tmCells]
    | succ k =>
      have := ih k (by simpa using hk)
      simp only [List.flatMap_cons]
      have e : ∀ j, (k + 1) * 2 + j = (k * 2 + j) + (tmCells x).length := by intro j; simp [tmCells]; omega
      have e0 : (k + 1) * 2 = k * 2 + (tmCells x).length := by simp [tmCells]; omega
      rw [e 1, e0]
      simp only [List.getElem?_append_right (Nat.le_add_left _ _), Nat.add_sub_cancel, List.getD_cons_succ]
      exact this
theorem flat2_len (l : List (Nat × Int)) : (l.flatMap tmCells).length = l.length * 2 := by
  induction l with
  | nil => rfl
  | cons x l ih => rw [List.flatMap_cons, List.length_append, ih]; simp [tmCells]; omega
theorem flat2_set : ∀ (l : List (Nat × Int)) (k x : Nat) (y : Int), k < l.length → ((l.flatMap tmCells).set (k * 2) (.int .i32 x)).set (k * 2 + 1) (.int .i64 y) = (l.set k (x, y)).flatMap tmCells
  | [], k, x, y, h => by simp at h
  | t :: l, 0, x, y, h => by simp [tmCells]
  | t :: l, k + 1, x, y, h => by
    have ih := flat2_set l k x y (by simpa using h)
    have e1 : (k + 1) * 2 = (k * 2) + 1 + 1 := by omega
    have e2 : (k + 1) * 2 + 1 = (k * 2 + 1) + 1 + 1 := by omega
    rw [e1, List.set_cons_succ]
    have e3 : ((t :: l).flatMap tmCells) = Value.int .i32 t.1 :: Value.int .i64 t.2 :: l.flatMap tmCells := rfl
    have e4 : ((t :: l.set k (x, y)).flatMap tmCells) = Value.int .i32 t.1 :: Value.int .i64 t.2 :: (l.set k (x, y)).flatMap tmCells := rfl
    rw [e3, e4, List.set_cons_succ, List.set_cons_succ, List.set_cons_succ, List.set_cons_succ, ih]
theorem set_getD_self (l : List Value) (k : Nat) (v : Value) (h : l[k]? = some v) : l.set k v = l := by
  obtain ⟨hk, rfl⟩ := List.getElem?_eq_some_iff.1 h
  exact List.set_getElem_self hk

structure TRow (w : World) (base g n cap : Nat) (ts : List (Nat × Int)) : Prop where
  row : w.ownsRow base 129 2 (.slice (some ⟨g, 0, none⟩) n cap) n (ts.flatMap tmCells)
theorem TRow.len {w : World} {base g n cap : Nat} {ts : List (Nat × Int)} (h : TRow w base g n cap ts) : ts.length = n := by have := h.row.1; rw [flat2_len] at this; omega
theorem TRow.cell {w : World} {base g n cap : Nat} {ts : List (Nat × Int)} (h : TRow w base g n cap ts) {j : Nat} (hj : j < n) : w.cell? ⟨g, j * 2, none⟩ = some (.int .i32 ((ts.getD j (0, 0)).1 : Nat)) ∧ w.cell? ⟨g, j * 2 + 1, none⟩ = some (.int .i64 (ts.getD j (0, 0)).2) := by
  have hl := h.len
  obtain ⟨f0, f1⟩ := flat2_at ts j (by omega)
  have h2 := flat2_len ts
  rw [h.row.cellAt (j * 2) (by omega), h.row.cellAt (j * 2 + 1) (by omega)]
  exact ⟨f0, f1⟩
theorem TRow.frozen {w : World} {base g n cap : Nat} {ts : List (Nat × Int)} (h : TRow w base g n cap ts) (j : Nat) : w.frozen? ⟨g, j, none⟩ = false := h.row.frozenAt j
theorem TRow.set {w : World} {base g n cap : Nat} {ts : List (Nat × Int)} (h : TRow w base g n cap ts) {j : Nat} (hj : j < n) (x : Nat) (y : Int) : TRow ((w.setCell ⟨g, j * 2, none⟩ (.int .i32 x)).setCell ⟨g, j * 2 + 1, none⟩ (.int .i64 y)) base g n cap (ts.set j (x, y)) := by
  have hl := h.len
  refine ⟨?_⟩
  rw [← flat2_set ts j x y (by omega)]
  exact (((h.row.stored (j * 2) (.int .i32 x)).1).stored (j * 2 + 1) (.int .i64 y)).1
theorem TRow.setW {w : World} {base g n cap : Nat} {ts : List (Nat × Int)} (h : TRow w base g n cap ts) {j : Nat} (hj : j < n) (y : Int) : TRow (w.setCell ⟨g, j * 2 + 1, none⟩ (.int .i64 y)) base g n cap (ts.set j ((ts.getD j (0, 0)).1, y)) := by
  have hl := h.len
  refine ⟨?_⟩
  rw [← flat2_set ts j _ y (by omega), set_getD_self _ _ _ (flat2_at ts j (by omega)).1]
  exact (h.row.stored (j * 2 + 1) (.int .i64 y)).1
theorem TRow.setF {w : World} {base g n cap : Nat} {ts : List (Nat × Int)} (h : TRow w base g n cap ts) {j : Nat} (hj : j < n) (x : Nat) : TRow (w.setCell ⟨g, j * 2, none⟩ (.int .i32 x)) base g n cap (ts.set j (x, (ts.getD j (0, 0)).2)) := by
  have hl := h.len
  refine ⟨?_⟩
  rw [← flat2_set ts j x _ (by omega)]
  have h2 := (h.row.stored (j * 2) (.int .i32 x)).1
  have e : ((ts.flatMap tmCells).set (j * 2) (.int .i32 x))[j * 2 + 1]? = some (.int .i64 (ts.getD j (0, 0)).2) := by
    rw [List.getElem?_set_ne (by omega)]; exact (flat2_at ts j (by omega)).2
  rw [set_getD_self _ _ _ e]
  exact h2
theorem TRow.of_block {w w' : World} {base g n cap : Nat} {ts : List (Nat × Int)} (h : TRow w base g n cap ts) (hk : w'.heap[g]? = w.heap[g]?) : TRow w' base g n cap ts :=
  ⟨ownsRow_of_block h.row (fun k e => by simp [Value.ownBlock] at e; subst e; exact hk)⟩
theorem TRow.drewN {w : World} {base g n cap : Nat} {ts : List (Nat × Int)} (h : TRow w base g n cap ts) (q : Nat) : TRow (w.drewN q) base g n cap ts := h.of_block rfl
theorem TRow.lt {w : World} {base g n cap : Nat} {ts : List (Nat × Int)} (h : TRow w base g n cap ts) : base ≤ g ∧ g < w.heap.size := h.row.lt g rfl
theorem TRow.terms {w : World} {base g n cap : Nat} {ts : List (Nat × Int)} (h : TRow w base g n cap ts) (hn : n ≤ 1000) : TermsAt w (some ⟨g, 0, none⟩) ts := by
  have hl := h.len
  exact ⟨by omega, fun h0 => ⟨g, rfl, fun k hk => h.cell (by omega)⟩⟩
theorem TRow.keeps {S : Nat → Prop} {w w' : World} {base g n cap : Nat} {ts : List (Nat × Int)} (h : TRow w base g n cap ts) (k : Keeps S w w') (hS : ¬ S g) : TRow w' base g n cap ts := h.of_block (k.block g h.lt.2 hS)

def cmpI (a b : Nat) : Int := if a < b then -1 else if b < a then 1 else 0
def CmpIEnd (a b : Nat) (e : Ending) : Prop := e = .returned (.int .i64 (cmpI a b))
theorem cmpI_bd (a b : Nat) : -1 ≤ cmpI a b ∧ cmpI a b ≤ 1 := by unfold cmpI; split <;> (try split) <;> omega

set_option maxHeartbeats 800000 in
theorem isNaN_any (a : Nat) (w : World) : Calls Tryz.prog 120 #[.int .i32 a] w fun e w' => e = .returned (.bool false) ∧ w = w' := by
  have hb : ((a : Int) != (a : Int)) = false := by simp
  go_enter Tryz.func120, Tryz.ntmps120
  go_wp2
  go_ret
  exact ⟨rfl, rfl⟩

set_option maxHeartbeats 1600000 in
theorem compare_any (a b : Nat) (w : World) : Calls Tryz.prog 100 #[.int .i32 a, .int .i32 b] w fun e w' => CmpIEnd a b e ∧ w = w' := by
  rcases Nat.lt_trichotomy a b with h | h | h
  · have he : CmpIEnd a b (.returned (.int .i64 (-1))) := by unfold CmpIEnd cmpI; rw [if_pos h]
    have He := Lib.hid he
    clear he
    go_enter Tryz.func100, Tryz.ntmps100
    go_wp2_with (go_at_call 120; refine (isNaN_any _ _).mono ?_; rintro e w' ⟨rfl, rfl⟩)
    go_ret
    exact ⟨He.out, rfl⟩
  · subst h
    have he : CmpIEnd a a (.returned (.int .i64 0)) := by unfold CmpIEnd cmpI; rw [if_neg (by omega), if_neg (by omega)]
    have He := Lib.hid he
    clear he
    have h1 : ¬ a < a := by omega
    go_enter Tryz.func100, Tryz.ntmps100
    go_wp2_with (go_at_call 120; refine (isNaN_any _ _).mono ?_; rintro e w' ⟨rfl, rfl⟩)
    go_ret
    exact ⟨He.out, rfl⟩
  · have he : CmpIEnd a b (.returned (.int .i64 1)) := by unfold CmpIEnd cmpI; rw [if_neg (by omega), if_pos h]
    have He := Lib.hid he
    clear he
    have h1 : ¬ a < b := by omega
    go_enter Tryz.func100, Tryz.ntmps100
    go_wp2_with (go_at_call 120; refine (isNaN_any _ _).mono ?_; rintro e w' ⟨rfl, rfl⟩)
    go_ret
    exact ⟨He.out, rfl⟩

set_option maxHeartbeats 1600000 in
theorem settle1_any (a b : Nat) (x y : Int) (w : World) : Calls Tryz.prog 99 #[.agg #[.int .i32 a, .int .i64 x], .agg #[.int .i32 b, .int .i64 y]] w fun e w' => CmpIEnd a b e ∧ Keeps (fun _ => False) w w' := by
  have hk : ∀ o o', Keeps (fun _ => False) w ((w.alloc o).alloc o') := fun o o' => ((Keeps.refl _ _).alloc o).alloc o'
  have Hk := Lib.hid hk
  clear hk
  go_enter Tryz.func99, Tryz.ntmps99
  go_wp2_with fail
  refine (compare_any a b _).mono ?_
  rintro e w1 ⟨he, rfl⟩
  unfold CmpIEnd at he
  subst he
  go_wp2_with fail
  go_ret
  exact ⟨rfl, Hk.out _ _⟩

set_option maxHeartbeats 1600000 in
theorem settle2_any (a : Nat) (x : Int) (w : World) : Calls Tryz.prog 102 #[.agg #[.int .i32 a, .int .i64 x]] w fun e w' => e = .returned (.bool (x == 0)) ∧ Keeps (fun _ => False) w w' := by
  have hk : ∀ o, Keeps (fun _ => False) w (w.alloc o) := fun o => (Keeps.refl _ _).alloc o
  have Hk := Lib.hid hk
  clear hk
  go_enter Tryz.func102, Tryz.ntmps102
  go_wp2_with fail
  go_ret
  exact ⟨rfl, Hk.out _⟩

open Go Go.RowKit Go.WideMaps Go.Maps
set_option linter.unusedSimpArgs false
set_option linter.unusedVariables false

structure TInv (w : World) (base g n cap : Nat) (xs : List (Nat × Int)) (wr : World) (ys : List (Nat × Int)) : Prop where
  keeps : Keeps (fun b => b = g) w wr
  row : TRow wr base g n cap ys
  perm : ys.Perm xs

theorem perm_swap {xs : List (Nat × Int)} {i j : Nat} (hi : i < xs.length) (hj : j < xs.length) : ((xs.set i (xs.getD j (0, 0))).set j (xs.getD i (0, 0))).Perm xs := by
  have ei : xs.getD i (0, 0) = xs[i] := by simp [List.getD, hi]
  have ej : xs.getD j (0, 0) = xs[j] := by simp [List.getD, hj]
  rw [ei, ej]
  exact List.set_set_perm hi hj

set_option maxRecDepth 100000 in
set_option maxHeartbeats 6400000 in
theorem tinsert_any (base g n cap a b : Nat) (xs : List (Nat × Int)) (w : World) (hr : TRow w base g n cap xs) (hab : a ≤ b) (hbn : b ≤ n) (hnn : n ≤ 1000) :
    Calls Tryz.prog 128 #[.slice (some ⟨g, 0, none⟩) n cap, .int .i64 a, .int .i64 b, .func (Fn.func 99) #[] #[]] w
      fun e w' => e = .returned (.tuple #[]) ∧ ∃ ys, TInv w base g n cap xs w' ys := by
  have hstart : TInv w base g n cap xs w xs := ⟨Keeps.refl _ _, hr, List.Perm.refl _⟩
  clear hr
  go_enter Tryz.func128, Tryz.ntmps128
  go_wp2_with fail
  go_loopw [8] (fun i wr => ∃ (k : Nat) (ys : List (Nat × Int)), a < k ∧ k ≤ b + 1 ∧ i = .int .i64 k ∧ TInv w base g n cap xs wr ys) (fun i _ => b + 1 - (intOf i).toNat)
  case atStart => exact ⟨a + 1, xs, by omega, by omega, by go_num, hstart⟩
  case round =>
    obtain ⟨k, ys, hk1, hk2, rfl, inv⟩ := hrel
    by_cases hlt : k < b
    · go_wp2_with fail
      obtain ⟨wo, rfl⟩ : ∃ wo : World, wo = wr := ⟨_, rfl⟩
      go_loopw [9] (fun j wr => ∃ (m : Nat) (ys : List (Nat × Int)), a ≤ m ∧ m ≤ k ∧ j = .int .i64 m ∧ TInv w base g n cap xs wr ys) (fun j _ => (intOf j).toNat)
      case atStart => exact ⟨k, ys, by omega, Nat.le_refl _, rfl, inv⟩
      case round =>
        clear inv
        obtain ⟨m, zs, hm1, hm2, rfl, inv⟩ := hrel
        by_cases hma : a < m
        · have hzl := inv.row.len
          obtain ⟨c1, c2⟩ := inv.row.cell (j := m) (by omega)
          obtain ⟨c3, c4⟩ := inv.row.cell (j := m - 1) (by omega)
          have f1 := inv.row.frozen (m * 2)
          have f2 := inv.row.frozen (m * 2 + 1)
          have f3 := inv.row.frozen ((m - 1) * 2)
          have f4 := inv.row.frozen ((m - 1) * 2 + 1)
          have hgl := inv.row.lt
          have hswap := perm_swap (xs := zs) (i := m) (j := m - 1) (by omega) (by omega)
          have hset := fun (w1 : World) (kp : Keeps (fun _ => False) wr w1) => ((inv.row.keeps kp (fun e => e)).set (j := m) (by omega) (zs.getD (m - 1) (0, 0)).1 (zs.getD (m - 1) (0, 0)).2).set (j := m - 1) (by omega) (zs.getD m (0, 0)).1 (zs.getD m (0, 0)).2
          have hend2 : ∀ w1, Keeps (fun _ => False) wr w1 → TInv w base g n cap xs w1 zs := fun w1 kp => ⟨inv.keeps.trans kp (fun _ e => e.elim), inv.row.keeps kp (fun e => e), inv.perm⟩
          have hkp := inv.keeps
          have hpm := inv.perm
          generalize zs.getD m (0, 0) = p at *
          generalize zs.getD (m - 1) (0, 0) = q at *
          have hcmp := fun (W : World) (kp : Keeps (fun _ => False) wr W) => (settle1_any p.1 q.1 p.2 q.2 W).mono (R' := fun e w' => CmpIEnd p.1 q.1 e ∧ Keeps (fun _ => False) wr w') (fun e w' h => ⟨h.1, kp.trans h.2 (fun _ e => e.elim)⟩)
          have hS : ∀ W, Keeps (fun _ => False) wr W → W.cell? ⟨g, m * 2, none⟩ = some (.int .i32 p.1) ∧ W.cell? ⟨g, m * 2 + 1, none⟩ = some (.int .i64 p.2) ∧ W.cell? ⟨g, (m - 1) * 2, none⟩ = some (.int .i32 q.1) ∧ W.cell? ⟨g, (m - 1) * 2 + 1, none⟩ = some (.int .i64 q.2) := fun W kp => ⟨kp.cell c1 (fun e => e), kp.cell c2 (fun e => e), kp.cell c3 (fun e => e), kp.cell c4 (fun e => e)⟩
          have i1 : (m : Int) < (n : Int) := by omega
          have i2 : (a : Int) < (m : Int) := by omega
          have i3 : (0 : Int) ≤ (m : Int) - 1 := by omega
          have i4 : (m : Int) - 1 < (n : Int) := by omega
          have i5 : (1 : Int) ≤ (m : Int) := by omega
          have i6 : (m : Int) ≤ (n : Int) := by omega
          have hw1 : IntKind.i64.wrap ((m : Int) - 1) = (m : Int) - 1 := IntWalk.i64_in _ (by omega)
          have hw2 : ((m : Int) - 1).toNat = m - 1 := by omega
          have hbd := cmpI_bd p.1 q.1
          have Hcmp := Lib.hid hcmp; have Hset := Lib.hid hset; have Hend := Lib.hid hend2; have HS := Lib.hid hS; have Hsw := Lib.hid hswap; have Hkp := Lib.hid hkp; have Hpm := Lib.hid hpm
          clear inv hcmp hswap hset hzl hend2 hS hkp hpm c1 c2 c3 c4
          have hfin : ∀ (w1 W : World), Keeps (fun _ => False) wr w1 → W.heap = (((( w1.setCell ⟨g, m * 2, none⟩ (.int .i32 q.1)).setCell ⟨g, m * 2 + 1, none⟩ (.int .i64 q.2)).setCell ⟨g, (m - 1) * 2, none⟩ (.int .i32 p.1)).setCell ⟨g, (m - 1) * 2 + 1, none⟩ (.int .i64 p.2)).heap → W.os = w1.os → W.tape = w1.tape → W.output = w1.output → ∃ ys, TInv w base g n cap xs W ys := by
            intro w1 W kp e1 e2 e3 e4
            have K1 : Keeps (fun b => b = g) w w1 := Hkp.out.trans kp (fun _ e => e.elim)
            have K := (((K1.setCell (p := ⟨g, m * 2, none⟩) (Or.inl rfl) (.int .i32 q.1)).setCell (p := ⟨g, m * 2 + 1, none⟩) (Or.inl rfl) (.int .i64 q.2)).setCell (p := ⟨g, (m - 1) * 2, none⟩) (Or.inl rfl) (.int .i32 p.1)).setCell (p := ⟨g, (m - 1) * 2 + 1, none⟩) (Or.inl rfl) (.int .i64 p.2)
            exact ⟨_, ⟨e2.trans K.os, e3.trans K.tape, e4.trans K.output, by rw [e1]; exact K.size, by rw [e1]; exact K.block⟩, (Hset.out w1 kp).of_block (by rw [e1]), Hsw.out.trans Hpm.out⟩
          have Hfin := Lib.hid hfin
          clear hfin
          by_cases hneg : cmpI p.1 q.1 < 0
          · have hneg' : decide (cmpI p.1 q.1 < 0) = true := decide_eq_true hneg
            unfold CmpIEnd at Hcmp
            generalize cmpI p.1 q.1 = cc at *
            go_wp2_with fail
            go_region_held3 (fun W => W.cell? ⟨g, m * 2, none⟩ = some (.int .i32 p.1) ∧ W.cell? ⟨g, m * 2 + 1, none⟩ = some (.int .i64 p.2) ∧ W.cell? ⟨g, (m - 1) * 2, none⟩ = some (.int .i32 q.1) ∧ W.cell? ⟨g, (m - 1) * 2 + 1, none⟩ = some (.int .i64 q.2))
              (first | exact HS.out _ (Keeps.refl _ _) | exact HS.out _ (Keeps.refl _ _).drew | exact HS.out _ (by assumption) | exact HS.out _ (Keeps.drew (by assumption)))
              ((go_at_call 99; (with_reducible refine (Hcmp.out _ (by first | exact (Keeps.refl _ _) | exact (Keeps.refl _ _).drew)).mono ?_); rintro e w1 ⟨rfl, kp⟩))
            have hf : w1.frozen? ⟨g, m * 2, none⟩ = false ∧ w1.frozen? ⟨g, m * 2 + 1, none⟩ = false ∧ w1.frozen? ⟨g, (m - 1) * 2, none⟩ = false ∧ w1.frozen? ⟨g, (m - 1) * 2 + 1, none⟩ = false := ⟨(kp.frozen hgl.2 (fun e => e)).trans f1, (kp.frozen hgl.2 (fun e => e)).trans f2, (kp.frozen hgl.2 (fun e => e)).trans f3, (kp.frozen hgl.2 (fun e => e)).trans f4⟩
            obtain ⟨g1, g2, g3, g4⟩ := hf
            obtain ⟨d1, d2, d3, d4⟩ := HS.out _ kp
            have hf2 := Hfin.out w1
            have Hf2 := Lib.hid hf2; have Hk := Lib.hid kp
            clear hf2 kp
            clear f1 f2 f3 f4
            go_wp2_with fail
            go_region
            all_goals
              go_wp2_with fail
              obtain ⟨ys2, inv2⟩ := Hf2.out ((((w1.setCell ⟨g, m * 2, none⟩ (.int .i32 q.1)).setCell ⟨g, m * 2 + 1, none⟩ (.int .i64 q.2)).setCell ⟨g, (m - 1) * 2, none⟩ (.int .i32 p.1)).setCell ⟨g, (m - 1) * 2 + 1, none⟩ (.int .i64 p.2)).drew Hk.out rfl rfl rfl rfl
              go_roundw
              case rel => exact ⟨m - 1, ys2, by omega, by omega, by go_num, inv2⟩
              case measure => simp [intOf] <;> omega
          · have hneg' : decide (cmpI p.1 q.1 < 0) = false := decide_eq_false hneg
            have hneg2 : 0 ≤ cmpI p.1 q.1 := by omega
            unfold CmpIEnd at Hcmp
            generalize cmpI p.1 q.1 = cc at *
            go_wp2_with fail
            go_region_held3 (fun W => W.cell? ⟨g, m * 2, none⟩ = some (.int .i32 p.1) ∧ W.cell? ⟨g, m * 2 + 1, none⟩ = some (.int .i64 p.2) ∧ W.cell? ⟨g, (m - 1) * 2, none⟩ = some (.int .i32 q.1) ∧ W.cell? ⟨g, (m - 1) * 2 + 1, none⟩ = some (.int .i64 q.2))
              (first | exact HS.out _ (Keeps.refl _ _) | exact HS.out _ (Keeps.refl _ _).drew | exact HS.out _ (by assumption) | exact HS.out _ (Keeps.drew (by assumption)))
              ((go_at_call 99; (with_reducible refine (Hcmp.out _ (by first | exact (Keeps.refl _ _) | exact (Keeps.refl _ _).drew)).mono ?_); rintro e w1 ⟨rfl, kp⟩))
            go_wp2_with fail
            have inv2 := Hend.out _ kp
            go_roundw
            case rel => exact ⟨k + 1, zs, by omega, by omega, by go_num, inv2⟩
            case measure => simp [intOf] <;> omega
        · obtain rfl : m = a := by omega
          have hd : decide ((m : Int) < (m : Int)) = false := decide_eq_false (by omega)
          have hend2 : ∀ q, TInv w base g n cap xs (wr.drewN q) zs := fun q => ⟨inv.keeps.drewN q, inv.row.drewN q, inv.perm⟩
          have Hend := Lib.hid hend2
          clear inv hend2
          go_wp2_with fail
          go_quiet (fail)
          go_wp2_with fail
          have inv2 := Hend.out nq
          go_roundw
          case rel => exact ⟨k + 1, zs, by omega, by omega, by go_num, inv2⟩
          case measure => simp [intOf] <;> omega
    · have Hi := Lib.hid inv
      clear inv
      go_wp2_with fail
      go_end0
      exact ⟨rfl, ys, Hi.out⟩

set_option maxRecDepth 100000 in
set_option maxHeartbeats 1600000 in
theorem tpdq_any (base g n cap : Nat) (lim : Int) (xs : List (Nat × Int)) (w : World) (hr : TRow w base g n cap xs) (hnn : n ≤ 12) :
    Calls Tryz.prog 118 #[.slice (some ⟨g, 0, none⟩) n cap, .int .i64 0, .int .i64 n, .int .i64 lim, .func (Fn.func 99) #[] #[]] w
      fun e w' => e = .returned (.tuple #[]) ∧ ∃ ys, TInv w base g n cap xs w' ys := by
  have hi := tinsert_any base g n cap 0 n xs w hr (Nat.zero_le _) (Nat.le_refl _) (by omega)
  have Hi := Lib.hid hi
  have i1 : (n : Int) ≤ 12 := by omega
  have hw : IntKind.i64.wrap ((n : Int) - 0) = (n : Int) := by rw [Int.sub_zero]; exact IntWalk.i64_in _ (by omega)
  clear hi hr
  go_enter Tryz.func118, Tryz.ntmps118
  go_wp2_with fail
  go_loopw [1, 2] (fun a b wr => a = .int .i64 0 ∧ b = .int .i64 n ∧ wr = w) (fun _ _ _ => 0)
  case atStart => exact ⟨rfl, rfl, rfl⟩
  case round =>
    obtain ⟨rfl, rfl, rfl⟩ := hrel
    go_wp2_with fail
    refine Hi.out.mono ?_
    rintro e w1 ⟨rfl, ys, inv⟩
    go_wp2_with fail
    refine bodyPost_ret (results_none rfl _ _ _) rfl ?_
    exact ⟨rfl, ys, inv⟩

set_option maxHeartbeats 800000 in
theorem tsort_any (base g n cap : Nat) (xs : List (Nat × Int)) (w : World) (hr : TRow w base g n cap xs) (hnn : n ≤ 12) :
    Calls Tryz.prog 98 #[.slice (some ⟨g, 0, none⟩) n cap, .func (Fn.func 99) #[] #[]] w
      fun e w' => e = .returned (.tuple #[]) ∧ ∃ ys, TInv w base g n cap xs w' ys := by
  have hi := fun lim => tpdq_any base g n cap lim xs w hr hnn
  have Hi := Lib.hid hi
  have hcv : IntKind.u64.wrap (n : Int) = (n : Int) := IntWalk.u64_in _ (by omega)
  clear hi hr
  go_enter Tryz.func98, Tryz.ntmps98
  go_wp2_with fail
  refine (Tryz.bits_Len _ _ (by omega) (by omega)).mono ?_
  rintro e w1 ⟨rfl, rfl⟩
  go_wp2_with fail
  refine (Hi.out _).mono ?_
  rintro e w1 ⟨rfl, ys, inv⟩
  go_wp2_with fail
  go_end0
  exact ⟨rfl, ys, inv⟩
end Go.Proofs.YtngjjmniigkeoaaGreatDoor
