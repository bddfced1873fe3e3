/- The sort of terms, of at most 12: a permutation. -/
import Derived.Test.YtpebjjpiehhobaaGreatDoorTRow
namespace Go.Proofs.YtpebjjpiehhobaaGreatDoor
open Go Go.RowKit Go.WideMaps Go.Maps
set_option linter.unusedSimpArgs false
set_option linter.unusedVariables false

structure TInv (w : World) (base g n cap : Nat) (xs : List (Nat × Int)) (wr : World) (ys : List (Nat × Int)) : Prop where
  keeps : Keeps (fun b => b = g) w wr
  row : TRow wr base g n cap ys
  perm : ys.Perm xs

theorem perm_swap {xs : List (Nat × Int)} {i j : Nat} (hi : i < xs.length) (hj : j < xs.length) : ((xs.set i (xs.getD j (0, 0))).set j (xs.getD i (0, 0))).Perm xs := by
  have ei : xs.getD i (0, 0) = xs[i] := by simp [List.getD, hi]
  have ej : xs.getD j (0, 0) = xs[j] := by simp [List.getD, hj]
  rw [ei, ej]
  exact List.set_set_perm hi hj

set_option maxRecDepth 100000 in
set_option maxHeartbeats 6400000 in
theorem tinsert_any (base g n cap a b : Nat) (xs : List (Nat × Int)) (w : World) (hr : TRow w base g n cap xs) (hab : a ≤ b) (hbn : b ≤ n) (hnn : n ≤ 1000) :
    Calls Tryz.prog 128 #[.slice (some ⟨g, 0, none⟩) n cap, .int .i64 a, .int .i64 b, .func (Fn.func 99) #[] #[]] w
      fun e w' => e = .returned (.tuple #[]) ∧ ∃ ys, TInv w base g n cap xs w' ys := by
  have hstart : TInv w base g n cap xs w xs := ⟨Keeps.refl _ _, hr, List.Perm.refl _⟩
  clear hr
  go_enter Tryz.func128, Tryz.ntmps128
  go_wp2_with fail
  go_loopw [8] (fun i wr => ∃ (k : Nat) (ys : List (Nat × Int)), a < k ∧ k ≤ b + 1 ∧ i = .int .i64 k ∧ TInv w base g n cap xs wr ys) (fun i _ => b + 1 - (intOf i).toNat)
  case atStart => exact ⟨a + 1, xs, by omega, by omega, by go_num, hstart⟩
  case round =>
    obtain ⟨k, ys, hk1, hk2, rfl, inv⟩ := hrel
    by_cases hlt : k < b
    · go_wp2_with fail
      obtain ⟨wo, rfl⟩ : ∃ wo : World, wo = wr := ⟨_, rfl⟩
      go_loopw [9] (fun j wr => ∃ (m : Nat) (ys : List (Nat × Int)), a ≤ m ∧ m ≤ k ∧ j = .int .i64 m ∧ TInv w base g n cap xs wr ys) (fun j _ => (intOf j).toNat)
      case atStart => exact ⟨k, ys, by omega, Nat.le_refl _, rfl, inv⟩
      case round =>
        clear inv
        obtain ⟨m, zs, hm1, hm2, rfl, inv⟩ := hrel
        by_cases hma : a < m
        · have hzl := inv.row.len
          obtain ⟨c1, c2⟩ := inv.row.cell (j := m) (by omega)
          obtain ⟨c3, c4⟩ := inv.row.cell (j := m - 1) (by omega)
          have f1 := inv.row.frozen (m * 2)
          have f2 := inv.row.frozen (m * 2 + 1)
          have f3 := inv.row.frozen ((m - 1) * 2)
          have f4 := inv.row.frozen ((m - 1) * 2 + 1)
          have hgl := inv.row.lt
          have hswap := perm_swap (xs := zs) (i := m) (j := m - 1) (by omega) (by omega)
          have hset := fun (w1 : World) (kp : Keeps (fun _ => False) wr w1) => ((inv.row.keeps kp (fun e => e)).set (j := m) (by omega) (zs.getD (m - 1) (0, 0)).1 (zs.getD (m - 1) (0, 0)).2).set (j := m - 1) (by omega) (zs.getD m (0, 0)).1 (zs.getD m (0, 0)).2
          have hend2 : ∀ w1, Keeps (fun _ => False) wr w1 → TInv w base g n cap xs w1 zs := fun w1 kp => ⟨inv.keeps.trans kp (fun _ e => e.elim), inv.row.keeps kp (fun e => e), inv.perm⟩
          have hkp := inv.keeps
          have hpm := inv.perm
          generalize zs.getD m (0, 0) = p at *
          generalize zs.getD (m - 1) (0, 0) = q at *
          have hcmp := fun (W : World) (kp : Keeps (fun _ => False) wr W) => (settle1_any p.1 q.1 p.2 q.2 W).mono (R' := fun e w' => CmpIEnd p.1 q.1 e ∧ Keeps (fun _ => False) wr w') (fun e w' h => ⟨h.1, kp.trans h.2 (fun _ e => e.elim)⟩)
          have hS : ∀ W, Keeps (fun _ => False) wr W → W.cell? ⟨g, m * 2, none⟩ = some (.int .i32 p.1) ∧ W.cell? ⟨g, m * 2 + 1, none⟩ = some (.int .i64 p.2) ∧ W.cell? ⟨g, (m - 1) * 2, none⟩ = some (.int .i32 q.1) ∧ W.cell? ⟨g, (m - 1) * 2 + 1, none⟩ = some (.int .i64 q.2) := fun W kp => ⟨kp.cell c1 (fun e => e), kp.cell c2 (fun e => e), kp.cell c3 (fun e => e), kp.cell c4 (fun e => e)⟩
          have i1 : (m : Int) < (n : Int) := by omega
          have i2 : (a : Int) < (m : Int) := by omega
          have i3 : (0 : Int) ≤ (m : Int) - 1 := by omega
          have i4 : (m : Int) - 1 < (n : Int) := by omega
          have i5 : (1 : Int) ≤ (m : Int) := by omega
          have i6 : (m : Int) ≤ (n : Int) := by omega
          have hw1 : IntKind.i64.wrap ((m : Int) - 1) = (m : Int) - 1 := IntWalk.i64_in _ (by omega)
          have hw2 : ((m : Int) - 1).toNat = m - 1 := by omega
          have hbd := cmpI_bd p.1 q.1
          have Hcmp := Lib.hid hcmp; have Hset := Lib.hid hset; have Hend := Lib.hid hend2; have HS := Lib.hid hS; have Hsw := Lib.hid hswap; have Hkp := Lib.hid hkp; have Hpm := Lib.hid hpm
          clear inv hcmp hswap hset hzl hend2 hS hkp hpm c1 c2 c3 c4
          have hfin : ∀ (w1 W : World), Keeps (fun _ => False) wr w1 → W.heap = (((( w1.setCell ⟨g, m * 2, none⟩ (.int .i32 q.1)).setCell ⟨g, m * 2 + 1, none⟩ (.int .i64 q.2)).setCell ⟨g, (m - 1) * 2, none⟩ (.int .i32 p.1)).setCell ⟨g, (m - 1) * 2 + 1, none⟩ (.int .i64 p.2)).heap → W.os = w1.os → W.tape = w1.tape → W.output = w1.output → ∃ ys, TInv w base g n cap xs W ys := by
            intro w1 W kp e1 e2 e3 e4
            have K1 : Keeps (fun b => b = g) w w1 := Hkp.out.trans kp (fun _ e => e.elim)
            have K := (((K1.setCell (p := ⟨g, m * 2, none⟩) (Or.inl rfl) (.int .i32 q.1)).setCell (p := ⟨g, m * 2 + 1, none⟩) (Or.inl rfl) (.int .i64 q.2)).setCell (p := ⟨g, (m - 1) * 2, none⟩) (Or.inl rfl) (.int .i32 p.1)).setCell (p := ⟨g, (m - 1) * 2 + 1, none⟩) (Or.inl rfl) (.int .i64 p.2)
            exact ⟨_, ⟨e2.trans K.os, e3.trans K.tape, e4.trans K.output, by rw [e1]; exact K.size, by rw [e1]; exact K.block⟩, (Hset.out w1 kp).of_block (by rw [e1]), Hsw.out.trans Hpm.out⟩
          have Hfin := Lib.hid hfin
          clear hfin
          by_cases hneg : cmpI p.1 q.1 < 0
          · have hneg' : decide (cmpI p.1 q.1 < 0) = true := decide_eq_true hneg
            unfold CmpIEnd at Hcmp
            generalize cmpI p.1 q.1 = cc at *
            go_wp2_with fail
            go_region_held3 (fun W => W.cell? ⟨g, m * 2, none⟩ = some (.int .i32 p.1) ∧ W.cell? ⟨g, m * 2 + 1, none⟩ = some (.int .i64 p.2) ∧ W.cell? ⟨g, (m - 1) * 2, none⟩ = some (.int .i32 q.1) ∧ W.cell? ⟨g, (m - 1) * 2 + 1, none⟩ = some (.int .i64 q.2))
              (first | exact HS.out _ (Keeps.refl _ _) | exact HS.out _ (Keeps.refl _ _).drew | exact HS.out _ (by assumption) | exact HS.out _ (Keeps.drew (by assumption)))
              ((go_at_call 99; (with_reducible refine (Hcmp.out _ (by first | exact (Keeps.refl _ _) | exact (Keeps.refl _ _).drew)).mono ?_); rintro e w1 ⟨rfl, kp⟩))
            have hf : w1.frozen? ⟨g, m * 2, none⟩ = false ∧ w1.frozen? ⟨g, m * 2 + 1, none⟩ = false ∧ w1.frozen? ⟨g, (m - 1) * 2, none⟩ = false ∧ w1.frozen? ⟨g, (m - 1) * 2 + 1, none⟩ = false := ⟨(kp.frozen hgl.2 (fun e => e)).trans f1, (kp.frozen hgl.2 (fun e => e)).trans f2, (kp.frozen hgl.2 (fun e => e)).trans f3, (kp.frozen hgl.2 (fun e => e)).trans f4⟩
            obtain ⟨g1, g2, g3, g4⟩ := hf
            obtain ⟨d1, d2, d3, d4⟩ := HS.out _ kp
            have hf2 := Hfin.out w1
            have Hf2 := Lib.hid hf2; have Hk := Lib.hid kp
            clear hf2 kp
            clear f1 f2 f3 f4
            go_wp2_with fail
            go_region
            all_goals
              go_wp2_with fail
              obtain ⟨ys2, inv2⟩ := Hf2.out ((((w1.setCell ⟨g, m * 2, none⟩ (.int .i32 q.1)).setCell ⟨g, m * 2 + 1, none⟩ (.int .i64 q.2)).setCell ⟨g, (m - 1) * 2, none⟩ (.int .i32 p.1)).setCell ⟨g, (m - 1) * 2 + 1, none⟩ (.int .i64 p.2)).drew Hk.out rfl rfl rfl rfl
              go_roundw
              case rel => exact ⟨m - 1, ys2, by omega, by omega, by go_num, inv2⟩
              case measure => simp [intOf] <;> omega
          · have hneg' : decide (cmpI p.1 q.1 < 0) = false := decide_eq_false hneg
            have hneg2 : 0 ≤ cmpI p.1 q.1 := by omega
            unfold CmpIEnd at Hcmp
            generalize cmpI p.1 q.1 = cc at *
            go_wp2_with fail
            go_region_held3 (fun W => W.cell? ⟨g, m * 2, none⟩ = some (.int .i32 p.1) ∧ W.cell? ⟨g, m * 2 + 1, none⟩ = some (.int .i64 p.2) ∧ W.cell? ⟨g, (m - 1) * 2, none⟩ = some (.int .i32 q.1) ∧ W.cell? ⟨g, (m - 1) * 2 + 1, none⟩ = some (.int .i64 q.2))
              (first | exact HS.out _ (Keeps.refl _ _) | exact HS.out _ (Keeps.refl _ _).drew | exact HS.out _ (by assumption) | exact HS.out _ (Keeps.drew (by assumption)))
              ((go_at_call 99; (with_reducible refine (Hcmp.out _ (by first | exact (Keeps.refl _ _) | exact (Keeps.refl _ _).drew)).mono ?_); rintro e w1 ⟨rfl, kp⟩))
            go_wp2_with fail
            have inv2 := Hend.out _ kp
            go_roundw
            case rel => exact ⟨k + 1, zs, by omega, by omega, by go_num, inv2⟩
            case measure => simp [intOf] <;> omega
        · obtain rfl : m = a := by omega
          have hd : decide ((m : Int) < (m : Int)) = false := decide_eq_false (by omega)
          have hend2 : ∀ q, TInv w base g n cap xs (wr.drewN q) zs := fun q => ⟨inv.keeps.drewN q, inv.row.drewN q, inv.perm⟩
          have Hend := Lib.hid hend2
          clear inv hend2
          go_wp2_with fail
          go_quiet (fail)
          go_wp2_with fail
          have inv2 := Hend.out nq
          go_roundw
          case rel => exact ⟨k + 1, zs, by omega, by omega, by go_num, inv2⟩
          case measure => simp [intOf] <;> omega
    · have Hi := Lib.hid inv
      clear inv
      go_wp2_with fail
      go_end0
      exact ⟨rfl, ys, Hi.out⟩

set_option maxRecDepth 100000 in
set_option maxHeartbeats 1600000 in
theorem tpdq_any (base g n cap : Nat) (lim : Int) (xs : List (Nat × Int)) (w : World) (hr : TRow w base g n cap xs) (hnn : n ≤ 12) :
    Calls Tryz.prog 118 #[.slice (some ⟨g, 0, none⟩) n cap, .int .i64 0, .int .i64 n, .int .i64 lim, .func (Fn.func 99) #[] #[]] w
      fun e w' => e = .returned (.tuple #[]) ∧ ∃ ys, TInv w base g n cap xs w' ys := by
  have hi := tinsert_any base g n cap 0 n xs w hr (Nat.zero_le _) (Nat.le_refl _) (by omega)
  have Hi := Lib.hid hi
  have i1 : (n : Int) ≤ 12 := by omega
  have hw : IntKind.i64.wrap ((n : Int) - 0) = (n : Int) := by rw [Int.sub_zero]; exact IntWalk.i64_in _ (by omega)
  clear hi hr
  go_enter Tryz.func118, Tryz.ntmps118
  go_wp2_with fail
  go_loopw [1, 2] (fun a b wr => a = .int .i64 0 ∧ b = .int .i64 n ∧ wr = w) (fun _ _ _ => 0)
  case atStart => exact ⟨rfl, rfl, rfl⟩
  case round =>
    obtain ⟨rfl, rfl, rfl⟩ := hrel
    go_wp2_with fail
    refine Hi.out.mono ?_
    rintro e w1 ⟨rfl, ys, inv⟩
    go_wp2_with fail
    refine bodyPost_ret (results_none rfl _ _ _) rfl ?_
    exact ⟨rfl, ys, inv⟩

set_option maxHeartbeats 800000 in
theorem tsort_any (base g n cap : Nat) (xs : List (Nat × Int)) (w : World) (hr : TRow w base g n cap xs) (hnn : n ≤ 12) :
    Calls Tryz.prog 98 #[.slice (some ⟨g, 0, none⟩) n cap, .func (Fn.func 99) #[] #[]] w
      fun e w' => e = .returned (.tuple #[]) ∧ ∃ ys, TInv w base g n cap xs w' ys := by
  have hi := fun lim => tpdq_any base g n cap lim xs w hr hnn
  have Hi := Lib.hid hi
  have hcv : IntKind.u64.wrap (n : Int) = (n : Int) := IntWalk.u64_in _ (by omega)
  clear hi hr
  go_enter Tryz.func98, Tryz.ntmps98
  go_wp2_with fail
  refine (Tryz.bits_Len _ _ (by omega) (by omega)).mono ?_
  rintro e w1 ⟨rfl, rfl⟩
  go_wp2_with fail
  refine (Hi.out _).mono ?_
  rintro e w1 ⟨rfl, ys, inv⟩
  go_wp2_with fail
  go_end0
  exact ⟨rfl, ys, inv⟩
end Go.Proofs.YtpebjjpiehhobaaGreatDoor
