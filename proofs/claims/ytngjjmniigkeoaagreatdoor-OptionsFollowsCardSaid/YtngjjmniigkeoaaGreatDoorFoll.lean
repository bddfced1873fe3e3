/- Diagrams that come in: what a list of knots must be, and where a variant comes to; checkDiagram, goes, Follow and the reference's. goes, checkDiagram, Follow and the reference's: the walks. Follow and the reference's: the walks. The walk of OptionsFollows. -/
import Derived.Test.YtngjjmniigkeoaaGreatDoorAnsw
namespace Go.Proofs.YtngjjmniigkeoaaGreatDoor
open Go Go.RowKit Go.WideMaps Go.Maps
set_option linter.unusedSimpArgs false
set_option linter.unusedVariables false

abbrev Kn := Int × Int × Int
def knAt (ks : List Kn) (i : Nat) : Kn := ks.getD i (0, 0, 0)

/-- A slice of knots. -/
structure KnotsAt (w : World) (ao : Option Addr) (ks : List Kn) : Prop where
  len : ks.length ≤ maxLen
  cells : 0 < ks.length → ∃ b off, ao = some ⟨b, off, none⟩ ∧ ∀ k, k < ks.length → w.cell? ⟨b, off + k * 3, none⟩ = some (.int .i64 (knAt ks k).1) ∧ w.cell? ⟨b, off + k * 3 + 1, none⟩ = some (.int .i64 (knAt ks k).2.1) ∧ w.cell? ⟨b, off + k * 3 + 2, none⟩ = some (.int .i64 (knAt ks k).2.2)
theorem KnotsAt.keeps {w w' : World} {ao : Option Addr} {ks : List Kn} (h : KnotsAt w ao ks) (k : Keeps (fun _ => False) w w') : KnotsAt w' ao ks := by
  refine ⟨h.len, fun h0 => ?_⟩
  obtain ⟨b, off, e, hc⟩ := h.cells h0
  exact ⟨b, off, e, fun j hj => ⟨k.cell (hc j hj).1 (fun e => e), k.cell (hc j hj).2.1 (fun e => e), k.cell (hc j hj).2.2 (fun e => e)⟩⟩

/-- Whether one may go on to a place, from a knot with an option, with so many knots before it. -/
def nextB (ks : List Kn) (i : Nat) (o t : Int) : Bool := decide (t = -1 ∨ t = -2 ∨ (0 ≤ t ∧ t < i ∧ o < (knAt ks t.toNat).1))
def knotB (n : Int) (ks : List Kn) (i : Nat) : Bool := decide (0 ≤ (knAt ks i).1 ∧ (knAt ks i).1 < n) && (nextB ks i (knAt ks i).1 (knAt ks i).2.1 && nextB ks i (knAt ks i).1 (knAt ks i).2.2)
def KnotsOk (n : Int) (ks : List Kn) : Prop := ∀ i, i < ks.length → knotB n ks i = true
def DiaOk (n : Int) (ks : List Kn) (root : Int) : Prop := ks.length ≤ 2000 ∧ -2 ≤ root ∧ root < ks.length ∧ KnotsOk n ks
open Classical in
noncomputable def diaErr (n : Int) (ks : List Kn) (root : Int) : Int := if DiaOk n ks root then 0 else 1

/-- Where one goes from a knot. -/
def nextOf (ks : List Kn) (v : Nat → Bool) (t : Int) : Int := if v (knAt ks t.toNat).1.toNat = true then (knAt ks t.toNat).2.2 else (knAt ks t.toNat).2.1
inductive Leads (ks : List Kn) (v : Nat → Bool) : Int → Int → Prop
  | stop {t : Int} : t < 0 → Leads ks v t t
  | go {t r : Int} : 0 ≤ t → Leads ks v (nextOf ks v t) r → Leads ks v t r
theorem Leads.fst {ks : List Kn} {v : Nat → Bool} {t r : Int} (h : Leads ks v t r) : ∀ {r' : Int}, Leads ks v t r' → r = r' := by
  induction h with
  | stop h0 => intro r' h'; cases h' with
    | stop _ => rfl
    | go h1 _ => omega
  | go h0 _ ih => intro r' h'; cases h' with
    | stop h1 => omega
    | go _ h1 => exact ih h1

theorem nextB_iff {ks : List Kn} {i : Nat} {o t : Int} : nextB ks i o t = true ↔ (t = -1 ∨ t = -2 ∨ (0 ≤ t ∧ t < i ∧ o < (knAt ks t.toNat).1)) := by unfold nextB; simp
theorem knotB_next {n : Int} {ks : List Kn} {i : Nat} (h : knotB n ks i = true) (v : Nat → Bool) : -2 ≤ nextOf ks v i ∧ nextOf ks v i < i := by
  unfold knotB at h
  rw [Bool.and_eq_true, Bool.and_eq_true, nextB_iff, nextB_iff] at h
  unfold nextOf
  simp only [Int.toNat_natCast]
  split <;> omega

open Go Go.RowKit Go.WideMaps Go.Maps
set_option linter.unusedSimpArgs false
set_option linter.unusedVariables false

set_option maxHeartbeats 1600000 in
theorem goes_any (ao ar ko : Option Addr) (ca cr kc n1 n2 : Nat) (ks : List Kn) (i : Nat) (o t : Int) (w : World) (h : KnotsAt w ko ks) (hi : i ≤ ks.length) :
    Calls Tryz.prog 42 #[.agg #[.slice ao n1 ca, .slice ar n2 cr], .slice ko ks.length kc, .int .i64 i, .int .i64 o, .int .i64 t] w fun e w' => e = .returned (.bool (nextB ks i o t)) ∧ Keeps (fun _ => False) w w' := by
  have hl := h.len
  unfold maxLen at hl
  by_cases h1 : t = -1
  · subst h1
    have e : nextB ks i o (-1) = true := nextB_iff.2 (by omega)
    rw [e]; clear e h
    go_enter Tryz.func42, Tryz.ntmps42
    go_wp2_with fail
    go_ret
    exact ⟨rfl, by first | exact Keeps.refl _ _ | exact keeps_alloc _ _⟩
  by_cases h2 : t = -2
  · subst h2
    have e : nextB ks i o (-2) = true := nextB_iff.2 (by omega)
    rw [e]; clear e h
    go_enter Tryz.func42, Tryz.ntmps42
    go_wp2_with fail
    go_ret
    exact ⟨rfl, by first | exact Keeps.refl _ _ | exact keeps_alloc _ _⟩
  have f1 : (t == -1) = false := beq_eq_false_iff_ne.2 h1
  have f2 : (t == -2) = false := beq_eq_false_iff_ne.2 h2
  by_cases h3 : 0 ≤ t
  · by_cases h4 : t < i
    · obtain ⟨j, rfl⟩ := Int.eq_ofNat_of_zero_le h3
      obtain ⟨b, off, rfl, hc⟩ := h.cells (by omega)
      obtain ⟨c0, c1, c2⟩ := hc j (by omega)
      have hb : b < w.heap.size := World.block_lt_of_cell? w _ c0
      have e : nextB ks i o (j : Int) = decide (o < (knAt ks j).1) := by
        rw [Bool.eq_iff_iff, nextB_iff, decide_eq_true_iff]; simp; omega
      have i1 : (j : Int) < (ks.length : Int) := by omega
      generalize (knAt ks j).1 = x at *
      generalize (knAt ks j).2.1 = y at *
      generalize (knAt ks j).2.2 = z at *
      have He := Lib.hid e
      clear hc e h
      by_cases h5 : o < x
      all_goals
        go_enter Tryz.func42, Tryz.ntmps42
        go_wp2_with fail
        go_ret
        exact ⟨by rw [He.out]; simp [h5], by first | exact Keeps.refl _ _ | exact keeps_alloc _ _⟩
    · have e : nextB ks i o t = false := by rw [← Bool.not_eq_true, nextB_iff]; omega
      rw [e]; clear e h
      go_enter Tryz.func42, Tryz.ntmps42
      go_wp2_with fail
      go_ret
      exact ⟨rfl, by first | exact Keeps.refl _ _ | exact keeps_alloc _ _⟩
  · have e : nextB ks i o t = false := by rw [← Bool.not_eq_true, nextB_iff]; omega
    rw [e]; clear e h
    go_enter Tryz.func42, Tryz.ntmps42
    go_wp2_with fail
    go_ret
    exact ⟨rfl, by first | exact Keeps.refl _ _ | exact keeps_alloc _ _⟩

set_option maxRecDepth 100000 in
set_option maxHeartbeats 3200000 in
theorem checkDiagram_any (ko : Option Addr) (kc : Nat) (ks : List Kn) (n : Nat) (root : Int) (w : World) (h : KnotsAt w ko ks) :
    Calls Tryz.prog 41 #[.int .i64 n, .slice ko ks.length kc, .int .i64 root] w fun e w' => e = .returned (.int .i64 (diaErr n ks root)) ∧ Keeps (fun _ => False) w w' := by
  have hl := h.len
  unfold maxLen at hl
  have bad : ∀ i, i < ks.length → knotB n ks i = false → diaErr n ks root = 1 := fun i hi hb => by
    unfold diaErr; rw [if_neg]; rintro ⟨_, _, _, h4⟩; rw [h4 i hi] at hb; cases hb
  by_cases h0 : ks.length ≤ 2000 ∧ -2 ≤ root ∧ root < ks.length
  · have good : KnotsOk n ks → diaErr n ks root = 0 := fun hk => by unfold diaErr; rw [if_pos]; exact ⟨h0.1, h0.2.1, h0.2.2, hk⟩
    obtain ⟨h01, h02, h03⟩ := h0
    have Hbad := Lib.hid bad; have Hgood := Lib.hid good; have Hh := Lib.hid h
    clear bad good h
    have ia0 : ∀ (a b : Value) w, (Instr.index 102 (.agg #[a, b]) (.int .i64 0)).run Tryz.prog w = .ok a w := fun _ _ _ => by kernel_rfl
    have ia1 : ∀ (a b : Value) w, (Instr.index 102 (.agg #[a, b]) (.int .i64 1)).run Tryz.prog w = .ok b w := fun _ _ _ => by kernel_rfl
    go_enter Tryz.func41, Tryz.ntmps41
    go_wp2_with fail
    go_loopw [26] (fun i wr => ∃ k : Nat, k ≤ ks.length ∧ i = .int .i64 k ∧ Keeps (fun _ => False) w wr ∧ ∀ j, j < k → knotB n ks j = true) (fun i _ => ks.length - (intOf i).toNat)
    case atStart => exact ⟨0, Nat.zero_le _, rfl, Keeps.refl _ _, fun j hj => by omega⟩
    case round =>
      obtain ⟨w1, rfl⟩ : ∃ w1, w1 = wr := ⟨wr, rfl⟩
      obtain ⟨k, hk, rfl, kp, hok⟩ := hrel
      by_cases hlt : k < ks.length
      · obtain ⟨b, off, rfl, hc⟩ := (Hh.out.keeps kp).cells (by omega)
        obtain ⟨c0, c1, c2⟩ := hc k hlt
        have hcc : ∀ j, j < ks.length → w1.cell? ⟨b, off + j * 3, none⟩ = some (.int .i64 (knAt ks j).1) := fun j hj => (hc j hj).1
        have hb : b < w1.heap.size := World.block_lt_of_cell? w1 _ c0
        have i1 : (k : Int) < (ks.length : Int) := by omega
        have hbk := fun hh => Hbad.out k hlt hh
        have hnx : ∀ j, j < k + 1 → (knotB n ks k = true) → knotB n ks j = true := fun j hj hh => by
          by_cases e : j = k
          · subst e; exact hh
          · exact hok j (by omega)
        have hkn : knotB n ks k = (decide (0 ≤ (knAt ks k).1 ∧ (knAt ks k).1 < n) && (nextB ks k (knAt ks k).1 (knAt ks k).2.1 && nextB ks k (knAt ks k).1 (knAt ks k).2.2)) := rfl
        generalize (knAt ks k).1 = o at *
        generalize (knAt ks k).2.1 = x at *
        generalize (knAt ks k).2.2 = y at *
        have Hbk := Lib.hid hbk; have Hnx := Lib.hid hnx; have Hkn := Lib.hid hkn; have Hcc := Lib.hid hcc; have Kp := Lib.hid kp
        clear hbk hnx hkn hcc hc hok kp
        by_cases ho : 0 ≤ o ∧ o < n
        · obtain ⟨ho1, ho2⟩ := ho
          go_wp2_with fail
          go_loopw [45] (fun i wr => ∃ q : Nat, q ≤ 2 ∧ i = .int .i64 q ∧ Keeps (fun _ => False) (w1.alloc (.cells #[.int .i64 o, .int .i64 x, .int .i64 y] 76)) wr ∧ (1 ≤ q → nextB ks k o x = true) ∧ (2 ≤ q → nextB ks k o y = true)) (fun i _ => 2 - (intOf i).toNat)
          case atStart => exact ⟨0, by omega, rfl, Keeps.refl _ _, fun h => by omega, fun h => by omega⟩
          case round =>
            obtain ⟨q, hq, rfl, k2, hq1, hq2⟩ := hrel
            have d0 : wr.cell? ⟨w1.heap.size, 0, none⟩ = some (.int .i64 o) := k2.cell (by simp) (fun e => e)
            have db : w1.heap.size < wr.heap.size := World.block_lt_of_cell? wr _ d0
            have hb' : b < wr.heap.size := by omega
            have Hcd := Lib.hid (fun j hj => k2.cell (((keeps_alloc w1 (.cells #[.int .i64 o, .int .i64 x, .int .i64 y] 76))).cell (Hcc.out j hj) (fun e => e)) (fun e => e))
            have Kq := Lib.hid ((Kp.out.alloc (.cells #[.int .i64 o, .int .i64 x, .int .i64 y] 76)).step k2)
            have K2 := Lib.hid k2
            clear k2
            rcases (show q = 2 ∨ q = 0 ∨ q = 1 by omega) with rfl | rfl | rfl
            · have hk1 := fun j hj => Hnx.out j hj (by rw [Hkn.out, hq1 (by omega), hq2 (by omega)]; simp [ho1, ho2])
              have Hk1 := Lib.hid hk1
              clear hk1 hq1 hq2
              go_wp2_with fail
              go_roundw
              case rel => exact ⟨k + 1, by omega, by go_num, Kq.out, Hk1.out⟩
              case measure => simp [intOf]; omega
            · have hbad : nextB ks k o x = false → diaErr n ks root = 1 := fun hh => Hbk.out (by rw [Hkn.out, hh]; simp)
              have Hbad2 := Lib.hid hbad
              clear hbad
              by_cases g1 : x < -2
              · have e : nextB ks k o x = false := by rw [← Bool.not_eq_true, nextB_iff]; omega
                have He := Lib.hid (Hbad2.out e)
                clear e hq1 hq2
                have b1 : decide (x < -2) = true := decide_eq_true g1
                go_wp2_with fail
                go_quiet (fail)
                go_wp2_with fail
                go_ret
                exact ⟨by rw [He.out]; rfl, (Kq.out.drewN _)⟩
              · by_cases g2 : (k : Int) ≤ x
                · have e : nextB ks k o x = false := by rw [← Bool.not_eq_true, nextB_iff]; omega
                  have He := Lib.hid (Hbad2.out e)
                  clear e hq1 hq2
                  have b1 : decide (x < -2) = false := decide_eq_false g1; have b2 : decide ((k : Int) ≤ x) = true := decide_eq_true g2; clear g1 g2
                  go_wp2_with fail
                  go_quiet (fail)
                  go_wp2_with fail
                  go_ret
                  exact ⟨by rw [He.out]; rfl, (Kq.out.drewN _)⟩
                · by_cases g3 : x < 0
                  · have e : nextB ks k o x = true := by rw [nextB_iff]; omega
                    have He := Lib.hid e; have Hq1 := Lib.hid hq1
                    clear e hq1 hq2
                    have b1 : decide (x < -2) = false := decide_eq_false g1; have b2 : decide ((k : Int) ≤ x) = false := decide_eq_false g2; have b3 : decide (0 ≤ x) = false := decide_eq_false (by omega); clear g1 g2 g3
                    go_wp2_with fail
                    go_quiet (fail)
                    go_wp2_with fail
                    go_roundw
                    case rel => exact ⟨1, by omega, rfl, K2.out.drewN _, fun _ => He.out, fun h => by omega⟩
                    case measure => simp [intOf]
                  · have i0 : 0 ≤ x := by omega
                    have ct := Hcd.out x.toNat (by omega)
                    have hi : nextB ks k o x = decide (o < (knAt ks x.toNat).1) := by
                      rw [Bool.eq_iff_iff, nextB_iff, decide_eq_true_iff]; omega
                    have i2 : x < (ks.length : Int) := by omega
                    generalize (knAt ks x.toNat).1 = r at *
                    by_cases g4 : o < r
                    · have He := Lib.hid (show nextB ks k o x = true by rw [hi]; simpa using g4); have Hq1 := Lib.hid hq1
                      clear hi hq1 hq2
                      have b1 : decide (x < -2) = false := decide_eq_false g1; have b2 : decide ((k : Int) ≤ x) = false := decide_eq_false g2; have b3 : decide (0 ≤ x) = true := decide_eq_true i0; have b4 : decide (r ≤ o) = false := decide_eq_false (by omega); clear g1 g2 g3 g4
                      go_wp2_with fail
                      go_quiet (fail)
                      go_wp2_with fail
                      go_roundw
                      case rel => exact ⟨1, by omega, rfl, K2.out.drewN _, fun _ => He.out, fun h => by omega⟩
                      case measure => simp [intOf]
                    · have He := Lib.hid (Hbad2.out (show nextB ks k o x = false by rw [hi]; simpa using g4))
                      clear hi hq1 hq2
                      have b1 : decide (x < -2) = false := decide_eq_false g1; have b2 : decide ((k : Int) ≤ x) = false := decide_eq_false g2; have b3 : decide (0 ≤ x) = true := decide_eq_true i0; have b4 : decide (r ≤ o) = true := decide_eq_true (by omega); clear g1 g2 g3 g4
                      go_wp2_with fail
                      go_quiet (fail)
                      go_wp2_with fail
                      go_ret
                      exact ⟨by rw [He.out]; rfl, (Kq.out.drewN _)⟩
            · have hbad : nextB ks k o y = false → diaErr n ks root = 1 := fun hh => Hbk.out (by rw [Hkn.out, hh]; simp)
              have Hbad2 := Lib.hid hbad
              clear hbad
              by_cases g1 : y < -2
              · have e : nextB ks k o y = false := by rw [← Bool.not_eq_true, nextB_iff]; omega
                have He := Lib.hid (Hbad2.out e)
                clear e hq1 hq2
                have b1 : decide (y < -2) = true := decide_eq_true g1
                go_wp2_with fail
                go_quiet (fail)
                go_wp2_with fail
                go_ret
                exact ⟨by rw [He.out]; rfl, (Kq.out.drewN _)⟩
              · by_cases g2 : (k : Int) ≤ y
                · have e : nextB ks k o y = false := by rw [← Bool.not_eq_true, nextB_iff]; omega
                  have He := Lib.hid (Hbad2.out e)
                  clear e hq1 hq2
                  have b1 : decide (y < -2) = false := decide_eq_false g1; have b2 : decide ((k : Int) ≤ y) = true := decide_eq_true g2; clear g1 g2
                  go_wp2_with fail
                  go_quiet (fail)
                  go_wp2_with fail
                  go_ret
                  exact ⟨by rw [He.out]; rfl, (Kq.out.drewN _)⟩
                · by_cases g3 : y < 0
                  · have e : nextB ks k o y = true := by rw [nextB_iff]; omega
                    have He := Lib.hid e; have Hq1 := Lib.hid hq1
                    clear e hq1 hq2
                    have b1 : decide (y < -2) = false := decide_eq_false g1; have b2 : decide ((k : Int) ≤ y) = false := decide_eq_false g2; have b3 : decide (0 ≤ y) = false := decide_eq_false (by omega); clear g1 g2 g3
                    go_wp2_with fail
                    go_quiet (fail)
                    go_wp2_with fail
                    go_roundw
                    case rel => exact ⟨2, by omega, rfl, K2.out.drewN _, fun _ => Hq1.out (by omega), fun _ => He.out⟩
                    case measure => simp [intOf]
                  · have i0 : 0 ≤ y := by omega
                    have ct := Hcd.out y.toNat (by omega)
                    have hi : nextB ks k o y = decide (o < (knAt ks y.toNat).1) := by
                      rw [Bool.eq_iff_iff, nextB_iff, decide_eq_true_iff]; omega
                    have i2 : y < (ks.length : Int) := by omega
                    generalize (knAt ks y.toNat).1 = r at *
                    by_cases g4 : o < r
                    · have He := Lib.hid (show nextB ks k o y = true by rw [hi]; simpa using g4); have Hq1 := Lib.hid hq1
                      clear hi hq1 hq2
                      have b1 : decide (y < -2) = false := decide_eq_false g1; have b2 : decide ((k : Int) ≤ y) = false := decide_eq_false g2; have b3 : decide (0 ≤ y) = true := decide_eq_true i0; have b4 : decide (r ≤ o) = false := decide_eq_false (by omega); clear g1 g2 g3 g4
                      go_wp2_with fail
                      go_quiet (fail)
                      go_wp2_with fail
                      go_roundw
                      case rel => exact ⟨2, by omega, rfl, K2.out.drewN _, fun _ => Hq1.out (by omega), fun _ => He.out⟩
                      case measure => simp [intOf]
                    · have He := Lib.hid (Hbad2.out (show nextB ks k o y = false by rw [hi]; simpa using g4))
                      clear hi hq1 hq2
                      have b1 : decide (y < -2) = false := decide_eq_false g1; have b2 : decide ((k : Int) ≤ y) = false := decide_eq_false g2; have b3 : decide (0 ≤ y) = true := decide_eq_true i0; have b4 : decide (r ≤ o) = true := decide_eq_true (by omega); clear g1 g2 g3 g4
                      go_wp2_with fail
                      go_quiet (fail)
                      go_wp2_with fail
                      go_ret
                      exact ⟨by rw [He.out]; rfl, (Kq.out.drewN _)⟩
        · have e := Hbk.out (by rw [Hkn.out]; simp; intro h1 h2; exact absurd ⟨h1, h2⟩ ho)
          have He := Lib.hid e
          clear e
          by_cases g1 : 0 ≤ o
          all_goals
            go_wp2_with fail
            go_ret
            exact ⟨by rw [He.out]; rfl, Kp.out.alloc _⟩
      · have hkn : knAt ks = knAt ks := rfl
        have e : diaErr n ks root = 0 := Hgood.out (fun j hj => hok j (by omega))
        have He := Lib.hid e
        clear e hok
        go_wp2_with fail
        go_ret
        exact ⟨by rw [He.out]; rfl, kp⟩
  · have e : diaErr n ks root = 1 := by unfold diaErr; rw [if_neg]; rintro ⟨h1, h2, h3, h4⟩; exact h0 ⟨h1, h2, h3⟩
    rw [e]; clear e bad h
    by_cases g1 : ks.length ≤ 2000
    · by_cases g2 : -2 ≤ root
      all_goals
        go_enter Tryz.func41, Tryz.ntmps41
        go_wp2_with fail
        go_ret
        exact ⟨rfl, Keeps.refl _ _⟩
    · go_enter Tryz.func41, Tryz.ntmps41
      go_wp2_with fail
      go_ret
      exact ⟨rfl, Keeps.refl _ _⟩

open Go Go.RowKit Go.WideMaps Go.Maps
set_option linter.unusedSimpArgs false
set_option linter.unusedVariables false

/-- What Follow must answer. -/
def FollowEnd (w : World) (ss : List ByteArray) (fs : List (List Int)) (ks : List Kn) (root : Int) (vs : List Bool) (e : Ending) (w' : World) : Prop :=
  (¬ modelErr ss fs = 0 ∧ e = .returned (.tuple #[.bool false, .int .i64 (modelErr ss fs)]) ∨
   modelErr ss fs = 0 ∧ ¬ (DiaOk ss.length ks root ∧ vs.length = ss.length) ∧ e = .returned (.tuple #[.bool false, .int .i64 1]) ∨
   modelErr ss fs = 0 ∧ (DiaOk ss.length ks root ∧ vs.length = ss.length) ∧ ∃ r, Leads ks (vT vs) root r ∧ e = .returned (.tuple #[.bool (r == -2), .int .i64 0])) ∧ Keeps (fun _ => False) w w'

theorem FollowEnd.same {w1 w2 w1' w2' : World} {ss : List ByteArray} {fs : List (List Int)} {ks : List Kn} {root : Int} {vs : List Bool} {e1 e2 : Ending} (h1 : FollowEnd w1 ss fs ks root vs e1 w1') (h2 : FollowEnd w2 ss fs ks root vs e2 w2') : e1 = e2 := by
  obtain ⟨h1, _⟩ := h1
  obtain ⟨h2, _⟩ := h2
  rcases h1 with ⟨a, b⟩ | ⟨a, b, c⟩ | ⟨a, b, r, c, d⟩ <;> rcases h2 with ⟨a', b'⟩ | ⟨a', b', c'⟩ | ⟨a', b', r', c', d'⟩
  all_goals first | contradiction | (rw [b, b']; done) | (rw [c, c']; done) | (rw [d, d', c.fst c'])

set_option maxRecDepth 100000 in
set_option maxHeartbeats 3200000 in
theorem follow_any (ao ar ko av : Option Addr) (ca cr kc cv : Nat) (ss : List ByteArray) (fs : List (List Int)) (ks : List Kn) (root : Int) (vs : List Bool) (w : World) (h : ModelAt w ao ar ss fs) (hk : KnotsAt w ko ks) (hv : BoolsAt w av vs) :
    Calls Tryz.prog 22 #[.agg #[.slice ao ss.length ca, .slice ar fs.length cr], .slice ko ks.length kc, .int .i64 root, .slice av vs.length cv] w (FollowEnd w ss fs ks root vs) := by
  have hl1 := h.strs.len
  unfold maxLen at hl1
  have hM : ∀ o, ModelAt (w.alloc o) ao ar ss fs := fun o => h.kept (below_alloc w o) (Nat.le_refl _)
  have hbx := box0 w (.slice ao ss.length ca) (.slice ar fs.length cr) 25
  have hkA := keeps_alloc w (.cells #[.slice ao ss.length ca, .slice ar fs.length cr] 25)
  by_cases hm : modelErr ss fs = 0
  case neg =>
    have he : ∀ w', Keeps (fun _ => False) w w' → FollowEnd w ss fs ks root vs (.returned (.tuple #[.bool false, .int .i64 (modelErr ss fs)])) w' := fun w' k => ⟨Or.inl ⟨hm, rfl⟩, k⟩
    have hne : ((modelErr ss fs) != 0) = true := by simpa using hm
    have He := Lib.hid he; have HM := Lib.hid hM; have HkA := Lib.hid hkA
    clear he hm h hM hk hv hkA
    go_enter Tryz.func22, Tryz.ntmps22
    go_wp2_with fail
    refine (checkModel_any _ _ _ _ _ _ _ (HM.out _)).mono ?_
    rintro e w1 ⟨rfl, hb1⟩
    go_wp2_with fail
    go_ret2
    exact He.out _ (HkA.out.step (Keeps.of_bel hb1))
  have hD : ∀ w1, Keeps (fun _ => False) w w1 → Calls Tryz.prog 41 #[.int .i64 ss.length, .slice ko ks.length kc, .int .i64 root] w1 fun e w' => e = .returned (.int .i64 (diaErr ss.length ks root)) ∧ Keeps (fun _ => False) w1 w' := fun w1 k => checkDiagram_any ko kc ks ss.length root w1 (hk.keeps k)
  by_cases hd : DiaOk ss.length ks root
  case neg =>
    have he : ∀ w', Keeps (fun _ => False) w w' → FollowEnd w ss fs ks root vs (.returned (.tuple #[.bool false, .int .i64 1])) w' := fun w' k => ⟨Or.inr (Or.inl ⟨hm, fun hh => hd hh.1, rfl⟩), k⟩
    have hde : diaErr ss.length ks root = 1 := by unfold diaErr; rw [if_neg hd]
    have He := Lib.hid he; have HM := Lib.hid hM; have HkA := Lib.hid hkA; have HD := Lib.hid hD; have Hm := Lib.hid hm; have Hde := Lib.hid hde
    clear he hm h hM hk hv hkA hD hde hd
    go_enter Tryz.func22, Tryz.ntmps22
    go_wp2_with fail
    refine (checkModel_any _ _ _ _ _ _ _ (HM.out _)).mono ?_
    rintro e w1 ⟨rfl, hb1⟩
    rw [Hm.out]
    have hc0 := cell_kept hbx hb1 (Nat.le_refl _)
    go_wp2_with fail
    refine (HD.out _ (by first | exact HkA.out.step (Keeps.of_bel hb1) | exact (HkA.out.step (Keeps.of_bel hb1)).drew | exact (HkA.out.step (Keeps.of_bel hb1)).drewN _)).mono ?_
    rintro e w2 ⟨rfl, k2⟩
    rw [Hde.out]
    go_wp2_with fail
    go_ret2
    exact He.out _ ((HkA.out.step (Keeps.of_bel hb1)).step ⟨k2.os, k2.tape, k2.output, k2.size, k2.block⟩)
  have hde : diaErr ss.length ks root = 0 := by unfold diaErr; rw [if_pos hd]
  by_cases hn : vs.length = ss.length
  case neg =>
    have he : ∀ w', Keeps (fun _ => False) w w' → FollowEnd w ss fs ks root vs (.returned (.tuple #[.bool false, .int .i64 1])) w' := fun w' k => ⟨Or.inr (Or.inl ⟨hm, fun hh => hn hh.2, rfl⟩), k⟩
    have hne : ((vs.length : Int) != (ss.length : Int)) = true := by rw [bne_iff_ne]; omega
    have He := Lib.hid he; have HM := Lib.hid hM; have HkA := Lib.hid hkA; have HD := Lib.hid hD; have Hm := Lib.hid hm; have Hde := Lib.hid hde; have Hbx := Lib.hid hbx
    clear he hm h hM hk hv hkA hD hde hd
    go_enter Tryz.func22, Tryz.ntmps22
    go_wp2_with fail
    refine (checkModel_any _ _ _ _ _ _ _ (HM.out _)).mono ?_
    rintro e w1 ⟨rfl, hb1⟩
    rw [Hm.out]
    have hc0 := cell_kept hbx hb1 (Nat.le_refl _)
    go_wp2_with fail
    refine (HD.out _ (by first | exact HkA.out.step (Keeps.of_bel hb1) | exact (HkA.out.step (Keeps.of_bel hb1)).drew | exact (HkA.out.step (Keeps.of_bel hb1)).drewN _)).mono ?_
    rintro e w2 ⟨rfl, k2⟩
    rw [Hde.out]
    have hc2 : w2.cell? ⟨w.heap.size, 0, none⟩ = some (.slice ao ss.length ca) := (Keeps.mk (S := fun _ => False) k2.os k2.tape k2.output k2.size k2.block : Keeps (fun _ => False) w1 w2).cell hc0 (fun e => e)
    go_wp2_with fail
    go_ret2
    exact He.out _ ((HkA.out.step (Keeps.of_bel hb1)).step ⟨k2.os, k2.tape, k2.output, k2.size, k2.block⟩)
  have he : ∀ w' r, Keeps (fun _ => False) w w' → Leads ks (vT vs) root r → FollowEnd w ss fs ks root vs (.returned (.tuple #[.bool (r == -2), .int .i64 0])) w' := fun w' r k hr => ⟨Or.inr (Or.inr ⟨hm, ⟨hd, hn⟩, r, hr, rfl⟩), k⟩
  have hne : ((vs.length : Int) != (ss.length : Int)) = false := by rw [hn]; simp
  have hkk : ∀ w1, Keeps (fun _ => False) w w1 → KnotsAt w1 ko ks ∧ BoolsAt w1 av vs := fun w1 k => ⟨hk.keeps k, hv.keeps k⟩
  have He := Lib.hid he; have HM := Lib.hid hM; have HkA := Lib.hid hkA; have HD := Lib.hid hD; have Hm := Lib.hid hm; have Hde := Lib.hid hde; have Hbx := Lib.hid hbx; have Hkk := Lib.hid hkk; have Hd := Lib.hid hd; have Hn := Lib.hid hn
  clear he hm h hM hk hv hkA hD hde hd hkk
  go_enter Tryz.func22, Tryz.ntmps22
  go_wp2_with fail
  refine (checkModel_any _ _ _ _ _ _ _ (HM.out _)).mono ?_
  rintro e w1 ⟨rfl, hb1⟩
  rw [Hm.out]
  have hc0 := cell_kept hbx hb1 (Nat.le_refl _)
  go_wp2_with fail
  refine (HD.out _ (by first | exact HkA.out.step (Keeps.of_bel hb1) | exact (HkA.out.step (Keeps.of_bel hb1)).drew | exact (HkA.out.step (Keeps.of_bel hb1)).drewN _)).mono ?_
  rintro e w2 ⟨rfl, k2⟩
  rw [Hde.out]
  have hc2 : w2.cell? ⟨w.heap.size, 0, none⟩ = some (.slice ao ss.length ca) := (Keeps.mk (S := fun _ => False) k2.os k2.tape k2.output k2.size k2.block : Keeps (fun _ => False) w1 w2).cell hc0 (fun e => e)
  have hk3 : Keeps (fun _ => False) w w2 := (HkA.out.step (Keeps.of_bel hb1)).step ⟨k2.os, k2.tape, k2.output, k2.size, k2.block⟩
  have Hk3 := Lib.hid hk3
  clear hk3 k2 hb1 hc0 hbx
  go_wp2_with fail
  go_loopw [12] (fun a wr => ∃ t : Int, a = .int .i64 t ∧ -2 ≤ t ∧ t < (ks.length : Int) ∧ Keeps (fun _ => False) w2 wr ∧ Hid (∀ r, Leads ks (vT vs) t r → Leads ks (vT vs) root r)) (fun a _ => (intOf a + 1).toNat)
  case atStart => exact ⟨root, rfl, Hd.out.2.1, Hd.out.2.2.1, Keeps.refl _ _, fun r h => h⟩
  case round =>
    obtain ⟨t, rfl, ht1, ht2, kp, hld⟩ := hrel
    by_cases h0 : 0 ≤ t
    · have hkn := Hd.out.2.2.2 t.toNat (by omega)
      have htn : ((t.toNat : Nat) : Int) = t := Int.toNat_of_nonneg h0
      have hnx := knotB_next hkn (vT vs)
      rw [htn] at hnx
      obtain ⟨hkA, hvA⟩ := Hkk.out wr (Hk3.out.step kp)
      obtain ⟨b, off, rfl, hcs⟩ := hkA.cells (by omega)
      obtain ⟨c0, c1, c2⟩ := hcs t.toNat (by omega)
      have ho : 0 ≤ (knAt ks t.toNat).1 ∧ (knAt ks t.toNat).1 < (ss.length : Int) := by
        unfold knotB at hkn; rw [Bool.and_eq_true] at hkn; simpa using hkn.1
      obtain ⟨b1, off1, rfl, hbs⟩ := hvA.cells (by have := Hn.out; omega)
      have cb := hbs (knAt ks t.toNat).1.toNat (by have := Hn.out; omega)
      have hstep : ∀ r, Leads ks (vT vs) (if vs.getD (knAt ks t.toNat).1.toNat false = true then (knAt ks t.toNat).2.2 else (knAt ks t.toNat).2.1) r → Leads ks (vT vs) root r := fun r hr => hld.out r (Leads.go h0 hr)
      have hnx2 : -2 ≤ (if vs.getD (knAt ks t.toNat).1.toNat false = true then (knAt ks t.toNat).2.2 else (knAt ks t.toNat).2.1) ∧ (if vs.getD (knAt ks t.toNat).1.toNat false = true then (knAt ks t.toNat).2.2 else (knAt ks t.toNat).2.1) < t := hnx
      have bl0 : b < wr.heap.size := World.block_lt_of_cell? wr _ c0
      have bl1 : b1 < wr.heap.size := World.block_lt_of_cell? wr _ cb
      generalize vs.getD (knAt ks t.toNat).1.toNat false = c at *
      generalize (knAt ks t.toNat).1 = o at *
      generalize (knAt ks t.toNat).2.1 = x at *
      generalize (knAt ks t.toNat).2.2 = y at *
      obtain ⟨ho1, ho2⟩ := ho
      have ho3 : o < (vs.length : Int) := by have := Hn.out; omega
      have Hstep := Lib.hid hstep; have Kp := Lib.hid kp
      clear hstep hkn hnx hkA hvA hcs hbs htn kp hld
      cases c
      all_goals
        simp only [Bool.false_eq_true, if_true, if_false] at hnx2
        obtain ⟨hx1, hx2⟩ := hnx2
        go_wp2_with fail
        go_roundw
        case rel => exact ⟨_, rfl, hx1, by omega, Kp.out.alloc _, Lib.hid (by simpa using Hstep.out)⟩
        case measure => simp [intOf]; omega
    · have hfin := hld.out t (Leads.stop (by omega))
      have Hf := Lib.hid hfin
      have b1 : decide (0 ≤ t) = false := decide_eq_false h0
      clear hfin hld
      by_cases hy : t = -2
      · subst hy
        go_wp2_with fail
        go_ret2
        exact He.out _ _ (Hk3.out.step kp) Hf.out
      · have hy2 : (t == -2) = false := beq_eq_false_iff_ne.2 hy
        have hE := He.out wr t (Hk3.out.step kp) Hf.out
        rw [hy2] at hE
        have HE := Lib.hid hE
        clear hE
        go_wp2_with fail
        go_ret2
        exact HE.out

set_option maxRecDepth 100000 in
set_option maxHeartbeats 3200000 in
theorem refFollow_any (ao ar ko av : Option Addr) (ca cr kc cv : Nat) (ss : List ByteArray) (fs : List (List Int)) (ks : List Kn) (root : Int) (vs : List Bool) (w : World) (h : ModelAt w ao ar ss fs) (hk : KnotsAt w ko ks) (hv : BoolsAt w av vs) :
    Calls Tryz.prog 23 #[.agg #[.slice ao ss.length ca, .slice ar fs.length cr], .slice ko ks.length kc, .int .i64 root, .slice av vs.length cv] w (FollowEnd w ss fs ks root vs) := by
  have hl1 := h.strs.len
  have hl2 := hk.len
  have hl3 := hv.len
  unfold maxLen at hl1 hl2 hl3
  have hkA := keeps_alloc w (.cells #[.slice ao ss.length ca, .slice ar fs.length cr] 25)
  have hbx := box0 w (.slice ao ss.length ca) (.slice ar fs.length cr) 25
  have hbx1 := box1 w (.slice ao ss.length ca) (.slice ar fs.length cr) 25
  have hM := refCheckModel_any ao ar ca cr ss fs _ (h.keeps hkA)
  by_cases hm : modelErr ss fs = 0
  case neg =>
    have he : ∀ w', Keeps (fun _ => False) w w' → FollowEnd w ss fs ks root vs (.returned (.tuple #[.bool false, .int .i64 (modelErr ss fs)])) w' := fun w' k => ⟨Or.inl ⟨hm, rfl⟩, k⟩
    have hne : ((modelErr ss fs) != 0) = true := by simpa using hm
    have He := Lib.hid he; have HM := Lib.hid hM; have HkA := Lib.hid hkA
    clear he hm h hM hk hv hkA
    go_enter Tryz.func23, Tryz.ntmps23
    go_wp2_with fail
    refine HM.out.mono ?_
    rintro e w1 ⟨rfl, hb1⟩
    go_wp2_with fail
    go_ret2
    exact He.out _ (HkA.out.step (Keeps.of_bel hb1))
  have hbad : ¬ (DiaOk ss.length ks root ∧ vs.length = ss.length) → ∀ w', Keeps (fun _ => False) w w' → FollowEnd w ss fs ks root vs (.returned (.tuple #[.bool false, .int .i64 1])) w' := fun hd w' k => ⟨Or.inr (Or.inl ⟨hm, hd, rfl⟩), k⟩
  have hgood : (DiaOk ss.length ks root ∧ vs.length = ss.length) → ∀ w' r, Keeps (fun _ => False) w w' → Leads ks (vT vs) root r → FollowEnd w ss fs ks root vs (.returned (.tuple #[.bool (r == -2), .int .i64 0])) w' := fun hd w' r k hr => ⟨Or.inr (Or.inr ⟨hm, hd, r, hr, rfl⟩), k⟩
  have Hbad := Lib.hid hbad; have Hgood := Lib.hid hgood; have HM := Lib.hid hM; have HkA := Lib.hid hkA; have Hm := Lib.hid hm
  have hkk : ∀ w1, Keeps (fun _ => False) w w1 → KnotsAt w1 ko ks ∧ BoolsAt w1 av vs := fun w1 k => ⟨hk.keeps k, hv.keeps k⟩
  have Hkk := Lib.hid hkk
  have hgo : ∀ w1, Keeps (fun _ => False) w w1 → ∀ (i : Nat) (o t : Int), i ≤ ks.length → Calls Tryz.prog 42 #[.agg #[.slice ao ss.length ca, .slice ar fs.length cr], .slice ko ks.length kc, .int .i64 i, .int .i64 o, .int .i64 t] w1 fun e w' => e = .returned (.bool (nextB ks i o t)) ∧ Keeps (fun _ => False) w1 w' := fun w1 k i o t hi => goes_any ao ar ko ca cr kc ss.length fs.length ks i o t w1 (hk.keeps k) hi
  have Hgo := Lib.hid hgo
  clear hbad hgood hM hkA hm h hk hv hkk hgo
  by_cases hlen : ks.length ≤ 2000
  case neg =>
    have he := Hbad.out (fun hh => hlen hh.1.1)
    have He := Lib.hid he
    clear he
    go_enter Tryz.func23, Tryz.ntmps23
    go_wp2_with fail
    refine HM.out.mono ?_
    rintro e w1 ⟨rfl, hb1⟩
    rw [Hm.out]
    go_wp2_with fail
    go_ret2
    exact He.out _ (HkA.out.step (Keeps.of_bel hb1))
  go_enter Tryz.func23, Tryz.ntmps23
  go_wp2_with fail
  refine HM.out.mono ?_
  rintro e w1 ⟨rfl, hb1⟩
  rw [Hm.out]
  have hc0 := cell_kept hbx hb1 (Nat.le_refl _)
  have hc1 := cell_kept hbx1 hb1 (Nat.le_refl _)
  have hk1 := HkA.out.step (Keeps.of_bel hb1)
  have Hk1 := Lib.hid hk1
  clear hk1 hb1 hbx hbx1
  go_wp2_with fail
  go_loopw [11] (fun i wr => ∃ q : Nat, q ≤ ks.length ∧ i = .int .i64 q ∧ Keeps (fun _ => False) w1 wr ∧ Hid (∀ j, j < q → knotB ss.length ks j = true)) (fun i _ => ks.length - (intOf i).toNat)
  case atStart => exact ⟨0, Nat.zero_le _, rfl, Keeps.refl _ _, Lib.hid (fun j hj => by omega)⟩
  case round =>
    obtain ⟨q, hq, rfl, kp, hok⟩ := hrel
    obtain ⟨wa, rfl⟩ : ∃ wa, wa = wr := ⟨wr, rfl⟩
    have hca := kp.cell hc0 (fun e => e)
    have hcb := kp.cell hc1 (fun e => e)
    have blm : w.heap.size < wa.heap.size := World.block_lt_of_cell? wa _ hca
    have Kp := Lib.hid kp
    by_cases hlt : q < ks.length
    · obtain ⟨hkA, hvA⟩ := Hkk.out wa (Hk1.out.step kp)
      obtain ⟨b, off, rfl, hcs⟩ := hkA.cells (by omega)
      obtain ⟨c0, c1, c2⟩ := hcs q hlt
      have bl0 : b < wa.heap.size := World.block_lt_of_cell? wa _ c0
      have hkn : knotB ss.length ks q = (decide (0 ≤ (knAt ks q).1 ∧ (knAt ks q).1 < ss.length) && (nextB ks q (knAt ks q).1 (knAt ks q).2.1 && nextB ks q (knAt ks q).1 (knAt ks q).2.2)) := rfl
      have hbd : knotB ss.length ks q = false → ∀ w', Keeps (fun _ => False) w w' → FollowEnd w ss fs ks root vs (.returned (.tuple #[.bool false, .int .i64 1])) w' := fun hh => Hbad.out (fun hD => by rw [hD.1.2.2.2 q hlt] at hh; cases hh)
      have hnext : knotB ss.length ks q = true → ∀ j, j < q + 1 → knotB ss.length ks j = true := fun hh j hj => by
        by_cases e : j = q
        · subst e; exact hh
        · exact hok.out j (by omega)
      generalize (knAt ks q).1 = o at *
      generalize (knAt ks q).2.1 = x at *
      generalize (knAt ks q).2.2 = y at *
      have Hkn := Lib.hid hkn; have Hbd := Lib.hid hbd; have Hnext := Lib.hid hnext
      have i1 : (q : Int) < (ks.length : Int) := by omega
      clear hkn hbd hnext hkA hvA hcs kp hok
      by_cases g1 : o < 0
      · have He := Lib.hid (Hbd.out (by rw [Hkn.out]; simp; intro h; omega))
        have b1 : decide (o < 0) = true := decide_eq_true g1
        go_wp2_with fail
        go_ret2
        exact He.out _ ((Hk1.out.step Kp.out).alloc _)
      · by_cases g2 : (ss.length : Int) ≤ o
        · have He := Lib.hid (Hbd.out (by rw [Hkn.out]; simp; intro h; omega))
          have b1 : decide (o < 0) = false := decide_eq_false g1
          have b2 : decide ((ss.length : Int) ≤ o) = true := decide_eq_true g2
          clear g1 g2
          go_wp2_with fail
          go_ret2
          exact He.out _ ((Hk1.out.step Kp.out).alloc _)
        · have hkn2 : knotB ss.length ks q = (nextB ks q o x && nextB ks q o y) := by rw [Hkn.out, decide_eq_true (show 0 ≤ o ∧ o < (ss.length : Int) by omega)]; rfl
          have b1 : decide (o < 0) = false := decide_eq_false g1
          have b2 : decide ((ss.length : Int) ≤ o) = false := decide_eq_false g2
          have Hkn2 := Lib.hid hkn2
          clear g1 g2 hkn2 Hkn
          go_wp2_with fail
          have ka := keeps_alloc wa (.cells #[.int .i64 o, .int .i64 x, .int .i64 y] 76)
          have d0 : (wa.alloc (.cells #[.int .i64 o, .int .i64 x, .int .i64 y] 76)).cell? ⟨wa.heap.size, 0, none⟩ = some (.int .i64 o) := by simp
          have d2 : (wa.alloc (.cells #[.int .i64 o, .int .i64 x, .int .i64 y] 76)).cell? ⟨wa.heap.size, 2, none⟩ = some (.int .i64 y) := by simp
          have ea := ka.cell hca (fun e => e)
          have eb := ka.cell hcb (fun e => e)
          refine (Hgo.out _ (by first | exact (Hk1.out.step Kp.out).step ka | exact ((Hk1.out.step Kp.out).step ka).drew | exact ((Hk1.out.step Kp.out).step ka).drewN _) q o x (Nat.le_of_lt hlt)).mono ?_
          rintro e w3 ⟨rfl, k3⟩
          have k3' : Keeps (fun _ => False) (wa.alloc (.cells #[.int .i64 o, .int .i64 x, .int .i64 y] 76)) w3 := ⟨k3.os, k3.tape, k3.output, k3.size, k3.block⟩
          have d0' := k3'.cell d0 (fun e => e)
          have d2' := k3'.cell d2 (fun e => e)
          have ea' := k3'.cell ea (fun e => e)
          have eb' := k3'.cell eb (fun e => e)
          have K3 := Lib.hid (((Hk1.out.step Kp.out).step ka).step k3')
          have Kw := Lib.hid ((Kp.out.step ka).step k3')
          clear k3 k3' d0 d2 ea eb ka hca hcb c0 c1 c2
          cases hx : nextB ks q o x
          · have He := Lib.hid (Hbd.out (by rw [Hkn2.out, hx]; rfl))
            clear hx
            go_wp2_with fail
            go_ret2
            exact He.out _ K3.out
          · have hkn3 : knotB ss.length ks q = nextB ks q o y := by rw [Hkn2.out, hx]; rfl
            have Hkn3 := Lib.hid hkn3
            clear hx hkn3
            go_wp2_with fail
            refine (Hgo.out _ (by first | exact K3.out | exact K3.out.drew | exact K3.out.drewN _) q o y (Nat.le_of_lt hlt)).mono ?_
            rintro e w4 ⟨rfl, k4⟩
            have k4' : Keeps (fun _ => False) w3 w4 := ⟨k4.os, k4.tape, k4.output, k4.size, k4.block⟩
            have K4 := Lib.hid (K3.out.step k4')
            have Kw4 := Lib.hid (Kw.out.step k4')
            clear k4 k4' d0' d2' ea' eb'
            cases hy : nextB ks q o y
            · have He := Lib.hid (Hbd.out (by rw [Hkn3.out, hy]))
              clear hy
              go_wp2_with fail
              go_ret2
              exact He.out _ K4.out
            · have hall := Lib.hid (Hnext.out (by rw [Hkn3.out, hy]))
              clear hy
              go_wp2_with fail
              go_roundw
              case rel => exact ⟨q + 1, by omega, by go_num, Kw4.out, hall⟩
              case measure => simp [intOf]; omega
    · have hKO : KnotsOk ss.length ks := fun j hj => hok.out j (by omega)
      have hrt : nextB ks ks.length (-1) root = true ↔ (-2 ≤ root ∧ root < ks.length) := by
        rw [nextB_iff]
        constructor
        · intro h; omega
        · intro h
          by_cases h0 : 0 ≤ root
          · have := hKO root.toNat (by omega)
            unfold knotB at this
            rw [Bool.and_eq_true] at this
            have h1 := this.1
            simp at h1
            omega
          · omega
      have Hrt := Lib.hid hrt; have HKO := Lib.hid hKO
      clear hKO hrt hok kp
      go_wp2_with fail
      refine (Hgo.out _ (by first | exact Hk1.out.step Kp.out | exact (Hk1.out.step Kp.out).drew | exact (Hk1.out.step Kp.out).drewN _) ks.length (-1) root (Nat.le_refl _)).mono ?_
      rintro e w5 ⟨rfl, k5⟩
      have k5' : Keeps (fun _ => False) wa w5 := ⟨k5.os, k5.tape, k5.output, k5.size, k5.block⟩
      have hcc := k5'.cell hca (fun e => e)
      have Hk3 := Lib.hid ((Hk1.out.step Kp.out).step k5')
      clear k5 k5' hca hcb
      cases hx : nextB ks ks.length (-1) root
      · have He := Lib.hid (Hbad.out (fun hD => by rw [Hrt.out.2 ⟨hD.1.2.1, hD.1.2.2.1⟩] at hx; cases hx))
        clear hx
        go_wp2_with fail
        go_ret2
        exact He.out _ Hk3.out
      · have hr := Hrt.out.1 hx
        clear hx
        by_cases hn : vs.length = ss.length
        case neg =>
          have He := Lib.hid (Hbad.out (fun hD => hn hD.2))
          have hne : ((vs.length : Int) != (ss.length : Int)) = true := by rw [bne_iff_ne]; omega
          clear hn
          go_wp2_with fail
          go_ret2
          exact He.out _ Hk3.out
        have Hd : Hid (DiaOk ss.length ks root) := Lib.hid ⟨hlen, hr.1, hr.2, HKO.out⟩
        have HG := Lib.hid (Hgood.out ⟨Hd.out, hn⟩)
        have hne : ((vs.length : Int) != (ss.length : Int)) = false := by rw [hn]; simp
        have Hn := Lib.hid hn
        clear hr
        go_wp2_with fail
        go_loopw [2] (fun a wr => ∃ t : Int, a = .int .i64 t ∧ -2 ≤ t ∧ t < (ks.length : Int) ∧ Keeps (fun _ => False) w5 wr ∧ Hid (∀ r, Leads ks (vT vs) t r → Leads ks (vT vs) root r)) (fun a _ => (intOf a + 1).toNat)
        case atStart => exact ⟨root, rfl, Hd.out.2.1, Hd.out.2.2.1, Keeps.refl _ _, fun r h => h⟩
        case round =>
          obtain ⟨t, rfl, ht1, ht2, kp, hld⟩ := hrel
          by_cases h0 : 0 ≤ t
          · have hkn := Hd.out.2.2.2 t.toNat (by omega)
            have htn : ((t.toNat : Nat) : Int) = t := Int.toNat_of_nonneg h0
            have hnx := knotB_next hkn (vT vs)
            rw [htn] at hnx
            obtain ⟨hkA, hvA⟩ := Hkk.out wr (Hk3.out.step kp)
            obtain ⟨b, off, rfl, hcs⟩ := hkA.cells (by omega)
            obtain ⟨c0, c1, c2⟩ := hcs t.toNat (by omega)
            have ho : 0 ≤ (knAt ks t.toNat).1 ∧ (knAt ks t.toNat).1 < (ss.length : Int) := by
              unfold knotB at hkn; rw [Bool.and_eq_true] at hkn; simpa using hkn.1
            obtain ⟨b1, off1, rfl, hbs⟩ := hvA.cells (by have := Hn.out; omega)
            have cb := hbs (knAt ks t.toNat).1.toNat (by have := Hn.out; omega)
            have hstep : ∀ r, Leads ks (vT vs) (if vs.getD (knAt ks t.toNat).1.toNat false = true then (knAt ks t.toNat).2.2 else (knAt ks t.toNat).2.1) r → Leads ks (vT vs) root r := fun r hr => hld.out r (Leads.go h0 hr)
            have hnx2 : -2 ≤ (if vs.getD (knAt ks t.toNat).1.toNat false = true then (knAt ks t.toNat).2.2 else (knAt ks t.toNat).2.1) ∧ (if vs.getD (knAt ks t.toNat).1.toNat false = true then (knAt ks t.toNat).2.2 else (knAt ks t.toNat).2.1) < t := hnx
            have bl0 : b < wr.heap.size := World.block_lt_of_cell? wr _ c0
            have bl1 : b1 < wr.heap.size := World.block_lt_of_cell? wr _ cb
            generalize vs.getD (knAt ks t.toNat).1.toNat false = c at *
            generalize (knAt ks t.toNat).1 = o at *
            generalize (knAt ks t.toNat).2.1 = x at *
            generalize (knAt ks t.toNat).2.2 = y at *
            obtain ⟨ho1, ho2⟩ := ho
            have ho3 : o < (vs.length : Int) := by have := Hn.out; omega
            have Hstep := Lib.hid hstep; have Kp := Lib.hid kp
            clear hstep hkn hnx hkA hvA hcs hbs htn kp hld
            cases c
            all_goals
              simp only [Bool.false_eq_true, if_true, if_false] at hnx2
              obtain ⟨hx1, hx2⟩ := hnx2
              go_wp2_with fail
              go_roundw
              case rel => exact ⟨_, rfl, hx1, by omega, Kp.out, Lib.hid (by simpa using Hstep.out)⟩
              case measure => simp [intOf]; omega
          · have hfin := hld.out t (Leads.stop (by omega))
            have Hf := Lib.hid hfin
            have b1 : decide (0 ≤ t) = false := decide_eq_false h0
            clear hfin hld
            by_cases hy : t = -2
            · subst hy
              go_wp2_with fail
              go_ret2
              exact HG.out _ _ (Hk3.out.step kp) Hf.out
            · have hy2 : (t == -2) = false := beq_eq_false_iff_ne.2 hy
              have hE := HG.out wr t (Hk3.out.step kp) Hf.out
              rw [hy2] at hE
              have HE := Lib.hid hE
              clear hE
              go_wp2_with fail
              go_ret2
              exact HE.out

open Go Go.RowKit Go.WideMaps Go.Maps
set_option linter.unusedSimpArgs false
set_option linter.unusedVariables false

theorem FollowEnd.form {w w' : World} {ss : List ByteArray} {fs : List (List Int)} {ks : List Kn} {root : Int} {vs : List Bool} {e : Ending} (h : FollowEnd w ss fs ks root vs e w') : (∃ b n, e = .returned (.tuple #[.bool b, .int .i64 n])) ∧ Keeps (fun _ => False) w w' := by
  obtain ⟨h1, k⟩ := h
  refine ⟨?_, k⟩
  rcases h1 with ⟨a, b⟩ | ⟨a, b, c⟩ | ⟨a, b, r, c, d⟩
  · exact ⟨_, _, b⟩
  · exact ⟨_, _, c⟩
  · exact ⟨_, _, d⟩

set_option maxRecDepth 100000 in
set_option maxHeartbeats 3200000 in
theorem optionsFollows_any (ao ar ko av : Option Addr) (ca cr kc cv : Nat) (ss : List ByteArray) (fs : List (List Int)) (ks : List Kn) (root : Int) (vs : List Bool) (w : World) (h : ModelAt w ao ar ss fs) (hk : KnotsAt w ko ks) (hv : BoolsAt w av vs) (tab : Tab w.heap.size w) :
    Calls Tryz.prog 7 #[.agg #[.slice ao ss.length ca, .slice ar fs.length cr], .agg #[.slice ko ks.length kc, .int .i64 root], .slice av vs.length cv] w fun e w' => e = .returned (.bool true) ∧ Below w.heap.size w w' := by
  have hl1 := hk.len
  unfold maxLen at hl1
  have h5 : ∀ W, Keeps (fun _ => False) w W → Calls Tryz.prog 12 #[] W fun e w' => e = .returned (.bool true) ∧ Keeps (fun _ => False) W w' := fun W k => works_keeps W w.heap.size w tab (Nat.le_refl _) k
  have h1 : ∀ W, Keeps (fun _ => False) w W → Calls Tryz.prog 22 #[.agg #[.slice ao ss.length ca, .slice ar fs.length cr], .slice ko ks.length kc, .int .i64 root, .slice av vs.length cv] W (FollowEnd W ss fs ks root vs) := fun W k => follow_any ao ar ko av ca cr kc cv ss fs ks root vs W (h.keeps k) (hk.keeps k) (hv.keeps k)
  have h2 : ∀ W, Keeps (fun _ => False) w W → Calls Tryz.prog 23 #[.agg #[.slice ao ss.length ca, .slice ar fs.length cr], .slice ko ks.length kc, .int .i64 root, .slice av vs.length cv] W (FollowEnd W ss fs ks root vs) := fun W k => refFollow_any ao ar ko av ca cr kc cv ss fs ks root vs W (h.keeps k) (hk.keeps k) (hv.keeps k)
  have kA := (keeps_alloc w (.cells #[.slice ao ss.length ca, .slice ar fs.length cr] 25)).alloc (.cells #[.slice ko ks.length kc, .int .i64 root] 47)
  have KA := Lib.hid kA; have H1 := Lib.hid h1; have H2 := Lib.hid h2; have H5 := Lib.hid h5
  clear kA h1 h2 h5 h hk hv tab
  by_cases hl : ks.length ≤ 3000
  case neg =>
    go_enter Tryz.func7, Tryz.ntmps7
    go_wp2_with fail
    refine (H5.out _ (by first | exact KA.out | exact KA.out.drew | exact KA.out.drewN _)).mono ?_
    rintro e w1 ⟨rfl, k1⟩
    go_wp2_with fail
    go_ret
    exact ⟨rfl, (KA.out.step ⟨k1.os, k1.tape, k1.output, k1.size, k1.block⟩).bel⟩
  go_enter Tryz.func7, Tryz.ntmps7
  go_wp2_with fail
  refine (H1.out _ (by first | exact KA.out | exact KA.out.drew | exact KA.out.drewN _)).mono ?_
  rintro e w1 p1
  obtain ⟨⟨b, n, rfl⟩, k1⟩ := p1.form
  have P1 := Lib.hid p1
  have k1' : Keeps (fun _ => False) ((w.alloc (.cells #[.slice ao ss.length ca, .slice ar fs.length cr] 25)).alloc (.cells #[.slice ko ks.length kc, .int .i64 root] 47)) w1 := ⟨k1.os, k1.tape, k1.output, k1.size, k1.block⟩
  have c0 : w1.cell? ⟨w.heap.size, 0, none⟩ = some (.slice ao ss.length ca) := k1'.cell (by simp) (fun e => e)
  have c1 : w1.cell? ⟨w.heap.size, 1, none⟩ = some (.slice ar fs.length cr) := k1'.cell (by simp) (fun e => e)
  have c2 : w1.cell? ⟨w.heap.size + 1, 0, none⟩ = some (.slice ko ks.length kc) := k1'.cell (by simp) (fun e => e)
  have c3 : w1.cell? ⟨w.heap.size + 1, 1, none⟩ = some (.int .i64 root) := k1'.cell (by simp) (fun e => e)
  have K1 := Lib.hid (KA.out.step k1')
  clear k1 k1' p1
  have q2 : ((n : Int) == n) = true := by simp
  go_wp2_with fail
  refine (H2.out _ (by first | exact K1.out | exact K1.out.drew | exact K1.out.drewN _)).mono ?_
  rintro e w2 p2
  obtain rfl := P1.out.same p2
  have k2 := p2.form.2
  have K2 := Lib.hid (K1.out.step ⟨k2.os, k2.tape, k2.output, k2.size, k2.block⟩)
  clear k2 p2 P1 c0 c1 c2 c3
  cases b
  all_goals
    go_wp2_with fail
    refine (H5.out _ (by first | exact K2.out | exact K2.out.drew | exact K2.out.drewN _)).mono ?_
    rintro e w3 ⟨rfl, k3⟩
    go_wp2_with fail
    go_ret
    exact ⟨rfl, (K2.out.step ⟨k3.os, k3.tape, k3.output, k3.size, k3.block⟩).bel⟩
end Go.Proofs.YtngjjmniigkeoaaGreatDoor
