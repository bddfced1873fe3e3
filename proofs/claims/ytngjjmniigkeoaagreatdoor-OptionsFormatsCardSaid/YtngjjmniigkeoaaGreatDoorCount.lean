/- between, count. -/
import Derived.Test.YtngjjmniigkeoaaGreatDoorSolve
import Derived.Test.YtngjjmniigkeoaaGreatDoorNum
import Derived.Deep.RegionHeld3
namespace Go.Proofs.YtngjjmniigkeoaaGreatDoor
open Go Go.RowKit Go.WideMaps Go.Maps
set_option linter.unusedSimpArgs false
set_option linter.unusedVariables false

set_option maxHeartbeats 1600000 in
theorem between_any (h : DH) (s : DS) (L lo hi k : Nat) (w : World) (d : Dia w h s) (hk : k < s.nodes.length) (hL : L < (ndAt s.nodes k).lev) (hn : h.n ≤ 40) :
    Calls Tryz.prog 68 #[.pointer (some ⟨h.b, 0, none⟩), .agg #[.int .i64 L, .int .i32 lo, .int .i32 hi], .int .i32 k] w fun e w' => e = .returned (.int .i64 (((ndAt s.nodes k).lev - L - 1 : Nat) : Int)) ∧ ∃ q, w' = (w.alloc (.cells #[.int .i64 L, .int .i32 lo, .int .i32 hi] 107)).drewN q := by
  obtain ⟨d0, d1, d2, d3, d4, d5⟩ := d.cells
  obtain ⟨g, cap, eg, hcs, hg, hgb⟩ := d.node
  obtain ⟨na0, na1, na2⟩ := hcs k hk
  rw [eg] at d2
  have hblt := d.lt h.b (Or.inl rfl)
  have i1 : (k : Int) < (s.nodes.length : Int) := by omega
  have la := d.inv.wf.lev_le hk
  generalize (ndAt s.nodes k).lev = A at *
  have hw : IntKind.i64.wrap ((A : Int) - (L : Int)) = (A : Int) - (L : Int) := IntWalk.i64_in _ (by omega)
  have hw2 : IntKind.i64.wrap ((A : Int) - (L : Int) - 1) = (A : Int) - (L : Int) - 1 := IntWalk.i64_in _ (by omega)
  have he : (((A - L - 1 : Nat)) : Int) = (A : Int) - (L : Int) - 1 := by omega
  have He := Lib.hid he
  clear eg hcs d he
  go_enter Tryz.func68, Tryz.ntmps68
  go_wp2_with fail
  go_quiet (fail)
  go_wp2_with fail
  go_ret
  exact ⟨by rw [He.out]; rfl, _, rfl⟩

/-- What lies in a cell. -/
def cellOr (w : World) (a : Addr) : Value := (w.cell? a).getD (.bool false)
theorem cellOr_some {w : World} {a : Addr} {v : Value} (h : w.cell? a = some v) : w.cell? a = some (cellOr w a) := by rw [cellOr, h]; rfl

/-- A count that is doubled for each level left out. -/
theorem wrap_shl {a p q : Nat} (ha : a ≤ 2 ^ q) (hq : q + p ≤ 40) : IntKind.i64.wrap ((a : Int) * 2 ^ p) = ((2 ^ p * a : Nat) : Int) ∧ 2 ^ p * a ≤ 2 ^ 40 := by
  have h1 : 2 ^ p * a ≤ 2 ^ p * 2 ^ q := Nat.mul_le_mul_left _ ha
  have h2 : 2 ^ p * 2 ^ q = 2 ^ (p + q) := (Nat.pow_add 2 p q).symm
  have h3 : (2 : Nat) ^ (p + q) ≤ 2 ^ 40 := Nat.pow_le_pow_right (by omega) (by omega)
  have h4 : (a : Int) * 2 ^ p = ((2 ^ p * a : Nat) : Int) := by rw [Int.natCast_mul, Int.natCast_pow, Int.mul_comm]; rfl
  refine ⟨?_, by omega⟩
  rw [h4]
  exact IntWalk.i64_in _ (by omega)

def lvl (l : List Nd) (k : Nat) : Nat := (ndAt l k).lev

theorem Dia.below {w w' : World} {h : DH} {s : DS} (d : Dia w h s) (hb : Below w.heap.size w w') : Dia w' h s := d.kept (fun k hk => hb.block k (d.lt k hk))

theorem irow_made {w : World} {base g n : Nat} (h : w.ownsRow base 3 1 (.slice (some ⟨g, 0, none⟩) n n) n (madeCells (Value.int .i64 0).cells (n * 1)).toList) : IRow w base g n n (List.replicate n 0) := ⟨by
  have e : (madeCells (Value.int .i64 0).cells (n * 1)).toList = (List.replicate n (0 : Int)).map encI := by
    rw [List.map_replicate]; exact madeCells_one _ _
  rw [← e]; exact h⟩

/-- The counts of the first knots. -/
def Counted (n : Nat) (l : List Nd) (i m : Nat) (xs : List Int) : Prop := xs.length = m ∧ ∀ j, j < i → xs.getD j 0 = (cntOf n l j : Nat)
theorem Counted.step {n : Nat} {l : List Nd} {i m : Nat} {xs : List Int} (h : Counted n l i m xs) (hi : i < m) : Counted n l (i + 1) m (xs.set i (cntOf n l i : Nat)) := by
  refine ⟨by simp [h.1], fun j hj => ?_⟩
  by_cases e : j = i
  · subst e; simp [List.getD, h.1, hi]
  · have := h.2 j (by omega)
    simp [List.getD, List.getElem?_set, show ¬ i = j from fun e' => e e'.symm] at *; exact this

set_option maxRecDepth 100000 in
set_option maxHeartbeats 6400000 in
theorem count_any (h : DH) (s : DS) (k : Nat) (w : World) (d : Dia w h s) (hk : k < s.nodes.length) (hn : h.n ≤ 40) (hc : s.cnt < 2 ^ 30) :
    Calls Tryz.prog 48 #[.pointer (some ⟨h.b, 0, none⟩), .int .i32 k] w fun e w' => e = .returned (.int .i64 (num (sem s.nodes k) h.n 0 zeroσ : Nat)) ∧ Below w.heap.size w w' := by
  obtain ⟨i0, hi0, hz0, hz1, hz2⟩ := info_parts infoInt
  have hcn := d.inv.cnt
  have h2n := d.inv.wf.two
  have Hd := Lib.hid d
  clear d
  have hw1 : IntKind.i32.wrap ((k : Int) + 2) = ((k + 2 : Nat) : Int) := by rw [IntWalk.i32_in _ (by omega)]; omega
  go_enter Tryz.func48, Tryz.ntmps48
  go_wp2_with (first | (at_make; refine wpList_make_full _ rfl _ _ 26 rfl w.heap.size 3 i0 (.int .i64 0) 1 Tryz.underlying26 hi0 hz0 hz1 .i32 .i32 _ _ (k + 2) rfl rfl (by omega) (by omega) (by rw [hz2]; omega) (by unfold maxLen; omega) (by simp) ?_; intro w2 hown hgrow; have hrow := irow_made hown; have hc1 := hrow.cell (j := 1) (by omega); have hf1 := hrow.frozen 1; clear hown) | fail)
  have hb2 : Below w.heap.size w w2 := (Below.refl _ _).grown hgrow (Nat.le_refl _) (fun k e => by cases e)
  have hgs := hrow.lt.2
  have hrow1 := hrow.set 1 1
  have hb3 : Below w.heap.size w (w2.setCell ⟨w.heap.size, 1, none⟩ (.int .i64 1)) := hb2.setCell (Nat.le_refl _) _
  have hcd0 : Counted h.n s.nodes 2 (k + 2) ((List.replicate (k + 2) (0 : Int)).set 1 1) := by
    refine ⟨by simp, fun j hj => ?_⟩
    have : j = 0 ∨ j = 1 := by omega
    rcases this with rfl | rfl
    · rw [cntOf_no Hd.out.inv.wf]; simp [List.getD, List.getElem?_set]
    · rw [cntOf_yes Hd.out.inv.wf]; simp [List.getD, List.getElem?_set]
  clear hrow hb2 hc1 hf1 hgrow
  go_loopw [6] (fun i wr => ∃ (m : Nat) (xs : List Int), 2 ≤ m ∧ m ≤ max 2 (k + 1) ∧ i = .int .i32 m ∧ IRow wr w.heap.size w.heap.size (k + 2) (k + 2) xs ∧ Counted h.n s.nodes m (k + 2) xs ∧ Below w.heap.size w wr) (fun i _ => k + 2 - (intOf i).toNat)
  case atStart => exact ⟨2, _, Nat.le_refl _, by omega, rfl, hrow1, hcd0, hb3⟩
  case round =>
    clear hrow1 hcd0 hb3
    obtain ⟨m, xs, hm2, hm3, rfl, hr, hcd, hbl⟩ := hrel
    have hdr := Hd.out.below hbl
    by_cases hlt : m ≤ k
    · obtain ⟨d0, d1, d2, d3, d4, d5⟩ := hdr.cells
      obtain ⟨g, cap, eg, hcs, hg, hgb⟩ := hdr.node
      obtain ⟨na0, na1, na2⟩ := hcs m (by omega)
      rw [eg] at d2
      have hwf := Hd.out.inv.wf
      have p1 := hwf.lo m hm2 (by omega); have p2 := hwf.hi m hm2 (by omega); have p3 := hwf.upL m hm2 (by omega); have p4 := hwf.upH m hm2 (by omega)
      have hcn2 := cntOf_node hwf hm2 (by omega)
      have hll := hwf.lev_le (k := (ndAt s.nodes m).lo) (by omega); have hlh := hwf.lev_le (k := (ndAt s.nodes m).hi) (by omega)
      have q1 := hr.cell (j := (ndAt s.nodes m).lo) (by omega)
      have q2 := hr.cell (j := (ndAt s.nodes m).hi) (by omega)
      rw [hcd.2 _ (by omega)] at q1 q2
      have q3 := hr.cell (j := m) (by omega)
      have q4 := hr.frozen m
      have hbd1 := cntOf_le (n := h.n) (l := s.nodes) (ndAt s.nodes m).lo
      have hbd2 := cntOf_le (n := h.n) (l := s.nodes) (ndAt s.nodes m).hi
      have hbt : ∀ (W : World), Dia W h s → ∀ (j : Nat), j < s.nodes.length → (ndAt s.nodes m).lev < lvl s.nodes j → Calls Tryz.prog 68 #[.pointer (some ⟨h.b, 0, none⟩), .agg #[.int .i64 (ndAt s.nodes m).lev, .int .i32 (ndAt s.nodes m).lo, .int .i32 (ndAt s.nodes m).hi], .int .i32 j] W fun e w' => e = .returned (.int .i64 ((lvl s.nodes j - (ndAt s.nodes m).lev - 1 : Nat) : Int)) ∧ Keeps (fun _ => False) W w' :=
        fun W hW j hj hL => (between_any h s (ndAt s.nodes m).lev (ndAt s.nodes m).lo (ndAt s.nodes m).hi j W hW hj hL hn).mono fun e w' ⟨he, q, hq⟩ => ⟨he, by rw [hq]; exact ((Keeps.refl _ _).alloc _).drewN _⟩
      have hstep := hcd.step (i := m) (by omega)
      change (ndAt s.nodes m).lev < lvl s.nodes (ndAt s.nodes m).lo at p3
      change (ndAt s.nodes m).lev < lvl s.nodes (ndAt s.nodes m).hi at p4
      change lvl s.nodes (ndAt s.nodes m).lo ≤ h.n at hll
      change lvl s.nodes (ndAt s.nodes m).hi ≤ h.n at hlh
      change cntOf h.n s.nodes (ndAt s.nodes m).lo ≤ 2 ^ (h.n - lvl s.nodes (ndAt s.nodes m).lo) at hbd1
      change cntOf h.n s.nodes (ndAt s.nodes m).hi ≤ 2 ^ (h.n - lvl s.nodes (ndAt s.nodes m).hi) at hbd2
      change cntOf h.n s.nodes m = 2 ^ (lvl s.nodes (ndAt s.nodes m).lo - (ndAt s.nodes m).lev - 1) * cntOf h.n s.nodes (ndAt s.nodes m).lo + 2 ^ (lvl s.nodes (ndAt s.nodes m).hi - (ndAt s.nodes m).lev - 1) * cntOf h.n s.nodes (ndAt s.nodes m).hi at hcn2
      generalize ndAt s.nodes m = x at *
      generalize cntOf h.n s.nodes x.lo = a at *
      generalize cntOf h.n s.nodes x.hi = b at *
      have i1 : (m : Int) < (s.nodes.length : Int) := by omega
      have i2 : (x.lo : Int) < (k : Int) + 2 := by omega
      have i3 : (x.hi : Int) < (k : Int) + 2 := by omega
      have i4 : (m : Int) < (k : Int) + 2 := by omega
      have i5 : (0 : Int) ≤ (x.lo : Int) := by omega
      have i6 : (0 : Int) ≤ (x.hi : Int) := by omega
      have i7 : (0 : Int) ≤ (m : Int) := by omega
      have hwrs : w.heap.size < wr.heap.size := hr.lt.2
      have hdW : Dia (wr.alloc (.cells #[.int .i64 x.lev, .int .i32 x.lo, .int .i32 x.hi] 107)) h s := hdr.alloc _
      have w1 := wrap_shl (p := lvl s.nodes x.lo - x.lev - 1) hbd1 (by omega)
      have w2' := wrap_shl (p := lvl s.nodes x.hi - x.lev - 1) hbd2 (by omega)
      have hval : IntKind.i64.wrap (IntKind.i64.wrap ((a : Int) * 2 ^ (lvl s.nodes x.lo - x.lev - 1)) + IntKind.i64.wrap ((b : Int) * 2 ^ (lvl s.nodes x.hi - x.lev - 1))) = (cntOf h.n s.nodes m : Nat) := by
        rw [w1.1, w2'.1, hcn2, IntWalk.i64_in _ (by omega)]; omega
      have Hval := Lib.hid hval
      clear w1 w2' hval
      have Hb := Lib.hid hbt; have Hs := Lib.hid hstep; have Hr := Lib.hid hr; have HdW := Lib.hid hdW; have Hc := Lib.hid hcn2; have Hbd1 := Lib.hid hbd1; have Hbd2 := Lib.hid hbd2
      clear hbt hstep hr hdr hcs hcn2 hcd eg hwf hdW hbd1 hbd2
      go_wp2_with fail
      clear d0 d1 d2 d3 d4 d5 na0 na1 na2
      have v0 : (wr.alloc (.cells #[.int .i64 x.lev, .int .i32 x.lo, .int .i32 x.hi] 107)).cell? ⟨wr.heap.size, 0, none⟩ = some (.int .i64 x.lev) := by simp
      have v1 : (wr.alloc (.cells #[.int .i64 x.lev, .int .i32 x.lo, .int .i32 x.hi] 107)).cell? ⟨wr.heap.size, 1, none⟩ = some (.int .i32 x.lo) := by simp
      have v2 : (wr.alloc (.cells #[.int .i64 x.lev, .int .i32 x.lo, .int .i32 x.hi] 107)).cell? ⟨wr.heap.size, 2, none⟩ = some (.int .i32 x.hi) := by simp
      have kz : Keeps (fun _ => False) wr (wr.alloc (.cells #[.int .i64 x.lev, .int .i32 x.lo, .int .i32 x.hi] 107)) := (Keeps.refl _ _).alloc _
      have v3 := kz.cell q1 (fun e => e)
      have v4 := kz.cell q2 (fun e => e)
      have v5 := kz.cell q3 (fun e => e)
      have v6 := (kz.frozen (o := m) hwrs (fun e => e)).trans q4
      have hVs : w.heap.size < (wr.alloc (.cells #[.int .i64 x.lev, .int .i32 x.lo, .int .i32 x.hi] 107)).heap.size := by simp; omega
      have hbV : Below w.heap.size w (wr.alloc (.cells #[.int .i64 x.lev, .int .i32 x.lo, .int .i32 x.hi] 107)) := hbl.alloc (Nat.le_of_lt hwrs) _
      have hrV := Hr.out.of_block (kz.block _ hwrs (fun e => e))
      clear q1 q2 q3 q4 kz hbl
      generalize (wr.alloc (.cells #[.int .i64 x.lev, .int .i32 x.lo, .int .i32 x.hi] 107)) = V at *
      have hS : ∀ w', Keeps (fun _ => False) V w' → w'.cell? ⟨wr.heap.size, 0, none⟩ = some (.int .i64 x.lev) ∧ w'.cell? ⟨wr.heap.size, 1, none⟩ = some (.int .i32 x.lo) ∧ w'.cell? ⟨wr.heap.size, 2, none⟩ = some (.int .i32 x.hi) ∧ w'.cell? ⟨w.heap.size, x.lo, none⟩ = some (.int .i64 a) ∧ w'.cell? ⟨w.heap.size, x.hi, none⟩ = some (.int .i64 b) ∧ w'.cell? ⟨w.heap.size, m, none⟩ = some (cellOr w' ⟨w.heap.size, m, none⟩) ∧ w'.frozen? ⟨w.heap.size, m, none⟩ = false := fun w' k => ⟨k.cell v0 (fun e => e), k.cell v1 (fun e => e), k.cell v2 (fun e => e), k.cell v3 (fun e => e), k.cell v4 (fun e => e), cellOr_some (k.cell v5 (fun e => e)), (k.frozen (o := m) hVs (fun e => e)).trans v6⟩
      have hT : ∀ w' (u : Int), Keeps (fun _ => False) V w' → (w'.setCell ⟨w.heap.size, m, none⟩ (.int .i64 u)).cell? ⟨wr.heap.size, 0, none⟩ = some (.int .i64 x.lev) ∧ (w'.setCell ⟨w.heap.size, m, none⟩ (.int .i64 u)).cell? ⟨wr.heap.size, 1, none⟩ = some (.int .i32 x.lo) ∧ (w'.setCell ⟨w.heap.size, m, none⟩ (.int .i64 u)).cell? ⟨wr.heap.size, 2, none⟩ = some (.int .i32 x.hi) ∧ (w'.setCell ⟨w.heap.size, m, none⟩ (.int .i64 u)).cell? ⟨w.heap.size, x.lo, none⟩ = some (.int .i64 a) ∧ (w'.setCell ⟨w.heap.size, m, none⟩ (.int .i64 u)).cell? ⟨w.heap.size, x.hi, none⟩ = some (.int .i64 b) ∧ (w'.setCell ⟨w.heap.size, m, none⟩ (.int .i64 u)).cell? ⟨w.heap.size, m, none⟩ = some (cellOr (w'.setCell ⟨w.heap.size, m, none⟩ (.int .i64 u)) ⟨w.heap.size, m, none⟩) ∧ (w'.setCell ⟨w.heap.size, m, none⟩ (.int .i64 u)).frozen? ⟨w.heap.size, m, none⟩ = false := by
        intro w' u k
        obtain ⟨e0, e1, e2, e3, e4, e5, e6⟩ := hS w' k
        have n1 : wr.heap.size ≠ w.heap.size := by omega
        have n2 : x.lo ≠ m := by omega
        have n3 : x.hi ≠ m := by omega
        have hne : ∀ (bb oo : Nat), bb ≠ w.heap.size ∨ oo ≠ m → (⟨w.heap.size, m, none⟩ : Addr) ≠ ⟨bb, oo, none⟩ := by
          intro bb oo ho e
          cases e
          rcases ho with h' | h' <;> exact h' rfl
        refine ⟨?_, ?_, ?_, ?_, ?_, ?_, ?_⟩
        · rw [World.cell?_setCell_other (h := hne _ _ (Or.inl n1))]; exact e0
        · rw [World.cell?_setCell_other (h := hne _ _ (Or.inl n1))]; exact e1
        · rw [World.cell?_setCell_other (h := hne _ _ (Or.inl n1))]; exact e2
        · rw [World.cell?_setCell_other (h := hne _ _ (Or.inr n2))]; exact e3
        · rw [World.cell?_setCell_other (h := hne _ _ (Or.inr n3))]; exact e4
        · exact cellOr_some (World.cell?_setCell_same _ _ _ e5)
        · rw [World.frozen?_setCell]; exact e6
      have HT := Lib.hid hT
      have HS := Lib.hid hS
      have HrV := Lib.hid hrV
      have HbV := Lib.hid hbV
      clear hrV hS hT hbV v0 v1 v2 v3 v4 v5 v6
      go_region_held3 (fun w' => w'.cell? ⟨wr.heap.size, 0, none⟩ = some (.int .i64 x.lev) ∧ w'.cell? ⟨wr.heap.size, 1, none⟩ = some (.int .i32 x.lo) ∧ w'.cell? ⟨wr.heap.size, 2, none⟩ = some (.int .i32 x.hi) ∧ w'.cell? ⟨w.heap.size, x.lo, none⟩ = some (.int .i64 a) ∧ w'.cell? ⟨w.heap.size, x.hi, none⟩ = some (.int .i64 b) ∧ w'.cell? ⟨w.heap.size, m, none⟩ = some (cellOr w' ⟨w.heap.size, m, none⟩) ∧ w'.frozen? ⟨w.heap.size, m, none⟩ = false)
        (first | exact HT.out _ _ (by assumption) | exact HT.out _ _ (Keeps.drew (by assumption)) | exact HS.out _ (Keeps.refl _ _) | exact HS.out _ (Keeps.refl _ _).drew | exact HS.out _ (by assumption) | exact HS.out _ (Keeps.drew (by assumption)))
        ((go_at_call 68; refine (Hb.out _ (by first | exact HdW.out | exact HdW.out.drew | exact HdW.out.kept (fun k hk => Keeps.block (by assumption) k (HdW.out.lt k hk) (fun e => e))) _ (by omega) (by assumption)).mono ?_; rintro e w' ⟨rfl, kp⟩; have kpA : Keeps (fun _ => False) V w' := (by first | exact Keeps.trans (by assumption) kp (fun _ e => e.elim) | exact (Keeps.refl (fun _ => False) V).trans kp (fun _ e => e.elim) | exact ((Keeps.refl (fun _ => False) V).drew).trans kp (fun _ e => e.elim))))
      have kpB : Keeps (fun _ => False) V w' := by assumption
      have hr2 := (HrV.out.of_block (kpB.block _ hVs (fun e => e))).set m (cntOf h.n s.nodes m : Nat)
      have hb2 : Below w.heap.size w (w'.setCell ⟨w.heap.size, m, none⟩ (.int .i64 (cntOf h.n s.nodes m : Nat))) := (HbV.out.trans ⟨kpB.os, kpB.tape, kpB.output, kpB.size, fun k hk => kpB.block k (by omega) (fun e => e)⟩).setCell (Nat.le_refl _) _
      have Hr2 := Lib.hid hr2
      have Hb2 := Lib.hid hb2
      clear hr2 hb2
      have e64 : wrap64 (wrap64 ((a : Int) * 2 ^ (lvl s.nodes x.lo - x.lev - 1)) + wrap64 ((b : Int) * 2 ^ (lvl s.nodes x.hi - x.lev - 1))) = (cntOf h.n s.nodes m : Nat) := by have e := Hval.out; simpa only [IntWalk.i64_left] using e
      go_wp2
      go_roundw
      case rel => exact ⟨m + 1, xs.set m (cntOf h.n s.nodes m : Nat), by omega, by omega, by go_num, by rw [e64]; exact Hr2.out, Hs.out, by rw [e64]; exact Hb2.out⟩
      case measure => simp [intOf]; omega
    · have hdk := hdr
      obtain ⟨d0, d1, d2, d3, d4, d5⟩ := hdr.cells
      obtain ⟨g, cap, eg, hcs, hg, hgb⟩ := hdr.node
      obtain ⟨na0, na1, na2⟩ := hcs k hk
      rw [eg] at d2
      have hwf := Hd.out.inv.wf
      have q1 := hr.cell (j := k) (by omega)
      rw [hcd.2 _ (by omega)] at q1
      have hbd := cntOf_le (n := h.n) (l := s.nodes) k
      have hll := hwf.lev_le hk
      have hnum := num_from hwf hk (L := 0) (Nat.zero_le _) zeroσ
      rw [Nat.sub_zero, Nat.sub_zero] at hnum
      generalize ndAt s.nodes k = x at *
      generalize cntOf h.n s.nodes k = a at *
      have hw4 := (wrap_shl (p := x.lev) hbd (by omega)).1
      have i1 : (k : Int) < (s.nodes.length : Int) := by omega
      have i2 : (k : Int) < (k : Int) + 2 := by omega
      have i5 : (0 : Int) ≤ (k : Int) := by omega
      have i6 : (0 : Int) ≤ (x.lev : Int) := by omega
      have Hw4 := Lib.hid hw4; have Hbl := Lib.hid hbl; have Hnum := Lib.hid hnum
      clear hr hcd hcs eg hwf hnum hdk hbl hw4 hbd hdr
      go_wp2_with fail
      go_quiet (fail)
      go_wp2_with fail
      go_ret
      have e64 : wrap64 ((a : Int) * 2 ^ x.lev) = (num (sem s.nodes k) h.n 0 zeroσ : Nat) := by rw [Hnum.out]; have e := Hw4.out; simpa only [IntWalk.i64_left] using e
      refine ⟨?_, ?_⟩
      · rw [← e64]; rfl
      · exact ⟨Hbl.out.os, Hbl.out.tape, Hbl.out.output, Hbl.out.size, Hbl.out.block⟩
end Go.Proofs.YtngjjmniigkeoaaGreatDoor
