/- The program's clash: the walk. -/
import Derived.Test.YtcelbmpdnkaamaaBsD
import Derived.OwnWalk
namespace Go.Proofs.Ytcelbmpdnkaamaa
open Go Go.RowKit Go.WideMaps Go.Maps
set_option linter.unusedSimpArgs false
set_option linter.unusedVariables false

abbrev SR := Int × Nat
def srAt (rs : List SR) (k : Nat) : SR := rs.getD k (0, 0)
/-- The rows of a slotted bus, in memory of the call's own. -/
structure SRow (w : World) (B g n : Nat) (rs : List SR) : Prop where
  lt : B ≤ g ∧ g < w.heap.size
  nl : rs.length = n
  fz : ∀ j, w.frozen? ⟨g, j, none⟩ = false
  cells : ∀ k, k < n → w.cell? ⟨g, k * 2, none⟩ = some (.int .i64 (srAt rs k).1) ∧ w.cell? ⟨g, k * 2 + 1, none⟩ = some (.int .u64 ((srAt rs k).2 : Int))
theorem SRow.kp {w w' : World} {B g n : Nat} {rs : List SR} (h : SRow w B g n rs) (k : Kp w w') : SRow w' B g n rs :=
  ⟨⟨h.lt.1, Nat.lt_of_lt_of_le h.lt.2 k.size⟩, h.nl, fun j => (Keeps.frozen k h.lt.2 (fun e => e)).trans (h.fz j), fun i hi => ⟨k.cell (h.cells i hi).1, k.cell (h.cells i hi).2⟩⟩
theorem srAt_set {rs : List SR} {i : Nat} (hi : i < rs.length) (x : SR) (k : Nat) : srAt (rs.set i x) k = if k = i then x else srAt rs k := by
  unfold srAt
  simp only [List.getD, List.getElem?_set]
  by_cases e : i = k
  · subst e; simp [hi]
  · rw [if_neg e, if_neg (fun e2 => e e2.symm)]
theorem SRow.set {w : World} {B g n : Nat} {rs : List SR} (h : SRow w B g n rs) {i : Nat} (hi : i < n) (s : Int) (c : Nat) :
    SRow ((w.setCell ⟨g, i * 2, none⟩ (.int .i64 s)).setCell ⟨g, i * 2 + 1, none⟩ (.int .u64 (c : Int))) B g n (rs.set i (s, c)) := by
  have hn := h.nl
  have ks : Keeps (fun b => b = g) w ((w.setCell ⟨g, i * 2, none⟩ (.int .i64 s)).setCell ⟨g, i * 2 + 1, none⟩ (.int .u64 (c : Int))) := ((Keeps.refl (fun b => b = g) w).setCell (p := ⟨g, i * 2, none⟩) (Or.inl rfl) _).setCell (p := ⟨g, i * 2 + 1, none⟩) (Or.inl rfl) _
  refine ⟨⟨h.lt.1, Nat.lt_of_lt_of_le h.lt.2 ks.size⟩, by simp [hn], fun o => by rw [World.frozen?_setCell, World.frozen?_setCell]; exact h.fz o, fun k hk => ?_⟩
  rw [srAt_set (by omega)]
  obtain ⟨h1, h2⟩ := h.cells k hk
  by_cases e : k = i
  · subst e
    rw [if_pos rfl]
    constructor
    · rw [World.cell?_setCell_other (h := fun e3 => by have := congrArg Addr.off e3; simp at this)]
      exact World.cell?_setCell_same _ _ _ h1
    · exact World.cell?_setCell_same _ _ _ (by rw [World.cell?_setCell_other (h := fun e3 => by have := congrArg Addr.off e3; simp at this)]; exact h2)
  · rw [if_neg e]
    constructor
    · rw [World.cell?_setCell_other (h := fun e3 => by have := congrArg Addr.off e3; simp at this; omega), World.cell?_setCell_other (h := fun e3 => by have := congrArg Addr.off e3; simp at this; omega)]
      exact h1
    · rw [World.cell?_setCell_other (h := fun e3 => by have := congrArg Addr.off e3; simp at this; omega), World.cell?_setCell_other (h := fun e3 => by have := congrArg Addr.off e3; simp at this; omega)]
      exact h2
theorem infoRow : (Try.prog.info? 104).map (fun i => (i.zero, i.size, i.bytes)) = some (some (.agg #[.int .i64 0, .int .u64 0]), 2, 16) := by kernel_rfl
theorem made_two (n : Nat) : ∀ k, k < n → (madeCells #[Value.int .i64 0, Value.int .u64 0] (n * 2)).toList[k * 2]? = some (.int .i64 0) ∧ (madeCells #[Value.int .i64 0, Value.int .u64 0] (n * 2)).toList[k * 2 + 1]? = some (.int .u64 0) := by
  intro k hk
  have h1 : (k * 2) % 2 = 0 := by omega
  have h2 : (k * 2 + 1) % 2 = 1 := by omega
  have h3 : k * 2 < n * 2 := by omega
  have h4 : k * 2 + 1 < n * 2 := by omega
  constructor
  · simp [madeCells, h3, h1]
  · simp [madeCells, h4, h2]
theorem srow_made {w : World} {base g n : Nat} (h : w.ownsRow base 104 2 (.slice (some ⟨g, 0, none⟩) n n) n (madeCells (Value.agg #[.int .i64 0, .int .u64 0]).cells (n * 2)).toList) : SRow w base g n (List.replicate n (0, 0)) := by
  refine ⟨h.lt g rfl, by simp, fun j => h.frozenAt j, fun k hk => ?_⟩
  have hc : (Value.agg #[Value.int .i64 0, Value.int .u64 0]).cells = #[Value.int .i64 0, Value.int .u64 0] := by rfl
  rw [hc] at h
  obtain ⟨h1, h2⟩ := made_two n k hk
  have h3 := (List.getElem?_eq_some_iff.1 h1).1
  have h4 := (List.getElem?_eq_some_iff.1 h2).1
  have e : srAt (List.replicate n (0, 0)) k = (0, 0) := by simp [srAt, List.getD, hk]
  rw [e]
  exact ⟨by rw [h.cellAt (k * 2) (by omega)]; exact h1, by rw [h.cellAt (k * 2 + 1) (by omega)]; exact h2⟩

/-! ### Row by row -/
def slT (ss : List Ga) (k : Nat) : Nat := (gaAt ss k).1.toNat
def mkT (C : Nat) (ms ss : List Ga) (k : Nat) : Nat := maskOf C (gaAt ms k).2.toNat (gaAt ss k).2.toNat
def rowsTo (ns C : Nat) (ms ss : List Ga) : Nat → List SR
  | 0 => List.replicate ns (0, 0)
  | k + 1 => (rowsTo ns C ms ss k).set (slT ss k) ((gaAt ms k).1, (srAt (rowsTo ns C ms ss k) (slT ss k)).2 ||| mkT C ms ss k)
def okC (ns C : Nat) (ms ss : List Ga) (k : Nat) : Bool := freeRow (srAt (rowsTo ns C ms ss k) (slT ss k)).1 (srAt (rowsTo ns C ms ss k) (slT ss k)).2 (gaAt ms k).1 (mkT C ms ss k)
/-- A slotted bus and a schedule, within their limits. -/
structure SlV (ns C : Nat) (ms ss : List Ga) : Prop where
  len : ss.length = ms.length
  m60 : ms.length ≤ 60
  n30 : ns ≤ 30
  c64 : C ≤ 64
  at' : ∀ k, k < ms.length → ∃ s e b : Nat, (gaAt ss k).1 = s ∧ s < ns ∧ (gaAt ms k).2 = e ∧ 0 < e ∧ e ≤ C ∧ (gaAt ss k).2 = b ∧ b < e
theorem maskOf_lt {C e b : Nat} (hC : C ≤ 64) (he : 0 < e) : maskOf C e b < 18446744073709551616 := by
  refine maskTo_lt _ (fun j hj => ?_)
  have h1 : (j + 1) * e ≤ C - b + e - 1 := (Nat.le_div_iff_mul_le he).1 hj
  rw [Nat.add_mul] at h1
  omega
theorem mkT_lt {ns C : Nat} {ms ss : List Ga} (h : SlV ns C ms ss) {k : Nat} (hk : k < ms.length) : mkT C ms ss k < 18446744073709551616 := by
  obtain ⟨s, e, b, _, _, e1, h1, h2, e2, h3⟩ := h.at' k hk
  unfold mkT
  rw [e1, e2]
  exact maskOf_lt h.c64 (by simpa using h1)
theorem rowsTo_len (ns C : Nat) (ms ss : List Ga) : ∀ k, (rowsTo ns C ms ss k).length = ns
  | 0 => by simp [rowsTo]
  | k + 1 => by simp [rowsTo, rowsTo_len ns C ms ss k]
theorem rowsTo_lt {ns C : Nat} {ms ss : List Ga} (h : SlV ns C ms ss) : ∀ k, k ≤ ms.length → ∀ t, (srAt (rowsTo ns C ms ss k) t).2 < 18446744073709551616
  | 0, _, t => by
    simp [rowsTo, srAt, List.getD, List.getElem?_replicate]
    split <;> simp
  | k + 1, hk, t => by
    have ih := rowsTo_lt h k (by omega)
    obtain ⟨s, e, b, e0, h0, _⟩ := h.at' k (by omega)
    show (srAt ((rowsTo ns C ms ss k).set _ _) t).2 < _
    rw [srAt_set (by rw [rowsTo_len]; unfold slT; rw [e0]; simpa using h0)]
    split
    · have h1 := ih (slT ss k)
      have h2 := mkT_lt h (show k < ms.length by omega)
      have := Nat.or_lt_two_pow (x := (srAt (rowsTo ns C ms ss k) (slT ss k)).2) (y := mkT C ms ss k) (n := 64) (by omega) (by omega)
      dsimp only
      omega
    · exact ih t

end Go.Proofs.Ytcelbmpdnkaamaa
