/- Maps keyed by values, slices of ints and strings read in memory: words and laws of my own, over any program. -/
import Derived.WalkKit
import Derived.WalkSpells
import Derived.Maps.OwnSet
import Derived.Lib.Hide
namespace Go.Proofs.YtngjjmniigkeoaaGreatDoor
open Go Go.RowKit Go.Maps

/-- Whatever the element is, it reads as itself. -/
def heldR (v : Value) : Option (DataW Value × List MemPlace) := some (.held v, [])

/-- Block b is a map of at most n entries; at each key it holds what f says. -/
def MapV (w : World) (P : Program) (k : TypeId) (b n : Nat) (f : Value → Option Value) : Prop :=
  ∃ D : DataW Value, w.ownsMap P k heldR b n D ∧ ∀ key kl, keyOf P k key = some kl → Maps.has D kl = (f key).isSome ∧ ∀ v, f key = some v → ∀ z, D.atKey kl z = .held v

open Classical in
noncomputable def putV (f : Value → Option Value) (key val : Value) : Value → Option Value := fun x => if x = key then some val else f x

theorem putV_same (f : Value → Option Value) (key val : Value) : putV f key val key = some val := by simp [putV]
theorem putV_other (f : Value → Option Value) (key val : Value) {x : Value} (h : x ≠ key) : putV f key val x = f x := by simp [putV, h]

theorem MapV.made (w : World) (P : Program) (k : TypeId) : MapV (w.alloc (.map #[] 0)) P k w.heap.size 0 (fun _ => none) :=
  ⟨.map [], World.ownsMap_made w P k heldR, fun _ _ _ => ⟨rfl, fun _ h => by cases h⟩⟩

theorem MapV.lt {w : World} {P : Program} {k : TypeId} {b n : Nat} {f : Value → Option Value} (h : MapV w P k b n f) : b < w.heap.size := by
  obtain ⟨D, h, _⟩ := h; exact h.lt

theorem MapV.kept {w w' : World} {P : Program} {k : TypeId} {b n : Nat} {f : Value → Option Value} (h : MapV w P k b n f) (hb : w'.heap[b]? = w.heap[b]?) : MapV w' P k b n f := by
  obtain ⟨D, ⟨es, clock, h0, F, hs, hD⟩, h2⟩ := h
  exact ⟨D, ⟨es, clock, hb.trans h0, F, hs, hD⟩, h2⟩

theorem ownsMap_isMap {w : World} {P : Program} {k : TypeId} {b n : Nat} {D : DataW Value} {R} (h : w.ownsMap P k R b n D) : Maps.IsMap D := by
  obtain ⟨es, clock, _, _, _, rfl⟩ := h; exact ⟨_, rfl⟩

/-- 'v, ok := m[k]'. -/
theorem wpList_lookup_ok_V {P : Program} (w : World) {ops : Array Oper} {rest : List Oper} {o : Oper} {a : Act} {Q : Exit → Act → World → Prop}
    (hg : o.guard = none) (m x : Operand) (t : TypeId) (hop : o.op = Op.lookup t m x true)
    (k e : TypeId) (K : Keyed P k) (ht : P.underlying t = some (.map k e)) {z : Value} (hz : (zeroValue e).run P w = .ok z w) (b n : Nat) (f : Value → Option Value)
    (hm : a.eval m = .map (some b)) (hown : MapV w P k b n f) (key : Value) (hx : a.eval x = key) (kl : Lit) (hkey : keyOf P k key = some kl)
    (hK : wpList P ops Q rest (a.put o.dst (.tuple #[(f key).getD z, .bool (f key).isSome])) w) :
    wpList P ops Q (o :: rest) a w := by
  obtain ⟨D, hD, hf⟩ := hown
  obtain ⟨h1, h2⟩ := hf key kl hkey
  refine wpList_lookup_own_ok w hg m x t hop k e K ht heldR hz (.held z) [] rfl b n D hm hD key kl hx hkey (fun v ps hv => ?_)
  rw [h1]
  cases hfk : f key with
  | none =>
    rw [hfk] at h1 hK
    have h3 := Maps.atKey_of_not_has (D := D) (k := kl) h1 (.held z)
    simp only [heldR, Option.some.injEq, Prod.mk.injEq] at hv
    rw [h3] at hv
    obtain ⟨hv, _⟩ := hv
    cases hv
    exact hK
  | some u =>
    rw [hfk] at hK
    have h3 := h2 u hfk (.held z)
    simp only [heldR, Option.some.injEq, Prod.mk.injEq] at hv
    rw [h3] at hv
    obtain ⟨hv, _⟩ := hv
    cases hv
    exact hK

/-- 'm[k]'. -/
theorem wpList_lookup_V {P : Program} (w : World) {ops : Array Oper} {rest : List Oper} {o : Oper} {a : Act} {Q : Exit → Act → World → Prop}
    (hg : o.guard = none) (m x : Operand) (t : TypeId) (hop : o.op = Op.lookup t m x false)
    (k e : TypeId) (K : Keyed P k) (ht : P.underlying t = some (.map k e)) {z : Value} (hz : (zeroValue e).run P w = .ok z w) (b n : Nat) (f : Value → Option Value)
    (hm : a.eval m = .map (some b)) (hown : MapV w P k b n f) (key : Value) (hx : a.eval x = key) (kl : Lit) (hkey : keyOf P k key = some kl)
    (hK : wpList P ops Q rest (a.put o.dst ((f key).getD z)) w) :
    wpList P ops Q (o :: rest) a w := by
  obtain ⟨D, hD, hf⟩ := hown
  obtain ⟨h1, h2⟩ := hf key kl hkey
  refine wpList_plain hg fun K' hK' => ?_
  obtain ⟨v, ps, hrun, hv⟩ := hD.lookup K ht hz (zd := .held z) (zp := []) rfl hkey
  unfold Oper.wp
  simp [execOp, hop, hm, hx, hrun, Result.andThen]
  refine hK' _ _ ?_
  have e1 : v = (f key).getD z := by
    simp only [heldR, Option.some.injEq, Prod.mk.injEq] at hv
    cases hfk : f key with
    | none =>
      rw [hfk] at h1
      rw [Maps.atKey_of_not_has h1] at hv
      obtain ⟨hv, _⟩ := hv
      cases hv; rfl
    | some u =>
      rw [h2 u hfk] at hv
      obtain ⟨hv, _⟩ := hv
      cases hv; rfl
  rw [e1]; exact hK

theorem keyed_lit_ne {P : Program} {k : TypeId} (K : Keyed P k) {x y : Value} {lx ly : Lit} (hx : keyOf P k x = some lx) (hy : keyOf P k y = some ly) (h : x ≠ y) : lx ≠ ly := by
  rintro rfl; exact h (K.inj hx hy)

/-- 'm[k] = v'. -/
theorem wpList_mapUpdate_V {P : Program} (w : World) {ops : Array Oper} {rest : List Oper} {o : Oper} {a : Act} {Q : Exit → Act → World → Prop}
    (hg : o.guard = none) (m x v : Operand) (t : TypeId) (hop : o.op = Op.mapUpdate t m x v)
    (k e : TypeId) (K : Keyed P k) (ht : P.underlying t = some (.map k e)) (b n : Nat) (f : Value → Option Value)
    (hm : a.eval m = .map (some b)) (hown : MapV w P k b n f) (hn : n < maxLen) (key val : Value) (hx : a.eval x = key) (hv : a.eval v = val) (kl : Lit) (hkey : keyOf P k key = some kl)
    (hK : ∀ w', MapV w' P k b (n + 1) (putV f key val) → w.grownBy w' (some b) → wpList P ops Q rest (a.put o.dst undef) w') :
    wpList P ops Q (o :: rest) a w := by
  obtain ⟨D, hD, hf⟩ := hown
  refine wpList_mapUpdate_own w hg m x v t hop k e K ht heldR b n D hm hD hn key val kl hx hv hkey (.held val) [] rfl (fun w' h1 h2 => hK w' ⟨_, h1, ?_⟩ h2)
  intro y yl hy
  have hM := ownsMap_isMap hD
  by_cases h : y = key
  · subst h
    rw [hy] at hkey; cases hkey
    rw [putV_same]
    refine ⟨by rw [Maps.has_put_same hM (K.key hy)]; rfl, ?_⟩
    intro v' hv' z
    cases hv'
    exact Maps.atKey_put_same hM (K.key hy) _ _
  · rw [putV_other f key val h]
    have hne := keyed_lit_ne K hy hkey h
    rw [Maps.has_put_other hne]
    refine ⟨(hf y yl hy).1, fun v' hv' z => ?_⟩
    rw [Maps.atKey_put_other hne]
    exact (hf y yl hy).2 v' hv' z

/-- A slice of ints, whatever its address where it is empty. -/
structure IntsAt (w : World) (ao : Option Addr) (cap : Nat) (xs : List Int) : Prop where
  len : xs.length ≤ maxLen
  cells : 0 < xs.length → ∃ b off, ao = some ⟨b, off, none⟩ ∧ ∀ k, k < xs.length → w.cell? ⟨b, off + k, none⟩ = some (.int .i64 (xs.getD k 0))
  fits : ∀ x ∈ xs, -9223372036854775808 ≤ x ∧ x ≤ 9223372036854775807

theorem IntsAt.kept {w w' : World} {ao : Option Addr} {cap B : Nat} {xs : List Int} (h : IntsAt w ao cap xs) (hb : Below B w w') (hB : w.heap.size ≤ B) : IntsAt w' ao cap xs := by
  refine ⟨h.len, fun h0 => ?_, h.fits⟩
  obtain ⟨b, off, e, hc⟩ := h.cells h0
  refine ⟨b, off, e, fun k hk => ?_⟩
  have h1 := World.block_lt_of_cell? w _ (hc k hk)
  rw [hb.cell (p := ⟨b, off + k, none⟩) (by simp at h1 ⊢; omega)]
  exact hc k hk

/-- Whatever lies in old blocks stays. -/
theorem cell_kept {w w' : World} {B b o : Nat} {v : Value} (h : w.cell? ⟨b, o, none⟩ = some v) (hb : Below B w w') (hB : w.heap.size ≤ B) : w'.cell? ⟨b, o, none⟩ = some v := by
  have h1 := World.block_lt_of_cell? w _ h
  rw [hb.cell (p := ⟨b, o, none⟩) (by simp at h1 ⊢; omega)]; exact h

structure StrsAt (w : World) (ao : Option Addr) (ss : List ByteArray) : Prop where
  len : ss.length ≤ maxLen
  cells : 0 < ss.length → ∃ b off, ao = some ⟨b, off, none⟩ ∧ ∀ k, k < ss.length → w.cell? ⟨b, off + k, none⟩ = some (.string (ss.getD k ByteArray.empty))
  fits : ∀ s ∈ ss, s.size ≤ maxLen

theorem StrsAt.kept {w w' : World} {ao : Option Addr} {B : Nat} {ss : List ByteArray} (h : StrsAt w ao ss) (hb : Below B w w') (hB : w.heap.size ≤ B) : StrsAt w' ao ss := by
  refine ⟨h.len, fun h0 => ?_, h.fits⟩
  obtain ⟨b, off, e, hc⟩ := h.cells h0
  exact ⟨b, off, e, fun k hk => cell_kept (hc k hk) hb hB⟩

structure FormsAt (w : World) (ao : Option Addr) (fs : List (List Int)) : Prop where
  len : fs.length ≤ maxLen
  cells : 0 < fs.length → ∃ b off, ao = some ⟨b, off, none⟩ ∧ ∀ k, k < fs.length → ∃ a c, w.cell? ⟨b, off + k, none⟩ = some (.slice a (fs.getD k []).length c) ∧ IntsAt w a c (fs.getD k [])

theorem FormsAt.kept {w w' : World} {ao : Option Addr} {B : Nat} {fs : List (List Int)} (h : FormsAt w ao fs) (hb : Below B w w') (hB : w.heap.size ≤ B) : FormsAt w' ao fs := by
  refine ⟨h.len, fun h0 => ?_⟩
  obtain ⟨b, off, e, hc⟩ := h.cells h0
  refine ⟨b, off, e, fun k hk => ?_⟩
  obtain ⟨a, c, h1, h2⟩ := hc k hk
  exact ⟨a, c, cell_kept h1 hb hB, h2.kept hb hB⟩

/-- The same, for a world with a new block on top. -/
theorem below_alloc (w : World) (o : Obj) : Below w.heap.size w (w.alloc o) := (Below.refl _ _).alloc (Nat.le_refl _) o

theorem MapV.look {P : Program} {w : World} {k e t : TypeId} {b n : Nat} {f : Value → Option Value} (h : MapV w P k b n f) (K : Keyed P k) (ht : P.underlying t = some (.map k e)) {z : Value} (hz : (zeroValue e).run P w = .ok z w)
    {key : Value} {kl : Lit} (hkey : keyOf P k key = some kl) : (Instr.lookup t (.map (some b)) key false).run P w = .ok ((f key).getD z) w := by
  obtain ⟨D, hD, hf⟩ := h
  obtain ⟨h1, h2⟩ := hf key kl hkey
  obtain ⟨v, ps, hrun, hv⟩ := hD.lookup K ht hz (zd := .held z) (zp := []) rfl hkey
  rw [hrun]
  congr 1
  simp only [heldR, Option.some.injEq, Prod.mk.injEq] at hv
  cases hfk : f key with
  | none =>
    rw [hfk] at h1
    rw [Maps.atKey_of_not_has h1] at hv
    obtain ⟨hv, _⟩ := hv
    cases hv; rfl
  | some u =>
    rw [h2 u hfk] at hv
    obtain ⟨hv, _⟩ := hv
    cases hv; rfl

theorem MapV.look_ok {P : Program} {w : World} {k e t : TypeId} {b n : Nat} {f : Value → Option Value} (h : MapV w P k b n f) (K : Keyed P k) (ht : P.underlying t = some (.map k e)) {z : Value} (hz : (zeroValue e).run P w = .ok z w)
    {key : Value} {kl : Lit} (hkey : keyOf P k key = some kl) : (Instr.lookup t (.map (some b)) key true).run P w = .ok (.tuple #[(f key).getD z, .bool (f key).isSome]) w := by
  obtain ⟨D, hD, hf⟩ := h
  obtain ⟨h1, h2⟩ := hf key kl hkey
  obtain ⟨v, ps, hrun, hv⟩ := hD.look_ok K ht hz (zd := .held z) (zp := []) rfl hkey
  rw [hrun, h1]
  congr 1
  simp only [heldR, Option.some.injEq, Prod.mk.injEq] at hv
  cases hfk : f key with
  | none =>
    rw [hfk] at h1
    rw [Maps.atKey_of_not_has h1] at hv
    obtain ⟨hv, _⟩ := hv
    cases hv; rfl
  | some u =>
    rw [h2 u hfk] at hv
    obtain ⟨hv, _⟩ := hv
    cases hv; rfl
end Go.Proofs.YtngjjmniigkeoaaGreatDoor
