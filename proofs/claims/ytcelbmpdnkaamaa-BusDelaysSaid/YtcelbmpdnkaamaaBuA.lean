/- Slices of ints, of frames, gates, flows read in memory; what lies in old blocks stays: words and laws of my own, over any program. -/
import Derived.WalkKit
import Derived.WalkSpells
import Derived.Lib.Hide
import Derived.Laws.Rows
import Derived.Maps.OwnSet
import Derived.WalkLawsBesides
import Derived.BigQuiet
import Derived.Deep.QuietTactic
import Derived.Deep.AppendLies
import Derived.Deep.RegionLaw
import Derived.BigRegion
namespace Go.Proofs.Ytcelbmpdnkaamaa
open Go Go.RowKit Go.WideMaps Go.Maps
set_option linter.unusedSimpArgs false
set_option linter.unusedVariables false

/-- But for the blocks in S, and new ones, the world is as it was. -/
structure Keeps (S : Nat → Prop) (w w' : World) : Prop where
  os : w'.os = w.os
  tape : w'.tape = w.tape
  output : w'.output = w.output
  size : w.heap.size ≤ w'.heap.size
  block : ∀ k, k < w.heap.size → ¬ S k → w'.heap[k]? = w.heap[k]?

theorem Keeps.refl (S : Nat → Prop) (w : World) : Keeps S w w := ⟨rfl, rfl, rfl, Nat.le_refl _, fun _ _ _ => rfl⟩
theorem Keeps.trans {S S' : Nat → Prop} {a b c : World} (h : Keeps S a b) (g : Keeps S' b c) (hs : ∀ k, S' k → S k ∨ a.heap.size ≤ k) : Keeps S a c :=
  ⟨g.os.trans h.os, g.tape.trans h.tape, g.output.trans h.output, Nat.le_trans h.size g.size, fun k hk hn => (g.block k (Nat.lt_of_lt_of_le hk h.size) (fun hsk => by rcases hs k hsk with h1 | h1; exact hn h1; omega)).trans (h.block k hk hn)⟩
theorem Keeps.mono {S S' : Nat → Prop} {a b : World} (h : Keeps S a b) (hs : ∀ k, S k → S' k ∨ a.heap.size ≤ k) : Keeps S' a b :=
  ⟨h.os, h.tape, h.output, h.size, fun k hk hn => h.block k hk (fun hsk => by rcases hs k hsk with h1 | h1; exact hn h1; omega)⟩
theorem Keeps.alloc {S : Nat → Prop} {a w : World} (h : Keeps S a w) (o : Obj) : Keeps S a (w.alloc o) :=
  h.trans (S' := fun _ => False) ⟨rfl, rfl, rfl, by simp, fun k hk _ => Below.heap_alloc _ _ _ hk⟩ (fun _ hf => hf.elim)
theorem Keeps.drew {S : Nat → Prop} {a w : World} (h : Keeps S a w) : Keeps S a w.drew := ⟨h.os, h.tape, h.output, h.size, h.block⟩
theorem Keeps.drewN {S : Nat → Prop} {a w : World} (h : Keeps S a w) (n : Nat) : Keeps S a (w.drewN n) := ⟨h.os, h.tape, h.output, h.size, h.block⟩
theorem Keeps.setCell {S : Nat → Prop} {a w : World} (h : Keeps S a w) {p : Addr} (hp : S p.block ∨ a.heap.size ≤ p.block) (u : Value) : Keeps S a (w.setCell p u) :=
  h.trans (S' := fun k => k = p.block) ⟨rfl, rfl, rfl, by simp [World.setCell], fun k hk hn => Below.heap_setCell _ _ _ _ hn⟩ (fun k e => by subst e; exact hp)
theorem Keeps.grown {S : Nat → Prop} {a w w' : World} {row : Option Nat} (h : Keeps S a w) (hg : w.grownBy w' row) (hr : ∀ k, row = some k → S k ∨ a.heap.size ≤ k) : Keeps S a w' :=
  h.trans (S' := fun k => row = some k) ⟨hg.os, hg.tape, hg.output, hg.size, fun k hk hn => hg.block k hk (fun e => hn e.symm)⟩ hr
theorem Keeps.below {S : Nat → Prop} {a b : World} (h : Keeps S a b) {B : Nat} (hB : B ≤ a.heap.size) (hs : ∀ k, S k → B ≤ k) : Below B a b :=
  ⟨h.os, h.tape, h.output, h.size, fun k hk => h.block k (by omega) (fun hsk => by have := hs k hsk; omega)⟩
theorem Keeps.of_below {S : Nat → Prop} {B : Nat} {a b : World} (h : Below B a b) (hB : a.heap.size ≤ B) : Keeps S a b :=
  ⟨h.os, h.tape, h.output, h.size, fun k hk _ => h.block k (by omega)⟩
theorem Keeps.cell {S : Nat → Prop} {w w' : World} (h : Keeps S w w') {b o : Nat} {v : Value} (hc : w.cell? ⟨b, o, none⟩ = some v) (hb : ¬ S b) : w'.cell? ⟨b, o, none⟩ = some v := by
  have h1 : b < w.heap.size := World.block_lt_of_cell? w _ hc
  rw [World.cell?_of_block (w := w) (a := ⟨b, o, none⟩) (h.block b h1 hb)]; exact hc
theorem Keeps.frozen {S : Nat → Prop} {w w' : World} (h : Keeps S w w') {b o : Nat} (hl : b < w.heap.size) (hb : ¬ S b) : w'.frozen? ⟨b, o, none⟩ = w.frozen? ⟨b, o, none⟩ :=
  World.frozen?_of_block (h.block b hl hb)

/-- The world but for new blocks. -/
abbrev Kp (w w' : World) : Prop := Keeps (fun _ => False) w w'
theorem Kp.refl (w : World) : Kp w w := Keeps.refl _ w
theorem Kp.step {a b c : World} (h : Kp a b) (g : Kp b c) : Kp a c := h.trans g (fun _ e => e.elim)
theorem Kp.of_bel {w w' : World} (h : Below w.heap.size w w') : Kp w w' := Keeps.of_below h (Nat.le_refl _)
theorem Kp.bel {w w' : World} (h : Kp w w') : Below w.heap.size w w' := h.below (Nat.le_refl _) (fun _ e => e.elim)
theorem kp_alloc (w : World) (o : Obj) : Kp w (w.alloc o) := (Keeps.refl _ _).alloc o
theorem Kp.cell {w w' : World} (h : Kp w w') {b o : Nat} {v : Value} (hc : w.cell? ⟨b, o, none⟩ = some v) : w'.cell? ⟨b, o, none⟩ = some v := Keeps.cell h hc (fun e => e)
theorem Kp.blk {w w' : World} (h : Kp w w') {b : Nat} {o : Obj} (hc : w.heap[b]? = some o) : w'.heap[b]? = some o := (h.block b (Array.getElem?_eq_some_iff.1 hc).1 (fun e => e)).trans hc
theorem Kp.new {a w : World} (h : Kp a w) {b : Nat} (hb : a.heap.size ≤ b) {w' : World} (k : Keeps (fun j => j = b) w w') : Kp a w' := h.trans k (fun j e => Or.inr (by subst e; exact hb))

/-- A slice of ints, whatever its address where it is empty. -/
structure IntsAt (w : World) (ao : Option Addr) (xs : List Int) : Prop where
  len : xs.length ≤ maxLen
  cells : 0 < xs.length → ∃ b off, ao = some ⟨b, off, none⟩ ∧ ∀ k, k < xs.length → w.cell? ⟨b, off + k, none⟩ = some (.int .i64 (xs.getD k 0))
theorem IntsAt.kp {w w' : World} {ao : Option Addr} {xs : List Int} (h : IntsAt w ao xs) (k : Kp w w') : IntsAt w' ao xs := by
  refine ⟨h.len, fun h0 => ?_⟩
  obtain ⟨b, off, e, hc⟩ := h.cells h0
  exact ⟨b, off, e, fun j hj => k.cell (hc j hj)⟩
theorem IntsAt.nil (w : World) (ao : Option Addr) : IntsAt w ao [] := ⟨Nat.zero_le _, fun h0 => absurd h0 (by simp)⟩
theorem IntsAt.take {w : World} {ao : Option Addr} {xs : List Int} (h : IntsAt w ao xs) (n : Nat) : IntsAt w ao (xs.take n) := by
  refine ⟨Nat.le_trans (by simp; omega) h.len, fun h0 => ?_⟩
  have h1 : 0 < xs.length := by simp at h0; omega
  obtain ⟨b, off, e, hc⟩ := h.cells h1
  refine ⟨b, off, e, fun j hj => ?_⟩
  have hj2 : j < xs.length ∧ j < n := by simp at hj; omega
  rw [hc j hj2.1]; simp [List.getD, List.getElem?_take, hj2.2]

/-! ### Frames -/
structure Fr where
  s : Int
  e : Int
  j : Int
  d : Int
  r : Int
def frAt (ls : List Fr) (k : Nat) : Fr := ls.getD k ⟨0, 0, 0, 0, 0⟩
def frV (f : Fr) : Value := .agg #[.int .i64 f.s, .int .i64 f.e, .int .i64 f.j, .int .i64 f.d, .int .i64 f.r]
/-- A slice of frames. -/
structure FramesAt (w : World) (ao : Option Addr) (ls : List Fr) : Prop where
  len : ls.length ≤ maxLen
  cells : 0 < ls.length → ∃ b off, ao = some ⟨b, off, none⟩ ∧ ∀ k, k < ls.length → w.cell? ⟨b, off + k * 5, none⟩ = some (.int .i64 (frAt ls k).s) ∧ w.cell? ⟨b, off + k * 5 + 1, none⟩ = some (.int .i64 (frAt ls k).e) ∧ w.cell? ⟨b, off + k * 5 + 2, none⟩ = some (.int .i64 (frAt ls k).j) ∧ w.cell? ⟨b, off + k * 5 + 3, none⟩ = some (.int .i64 (frAt ls k).d) ∧ w.cell? ⟨b, off + k * 5 + 4, none⟩ = some (.int .i64 (frAt ls k).r)
theorem FramesAt.kp {w w' : World} {ao : Option Addr} {ls : List Fr} (h : FramesAt w ao ls) (k : Kp w w') : FramesAt w' ao ls := by
  refine ⟨h.len, fun h0 => ?_⟩
  obtain ⟨b, off, e, hc⟩ := h.cells h0
  exact ⟨b, off, e, fun j hj => ⟨k.cell (hc j hj).1, k.cell (hc j hj).2.1, k.cell (hc j hj).2.2.1, k.cell (hc j hj).2.2.2.1, k.cell (hc j hj).2.2.2.2⟩⟩
theorem FramesAt.take {w : World} {ao : Option Addr} {ls : List Fr} (h : FramesAt w ao ls) (n : Nat) : FramesAt w ao (ls.take n) := by
  refine ⟨Nat.le_trans (by simp; omega) h.len, fun h0 => ?_⟩
  have h1 : 0 < ls.length := by simp at h0; omega
  obtain ⟨b, off, e, hc⟩ := h.cells h1
  refine ⟨b, off, e, fun j hj => ?_⟩
  have hj2 : j < ls.length ∧ j < n := by simp at hj; omega
  have e2 : frAt (ls.take n) j = frAt ls j := by simp [frAt, List.getD, List.getElem?_take, hj2.2]
  rw [e2]; exact hc j hj2.1

/-! ### Nets -/
structure Fl where
  b : Int
  r : Int
  p : List Int
def flAt (fs : List Fl) (k : Nat) : Fl := fs.getD k ⟨0, 0, []⟩
abbrev Ga := Int × Int
def gaAt (gs : List Ga) (k : Nat) : Ga := gs.getD k (0, 0)
/-- A slice of gates. -/
structure GatesAt (w : World) (ao : Option Addr) (gs : List Ga) : Prop where
  len : gs.length ≤ maxLen
  cells : 0 < gs.length → ∃ b off, ao = some ⟨b, off, none⟩ ∧ ∀ k, k < gs.length → w.cell? ⟨b, off + k * 2, none⟩ = some (.int .i64 (gaAt gs k).1) ∧ w.cell? ⟨b, off + k * 2 + 1, none⟩ = some (.int .i64 (gaAt gs k).2)
theorem GatesAt.kp {w w' : World} {ao : Option Addr} {gs : List Ga} (h : GatesAt w ao gs) (k : Kp w w') : GatesAt w' ao gs := by
  refine ⟨h.len, fun h0 => ?_⟩
  obtain ⟨b, off, e, hc⟩ := h.cells h0
  exact ⟨b, off, e, fun j hj => ⟨k.cell (hc j hj).1, k.cell (hc j hj).2⟩⟩
/-- A slice of flows, with their paths. -/
structure FlowsAt (w : World) (ao : Option Addr) (fs : List Fl) : Prop where
  len : fs.length ≤ maxLen
  cells : 0 < fs.length → ∃ b off, ao = some ⟨b, off, none⟩ ∧ ∀ k, k < fs.length → w.cell? ⟨b, off + k * 3, none⟩ = some (.int .i64 (flAt fs k).b) ∧ w.cell? ⟨b, off + k * 3 + 1, none⟩ = some (.int .i64 (flAt fs k).r) ∧ ∃ a c, w.cell? ⟨b, off + k * 3 + 2, none⟩ = some (.slice a (flAt fs k).p.length c) ∧ IntsAt w a (flAt fs k).p ∧ (flAt fs k).p.length ≤ c ∧ c ≤ maxLen
theorem FlowsAt.kp {w w' : World} {ao : Option Addr} {fs : List Fl} (h : FlowsAt w ao fs) (k : Kp w w') : FlowsAt w' ao fs := by
  refine ⟨h.len, fun h0 => ?_⟩
  obtain ⟨b, off, e, hc⟩ := h.cells h0
  refine ⟨b, off, e, fun j hj => ?_⟩
  obtain ⟨h1, h2, a, c, h3, h4, h5⟩ := hc j hj
  exact ⟨k.cell h1, k.cell h2, a, c, k.cell h3, h4.kp k, h5⟩

/-! ### Small -/
theorem box0 (w : World) (a b : Value) (t : TypeId) : (w.alloc (.cells #[a, b] t)).cell? ⟨w.heap.size, 0, none⟩ = some a := by simp
theorem box1 (w : World) (a b : Value) (t : TypeId) : (w.alloc (.cells #[a, b] t)).cell? ⟨w.heap.size, 1, none⟩ = some b := by simp
theorem add_none (b off k : Nat) : (⟨b, off, none⟩ : Addr).add k = ⟨b, off + k, none⟩ := by
  unfold Addr.add
  first | rfl | (simp; done) | (split <;> simp_all)
theorem spot_none {W : World} {b off : Nat} {spot : Option Nat} {k : Nat} {v : Value} (h : W.cell? ((⟨b, off, spot⟩ : Addr).add k) = some v) (hk : k = 0) : spot = none := by
  subst hk
  have := World.cell?_spot h
  unfold Addr.add at this
  first | simpa using this | (split at this <;> simp_all)
end Go.Proofs.Ytcelbmpdnkaamaa
