/- Diagrams in memory: what a call of a method leaves. -/
import Derived.Test.YtngjjmniigkeoaaGreatDoorKeys
namespace Go.Proofs.YtngjjmniigkeoaaGreatDoor
open Go Go.RowKit Go.WideMaps Go.Maps
set_option linter.unusedSimpArgs false
set_option linter.unusedVariables false

/-- But for the blocks in S, and new ones, the world is as it was. -/
structure Keeps (S : Nat → Prop) (w w' : World) : Prop where
  os : w'.os = w.os
  tape : w'.tape = w.tape
  output : w'.output = w.output
  size : w.heap.size ≤ w'.heap.size
  block : ∀ k, k < w.heap.size → ¬ S k → w'.heap[k]? = w.heap[k]?

theorem Keeps.refl (S : Nat → Prop) (w : World) : Keeps S w w := ⟨rfl, rfl, rfl, Nat.le_refl _, fun _ _ _ => rfl⟩
theorem Keeps.trans {S S' : Nat → Prop} {a b c : World} (h : Keeps S a b) (g : Keeps S' b c) (hs : ∀ k, S' k → S k ∨ a.heap.size ≤ k) : Keeps S a c :=
  ⟨g.os.trans h.os, g.tape.trans h.tape, g.output.trans h.output, Nat.le_trans h.size g.size, fun k hk hn => (g.block k (Nat.lt_of_lt_of_le hk h.size) (fun hsk => by rcases hs k hsk with h1 | h1; exact hn h1; omega)).trans (h.block k hk hn)⟩
theorem Keeps.mono {S S' : Nat → Prop} {a b : World} (h : Keeps S a b) (hs : ∀ k, S k → S' k ∨ a.heap.size ≤ k) : Keeps S' a b :=
  ⟨h.os, h.tape, h.output, h.size, fun k hk hn => h.block k hk (fun hsk => by rcases hs k hsk with h1 | h1; exact hn h1; omega)⟩
theorem Keeps.alloc {S : Nat → Prop} {a w : World} (h : Keeps S a w) (o : Obj) : Keeps S a (w.alloc o) :=
  h.trans (S' := fun _ => False) ⟨rfl, rfl, rfl, by simp, fun k hk _ => Below.heap_alloc _ _ _ hk⟩ (fun _ hf => hf.elim)
theorem Keeps.drew {S : Nat → Prop} {a w : World} (h : Keeps S a w) : Keeps S a w.drew := ⟨h.os, h.tape, h.output, h.size, h.block⟩
theorem Keeps.drewN {S : Nat → Prop} {a w : World} (h : Keeps S a w) (n : Nat) : Keeps S a (w.drewN n) := ⟨h.os, h.tape, h.output, h.size, h.block⟩
theorem Keeps.setCell {S : Nat → Prop} {a w : World} (h : Keeps S a w) {p : Addr} (hp : S p.block ∨ a.heap.size ≤ p.block) (u : Value) : Keeps S a (w.setCell p u) :=
  h.trans (S' := fun k => k = p.block) ⟨rfl, rfl, rfl, by simp [World.setCell], fun k hk hn => Below.heap_setCell _ _ _ _ hn⟩ (fun k e => by subst e; exact hp)
theorem Keeps.grown {S : Nat → Prop} {a w w' : World} {row : Option Nat} (h : Keeps S a w) (hg : w.grownBy w' row) (hr : ∀ k, row = some k → S k ∨ a.heap.size ≤ k) : Keeps S a w' :=
  h.trans (S' := fun k => row = some k) ⟨hg.os, hg.tape, hg.output, hg.size, fun k hk hn => hg.block k hk (fun e => hn e.symm)⟩ hr
theorem Keeps.below {S : Nat → Prop} {a b : World} (h : Keeps S a b) {B : Nat} (hB : B ≤ a.heap.size) (hs : ∀ k, S k → B ≤ k) : Below B a b :=
  ⟨h.os, h.tape, h.output, h.size, fun k hk => h.block k (by omega) (fun hsk => by have := hs k hsk; omega)⟩
theorem Keeps.of_below {S : Nat → Prop} {B : Nat} {a b : World} (h : Below B a b) (hB : a.heap.size ≤ B) : Keeps S a b :=
  ⟨h.os, h.tape, h.output, h.size, fun k hk _ => h.block k (by omega)⟩
theorem Keeps.cell {S : Nat → Prop} {w w' : World} (h : Keeps S w w') {b o : Nat} {v : Value} (hc : w.cell? ⟨b, o, none⟩ = some v) (hb : ¬ S b) : w'.cell? ⟨b, o, none⟩ = some v := by
  have h1 : b < w.heap.size := World.block_lt_of_cell? w _ hc
  rw [World.cell?_of_block (w := w) (a := ⟨b, o, none⟩) (h.block b h1 hb)]; exact hc
theorem Keeps.frozen {S : Nat → Prop} {w w' : World} (h : Keeps S w w') {b o : Nat} (hl : b < w.heap.size) (hb : ¬ S b) : w'.frozen? ⟨b, o, none⟩ = w.frozen? ⟨b, o, none⟩ :=
  World.frozen?_of_block (h.block b hl hb)

/-- Where the diagrams lie: their own block, the two maps, the two slices of options (which never change). -/
structure DH where
  b : Nat
  n : Nat
  ov : Value
  lv : Value
  bf : Nat
  bd : Nat

/-- What they hold. cnt bounds how much has been done so far. -/
structure DS where
  nodes : List Nd
  nv : Value
  ff : Value → Option Value
  fd : Value → Option Value
  steps : Int
  cnt : Nat

def ndCells (x : Nd) : List Value := [.int .i64 x.lev, .int .i32 x.lo, .int .i32 x.hi]

def opF (op : Int) (x y : Bool) : Bool := if op = -4 then x && y else if op = -5 then x || y else x == y

/-- What is remembered of a task. -/
structure TaskOk (l : List Nd) (op : Int) (a b c : Nat) : Prop where
  hc : c < l.length
  ha : a < l.length
  neg : op < 0 → b < l.length ∧ (∀ σ, sem l c σ = opF op (sem l a σ) (sem l b σ)) ∧ min (ndAt l a).lev (ndAt l b).lev ≤ (ndAt l c).lev
  pos : 0 < op → (∀ σ, sem l c σ = sem l a (setAt σ b (op == 2))) ∧ (ndAt l a).lev ≤ (ndAt l c).lev

theorem TaskOk.ext {n : Nat} {l l' : List Nd} {op : Int} {a b c : Nat} (h : TaskOk l op a b c) (e : Ext l l') (hw : WF n l) : TaskOk l' op a b c := by
  have hl := e.len
  refine ⟨by have := h.hc; omega, by have := h.ha; omega, fun ho => ?_, fun ho => ?_⟩
  · obtain ⟨h1, h2, h3⟩ := h.neg ho
    refine ⟨by omega, fun σ => ?_, ?_⟩
    · rw [e.sem hw h.hc, e.sem hw h.ha, e.sem hw h1]; exact h2 σ
    · rw [e.at h.hc, e.at h.ha, e.at h1]; exact h3
  · obtain ⟨h2, h3⟩ := h.pos ho
    refine ⟨fun σ => ?_, ?_⟩
    · rw [e.sem hw h.hc, e.sem hw h.ha]; exact h2 σ
    · rw [e.at h.hc, e.at h.ha]; exact h3

structure FindOk (l : List Nd) (f : Value → Option Value) : Prop where
  yes : ∀ i, 2 ≤ i → i < l.length → f (ndV (ndAt l i)) = some (.int .i32 i)
  no : ∀ x, (∀ i, 2 ≤ i → i < l.length → ndAt l i ≠ x) → f (ndV x) = none
def DoneOk (l : List Nd) (f : Value → Option Value) : Prop := ∀ op a b v, f (tkV op a b) = some v → ∃ c : Nat, v = .int .i32 c ∧ TaskOk l op a b c

structure SInv (n : Nat) (s : DS) : Prop where
  wf : WF n s.nodes
  find : FindOk s.nodes s.ff
  done : DoneOk s.nodes s.fd
  cnt : s.nodes.length ≤ s.cnt + 2

/-- The blocks that a call may write. -/
def own (h : DH) (s : DS) (k : Nat) : Prop := k = h.b ∨ k = h.bf ∨ k = h.bd ∨ s.nv.ownBlock = some k

structure Dia (w : World) (h : DH) (s : DS) : Prop where
  blk : w.heap[h.b]? = some (.cells #[h.ov, h.lv, s.nv, .map (some h.bf), .map (some h.bd), .int .i64 s.steps] 112 (0, 0))
  row : w.ownsRow 0 107 3 s.nv s.nodes.length (s.nodes.flatMap ndCells)
  fnd : MapV w Tryz.prog 107 h.bf s.cnt s.ff
  dne : MapV w Tryz.prog 152 h.bd s.cnt s.fd
  ne : h.bf ≠ h.bd
  inv : SInv h.n s

theorem Dia.lt {w : World} {h : DH} {s : DS} (d : Dia w h s) : ∀ k, own h s k → k < w.heap.size := by
  intro k hk
  rcases hk with rfl | rfl | rfl | hk
  · exact (Array.getElem?_eq_some_iff.1 d.blk).1
  · exact d.fnd.lt
  · exact d.dne.lt
  · exact (d.row.lt k hk).2

/-- What a call leaves of them. -/
structure Upd (w w' : World) (h : DH) (s s' : DS) : Prop where
  dia : Dia w' h s'
  ext : Ext s.nodes s'.nodes
  keeps : Keeps (own h s) w w'
  own : ∀ k, own h s' k → own h s k ∨ w.heap.size ≤ k

theorem Upd.refl {w : World} {h : DH} {s : DS} (d : Dia w h s) : Upd w w h s s := ⟨d, Ext.refl _, Keeps.refl _ _, fun _ hk => Or.inl hk⟩
theorem Upd.trans {a b c : World} {h : DH} {s s' s'' : DS} (u : Upd a b h s s') (v : Upd b c h s' s'') : Upd a c h s s'' :=
  ⟨v.dia, u.ext.trans v.ext, u.keeps.trans v.keeps u.own, fun k hk => by
    rcases v.own k hk with h1 | h1
    · exact u.own k h1
    · exact Or.inr (Nat.le_trans u.keeps.size h1)⟩

theorem Dia.kept {w w' : World} {h : DH} {s : DS} (d : Dia w h s) (hk : ∀ k, own h s k → w'.heap[k]? = w.heap[k]?) : Dia w' h s := by
  refine ⟨(hk _ (Or.inl rfl)).trans d.blk, ?_, d.fnd.kept (hk _ (Or.inr (Or.inl rfl))), d.dne.kept (hk _ (Or.inr (Or.inr (Or.inl rfl)))), d.ne, d.inv⟩
  refine ⟨d.row.1, ?_⟩
  rcases d.row.2 with hn | ⟨g, cap, cur, e, hb, hg, rest⟩
  · exact .inl hn
  · exact .inr ⟨g, cap, cur, e, hb, (hk g (Or.inr (Or.inr (Or.inr (by rw [e]; rfl))))).trans hg, rest⟩

theorem Dia.drew {w : World} {h : DH} {s : DS} (d : Dia w h s) : Dia w.drew h s := d.kept (fun _ _ => rfl)
theorem Dia.drewN {w : World} {h : DH} {s : DS} (d : Dia w h s) (n : Nat) : Dia (w.drewN n) h s := d.kept (fun _ _ => rfl)
theorem Dia.alloc {w : World} {h : DH} {s : DS} (d : Dia w h s) (o : Obj) : Dia (w.alloc o) h s := d.kept (fun k hk => Below.heap_alloc _ _ _ (d.lt k hk))
theorem Upd.alloc {a w : World} {h : DH} {s s' : DS} (u : Upd a w h s s') (o : Obj) : Upd a (w.alloc o) h s s' := ⟨u.dia.alloc o, u.ext, u.keeps.alloc o, u.own⟩
theorem Upd.drewN {a w : World} {h : DH} {s s' : DS} (u : Upd a w h s s') (n : Nat) : Upd a (w.drewN n) h s s' := ⟨u.dia.drewN n, u.ext, u.keeps.drewN n, u.own⟩

/-- The cells of the struct. -/
theorem Dia.cells {w : World} {h : DH} {s : DS} (d : Dia w h s) : w.cell? ⟨h.b, 0, none⟩ = some h.ov ∧ w.cell? ⟨h.b, 1, none⟩ = some h.lv ∧ w.cell? ⟨h.b, 2, none⟩ = some s.nv ∧ w.cell? ⟨h.b, 3, none⟩ = some (.map (some h.bf)) ∧ w.cell? ⟨h.b, 4, none⟩ = some (.map (some h.bd)) ∧ w.cell? ⟨h.b, 5, none⟩ = some (.int .i64 s.steps) := by
  have h0 := d.blk
  refine ⟨?_, ?_, ?_, ?_, ?_, ?_⟩ <;> rw [cell_of_row w h.b _ _ _ (0, 0) h0] <;> rfl
theorem Dia.unfrozen {w : World} {h : DH} {s : DS} (d : Dia w h s) (o : Nat) : w.frozen? ⟨h.b, o, none⟩ = false := by
  have h0 := d.blk
  simp [World.frozen?, h0]

theorem flat_at (l : List Nd) (k : Nat) (hk : k < l.length) : (l.flatMap ndCells)[k * 3]? = some (.int .i64 (ndAt l k).lev) ∧ (l.flatMap ndCells)[k * 3 + 1]? = some (.int .i32 (ndAt l k).lo) ∧ (l.flatMap ndCells)[k * 3 + 2]? = some (.int .i32 (ndAt l k).hi) := by
  induction l generalizing k with
  | nil => simp at hk
  | cons x l ih =>
    cases k with
    | zero => simp [ndCells, ndAt]
    | succ k =>
      have := ih k (by simpa using hk)
      simp only [List.flatMap_cons]
      have e : ∀ j, (k + 1) * 3 + j = (k * 3 + j) + (ndCells x).length := by intro j; simp [ndCells]; omega
      have e0 : (k + 1) * 3 = k * 3 + (ndCells x).length := by simp [ndCells]; omega
      rw [e 1, e 2, e0]
      simp only [List.getElem?_append_right (Nat.le_add_left _ _), Nat.add_sub_cancel]
      simpa [ndAt] using this

/-- The cells of a node. -/
theorem Dia.node {w : World} {h : DH} {s : DS} (d : Dia w h s) : ∃ g cap, s.nv = .slice (some ⟨g, 0, none⟩) s.nodes.length cap ∧ (∀ k, k < s.nodes.length → w.cell? ⟨g, k * 3, none⟩ = some (.int .i64 (ndAt s.nodes k).lev) ∧ w.cell? ⟨g, k * 3 + 1, none⟩ = some (.int .i32 (ndAt s.nodes k).lo) ∧ w.cell? ⟨g, k * 3 + 2, none⟩ = some (.int .i32 (ndAt s.nodes k).hi)) ∧ g < w.heap.size ∧ g ≠ h.b := by
  have h2 := d.inv.wf.two
  rcases d.row.2 with ⟨_, hn⟩ | ⟨g, cap, cur, e, hb, hg, h3, h4, h5, h6⟩
  · omega
  · have hc := d.row.cells (g := g) (by rw [e]; rfl)
    have hadd : ∀ j, (⟨g, 0, none⟩ : Addr).add j = ⟨g, j, none⟩ := by intro j; unfold Addr.add; split <;> simp_all
    refine ⟨g, cap, e, fun k hk => ?_, (Array.getElem?_eq_some_iff.1 hg).1, ?_⟩
    · obtain ⟨f0, f1, f2⟩ := flat_at s.nodes k hk
      exact ⟨by rw [← hadd]; exact hc _ _ f0, by rw [← hadd]; exact hc _ _ f1, by rw [← hadd]; exact hc _ _ f2⟩
    · rintro rfl
      rw [d.blk] at hg
      cases hg

/-! ### spend, step, plain -/
theorem Dia.setSteps {w : World} {h : DH} {s : DS} (d : Dia w h s) (x : Int) : Upd w (w.setCell ⟨h.b, 5, none⟩ (.int .i64 x)) h s { s with steps := x } := by
  have hkeep : ∀ k, k ≠ h.b → (w.setCell ⟨h.b, 5, none⟩ (.int .i64 x)).heap[k]? = w.heap[k]? := fun k hk => Below.heap_setCell _ _ _ _ hk
  have hbf : h.bf ≠ h.b := by
    intro e
    obtain ⟨D, ⟨es, clock, h0, _⟩, _⟩ := d.fnd
    rw [e, d.blk] at h0; cases h0
  have hbd : h.bd ≠ h.b := by
    intro e
    obtain ⟨D, ⟨es, clock, h0, _⟩, _⟩ := d.dne
    rw [e, d.blk] at h0; cases h0
  obtain ⟨g, cap, e, _, _, hg⟩ := d.node
  refine ⟨⟨?_, ?_, d.fnd.kept (hkeep _ hbf), d.dne.kept (hkeep _ hbd), d.ne, ⟨d.inv.wf, d.inv.find, d.inv.done, d.inv.cnt⟩⟩, Ext.refl _, (Keeps.refl _ _).setCell (Or.inl (Or.inl rfl)) _, fun k hk => Or.inl hk⟩
  · have h0 := d.blk
    simp [World.setCell, Array.getElem?_modify, h0]
  · exact d.row.kept (row := some h.b) ⟨rfl, rfl, rfl, by simp [World.setCell], fun k _ hk => hkeep k (by simpa using hk)⟩ (Or.inr (by rw [e]; simpa [Value.ownBlock] using hg))

set_option maxHeartbeats 800000 in
theorem spend_any (h : DH) (s : DS) (k : Int) (w : World) (d : Dia w h s) (h0 : 0 ≤ k) (h1 : k ≤ s.steps) (h2 : s.steps ≤ 4611686018427387904) :
    Calls Tryz.prog 96 #[.pointer (some ⟨h.b, 0, none⟩), .int .i64 k] w fun e w' => e = .returned (.tuple #[]) ∧ Upd w w' h s { s with steps := s.steps - k } := by
  obtain ⟨c0, c1, c2, c3, c4, c5⟩ := d.cells
  have hf := d.unfrozen
  have hu := d.setSteps (s.steps - k)
  have Hu := Lib.hid hu
  clear hu d
  go_enter Tryz.func96, Tryz.ntmps96
  go_wp2
  go_end0
  exact ⟨rfl, Hu.out⟩

set_option maxHeartbeats 800000 in
theorem step_any (h : DH) (s : DS) (k lev : Nat) (w : World) (d : Dia w h s) (hk : k < s.nodes.length) (hl : lev ≤ h.n) (hn : h.n < 2 ^ 31) :
    Calls Tryz.prog 97 #[.pointer (some ⟨h.b, 0, none⟩), .int .i32 k, .int .i64 lev] w fun e w' => (e = .returned (.tuple #[.int .i32 ((if lev < (ndAt s.nodes k).lev then k else (ndAt s.nodes k).lo : Nat) : Int), .int .i32 ((if lev < (ndAt s.nodes k).lev then k else (ndAt s.nodes k).hi : Nat) : Int)])) ∧ Upd w w' h s s := by
  obtain ⟨c0, c1, c2, c3, c4, c5⟩ := d.cells
  obtain ⟨g, cap, e, hc, hg, hgb⟩ := d.node
  obtain ⟨n0, n1, n2⟩ := hc k hk
  rw [e] at c2
  have Hd := Lib.hid d
  have hk' : (k : Int) < (s.nodes.length : Int) := by omega
  generalize hnd : ndAt s.nodes k = x at *
  have Hnd := Lib.hid hnd
  clear hc hnd d e
  by_cases hlt : lev < x.lev
  · rw [if_pos hlt, if_pos hlt]
    go_enter Tryz.func97, Tryz.ntmps97
    go_wp2
    go_ret2
    exact ⟨rfl, (Upd.refl Hd.out).alloc _⟩
  · rw [if_neg hlt, if_neg hlt]
    go_enter Tryz.func97, Tryz.ntmps97
    go_wp2
    go_quiet (fail)
    go_wp2
    go_ret2
    exact ⟨rfl, ((Upd.refl Hd.out).alloc _).drewN _⟩
end Go.Proofs.YtngjjmniigkeoaaGreatDoor
