/- The reference's reader: what lies in memory, and takes. The reference's reader: word. -/
import Derived.Test.YtngjjmniigkeoaaGreatDoorReadG
namespace Go.Proofs.YtngjjmniigkeoaaGreatDoor
open Go Go.RowKit Go.WideMaps Go.Maps
set_option linter.unusedSimpArgs false
set_option linter.unusedVariables false

/-- What of a reader does not change: where it lies, its model, its text. -/
structure QD where
  rb : Nat
  mo : Value
  mr : Value
  s : ByteArray

/-- A reader, as far as it has read. -/
structure QAt (B : Nat) (D : QD) (W : World) (i : Nat) (v : Value) (fm : List Int) (u : Bool) : Prop where
  hB : B ≤ D.rb
  blk : W.heap[D.rb]? = some (.cells #[D.mo, D.mr, .string D.s, .int .i64 i, v, .bool u] 70 (0, 0))
  row : W.ownsRow B 3 1 v fm.length (fm.map (fun x => Value.int .i64 x))
  hi : i ≤ D.s.size
  sz : D.s.size ≤ 100000
  fl : fm.length ≤ i

theorem QAt.cells {B : Nat} {D : QD} {W : World} {i : Nat} {v : Value} {fm : List Int} {u : Bool} (r : QAt B D W i v fm u) :
    W.cell? ⟨D.rb, 0, none⟩ = some D.mo ∧ W.cell? ⟨D.rb, 2, none⟩ = some (.string D.s) ∧ W.cell? ⟨D.rb, 3, none⟩ = some (.int .i64 i) ∧ W.cell? ⟨D.rb, 4, none⟩ = some v ∧ W.cell? ⟨D.rb, 5, none⟩ = some (.bool u) := by
  have h0 := r.blk
  refine ⟨?_, ?_, ?_, ?_, ?_⟩ <;> rw [cell_of_row W D.rb _ _ _ (0, 0) h0] <;> rfl
theorem QAt.unfrozen {B : Nat} {D : QD} {W : World} {i : Nat} {v : Value} {fm : List Int} {u : Bool} (r : QAt B D W i v fm u) (o : Nat) : W.frozen? ⟨D.rb, o, none⟩ = false := by
  have h0 := r.blk
  simp [World.frozen?, h0]
theorem QAt.lt {B : Nat} {D : QD} {W : World} {i : Nat} {v : Value} {fm : List Int} {u : Bool} (r : QAt B D W i v fm u) : D.rb < W.heap.size := (Array.getElem?_eq_some_iff.1 r.blk).1
theorem QAt.ne_row {B : Nat} {D : QD} {W : World} {i : Nat} {v : Value} {fm : List Int} {u : Bool} (r : QAt B D W i v fm u) {b : Nat} (hb : v.ownBlock = some b) : b ≠ D.rb := by
  rcases r.row.2 with ⟨e, _⟩ | ⟨g, cap, cur, e, h1, hg, rest⟩
  · rw [e] at hb; simp [Value.ownBlock] at hb
  · rw [e] at hb
    simp [Value.ownBlock] at hb
    subst hb
    intro e2
    rw [e2, r.blk] at hg; cases hg

def qOwn (D : QD) (v : Value) (b : Nat) : Prop := b = D.rb ∨ v.ownBlock = some b

/-- What a call leaves of it. -/
structure QUpd (B : Nat) (D : QD) (W : World) (v : Value) (W' : World) (i : Nat) (v' : Value) (fm : List Int) (u : Bool) : Prop where
  rat : QAt B D W' i v' fm u
  keeps : Keeps (qOwn D v) W W'
  own : ∀ b, v'.ownBlock = some b → v.ownBlock = some b ∨ W.heap.size ≤ b
theorem QUpd.refl {B : Nat} {D : QD} {W : World} {i : Nat} {v : Value} {fm : List Int} {u : Bool} (r : QAt B D W i v fm u) : QUpd B D W v W i v fm u := ⟨r, Keeps.refl _ _, fun b h => Or.inl h⟩
theorem QUpd.trans {B : Nat} {D : QD} {W W' W'' : World} {i i' : Nat} {v v' v'' : Value} {fm fm' : List Int} {u u' : Bool} (r : QUpd B D W v W' i v' fm u) (r' : QUpd B D W' v' W'' i' v'' fm' u') : QUpd B D W v W'' i' v'' fm' u' :=
  ⟨r'.rat, r.keeps.trans r'.keeps (fun k hk => by
    rcases hk with h | h
    · exact Or.inl (Or.inl h)
    · rcases r.own k h with h | h
      · exact Or.inl (Or.inr h)
      · exact Or.inr h), fun b hb => by
    rcases r'.own b hb with h | h
    · exact r.own b h
    · exact Or.inr (Nat.le_trans r.keeps.size h)⟩
theorem QUpd.fail {B : Nat} {D : QD} {W W' W'' : World} {i : Nat} {v v' : Value} {fm : List Int} {u : Bool} (r : QUpd B D W v W' i v' fm u) (k : Keeps (qOwn D v') W' W'') : Keeps (qOwn D v) W W'' :=
  r.keeps.trans k (fun k hk => by
    rcases hk with h | h
    · exact Or.inl (Or.inl h)
    · rcases r.own k h with h | h
      · exact Or.inl (Or.inr h)
      · exact Or.inr h)

/-- Nothing of it is written. -/
theorem QAt.quiet {B : Nat} {D : QD} {W W' : World} {i : Nat} {v : Value} {fm : List Int} {u : Bool} (r : QAt B D W i v fm u) (k : Keeps (fun _ => False) W W') : QAt B D W' i v fm u :=
  ⟨r.hB, (k.block _ r.lt (fun e => e)).trans r.blk, ownsRow_of_block r.row (fun b hb => k.block b (r.row.lt b hb).2 (fun e => e)), r.hi, r.sz, r.fl⟩
theorem QUpd.quiet {B : Nat} {D : QD} {W W' W'' : World} {i : Nat} {v v' : Value} {fm : List Int} {u : Bool} (r : QUpd B D W v W' i v' fm u) (k : Keeps (fun _ => False) W' W'') : QUpd B D W v W'' i v' fm u :=
  ⟨r.rat.quiet k, r.keeps.trans k (fun _ e => e.elim), r.own⟩

theorem QAt.setAt {B : Nat} {D : QD} {W : World} {i : Nat} {v : Value} {fm : List Int} {u : Bool} (r : QAt B D W i v fm u) (j : Nat) (hj : j ≤ D.s.size) (hf : fm.length ≤ j) : QUpd B D W v (W.setCell ⟨D.rb, 3, none⟩ (.int .i64 j)) j v fm u := by
  have hkeep : ∀ k, k ≠ D.rb → (W.setCell ⟨D.rb, 3, none⟩ (.int .i64 j)).heap[k]? = W.heap[k]? := fun k hk => Below.heap_setCell _ _ _ _ hk
  refine ⟨⟨r.hB, ?_, ownsRow_of_block r.row (fun b hb => hkeep b (r.ne_row hb)), hj, r.sz, hf⟩, (Keeps.refl _ _).setCell (Or.inl (Or.inl rfl)) _, fun b h => Or.inl h⟩
  have h0 := r.blk
  simp [World.setCell, Array.getElem?_modify, h0]
theorem QAt.setUnk {B : Nat} {D : QD} {W : World} {i : Nat} {v : Value} {fm : List Int} {u : Bool} (r : QAt B D W i v fm u) (x : Bool) : QUpd B D W v (W.setCell ⟨D.rb, 5, none⟩ (.bool x)) i v fm x := by
  have hkeep : ∀ k, k ≠ D.rb → (W.setCell ⟨D.rb, 5, none⟩ (.bool x)).heap[k]? = W.heap[k]? := fun k hk => Below.heap_setCell _ _ _ _ hk
  refine ⟨⟨r.hB, ?_, ownsRow_of_block r.row (fun b hb => hkeep b (r.ne_row hb)), r.hi, r.sz, r.fl⟩, (Keeps.refl _ _).setCell (Or.inl (Or.inl rfl)) _, fun b h => Or.inl h⟩
  have h0 := r.blk
  simp [World.setCell, Array.getElem?_modify, h0]

/-- Behind an append and its store. -/
theorem QAt.push {B : Nat} {D : QD} {W w2 : World} {i : Nat} {v v2 : Value} {fm : List Int} {u : Bool} {x : Int} (r : QAt B D W i v fm u) (hk : Keeps (fun b => v.ownBlock = some b) W w2)
    (hown : w2.ownsRow B 3 1 v2 (fm.length + 1) (fm.map (fun x => Value.int .i64 x) ++ [.int .i64 x])) (hat : ∀ b, v2.ownBlock = some b → v.ownBlock = some b ∨ W.heap.size ≤ b) (hl : fm.length + 1 ≤ i) :
    QUpd B D W v (w2.setCell ⟨D.rb, 4, none⟩ v2) i v2 (fm ++ [x]) u := by
  have hkeep : ∀ k, k ≠ D.rb → (w2.setCell ⟨D.rb, 4, none⟩ v2).heap[k]? = w2.heap[k]? := fun k hk => Below.heap_setCell _ _ _ _ hk
  have hrb : w2.heap[D.rb]? = W.heap[D.rb]? := hk.block _ r.lt (fun e => (r.ne_row e) rfl)
  have hv2 : ∀ b, v2.ownBlock = some b → b ≠ D.rb := fun b hb e => by
    rcases hat b hb with h | h
    · exact (r.ne_row h) e
    · have := r.lt; omega
  refine ⟨⟨r.hB, ?_, ?_, r.hi, r.sz, by simpa using hl⟩, ?_, hat⟩
  · have h0 := r.blk
    rw [← hrb] at h0
    simp [World.setCell, Array.getElem?_modify, h0]
  · have h1 := ownsRow_of_block hown (fun b hb => hkeep b (hv2 b hb))
    simpa using h1
  · exact Keeps.setCell (S := qOwn D v) (p := ⟨D.rb, 4, none⟩) (hk.mono (fun k h => Or.inl (Or.inr h))) (Or.inl (Or.inl rfl)) _

/-- A number is stored over another one. -/
theorem QAt.poke {B : Nat} {D : QD} {W : World} {i : Nat} {g n cap : Nat} {fm : List Int} {u : Bool} (r : QAt B D W i (.slice (some ⟨g, 0, none⟩) n cap) fm u) (j : Nat) (x : Int) :
    QUpd B D W (.slice (some ⟨g, 0, none⟩) n cap) (W.setCell ⟨g, j, none⟩ (.int .i64 x)) i (.slice (some ⟨g, 0, none⟩) n cap) (fm.set j x) u := by
  have hkeep : ∀ k, k ≠ g → (W.setCell ⟨g, j, none⟩ (.int .i64 x)).heap[k]? = W.heap[k]? := fun k hk => Below.heap_setCell _ _ _ _ hk
  have h1 := r.ne_row (b := g) rfl
  have hn : n = fm.length := by
    have := r.row.1
    rcases r.row.2 with ⟨e, _⟩ | ⟨g', cap', cur, e, _⟩
    · cases e
    · simp at e; exact e.2.1
  subst hn
  refine ⟨⟨r.hB, (hkeep _ (fun e => h1 e.symm)).trans r.blk, ?_, r.hi, r.sz, by simpa using r.fl⟩, (Keeps.refl _ _).setCell (Or.inl (Or.inr rfl)) _, fun b h => Or.inl h⟩
  have := (r.row.stored j (.int .i64 x)).1
  simpa [List.map_set] using this

theorem QAt.shape {B : Nat} {D : QD} {W : World} {i : Nat} {v : Value} {fm : List Int} {u : Bool} (r : QAt B D W i v fm u) : ∃ a c, v = .slice a fm.length c := by
  rcases r.row.2 with ⟨e, h⟩ | ⟨g, cap, cur, e, _⟩
  · exact ⟨none, 0, by rw [e, h]⟩
  · exact ⟨_, _, e⟩

theorem drop_getU (f : List UInt8) (k : Nat) (hk : k < f.length) : f.drop k = f.getD k 0 :: f.drop (k + 1) := by rw [List.drop_eq_getElem_cons hk]; simp [List.getD, hk]

def TakeEnd (B : Nat) (D : QD) (W : World) (c : UInt8) (i : Nat) (v : Value) (fm : List Int) (u : Bool) (e : Ending) (W' : World) : Prop :=
  ((i < D.s.size ∧ D.s.toList.getD i 0 = c) ∧ e = .returned (.bool true) ∧ QUpd B D W v W' (i + 1) v fm u) ∨ (¬ (i < D.s.size ∧ D.s.toList.getD i 0 = c) ∧ e = .returned (.bool false) ∧ QUpd B D W v W' i v fm u)

set_option maxHeartbeats 1600000 in
theorem takes_any (B : Nat) (D : QD) (W : World) (t : ByteArray) (c : UInt8) (ht : t.toList = [c]) (i : Nat) (v : Value) (fm : List Int) (u : Bool) (r : QAt B D W i v fm u) :
    Calls Tryz.prog 59 #[.pointer (some ⟨D.rb, 0, none⟩), .string t] W (TakeEnd B D W c i v fm u) := by
  have hts : t.size = 1 := by rw [← size_list, ht]; rfl
  obtain ⟨c0, c1, c2, c3, c4⟩ := r.cells
  have hf := r.unfrozen
  have hi := r.hi
  have hz := r.sz
  have Hr := Lib.hid r
  clear r
  by_cases hlt : i < D.s.size
  · have b1 : decide ((D.s.size : Int) - (i : Int) < 1) = false := decide_eq_false (by omega)
    have i1 : (1 : Int) ≤ (D.s.size : Int) - (i : Int) := by omega
    have e3 : IntKind.i64.wrap ((D.s.size : Int) - (i : Int)) = (D.s.size : Int) - (i : Int) := IntWalk.i64_in _ (by omega)
    have e4 : IntKind.i64.wrap ((i : Int) + 1) = (i : Int) + 1 := IntWalk.i64_in _ (by omega)
    have f1 : (i : Int) + 1 ≤ (D.s.size : Int) := by omega
    have f2 : (0 : Int) ≤ (i : Int) + 1 := by omega
    have f3 : ((i : Int) + 1).toNat = i + 1 := by omega
    have f4 : (i : Int) ≤ (i : Int) + 1 := by omega
    have hx : (D.s.extract i (i + 1)).toList = [D.s.toList.getD i 0] := by
      rw [extract_list, show i + 1 - i = 1 by omega, drop_getU D.s.toList i (by rw [size_list]; exact hlt)]; rfl
    have hset : ∀ q q', QUpd B D W v (((W.drewN q).setCell ⟨D.rb, 3, none⟩ (.int .i64 ((i : Int) + 1))).drewN q') (i + 1) v fm u := fun q q' => by
      have k0 : Keeps (fun _ => False) W (W.drewN q) := (Keeps.refl _ _).drewN q
      have := ((QUpd.refl Hr.out).quiet k0).trans ((Hr.out.quiet k0).setAt (i + 1) (by omega) (by have := Hr.out.fl; omega))
      have h2 := this.quiet ((Keeps.refl _ _).drewN q')
      simpa using h2
    have hyes : D.s.toList.getD i 0 = c → ∀ q, TakeEnd B D W c i v fm u (.returned (.bool true)) ((W.drewN q).setCell ⟨D.rb, 3, none⟩ (.int .i64 ((i : Int) + 1))) := fun h q => Or.inl ⟨⟨hlt, h⟩, rfl, by have := hset q 0; exact ⟨this.rat.quiet ⟨rfl, rfl, rfl, Nat.le_refl _, fun _ _ _ => rfl⟩, ⟨this.keeps.os, this.keeps.tape, this.keeps.output, this.keeps.size, this.keeps.block⟩, this.own⟩⟩
    have hnay : ¬ D.s.toList.getD i 0 = c → ∀ q, TakeEnd B D W c i v fm u (.returned (.bool false)) (W.drewN q) := fun h q => Or.inr ⟨fun h' => h h'.2, rfl, (QUpd.refl Hr.out).quiet ((Keeps.refl _ _).drewN q)⟩
    generalize D.s.toList.getD i 0 = b at *
    by_cases hbc : b = c
    · have hb : (b == c) = true := by rw [hbc]; simp
      have Hy := Lib.hid (hyes hbc)
      clear hyes hnay hbc hset
      go_enter Tryz.func59, Tryz.ntmps59
      go_wp2_with fail
      go_quiet (fail)
      go_wp2_with fail
      go_ret
      exact Hy.out _
    · have hb : (b == c) = false := by rw [beq_eq_false_iff_ne]; exact hbc
      have Hy := Lib.hid (hnay hbc)
      clear hyes hnay hbc hset
      go_enter Tryz.func59, Tryz.ntmps59
      go_wp2_with fail
      go_quiet (fail)
      go_wp2_with fail
      go_ret
      exact Hy.out _
  · obtain rfl : i = D.s.size := by omega
    go_enter Tryz.func59, Tryz.ntmps59
    go_wp2_with fail
    go_quiet (fail)
    go_wp2_with fail
    go_ret
    exact Or.inr ⟨fun h => by omega, rfl, (QUpd.refl Hr.out).quiet ((Keeps.refl _ _).drewN _)⟩

open Go Go.RowKit Go.WideMaps Go.Maps
set_option linter.unusedSimpArgs false
set_option linter.unusedVariables false

/-- The number that the reference finds for a name. -/
def nI (ss : List ByteArray) (t : ByteArray) : Nat → Int
  | 0 => -1
  | k + 1 => if ss.getD k ByteArray.empty = t then (k : Int) else nI ss t k
theorem nI_at (ss : List ByteArray) (hn : namesOk ss) (t : ByteArray) (j : Nat) (hj : j < ss.length) (ht : ss.getD j ByteArray.empty = t) : ∀ k, k ≤ ss.length → nI ss t k = if j < k then (j : Int) else -1
  | 0, _ => by simp [nI]
  | k + 1, hk => by
    have ih := nI_at ss hn t j hj ht k (by omega)
    unfold nI
    by_cases e : ss.getD k ByteArray.empty = t
    · have : j = k := by
        by_cases h1 : j < k
        · exact absurd (by rw [e, ← ht]; exact List.mem_take_iff_getElem.2 ⟨j, by omega, by simp [List.getD, hj]⟩) (hn k (by omega)).2
        · by_cases h2 : k < j
          · exact absurd (by rw [ht, ← e]; exact List.mem_take_iff_getElem.2 ⟨k, by omega, by simp [List.getD, show k < ss.length by omega]⟩) (hn j hj).2
          · omega
      subst this
      rw [if_pos e, if_pos (by omega)]
    · rw [if_neg e, ih]
      have : j ≠ k := fun h => e (by rw [← h]; exact ht)
      by_cases h1 : j < k
      · rw [if_pos h1, if_pos (by omega)]
      · rw [if_neg h1, if_neg (by omega)]
theorem nI_no (ss : List ByteArray) (t : ByteArray) (h : ∀ j, j < ss.length → ss.getD j ByteArray.empty ≠ t) : ∀ k, k ≤ ss.length → nI ss t k = -1
  | 0, _ => rfl
  | k + 1, hk => by
    unfold nI
    rw [if_neg (h k (by omega))]
    exact nI_no ss t h k (by omega)
theorem nI_le (ss : List ByteArray) (t : ByteArray) : ∀ k, -1 ≤ nI ss t k ∧ nI ss t k < (k : Int) + 1
  | 0 => by simp [nI]
  | k + 1 => by
    have := nI_le ss t k
    unfold nI
    split <;> omega
/-- .. and what it means. -/
theorem nI_num (ss : List ByteArray) (hn : namesOk ss) (t : ByteArray) : (∃ k, numOf ss t.toList = some k ∧ nI ss t ss.length = (k : Int)) ∨ (numOf ss t.toList = none ∧ nI ss t ss.length = -1) := by
  by_cases h : ∃ j, j < ss.length ∧ ss.getD j ByteArray.empty = t
  · obtain ⟨j, hj, ht⟩ := h
    exact Or.inl ⟨j, numOf_at hn hj ht, by rw [nI_at ss hn t j hj ht _ (Nat.le_refl _), if_pos hj]⟩
  · have h2 : ∀ j, j < ss.length → ss.getD j ByteArray.empty ≠ t := fun j hj e => h ⟨j, hj, e⟩
    exact Or.inr ⟨numOf_no h2, nI_no ss t h2 _ (Nat.le_refl _)⟩

def QEnd (B : Nat) (D : QD) (W : World) (v : Value) (fm : List Int) (u : Bool) (res : Option PRes) (e : Ending) (W' : World) : Prop :=
  (∃ j l y v', res = some (j, l, y) ∧ e = .returned (.bool true) ∧ QUpd B D W v W' j v' (fm ++ l) (u || y)) ∨ (res = none ∧ e = .returned (.bool false) ∧ Keeps (qOwn D v) W W')

def atQ (D : QD) (W : World) : Nat := (intOf ((W.cell? ⟨D.rb, 3, none⟩).getD undef)).toNat

set_option maxRecDepth 100000 in
set_option maxHeartbeats 64000000 in
theorem refWord_any (B : Nat) (D : QD) (ss : List ByteArray) (ao : Option Addr) (ca : Nat) (hmo : D.mo = .slice ao ss.length ca) (hno : namesOk ss) (W : World) (hss : StrsAt W ao ss) (i : Nat) (v : Value) (fm : List Int) (u : Bool) (r : QAt B D W i v fm u)
    (hout : ∀ b off, ao = some ⟨b, off, none⟩ → 0 < ss.length → ¬ qOwn D v b) :
    Calls Tryz.prog 60 #[.pointer (some ⟨D.rb, 0, none⟩)] W (QEnd B D W v fm u (pword ss (-1) D.s.toList i)) := by
  obtain ⟨a, c, rfl⟩ := r.shape
  obtain ⟨c0, c1, c2, c3, c4⟩ := r.cells
  have hz := r.sz
  have Hr := Lib.hid r
  clear r
  go_enter Tryz.func60, Tryz.ntmps60
  go_wp2_with fail
  go_loopw [] (fun wr => ∃ j, QUpd B D W (.slice a fm.length c) wr j (.slice a fm.length c) fm u ∧ i ≤ j ∧ Hid (∀ k, i ≤ k → k < j → isW (D.s.toList.getD k 0) = true)) (fun wr => D.s.size - atQ D wr)
  case atStart => exact ⟨i, QUpd.refl Hr.out, Nat.le_refl _, Lib.hid (fun k h1 h2 => by omega)⟩
  case round =>
    obtain ⟨j, ru, hij, hw⟩ := hrel
    obtain ⟨d0, d1, d2, d3, d4⟩ := ru.rat.cells
    have hf := ru.rat.unfrozen
    have hj := ru.rat.hi
    have hat : atQ D wr = j := by unfold atQ; rw [d2]; simp [intOf]
    clear c0 c1 c2 c3 c4
    by_cases hlt : j < D.s.size
    · have hbk : D.s[j] = D.s.toList.getD j 0 := byte_at D.s j hlt
      have hle := byte_le D.s[j]
      have i1 : (j : Int) < (D.s.size : Int) := by omega
      have hu : ∀ q, QUpd B D W (.slice a fm.length c) ((wr.drewN q).setCell ⟨D.rb, 3, none⟩ (.int .i64 ((j : Int) + 1))) (j + 1) (.slice a fm.length c) fm u := fun q => by
        have k0 : Keeps (fun _ => False) wr (wr.drewN q) := (Keeps.refl _ _).drewN q
        have := (ru.quiet k0).trans ((ru.rat.quiet k0).setAt (j + 1) (by omega) (by have := ru.rat.fl; omega))
        simpa using this
      have hnext : isW (D.s[j]) = true → ∀ k, i ≤ k → k < j + 1 → isW (D.s.toList.getD k 0) = true := fun hW k h1 h2 => by
        by_cases e : k = j
        · subst e; rw [← hbk]; exact hW
        · exact hw.out k h1 (by omega)
      have hstop : isW (D.s[j]) = false → wordAt D.s.toList i = (D.s.toList.drop i).take (j - i) := fun hW => wordAt_eq D.s.toList j (by rw [size_list]; exact hj) (Or.inr (by rw [← hbk]; exact hW)) (j - i) i rfl hij hw.out
      have Hu := Lib.hid hu; have Hnext := Lib.hid hnext; have Hstop := Lib.hid hstop; have Hat := Lib.hid hat; have Hru := Lib.hid ru
      clear hu hnext hstop hat hbk hw ru
      by_cases g1 : 97 ≤ (D.s[j]).toNat
      · have b1 : decide (97 ≤ ((D.s[j]).toNat : Int)) = true := decide_eq_true (by omega)
        by_cases g2 : (D.s[j]).toNat ≤ 122
        · have b2 : decide (((D.s[j]).toNat : Int) ≤ 122) = true := decide_eq_true (by omega)
          have hW : isW (D.s[j]) = true := by unfold isW isLow; simp [g1, g2]
          have Hn := Lib.hid (Hnext.out hW)
          go_wp2_with fail
          go_quiet (fail)
          go_wp2_with fail
          have hu := Hu.out nq
          go_roundw
          case rel => exact ⟨j + 1, by simpa using hu, by omega, Hn⟩
          case measure =>
            have h1 := hu.rat.cells.2.2.1
            have h2 : atQ D ((wr.drewN nq).setCell ⟨D.rb, 3, none⟩ (.int .i64 ((j : Int) + 1))) = j + 1 := by unfold atQ; rw [h1]; simp [intOf]
            have h3 := Hat.out
            simp only [h2, h3] at *
            omega
        · have b2 : decide (((D.s[j]).toNat : Int) ≤ 122) = false := decide_eq_false (by omega)
          have b3 : decide (48 ≤ ((D.s[j]).toNat : Int)) = true := decide_eq_true (by omega)
          have b4 : decide (((D.s[j]).toNat : Int) ≤ 57) = false := decide_eq_false (by omega)
          have hW : isW (D.s[j]) = false := by unfold isW isLow isDig; simp; omega
          have Hwd := Lib.hid (Hstop.out hW)
          go_wp2_with fail
          go_quiet (fail)
          go_wp2_with fail
          have hu6 := Hru.out.quiet ((Keeps.refl _ _).drewN nq)
          generalize wr.drewN nq = w6 at *
          obtain ⟨d0, d1, d2, d3, d4⟩ := hu6.rat.cells
          go_quiet (fail)
          have hu7 := hu6.quiet ((Keeps.refl _ _).drewN nq)
          generalize w6.drewN nq = w7 at *
          have hT : (D.s.extract i j).toList = wordAt D.s.toList i := by rw [extract_list]; exact Hwd.out.symm
          have hlen : i + (wordAt D.s.toList i).length = j := by
            rw [Hwd.out, List.length_take, List.length_drop, size_list]; omega
          have hsz : (D.s.extract i j).size ≤ 100000 := by rw [← size_list, hT]; omega
          generalize D.s.extract i j = t at *
          obtain ⟨d0, d1, d2, d3, d4⟩ := hu7.rat.cells
          have hf := hu7.rat.unfrozen
          have hlt7 := hu7.rat.lt
          have hBw : B ≤ w7.heap.size := by have h1 := hu7.rat.hB; omega
          have hne : ¬ (Value.slice a fm.length c).ownBlock = some D.rb := fun e => (hu7.rat.ne_row e) rfl
          have hfi := Hr.out.fl
          have hii := Hr.out.hi
          obtain ⟨i0, hi0, hz0, hz1, hz2⟩ := info_parts infoInt0
          have Hu7 := Lib.hid hu7; have Hne := Lib.hid hne; have Hrow := Lib.hid hu7.rat.row
          clear hu6 hu7 hne
          by_cases hy : t.toList = [121, 101, 115]
          · have hp : pword ss (-1) D.s.toList i = some (j, [-1], false) := by
              unfold pword; rw [← hT, if_pos hy]; rw [hT] at hy; rw [hy] at hlen; simp at hlen; rw [hlen]
            have hl3 : i + 3 = j := by rw [hT] at hy; rw [hy] at hlen; simpa using hlen
            have hyb : (t.toList == [121, 101, 115]) = true := by rw [hy]; rfl
            have Hp := Lib.hid hp
            clear hp hy hT hlen
            go_wp2_with (at_builtin; refine wpList_append_lies _ rfl _ _ 27 rfl B 3 i0 (.int .i64 0) 1 8 Tryz.underlying27 hi0 hz0 hz1 hz2 rfl (by decide) (.slice a fm.length c) fm.length (fm.map (fun x => Value.int .i64 x)) (by rfl) (Hrow.out.alloc _) ⟨w7.heap.size, 0, none⟩ 1 1 [.int .i64 (-1)] (by rfl) rfl (World.news_of_block (cs := #[.int .i64 (-1)]) (t := 3) (fr := (0, 0)) (heap_alloc_new w7 _)) (by intro u hu; simp at hu; subst hu; rfl) (by omega) (by unfold maxLen; omega) (by omega) (by simp; omega) _ rfl ?_; intro g2 cap2 w8 hown hgrow hat8 hlt8; have hk8 := ((Keeps.refl (fun b => (Value.slice a fm.length c).ownBlock = some b) w7).alloc (.cells #[.int .i64 (-1)] 3)).grown hgrow (fun k e => Or.inl e); have e3 := hk8.cell d3 Hne.out; have f3 := (hk8.frozen (o := 4) hlt7 Hne.out).trans (hf 4); have Hk8 := Lib.hid hk8; have Hown := Lib.hid hown; have Hat8 := Lib.hid hat8; clear hk8 hown hat8 hgrow)
            go_ret
            exact Or.inl ⟨j, [-1], false, _, Hp.out, rfl, by rw [Bool.or_false]; exact Hu7.out.trans (QAt.push (x := -1) Hu7.out.rat Hk8.out Hown.out (hat_of Hat8.out (by simp)) (by omega))⟩
          · have hyb : (t.toList == [121, 101, 115]) = false := by rw [beq_eq_false_iff_ne]; exact hy
            by_cases hn : t.toList = [110, 111]
            · have hp : pword ss (-1) D.s.toList i = some (j, [-2], false) := by
                unfold pword; rw [← hT, if_neg hy, if_pos hn]; rw [hT] at hn; rw [hn] at hlen; simp at hlen; rw [hlen]
              have hl3 : i + 2 = j := by rw [hT] at hn; rw [hn] at hlen; simpa using hlen
              have hnb : (t.toList == [110, 111]) = true := by rw [hn]; rfl
              have Hp := Lib.hid hp
              clear hp hy hn hT hlen
              go_wp2_with (at_builtin; refine wpList_append_lies _ rfl _ _ 27 rfl B 3 i0 (.int .i64 0) 1 8 Tryz.underlying27 hi0 hz0 hz1 hz2 rfl (by decide) (.slice a fm.length c) fm.length (fm.map (fun x => Value.int .i64 x)) (by rfl) (Hrow.out.alloc _) ⟨w7.heap.size, 0, none⟩ 1 1 [.int .i64 (-2)] (by rfl) rfl (World.news_of_block (cs := #[.int .i64 (-2)]) (t := 3) (fr := (0, 0)) (heap_alloc_new w7 _)) (by intro u hu; simp at hu; subst hu; rfl) (by omega) (by unfold maxLen; omega) (by omega) (by simp; omega) _ rfl ?_; intro g2 cap2 w8 hown hgrow hat8 hlt8; have hk8 := ((Keeps.refl (fun b => (Value.slice a fm.length c).ownBlock = some b) w7).alloc (.cells #[.int .i64 (-2)] 3)).grown hgrow (fun k e => Or.inl e); have e3 := hk8.cell d3 Hne.out; have f3 := (hk8.frozen (o := 4) hlt7 Hne.out).trans (hf 4); have Hk8 := Lib.hid hk8; have Hown := Lib.hid hown; have Hat8 := Lib.hid hat8; clear hk8 hown hat8 hgrow)
              go_ret
              exact Or.inl ⟨j, [-2], false, _, Hp.out, rfl, by rw [Bool.or_false]; exact Hu7.out.trans (QAt.push (x := -2) Hu7.out.rat Hk8.out Hown.out (hat_of Hat8.out (by simp)) (by omega))⟩
            · have hnb : (t.toList == [110, 111]) = false := by rw [beq_eq_false_iff_ne]; exact hn
              have hpn : nameB t.toList = false → pword ss (-1) D.s.toList i = none := fun h => by unfold pword; rw [← hT, if_neg hy, if_neg hn, h]; rfl
              have hps : nameB t.toList = true → ∀ k, numOf ss t.toList = some k → pword ss (-1) D.s.toList i = some (j, [(k : Int)], false) := fun h k hk => by
                unfold pword; rw [← hT, if_neg hy, if_neg hn, h, hk]; dsimp only; rw [hT, hlen]; rfl
              have hpu : nameB t.toList = true → numOf ss t.toList = none → pword ss (-1) D.s.toList i = some (j, [-1], true) := fun h hk => by
                unfold pword; rw [← hT, if_neg hy, if_neg hn, h, hk]; dsimp only; rw [hT, hlen]; rfl
              have hij2 : nameB t.toList = true → i < j := fun h => by
                have h1 : 1 ≤ t.toList.length := by unfold nameB at h; simp at h; omega
                rw [hT] at h1; omega
              have hnum := nI_num ss hno t
              have hcs : ∀ wr, Keeps (fun _ => False) w7 wr → 0 < ss.length → ∃ b off, ao = some ⟨b, off, none⟩ ∧ ∀ k, k < ss.length → wr.cell? ⟨b, off + k, none⟩ = some (.string (ss.getD k ByteArray.empty)) := fun wr k h0 => by
                obtain ⟨b, off, e, hc⟩ := hss.cells h0
                exact ⟨b, off, e, fun q hq => k.cell (Hu7.out.keeps.cell (hc q hq) (hout b off e h0)) (fun e => e)⟩
              have hfit := hss.fits
              have hslen := hss.len
              have Hpn := Lib.hid hpn; have Hps := Lib.hid hps; have Hpu := Lib.hid hpu; have Hij := Lib.hid hij2; have Hnum := Lib.hid hnum; have Hcs := Lib.hid hcs; have Hfit := Lib.hid hfit
              unfold maxLen at hslen
              rw [hmo] at d0
              clear hpn hps hpu hij2 hnum hcs hfit hy hn hT hlen
              go_wp2_with fail
              go_loopw [5, 6] (fun num i wr => ∃ k : Nat, k ≤ ss.length ∧ i = .int .i64 k ∧ num = .int .i64 (nI ss t k) ∧ Keeps (fun _ => False) w7 wr) (fun _ i _ => ss.length - (intOf i).toNat)
              case atStart => exact ⟨0, Nat.zero_le _, rfl, rfl, Keeps.refl _ _⟩
              case round =>
                obtain ⟨k, hk, rfl, rfl, kp⟩ := hrel
                have d0' := kp.cell d0 (fun e => e)
                by_cases hlk : k < ss.length
                · obtain ⟨b, off, rfl, hc⟩ := Hcs.out wr kp (by omega)
                  have hck := hc k hlk
                  have hbk : b < wr.heap.size := World.block_lt_of_cell? wr _ hck
                  have hrk : D.rb < wr.heap.size := World.block_lt_of_cell? wr _ d0'
                  have hsl := Hfit.out (ss.getD k ByteArray.empty) (by simp [List.getD, hlk])
                  have hnx : nI ss t (k + 1) = if ss.getD k ByteArray.empty = t then (k : Int) else nI ss t k := rfl
                  have i1 : (k : Int) < (ss.length : Int) := by omega
                  generalize ss.getD k ByteArray.empty = nm at *
                  have Kp := Lib.hid kp
                  by_cases he : nm = t
                  · rw [if_pos he] at hnx
                    have hb1 : (nm.toList == t.toList) = true := by rw [he]; simp
                    have Hnx := Lib.hid hnx
                    clear hnx he hc kp
                    go_wp2_with fail
                    go_roundw
                    case rel => exact ⟨k + 1, by omega, by go_num, by rw [Hnx.out], Kp.out⟩
                    case measure => simp [intOf]; omega
                  · rw [if_neg he] at hnx
                    have hb1 : (nm.toList == t.toList) = false := by rw [beq_eq_false_iff_ne]; exact fun h => he (list_inj h)
                    have Hnx := Lib.hid hnx
                    clear hnx he hc kp
                    go_wp2_with fail
                    go_roundw
                    case rel => exact ⟨k + 1, by omega, by go_num, by rw [Hnx.out], Kp.out⟩
                    case measure => simp [intOf]; omega
                · obtain rfl : k = ss.length := by omega
                  rcases Hnum.out with ⟨q, hq1, hq2⟩ | ⟨hq1, hq2⟩
                  · rw [hq2]
                    have hu9 := Hu7.out.quiet kp
                    obtain ⟨e0, e1, e2, e3b, e4⟩ := hu9.rat.cells
                    have hf9 := hu9.rat.unfrozen
                    have hlt9 := hu9.rat.lt
                    have hBw9 : B ≤ wr.heap.size := by have h1 := hu9.rat.hB; omega
                    have Hrow9 := Lib.hid hu9.rat.row
                    have Hu9 := Lib.hid hu9
                    clear hu9
                    have b9 : decide ((q : Int) < 0) = false := decide_eq_false (by omega)
                    have Hq1 := Lib.hid hq1
                    clear hq1 hq2 kp
                    cases hnm : nameB t.toList with
                    | true =>
                      have Hnm := Lib.hid hnm
                      have hij3 := Hij.out hnm
                      clear hnm
                      go_wp2_with (first | (at_builtin; refine wpList_append_lies _ rfl _ _ 27 rfl B 3 i0 (.int .i64 0) 1 8 Tryz.underlying27 hi0 hz0 hz1 hz2 rfl (by decide) (.slice a fm.length c) fm.length (fm.map (fun x => Value.int .i64 x)) (by rfl) (Hrow9.out.alloc _) ⟨wr.heap.size, 0, none⟩ 1 1 [.int .i64 (q : Int)] (by rfl) rfl (World.news_of_block (cs := #[.int .i64 (q : Int)]) (t := 3) (fr := (0, 0)) (heap_alloc_new wr _)) (by intro u hu; simp at hu; subst hu; rfl) (by omega) (by unfold maxLen; omega) (by omega) (by simp; omega) _ rfl ?_; intro g2 cap2 w8 hown hgrow hat8 hlt8; have hk8 := ((Keeps.refl (fun b => (Value.slice a fm.length c).ownBlock = some b) wr).alloc (.cells #[.int .i64 (q : Int)] 3)).grown hgrow (fun k e => Or.inl e); have e3c := hk8.cell e3b Hne.out; have f3c := (hk8.frozen (o := 4) hlt9 Hne.out).trans (hf9 4); have Hk8 := Lib.hid hk8; have Hown := Lib.hid hown; have Hat8 := Lib.hid hat8; clear hk8 hown hat8 hgrow) | (go_at_call 26; refine (refName_any _ _ (by unfold maxLen; omega)).mono ?_; rintro e w' ⟨rfl, rfl⟩; rw [Hnm.out]))
                      go_ret
                      exact Or.inl ⟨j, [(q : Int)], false, _, Hps.out Hnm.out q Hq1.out, rfl, by rw [Bool.or_false]; exact Hu9.out.trans (QAt.push (x := (q : Int)) Hu9.out.rat Hk8.out Hown.out (hat_of Hat8.out (by simp)) (by omega))⟩
                    | false =>
                      have Hnm := Lib.hid hnm
                      have Hp := Lib.hid (Hpn.out hnm)
                      clear hnm
                      go_wp2_with (first | (at_builtin; refine wpList_append_lies _ rfl _ _ 27 rfl B 3 i0 (.int .i64 0) 1 8 Tryz.underlying27 hi0 hz0 hz1 hz2 rfl (by decide) (.slice a fm.length c) fm.length (fm.map (fun x => Value.int .i64 x)) (by rfl) (Hrow9.out.alloc _) ⟨wr.heap.size, 0, none⟩ 1 1 [.int .i64 (q : Int)] (by rfl) rfl (World.news_of_block (cs := #[.int .i64 (q : Int)]) (t := 3) (fr := (0, 0)) (heap_alloc_new wr _)) (by intro u hu; simp at hu; subst hu; rfl) (by omega) (by unfold maxLen; omega) (by omega) (by simp; omega) _ rfl ?_; intro g2 cap2 w8 hown hgrow hat8 hlt8; have hk8 := ((Keeps.refl (fun b => (Value.slice a fm.length c).ownBlock = some b) wr).alloc (.cells #[.int .i64 (q : Int)] 3)).grown hgrow (fun k e => Or.inl e); have e3c := hk8.cell e3b Hne.out; have f3c := (hk8.frozen (o := 4) hlt9 Hne.out).trans (hf9 4); have Hk8 := Lib.hid hk8; have Hown := Lib.hid hown; have Hat8 := Lib.hid hat8; clear hk8 hown hat8 hgrow) | (go_at_call 26; refine (refName_any _ _ (by unfold maxLen; omega)).mono ?_; rintro e w' ⟨rfl, rfl⟩; rw [Hnm.out]))
                      go_ret
                      exact Or.inr ⟨Hp.out, rfl, Hu9.out.fail (Keeps.setCell (S := qOwn D (.slice a fm.length c)) (p := ⟨D.rb, 4, none⟩) (Hk8.out.mono (fun k h => Or.inl (Or.inr h))) (Or.inl (Or.inl rfl)) _)⟩
                  · rw [hq2]
                    have hu8 := Hu7.out.quiet kp
                    have hf8 := hu8.rat.unfrozen
                    have e4b := hu8.rat.cells.2.2.2.2
                    have hu9 := hu8.trans (hu8.rat.setUnk true)
                    clear hu8
                    obtain ⟨e0, e1, e2, e3b, e4⟩ := hu9.rat.cells
                    have hf9 := hu9.rat.unfrozen
                    have hlt9 := hu9.rat.lt
                    have hBw9 : B ≤ (wr.setCell ⟨D.rb, 5, none⟩ (.bool true)).heap.size := by have h1 := hu9.rat.hB; omega
                    have Hrow9 := Lib.hid hu9.rat.row
                    have Hu9 := Lib.hid hu9
                    clear hu9
                    have hBw8 : B ≤ wr.heap.size := by simpa using hBw9
                    have Hq1 := Lib.hid hq1
                    clear hq1 hq2 kp
                    cases hnm : nameB t.toList with
                    | true =>
                      have Hnm := Lib.hid hnm
                      have hij3 := Hij.out hnm
                      clear hnm
                      go_wp2_with (first | (at_builtin; refine wpList_append_lies _ rfl _ _ 27 rfl B 3 i0 (.int .i64 0) 1 8 Tryz.underlying27 hi0 hz0 hz1 hz2 rfl (by decide) (.slice a fm.length c) fm.length (fm.map (fun x => Value.int .i64 x)) (by rfl) (Hrow9.out.alloc _) ⟨wr.heap.size, 0, none⟩ 1 1 [.int .i64 (-1)] (by rfl) rfl (World.news_of_block (cs := #[.int .i64 (-1)]) (t := 3) (fr := (0, 0)) (by have := heap_alloc_new (wr.setCell ⟨D.rb, 5, none⟩ (.bool true)) (.cells #[.int .i64 (-1)] 3); simpa using this)) (by intro u hu; simp at hu; subst hu; rfl) (by omega) (by unfold maxLen; omega) (by omega) (by simp; omega) _ rfl ?_; intro g2 cap2 w8 hown hgrow hat8 hlt8; have hk8 := ((Keeps.refl (fun b => (Value.slice a fm.length c).ownBlock = some b) (wr.setCell ⟨D.rb, 5, none⟩ (.bool true))).alloc (.cells #[.int .i64 (-1)] 3)).grown hgrow (fun k e => Or.inl e); have e3c := hk8.cell e3b Hne.out; have f3c := (hk8.frozen (o := 4) hlt9 Hne.out).trans (hf9 4); have Hk8 := Lib.hid hk8; have Hown := Lib.hid hown; have Hat8 := Lib.hid hat8; clear hk8 hown hat8 hgrow) | (go_at_call 26; refine (refName_any _ _ (by unfold maxLen; omega)).mono ?_; rintro e w' ⟨rfl, rfl⟩; rw [Hnm.out]))
                      go_ret
                      exact Or.inl ⟨j, [-1], true, _, Hpu.out Hnm.out Hq1.out, rfl, by rw [Bool.or_true]; exact Hu9.out.trans (QAt.push (x := -1) Hu9.out.rat Hk8.out Hown.out (hat_of Hat8.out (by simp)) (by omega))⟩
                    | false =>
                      have Hnm := Lib.hid hnm
                      have Hp := Lib.hid (Hpn.out hnm)
                      clear hnm
                      go_wp2_with (first | (at_builtin; refine wpList_append_lies _ rfl _ _ 27 rfl B 3 i0 (.int .i64 0) 1 8 Tryz.underlying27 hi0 hz0 hz1 hz2 rfl (by decide) (.slice a fm.length c) fm.length (fm.map (fun x => Value.int .i64 x)) (by rfl) (Hrow9.out.alloc _) ⟨wr.heap.size, 0, none⟩ 1 1 [.int .i64 (-1)] (by rfl) rfl (World.news_of_block (cs := #[.int .i64 (-1)]) (t := 3) (fr := (0, 0)) (by have := heap_alloc_new (wr.setCell ⟨D.rb, 5, none⟩ (.bool true)) (.cells #[.int .i64 (-1)] 3); simpa using this)) (by intro u hu; simp at hu; subst hu; rfl) (by omega) (by unfold maxLen; omega) (by omega) (by simp; omega) _ rfl ?_; intro g2 cap2 w8 hown hgrow hat8 hlt8; have hk8 := ((Keeps.refl (fun b => (Value.slice a fm.length c).ownBlock = some b) (wr.setCell ⟨D.rb, 5, none⟩ (.bool true))).alloc (.cells #[.int .i64 (-1)] 3)).grown hgrow (fun k e => Or.inl e); have e3c := hk8.cell e3b Hne.out; have f3c := (hk8.frozen (o := 4) hlt9 Hne.out).trans (hf9 4); have Hk8 := Lib.hid hk8; have Hown := Lib.hid hown; have Hat8 := Lib.hid hat8; clear hk8 hown hat8 hgrow) | (go_at_call 26; refine (refName_any _ _ (by unfold maxLen; omega)).mono ?_; rintro e w' ⟨rfl, rfl⟩; rw [Hnm.out]))
                      go_ret
                      exact Or.inr ⟨Hp.out, rfl, Hu9.out.fail (Keeps.setCell (S := qOwn D (.slice a fm.length c)) (p := ⟨D.rb, 4, none⟩) (Hk8.out.mono (fun k h => Or.inl (Or.inr h))) (Or.inl (Or.inl rfl)) _)⟩
      · have b1 : decide (97 ≤ ((D.s[j]).toNat : Int)) = false := decide_eq_false (by omega)
        by_cases g3 : 48 ≤ (D.s[j]).toNat
        · have b3 : decide (48 ≤ ((D.s[j]).toNat : Int)) = true := decide_eq_true (by omega)
          by_cases g4 : (D.s[j]).toNat ≤ 57
          · have b4 : decide (((D.s[j]).toNat : Int) ≤ 57) = true := decide_eq_true (by omega)
            have hW : isW (D.s[j]) = true := by unfold isW isLow isDig; simp [g3, g4]
            have Hn := Lib.hid (Hnext.out hW)
            go_wp2_with fail
            go_quiet (fail)
            go_wp2_with fail
            have hu := Hu.out nq
            go_roundw
            case rel => exact ⟨j + 1, by simpa using hu, by omega, Hn⟩
            case measure =>
              have h1 := hu.rat.cells.2.2.1
              have h2 : atQ D ((wr.drewN nq).setCell ⟨D.rb, 3, none⟩ (.int .i64 ((j : Int) + 1))) = j + 1 := by unfold atQ; rw [h1]; simp [intOf]
              have h3 := Hat.out
              simp only [h2, h3] at *
              omega
          · have b4 : decide (((D.s[j]).toNat : Int) ≤ 57) = false := decide_eq_false (by omega)
            have hW : isW (D.s[j]) = false := by unfold isW isLow isDig; simp; omega
            have Hwd := Lib.hid (Hstop.out hW)
            go_wp2_with fail
            go_quiet (fail)
            go_wp2_with fail
            have hu6 := Hru.out.quiet ((Keeps.refl _ _).drewN nq)
            generalize wr.drewN nq = w6 at *
            obtain ⟨d0, d1, d2, d3, d4⟩ := hu6.rat.cells
            go_quiet (fail)
            have hu7 := hu6.quiet ((Keeps.refl _ _).drewN nq)
            generalize w6.drewN nq = w7 at *
            have hT : (D.s.extract i j).toList = wordAt D.s.toList i := by rw [extract_list]; exact Hwd.out.symm
            have hlen : i + (wordAt D.s.toList i).length = j := by
              rw [Hwd.out, List.length_take, List.length_drop, size_list]; omega
            have hsz : (D.s.extract i j).size ≤ 100000 := by rw [← size_list, hT]; omega
            generalize D.s.extract i j = t at *
            obtain ⟨d0, d1, d2, d3, d4⟩ := hu7.rat.cells
            have hf := hu7.rat.unfrozen
            have hlt7 := hu7.rat.lt
            have hBw : B ≤ w7.heap.size := by have h1 := hu7.rat.hB; omega
            have hne : ¬ (Value.slice a fm.length c).ownBlock = some D.rb := fun e => (hu7.rat.ne_row e) rfl
            have hfi := Hr.out.fl
            have hii := Hr.out.hi
            obtain ⟨i0, hi0, hz0, hz1, hz2⟩ := info_parts infoInt0
            have Hu7 := Lib.hid hu7; have Hne := Lib.hid hne; have Hrow := Lib.hid hu7.rat.row
            clear hu6 hu7 hne
            by_cases hy : t.toList = [121, 101, 115]
            · have hp : pword ss (-1) D.s.toList i = some (j, [-1], false) := by
                unfold pword; rw [← hT, if_pos hy]; rw [hT] at hy; rw [hy] at hlen; simp at hlen; rw [hlen]
              have hl3 : i + 3 = j := by rw [hT] at hy; rw [hy] at hlen; simpa using hlen
              have hyb : (t.toList == [121, 101, 115]) = true := by rw [hy]; rfl
              have Hp := Lib.hid hp
              clear hp hy hT hlen
              go_wp2_with (at_builtin; refine wpList_append_lies _ rfl _ _ 27 rfl B 3 i0 (.int .i64 0) 1 8 Tryz.underlying27 hi0 hz0 hz1 hz2 rfl (by decide) (.slice a fm.length c) fm.length (fm.map (fun x => Value.int .i64 x)) (by rfl) (Hrow.out.alloc _) ⟨w7.heap.size, 0, none⟩ 1 1 [.int .i64 (-1)] (by rfl) rfl (World.news_of_block (cs := #[.int .i64 (-1)]) (t := 3) (fr := (0, 0)) (heap_alloc_new w7 _)) (by intro u hu; simp at hu; subst hu; rfl) (by omega) (by unfold maxLen; omega) (by omega) (by simp; omega) _ rfl ?_; intro g2 cap2 w8 hown hgrow hat8 hlt8; have hk8 := ((Keeps.refl (fun b => (Value.slice a fm.length c).ownBlock = some b) w7).alloc (.cells #[.int .i64 (-1)] 3)).grown hgrow (fun k e => Or.inl e); have e3 := hk8.cell d3 Hne.out; have f3 := (hk8.frozen (o := 4) hlt7 Hne.out).trans (hf 4); have Hk8 := Lib.hid hk8; have Hown := Lib.hid hown; have Hat8 := Lib.hid hat8; clear hk8 hown hat8 hgrow)
              go_ret
              exact Or.inl ⟨j, [-1], false, _, Hp.out, rfl, by rw [Bool.or_false]; exact Hu7.out.trans (QAt.push (x := -1) Hu7.out.rat Hk8.out Hown.out (hat_of Hat8.out (by simp)) (by omega))⟩
            · have hyb : (t.toList == [121, 101, 115]) = false := by rw [beq_eq_false_iff_ne]; exact hy
              by_cases hn : t.toList = [110, 111]
              · have hp : pword ss (-1) D.s.toList i = some (j, [-2], false) := by
                  unfold pword; rw [← hT, if_neg hy, if_pos hn]; rw [hT] at hn; rw [hn] at hlen; simp at hlen; rw [hlen]
                have hl3 : i + 2 = j := by rw [hT] at hn; rw [hn] at hlen; simpa using hlen
                have hnb : (t.toList == [110, 111]) = true := by rw [hn]; rfl
                have Hp := Lib.hid hp
                clear hp hy hn hT hlen
                go_wp2_with (at_builtin; refine wpList_append_lies _ rfl _ _ 27 rfl B 3 i0 (.int .i64 0) 1 8 Tryz.underlying27 hi0 hz0 hz1 hz2 rfl (by decide) (.slice a fm.length c) fm.length (fm.map (fun x => Value.int .i64 x)) (by rfl) (Hrow.out.alloc _) ⟨w7.heap.size, 0, none⟩ 1 1 [.int .i64 (-2)] (by rfl) rfl (World.news_of_block (cs := #[.int .i64 (-2)]) (t := 3) (fr := (0, 0)) (heap_alloc_new w7 _)) (by intro u hu; simp at hu; subst hu; rfl) (by omega) (by unfold maxLen; omega) (by omega) (by simp; omega) _ rfl ?_; intro g2 cap2 w8 hown hgrow hat8 hlt8; have hk8 := ((Keeps.refl (fun b => (Value.slice a fm.length c).ownBlock = some b) w7).alloc (.cells #[.int .i64 (-2)] 3)).grown hgrow (fun k e => Or.inl e); have e3 := hk8.cell d3 Hne.out; have f3 := (hk8.frozen (o := 4) hlt7 Hne.out).trans (hf 4); have Hk8 := Lib.hid hk8; have Hown := Lib.hid hown; have Hat8 := Lib.hid hat8; clear hk8 hown hat8 hgrow)
                go_ret
                exact Or.inl ⟨j, [-2], false, _, Hp.out, rfl, by rw [Bool.or_false]; exact Hu7.out.trans (QAt.push (x := -2) Hu7.out.rat Hk8.out Hown.out (hat_of Hat8.out (by simp)) (by omega))⟩
              · have hnb : (t.toList == [110, 111]) = false := by rw [beq_eq_false_iff_ne]; exact hn
                have hpn : nameB t.toList = false → pword ss (-1) D.s.toList i = none := fun h => by unfold pword; rw [← hT, if_neg hy, if_neg hn, h]; rfl
                have hps : nameB t.toList = true → ∀ k, numOf ss t.toList = some k → pword ss (-1) D.s.toList i = some (j, [(k : Int)], false) := fun h k hk => by
                  unfold pword; rw [← hT, if_neg hy, if_neg hn, h, hk]; dsimp only; rw [hT, hlen]; rfl
                have hpu : nameB t.toList = true → numOf ss t.toList = none → pword ss (-1) D.s.toList i = some (j, [-1], true) := fun h hk => by
                  unfold pword; rw [← hT, if_neg hy, if_neg hn, h, hk]; dsimp only; rw [hT, hlen]; rfl
                have hij2 : nameB t.toList = true → i < j := fun h => by
                  have h1 : 1 ≤ t.toList.length := by unfold nameB at h; simp at h; omega
                  rw [hT] at h1; omega
                have hnum := nI_num ss hno t
                have hcs : ∀ wr, Keeps (fun _ => False) w7 wr → 0 < ss.length → ∃ b off, ao = some ⟨b, off, none⟩ ∧ ∀ k, k < ss.length → wr.cell? ⟨b, off + k, none⟩ = some (.string (ss.getD k ByteArray.empty)) := fun wr k h0 => by
                  obtain ⟨b, off, e, hc⟩ := hss.cells h0
                  exact ⟨b, off, e, fun q hq => k.cell (Hu7.out.keeps.cell (hc q hq) (hout b off e h0)) (fun e => e)⟩
                have hfit := hss.fits
                have hslen := hss.len
                have Hpn := Lib.hid hpn; have Hps := Lib.hid hps; have Hpu := Lib.hid hpu; have Hij := Lib.hid hij2; have Hnum := Lib.hid hnum; have Hcs := Lib.hid hcs; have Hfit := Lib.hid hfit
                unfold maxLen at hslen
                rw [hmo] at d0
                clear hpn hps hpu hij2 hnum hcs hfit hy hn hT hlen
                go_wp2_with fail
                go_loopw [5, 6] (fun num i wr => ∃ k : Nat, k ≤ ss.length ∧ i = .int .i64 k ∧ num = .int .i64 (nI ss t k) ∧ Keeps (fun _ => False) w7 wr) (fun _ i _ => ss.length - (intOf i).toNat)
                case atStart => exact ⟨0, Nat.zero_le _, rfl, rfl, Keeps.refl _ _⟩
                case round =>
                  obtain ⟨k, hk, rfl, rfl, kp⟩ := hrel
                  have d0' := kp.cell d0 (fun e => e)
                  by_cases hlk : k < ss.length
                  · obtain ⟨b, off, rfl, hc⟩ := Hcs.out wr kp (by omega)
                    have hck := hc k hlk
                    have hbk : b < wr.heap.size := World.block_lt_of_cell? wr _ hck
                    have hrk : D.rb < wr.heap.size := World.block_lt_of_cell? wr _ d0'
                    have hsl := Hfit.out (ss.getD k ByteArray.empty) (by simp [List.getD, hlk])
                    have hnx : nI ss t (k + 1) = if ss.getD k ByteArray.empty = t then (k : Int) else nI ss t k := rfl
                    have i1 : (k : Int) < (ss.length : Int) := by omega
                    generalize ss.getD k ByteArray.empty = nm at *
                    have Kp := Lib.hid kp
                    by_cases he : nm = t
                    · rw [if_pos he] at hnx
                      have hb1 : (nm.toList == t.toList) = true := by rw [he]; simp
                      have Hnx := Lib.hid hnx
                      clear hnx he hc kp
                      go_wp2_with fail
                      go_roundw
                      case rel => exact ⟨k + 1, by omega, by go_num, by rw [Hnx.out], Kp.out⟩
                      case measure => simp [intOf]; omega
                    · rw [if_neg he] at hnx
                      have hb1 : (nm.toList == t.toList) = false := by rw [beq_eq_false_iff_ne]; exact fun h => he (list_inj h)
                      have Hnx := Lib.hid hnx
                      clear hnx he hc kp
                      go_wp2_with fail
                      go_roundw
                      case rel => exact ⟨k + 1, by omega, by go_num, by rw [Hnx.out], Kp.out⟩
                      case measure => simp [intOf]; omega
                  · obtain rfl : k = ss.length := by omega
                    rcases Hnum.out with ⟨q, hq1, hq2⟩ | ⟨hq1, hq2⟩
                    · rw [hq2]
                      have hu9 := Hu7.out.quiet kp
                      obtain ⟨e0, e1, e2, e3b, e4⟩ := hu9.rat.cells
                      have hf9 := hu9.rat.unfrozen
                      have hlt9 := hu9.rat.lt
                      have hBw9 : B ≤ wr.heap.size := by have h1 := hu9.rat.hB; omega
                      have Hrow9 := Lib.hid hu9.rat.row
                      have Hu9 := Lib.hid hu9
                      clear hu9
                      have b9 : decide ((q : Int) < 0) = false := decide_eq_false (by omega)
                      have Hq1 := Lib.hid hq1
                      clear hq1 hq2 kp
                      cases hnm : nameB t.toList with
                      | true =>
                        have Hnm := Lib.hid hnm
                        have hij3 := Hij.out hnm
                        clear hnm
                        go_wp2_with (first | (at_builtin; refine wpList_append_lies _ rfl _ _ 27 rfl B 3 i0 (.int .i64 0) 1 8 Tryz.underlying27 hi0 hz0 hz1 hz2 rfl (by decide) (.slice a fm.length c) fm.length (fm.map (fun x => Value.int .i64 x)) (by rfl) (Hrow9.out.alloc _) ⟨wr.heap.size, 0, none⟩ 1 1 [.int .i64 (q : Int)] (by rfl) rfl (World.news_of_block (cs := #[.int .i64 (q : Int)]) (t := 3) (fr := (0, 0)) (heap_alloc_new wr _)) (by intro u hu; simp at hu; subst hu; rfl) (by omega) (by unfold maxLen; omega) (by omega) (by simp; omega) _ rfl ?_; intro g2 cap2 w8 hown hgrow hat8 hlt8; have hk8 := ((Keeps.refl (fun b => (Value.slice a fm.length c).ownBlock = some b) wr).alloc (.cells #[.int .i64 (q : Int)] 3)).grown hgrow (fun k e => Or.inl e); have e3c := hk8.cell e3b Hne.out; have f3c := (hk8.frozen (o := 4) hlt9 Hne.out).trans (hf9 4); have Hk8 := Lib.hid hk8; have Hown := Lib.hid hown; have Hat8 := Lib.hid hat8; clear hk8 hown hat8 hgrow) | (go_at_call 26; refine (refName_any _ _ (by unfold maxLen; omega)).mono ?_; rintro e w' ⟨rfl, rfl⟩; rw [Hnm.out]))
                        go_ret
                        exact Or.inl ⟨j, [(q : Int)], false, _, Hps.out Hnm.out q Hq1.out, rfl, by rw [Bool.or_false]; exact Hu9.out.trans (QAt.push (x := (q : Int)) Hu9.out.rat Hk8.out Hown.out (hat_of Hat8.out (by simp)) (by omega))⟩
                      | false =>
                        have Hnm := Lib.hid hnm
                        have Hp := Lib.hid (Hpn.out hnm)
                        clear hnm
                        go_wp2_with (first | (at_builtin; refine wpList_append_lies _ rfl _ _ 27 rfl B 3 i0 (.int .i64 0) 1 8 Tryz.underlying27 hi0 hz0 hz1 hz2 rfl (by decide) (.slice a fm.length c) fm.length (fm.map (fun x => Value.int .i64 x)) (by rfl) (Hrow9.out.alloc _) ⟨wr.heap.size, 0, none⟩ 1 1 [.int .i64 (q : Int)] (by rfl) rfl (World.news_of_block (cs := #[.int .i64 (q : Int)]) (t := 3) (fr := (0, 0)) (heap_alloc_new wr _)) (by intro u hu; simp at hu; subst hu; rfl) (by omega) (by unfold maxLen; omega) (by omega) (by simp; omega) _ rfl ?_; intro g2 cap2 w8 hown hgrow hat8 hlt8; have hk8 := ((Keeps.refl (fun b => (Value.slice a fm.length c).ownBlock = some b) wr).alloc (.cells #[.int .i64 (q : Int)] 3)).grown hgrow (fun k e => Or.inl e); have e3c := hk8.cell e3b Hne.out; have f3c := (hk8.frozen (o := 4) hlt9 Hne.out).trans (hf9 4); have Hk8 := Lib.hid hk8; have Hown := Lib.hid hown; have Hat8 := Lib.hid hat8; clear hk8 hown hat8 hgrow) | (go_at_call 26; refine (refName_any _ _ (by unfold maxLen; omega)).mono ?_; rintro e w' ⟨rfl, rfl⟩; rw [Hnm.out]))
                        go_ret
                        exact Or.inr ⟨Hp.out, rfl, Hu9.out.fail (Keeps.setCell (S := qOwn D (.slice a fm.length c)) (p := ⟨D.rb, 4, none⟩) (Hk8.out.mono (fun k h => Or.inl (Or.inr h))) (Or.inl (Or.inl rfl)) _)⟩
                    · rw [hq2]
                      have hu8 := Hu7.out.quiet kp
                      have hf8 := hu8.rat.unfrozen
                      have e4b := hu8.rat.cells.2.2.2.2
                      have hu9 := hu8.trans (hu8.rat.setUnk true)
                      clear hu8
                      obtain ⟨e0, e1, e2, e3b, e4⟩ := hu9.rat.cells
                      have hf9 := hu9.rat.unfrozen
                      have hlt9 := hu9.rat.lt
                      have hBw9 : B ≤ (wr.setCell ⟨D.rb, 5, none⟩ (.bool true)).heap.size := by have h1 := hu9.rat.hB; omega
                      have Hrow9 := Lib.hid hu9.rat.row
                      have Hu9 := Lib.hid hu9
                      clear hu9
                      have hBw8 : B ≤ wr.heap.size := by simpa using hBw9
                      have Hq1 := Lib.hid hq1
                      clear hq1 hq2 kp
                      cases hnm : nameB t.toList with
                      | true =>
                        have Hnm := Lib.hid hnm
                        have hij3 := Hij.out hnm
                        clear hnm
                        go_wp2_with (first | (at_builtin; refine wpList_append_lies _ rfl _ _ 27 rfl B 3 i0 (.int .i64 0) 1 8 Tryz.underlying27 hi0 hz0 hz1 hz2 rfl (by decide) (.slice a fm.length c) fm.length (fm.map (fun x => Value.int .i64 x)) (by rfl) (Hrow9.out.alloc _) ⟨wr.heap.size, 0, none⟩ 1 1 [.int .i64 (-1)] (by rfl) rfl (World.news_of_block (cs := #[.int .i64 (-1)]) (t := 3) (fr := (0, 0)) (by have := heap_alloc_new (wr.setCell ⟨D.rb, 5, none⟩ (.bool true)) (.cells #[.int .i64 (-1)] 3); simpa using this)) (by intro u hu; simp at hu; subst hu; rfl) (by omega) (by unfold maxLen; omega) (by omega) (by simp; omega) _ rfl ?_; intro g2 cap2 w8 hown hgrow hat8 hlt8; have hk8 := ((Keeps.refl (fun b => (Value.slice a fm.length c).ownBlock = some b) (wr.setCell ⟨D.rb, 5, none⟩ (.bool true))).alloc (.cells #[.int .i64 (-1)] 3)).grown hgrow (fun k e => Or.inl e); have e3c := hk8.cell e3b Hne.out; have f3c := (hk8.frozen (o := 4) hlt9 Hne.out).trans (hf9 4); have Hk8 := Lib.hid hk8; have Hown := Lib.hid hown; have Hat8 := Lib.hid hat8; clear hk8 hown hat8 hgrow) | (go_at_call 26; refine (refName_any _ _ (by unfold maxLen; omega)).mono ?_; rintro e w' ⟨rfl, rfl⟩; rw [Hnm.out]))
                        go_ret
                        exact Or.inl ⟨j, [-1], true, _, Hpu.out Hnm.out Hq1.out, rfl, by rw [Bool.or_true]; exact Hu9.out.trans (QAt.push (x := -1) Hu9.out.rat Hk8.out Hown.out (hat_of Hat8.out (by simp)) (by omega))⟩
                      | false =>
                        have Hnm := Lib.hid hnm
                        have Hp := Lib.hid (Hpn.out hnm)
                        clear hnm
                        go_wp2_with (first | (at_builtin; refine wpList_append_lies _ rfl _ _ 27 rfl B 3 i0 (.int .i64 0) 1 8 Tryz.underlying27 hi0 hz0 hz1 hz2 rfl (by decide) (.slice a fm.length c) fm.length (fm.map (fun x => Value.int .i64 x)) (by rfl) (Hrow9.out.alloc _) ⟨wr.heap.size, 0, none⟩ 1 1 [.int .i64 (-1)] (by rfl) rfl (World.news_of_block (cs := #[.int .i64 (-1)]) (t := 3) (fr := (0, 0)) (by have := heap_alloc_new (wr.setCell ⟨D.rb, 5, none⟩ (.bool true)) (.cells #[.int .i64 (-1)] 3); simpa using this)) (by intro u hu; simp at hu; subst hu; rfl) (by omega) (by unfold maxLen; omega) (by omega) (by simp; omega) _ rfl ?_; intro g2 cap2 w8 hown hgrow hat8 hlt8; have hk8 := ((Keeps.refl (fun b => (Value.slice a fm.length c).ownBlock = some b) (wr.setCell ⟨D.rb, 5, none⟩ (.bool true))).alloc (.cells #[.int .i64 (-1)] 3)).grown hgrow (fun k e => Or.inl e); have e3c := hk8.cell e3b Hne.out; have f3c := (hk8.frozen (o := 4) hlt9 Hne.out).trans (hf9 4); have Hk8 := Lib.hid hk8; have Hown := Lib.hid hown; have Hat8 := Lib.hid hat8; clear hk8 hown hat8 hgrow) | (go_at_call 26; refine (refName_any _ _ (by unfold maxLen; omega)).mono ?_; rintro e w' ⟨rfl, rfl⟩; rw [Hnm.out]))
                        go_ret
                        exact Or.inr ⟨Hp.out, rfl, Hu9.out.fail (Keeps.setCell (S := qOwn D (.slice a fm.length c)) (p := ⟨D.rb, 4, none⟩) (Hk8.out.mono (fun k h => Or.inl (Or.inr h))) (Or.inl (Or.inl rfl)) _)⟩
        · have b3 : decide (48 ≤ ((D.s[j]).toNat : Int)) = false := decide_eq_false (by omega)
          have hW : isW (D.s[j]) = false := by unfold isW isLow isDig; simp; omega
          have Hwd := Lib.hid (Hstop.out hW)
          go_wp2_with fail
          go_quiet (fail)
          go_wp2_with fail
          have hu6 := Hru.out.quiet ((Keeps.refl _ _).drewN nq)
          generalize wr.drewN nq = w6 at *
          obtain ⟨d0, d1, d2, d3, d4⟩ := hu6.rat.cells
          go_quiet (fail)
          have hu7 := hu6.quiet ((Keeps.refl _ _).drewN nq)
          generalize w6.drewN nq = w7 at *
          have hT : (D.s.extract i j).toList = wordAt D.s.toList i := by rw [extract_list]; exact Hwd.out.symm
          have hlen : i + (wordAt D.s.toList i).length = j := by
            rw [Hwd.out, List.length_take, List.length_drop, size_list]; omega
          have hsz : (D.s.extract i j).size ≤ 100000 := by rw [← size_list, hT]; omega
          generalize D.s.extract i j = t at *
          obtain ⟨d0, d1, d2, d3, d4⟩ := hu7.rat.cells
          have hf := hu7.rat.unfrozen
          have hlt7 := hu7.rat.lt
          have hBw : B ≤ w7.heap.size := by have h1 := hu7.rat.hB; omega
          have hne : ¬ (Value.slice a fm.length c).ownBlock = some D.rb := fun e => (hu7.rat.ne_row e) rfl
          have hfi := Hr.out.fl
          have hii := Hr.out.hi
          obtain ⟨i0, hi0, hz0, hz1, hz2⟩ := info_parts infoInt0
          have Hu7 := Lib.hid hu7; have Hne := Lib.hid hne; have Hrow := Lib.hid hu7.rat.row
          clear hu6 hu7 hne
          by_cases hy : t.toList = [121, 101, 115]
          · have hp : pword ss (-1) D.s.toList i = some (j, [-1], false) := by
              unfold pword; rw [← hT, if_pos hy]; rw [hT] at hy; rw [hy] at hlen; simp at hlen; rw [hlen]
            have hl3 : i + 3 = j := by rw [hT] at hy; rw [hy] at hlen; simpa using hlen
            have hyb : (t.toList == [121, 101, 115]) = true := by rw [hy]; rfl
            have Hp := Lib.hid hp
            clear hp hy hT hlen
            go_wp2_with (at_builtin; refine wpList_append_lies _ rfl _ _ 27 rfl B 3 i0 (.int .i64 0) 1 8 Tryz.underlying27 hi0 hz0 hz1 hz2 rfl (by decide) (.slice a fm.length c) fm.length (fm.map (fun x => Value.int .i64 x)) (by rfl) (Hrow.out.alloc _) ⟨w7.heap.size, 0, none⟩ 1 1 [.int .i64 (-1)] (by rfl) rfl (World.news_of_block (cs := #[.int .i64 (-1)]) (t := 3) (fr := (0, 0)) (heap_alloc_new w7 _)) (by intro u hu; simp at hu; subst hu; rfl) (by omega) (by unfold maxLen; omega) (by omega) (by simp; omega) _ rfl ?_; intro g2 cap2 w8 hown hgrow hat8 hlt8; have hk8 := ((Keeps.refl (fun b => (Value.slice a fm.length c).ownBlock = some b) w7).alloc (.cells #[.int .i64 (-1)] 3)).grown hgrow (fun k e => Or.inl e); have e3 := hk8.cell d3 Hne.out; have f3 := (hk8.frozen (o := 4) hlt7 Hne.out).trans (hf 4); have Hk8 := Lib.hid hk8; have Hown := Lib.hid hown; have Hat8 := Lib.hid hat8; clear hk8 hown hat8 hgrow)
            go_ret
            exact Or.inl ⟨j, [-1], false, _, Hp.out, rfl, by rw [Bool.or_false]; exact Hu7.out.trans (QAt.push (x := -1) Hu7.out.rat Hk8.out Hown.out (hat_of Hat8.out (by simp)) (by omega))⟩
          · have hyb : (t.toList == [121, 101, 115]) = false := by rw [beq_eq_false_iff_ne]; exact hy
            by_cases hn : t.toList = [110, 111]
            · have hp : pword ss (-1) D.s.toList i = some (j, [-2], false) := by
                unfold pword; rw [← hT, if_neg hy, if_pos hn]; rw [hT] at hn; rw [hn] at hlen; simp at hlen; rw [hlen]
              have hl3 : i + 2 = j := by rw [hT] at hn; rw [hn] at hlen; simpa using hlen
              have hnb : (t.toList == [110, 111]) = true := by rw [hn]; rfl
              have Hp := Lib.hid hp
              clear hp hy hn hT hlen
              go_wp2_with (at_builtin; refine wpList_append_lies _ rfl _ _ 27 rfl B 3 i0 (.int .i64 0) 1 8 Tryz.underlying27 hi0 hz0 hz1 hz2 rfl (by decide) (.slice a fm.length c) fm.length (fm.map (fun x => Value.int .i64 x)) (by rfl) (Hrow.out.alloc _) ⟨w7.heap.size, 0, none⟩ 1 1 [.int .i64 (-2)] (by rfl) rfl (World.news_of_block (cs := #[.int .i64 (-2)]) (t := 3) (fr := (0, 0)) (heap_alloc_new w7 _)) (by intro u hu; simp at hu; subst hu; rfl) (by omega) (by unfold maxLen; omega) (by omega) (by simp; omega) _ rfl ?_; intro g2 cap2 w8 hown hgrow hat8 hlt8; have hk8 := ((Keeps.refl (fun b => (Value.slice a fm.length c).ownBlock = some b) w7).alloc (.cells #[.int .i64 (-2)] 3)).grown hgrow (fun k e => Or.inl e); have e3 := hk8.cell d3 Hne.out; have f3 := (hk8.frozen (o := 4) hlt7 Hne.out).trans (hf 4); have Hk8 := Lib.hid hk8; have Hown := Lib.hid hown; have Hat8 := Lib.hid hat8; clear hk8 hown hat8 hgrow)
              go_ret
              exact Or.inl ⟨j, [-2], false, _, Hp.out, rfl, by rw [Bool.or_false]; exact Hu7.out.trans (QAt.push (x := -2) Hu7.out.rat Hk8.out Hown.out (hat_of Hat8.out (by simp)) (by omega))⟩
            · have hnb : (t.toList == [110, 111]) = false := by rw [beq_eq_false_iff_ne]; exact hn
              have hpn : nameB t.toList = false → pword ss (-1) D.s.toList i = none := fun h => by unfold pword; rw [← hT, if_neg hy, if_neg hn, h]; rfl
              have hps : nameB t.toList = true → ∀ k, numOf ss t.toList = some k → pword ss (-1) D.s.toList i = some (j, [(k : Int)], false) := fun h k hk => by
                unfold pword; rw [← hT, if_neg hy, if_neg hn, h, hk]; dsimp only; rw [hT, hlen]; rfl
              have hpu : nameB t.toList = true → numOf ss t.toList = none → pword ss (-1) D.s.toList i = some (j, [-1], true) := fun h hk => by
                unfold pword; rw [← hT, if_neg hy, if_neg hn, h, hk]; dsimp only; rw [hT, hlen]; rfl
              have hij2 : nameB t.toList = true → i < j := fun h => by
                have h1 : 1 ≤ t.toList.length := by unfold nameB at h; simp at h; omega
                rw [hT] at h1; omega
              have hnum := nI_num ss hno t
              have hcs : ∀ wr, Keeps (fun _ => False) w7 wr → 0 < ss.length → ∃ b off, ao = some ⟨b, off, none⟩ ∧ ∀ k, k < ss.length → wr.cell? ⟨b, off + k, none⟩ = some (.string (ss.getD k ByteArray.empty)) := fun wr k h0 => by
                obtain ⟨b, off, e, hc⟩ := hss.cells h0
                exact ⟨b, off, e, fun q hq => k.cell (Hu7.out.keeps.cell (hc q hq) (hout b off e h0)) (fun e => e)⟩
              have hfit := hss.fits
              have hslen := hss.len
              have Hpn := Lib.hid hpn; have Hps := Lib.hid hps; have Hpu := Lib.hid hpu; have Hij := Lib.hid hij2; have Hnum := Lib.hid hnum; have Hcs := Lib.hid hcs; have Hfit := Lib.hid hfit
              unfold maxLen at hslen
              rw [hmo] at d0
              clear hpn hps hpu hij2 hnum hcs hfit hy hn hT hlen
              go_wp2_with fail
              go_loopw [5, 6] (fun num i wr => ∃ k : Nat, k ≤ ss.length ∧ i = .int .i64 k ∧ num = .int .i64 (nI ss t k) ∧ Keeps (fun _ => False) w7 wr) (fun _ i _ => ss.length - (intOf i).toNat)
              case atStart => exact ⟨0, Nat.zero_le _, rfl, rfl, Keeps.refl _ _⟩
              case round =>
                obtain ⟨k, hk, rfl, rfl, kp⟩ := hrel
                have d0' := kp.cell d0 (fun e => e)
                by_cases hlk : k < ss.length
                · obtain ⟨b, off, rfl, hc⟩ := Hcs.out wr kp (by omega)
                  have hck := hc k hlk
                  have hbk : b < wr.heap.size := World.block_lt_of_cell? wr _ hck
                  have hrk : D.rb < wr.heap.size := World.block_lt_of_cell? wr _ d0'
                  have hsl := Hfit.out (ss.getD k ByteArray.empty) (by simp [List.getD, hlk])
                  have hnx : nI ss t (k + 1) = if ss.getD k ByteArray.empty = t then (k : Int) else nI ss t k := rfl
                  have i1 : (k : Int) < (ss.length : Int) := by omega
                  generalize ss.getD k ByteArray.empty = nm at *
                  have Kp := Lib.hid kp
                  by_cases he : nm = t
                  · rw [if_pos he] at hnx
                    have hb1 : (nm.toList == t.toList) = true := by rw [he]; simp
                    have Hnx := Lib.hid hnx
                    clear hnx he hc kp
                    go_wp2_with fail
                    go_roundw
                    case rel => exact ⟨k + 1, by omega, by go_num, by rw [Hnx.out], Kp.out⟩
                    case measure => simp [intOf]; omega
                  · rw [if_neg he] at hnx
                    have hb1 : (nm.toList == t.toList) = false := by rw [beq_eq_false_iff_ne]; exact fun h => he (list_inj h)
                    have Hnx := Lib.hid hnx
                    clear hnx he hc kp
                    go_wp2_with fail
                    go_roundw
                    case rel => exact ⟨k + 1, by omega, by go_num, by rw [Hnx.out], Kp.out⟩
                    case measure => simp [intOf]; omega
                · obtain rfl : k = ss.length := by omega
                  rcases Hnum.out with ⟨q, hq1, hq2⟩ | ⟨hq1, hq2⟩
                  · rw [hq2]
                    have hu9 := Hu7.out.quiet kp
                    obtain ⟨e0, e1, e2, e3b, e4⟩ := hu9.rat.cells
                    have hf9 := hu9.rat.unfrozen
                    have hlt9 := hu9.rat.lt
                    have hBw9 : B ≤ wr.heap.size := by have h1 := hu9.rat.hB; omega
                    have Hrow9 := Lib.hid hu9.rat.row
                    have Hu9 := Lib.hid hu9
                    clear hu9
                    have b9 : decide ((q : Int) < 0) = false := decide_eq_false (by omega)
                    have Hq1 := Lib.hid hq1
                    clear hq1 hq2 kp
                    cases hnm : nameB t.toList with
                    | true =>
                      have Hnm := Lib.hid hnm
                      have hij3 := Hij.out hnm
                      clear hnm
                      go_wp2_with (first | (at_builtin; refine wpList_append_lies _ rfl _ _ 27 rfl B 3 i0 (.int .i64 0) 1 8 Tryz.underlying27 hi0 hz0 hz1 hz2 rfl (by decide) (.slice a fm.length c) fm.length (fm.map (fun x => Value.int .i64 x)) (by rfl) (Hrow9.out.alloc _) ⟨wr.heap.size, 0, none⟩ 1 1 [.int .i64 (q : Int)] (by rfl) rfl (World.news_of_block (cs := #[.int .i64 (q : Int)]) (t := 3) (fr := (0, 0)) (heap_alloc_new wr _)) (by intro u hu; simp at hu; subst hu; rfl) (by omega) (by unfold maxLen; omega) (by omega) (by simp; omega) _ rfl ?_; intro g2 cap2 w8 hown hgrow hat8 hlt8; have hk8 := ((Keeps.refl (fun b => (Value.slice a fm.length c).ownBlock = some b) wr).alloc (.cells #[.int .i64 (q : Int)] 3)).grown hgrow (fun k e => Or.inl e); have e3c := hk8.cell e3b Hne.out; have f3c := (hk8.frozen (o := 4) hlt9 Hne.out).trans (hf9 4); have Hk8 := Lib.hid hk8; have Hown := Lib.hid hown; have Hat8 := Lib.hid hat8; clear hk8 hown hat8 hgrow) | (go_at_call 26; refine (refName_any _ _ (by unfold maxLen; omega)).mono ?_; rintro e w' ⟨rfl, rfl⟩; rw [Hnm.out]))
                      go_ret
                      exact Or.inl ⟨j, [(q : Int)], false, _, Hps.out Hnm.out q Hq1.out, rfl, by rw [Bool.or_false]; exact Hu9.out.trans (QAt.push (x := (q : Int)) Hu9.out.rat Hk8.out Hown.out (hat_of Hat8.out (by simp)) (by omega))⟩
                    | false =>
                      have Hnm := Lib.hid hnm
                      have Hp := Lib.hid (Hpn.out hnm)
                      clear hnm
                      go_wp2_with (first | (at_builtin; refine wpList_append_lies _ rfl _ _ 27 rfl B 3 i0 (.int .i64 0) 1 8 Tryz.underlying27 hi0 hz0 hz1 hz2 rfl (by decide) (.slice a fm.length c) fm.length (fm.map (fun x => Value.int .i64 x)) (by rfl) (Hrow9.out.alloc _) ⟨wr.heap.size, 0, none⟩ 1 1 [.int .i64 (q : Int)] (by rfl) rfl (World.news_of_block (cs := #[.int .i64 (q : Int)]) (t := 3) (fr := (0, 0)) (heap_alloc_new wr _)) (by intro u hu; simp at hu; subst hu; rfl) (by omega) (by unfold maxLen; omega) (by omega) (by simp; omega) _ rfl ?_; intro g2 cap2 w8 hown hgrow hat8 hlt8; have hk8 := ((Keeps.refl (fun b => (Value.slice a fm.length c).ownBlock = some b) wr).alloc (.cells #[.int .i64 (q : Int)] 3)).grown hgrow (fun k e => Or.inl e); have e3c := hk8.cell e3b Hne.out; have f3c := (hk8.frozen (o := 4) hlt9 Hne.out).trans (hf9 4); have Hk8 := Lib.hid hk8; have Hown := Lib.hid hown; have Hat8 := Lib.hid hat8; clear hk8 hown hat8 hgrow) | (go_at_call 26; refine (refName_any _ _ (by unfold maxLen; omega)).mono ?_; rintro e w' ⟨rfl, rfl⟩; rw [Hnm.out]))
                      go_ret
                      exact Or.inr ⟨Hp.out, rfl, Hu9.out.fail (Keeps.setCell (S := qOwn D (.slice a fm.length c)) (p := ⟨D.rb, 4, none⟩) (Hk8.out.mono (fun k h => Or.inl (Or.inr h))) (Or.inl (Or.inl rfl)) _)⟩
                  · rw [hq2]
                    have hu8 := Hu7.out.quiet kp
                    have hf8 := hu8.rat.unfrozen
                    have e4b := hu8.rat.cells.2.2.2.2
                    have hu9 := hu8.trans (hu8.rat.setUnk true)
                    clear hu8
                    obtain ⟨e0, e1, e2, e3b, e4⟩ := hu9.rat.cells
                    have hf9 := hu9.rat.unfrozen
                    have hlt9 := hu9.rat.lt
                    have hBw9 : B ≤ (wr.setCell ⟨D.rb, 5, none⟩ (.bool true)).heap.size := by have h1 := hu9.rat.hB; omega
                    have Hrow9 := Lib.hid hu9.rat.row
                    have Hu9 := Lib.hid hu9
                    clear hu9
                    have hBw8 : B ≤ wr.heap.size := by simpa using hBw9
                    have Hq1 := Lib.hid hq1
                    clear hq1 hq2 kp
                    cases hnm : nameB t.toList with
                    | true =>
                      have Hnm := Lib.hid hnm
                      have hij3 := Hij.out hnm
                      clear hnm
                      go_wp2_with (first | (at_builtin; refine wpList_append_lies _ rfl _ _ 27 rfl B 3 i0 (.int .i64 0) 1 8 Tryz.underlying27 hi0 hz0 hz1 hz2 rfl (by decide) (.slice a fm.length c) fm.length (fm.map (fun x => Value.int .i64 x)) (by rfl) (Hrow9.out.alloc _) ⟨wr.heap.size, 0, none⟩ 1 1 [.int .i64 (-1)] (by rfl) rfl (World.news_of_block (cs := #[.int .i64 (-1)]) (t := 3) (fr := (0, 0)) (by have := heap_alloc_new (wr.setCell ⟨D.rb, 5, none⟩ (.bool true)) (.cells #[.int .i64 (-1)] 3); simpa using this)) (by intro u hu; simp at hu; subst hu; rfl) (by omega) (by unfold maxLen; omega) (by omega) (by simp; omega) _ rfl ?_; intro g2 cap2 w8 hown hgrow hat8 hlt8; have hk8 := ((Keeps.refl (fun b => (Value.slice a fm.length c).ownBlock = some b) (wr.setCell ⟨D.rb, 5, none⟩ (.bool true))).alloc (.cells #[.int .i64 (-1)] 3)).grown hgrow (fun k e => Or.inl e); have e3c := hk8.cell e3b Hne.out; have f3c := (hk8.frozen (o := 4) hlt9 Hne.out).trans (hf9 4); have Hk8 := Lib.hid hk8; have Hown := Lib.hid hown; have Hat8 := Lib.hid hat8; clear hk8 hown hat8 hgrow) | (go_at_call 26; refine (refName_any _ _ (by unfold maxLen; omega)).mono ?_; rintro e w' ⟨rfl, rfl⟩; rw [Hnm.out]))
                      go_ret
                      exact Or.inl ⟨j, [-1], true, _, Hpu.out Hnm.out Hq1.out, rfl, by rw [Bool.or_true]; exact Hu9.out.trans (QAt.push (x := -1) Hu9.out.rat Hk8.out Hown.out (hat_of Hat8.out (by simp)) (by omega))⟩
                    | false =>
                      have Hnm := Lib.hid hnm
                      have Hp := Lib.hid (Hpn.out hnm)
                      clear hnm
                      go_wp2_with (first | (at_builtin; refine wpList_append_lies _ rfl _ _ 27 rfl B 3 i0 (.int .i64 0) 1 8 Tryz.underlying27 hi0 hz0 hz1 hz2 rfl (by decide) (.slice a fm.length c) fm.length (fm.map (fun x => Value.int .i64 x)) (by rfl) (Hrow9.out.alloc _) ⟨wr.heap.size, 0, none⟩ 1 1 [.int .i64 (-1)] (by rfl) rfl (World.news_of_block (cs := #[.int .i64 (-1)]) (t := 3) (fr := (0, 0)) (by have := heap_alloc_new (wr.setCell ⟨D.rb, 5, none⟩ (.bool true)) (.cells #[.int .i64 (-1)] 3); simpa using this)) (by intro u hu; simp at hu; subst hu; rfl) (by omega) (by unfold maxLen; omega) (by omega) (by simp; omega) _ rfl ?_; intro g2 cap2 w8 hown hgrow hat8 hlt8; have hk8 := ((Keeps.refl (fun b => (Value.slice a fm.length c).ownBlock = some b) (wr.setCell ⟨D.rb, 5, none⟩ (.bool true))).alloc (.cells #[.int .i64 (-1)] 3)).grown hgrow (fun k e => Or.inl e); have e3c := hk8.cell e3b Hne.out; have f3c := (hk8.frozen (o := 4) hlt9 Hne.out).trans (hf9 4); have Hk8 := Lib.hid hk8; have Hown := Lib.hid hown; have Hat8 := Lib.hid hat8; clear hk8 hown hat8 hgrow) | (go_at_call 26; refine (refName_any _ _ (by unfold maxLen; omega)).mono ?_; rintro e w' ⟨rfl, rfl⟩; rw [Hnm.out]))
                      go_ret
                      exact Or.inr ⟨Hp.out, rfl, Hu9.out.fail (Keeps.setCell (S := qOwn D (.slice a fm.length c)) (p := ⟨D.rb, 4, none⟩) (Hk8.out.mono (fun k h => Or.inl (Or.inr h))) (Or.inl (Or.inl rfl)) _)⟩
    · have hje : j = D.s.size := by omega
      have hwd := wordAt_eq D.s.toList j (by rw [size_list]; exact hj) (Or.inl (by rw [size_list]; exact hje)) (j - i) i rfl hij hw.out
      have b1 : decide ((j : Int) < (D.s.size : Int)) = false := decide_eq_false (by omega)
      have b2 : D.s.size ≤ j := by omega
      have b3 : (D.s.size : Int) ≤ (j : Int) := by omega
      have Hwd := Lib.hid hwd; have Hru := Lib.hid ru
      clear hwd hw hat ru hje
      go_wp2_with fail
      go_quiet (fail)
      go_wp2_with fail
      have hu6 := Hru.out.quiet ((Keeps.refl _ _).drewN nq)
      generalize wr.drewN nq = w6 at *
      obtain ⟨d0, d1, d2, d3, d4⟩ := hu6.rat.cells
      go_quiet (fail)
      have hu7 := hu6.quiet ((Keeps.refl _ _).drewN nq)
      generalize w6.drewN nq = w7 at *
      have hT : (D.s.extract i j).toList = wordAt D.s.toList i := by rw [extract_list]; exact Hwd.out.symm
      have hlen : i + (wordAt D.s.toList i).length = j := by
        rw [Hwd.out, List.length_take, List.length_drop, size_list]; omega
      have hsz : (D.s.extract i j).size ≤ 100000 := by rw [← size_list, hT]; omega
      generalize D.s.extract i j = t at *
      obtain ⟨d0, d1, d2, d3, d4⟩ := hu7.rat.cells
      have hf := hu7.rat.unfrozen
      have hlt7 := hu7.rat.lt
      have hBw : B ≤ w7.heap.size := by have h1 := hu7.rat.hB; omega
      have hne : ¬ (Value.slice a fm.length c).ownBlock = some D.rb := fun e => (hu7.rat.ne_row e) rfl
      have hfi := Hr.out.fl
      have hii := Hr.out.hi
      obtain ⟨i0, hi0, hz0, hz1, hz2⟩ := info_parts infoInt0
      have Hu7 := Lib.hid hu7; have Hne := Lib.hid hne; have Hrow := Lib.hid hu7.rat.row
      clear hu6 hu7 hne
      by_cases hy : t.toList = [121, 101, 115]
      · have hp : pword ss (-1) D.s.toList i = some (j, [-1], false) := by
          unfold pword; rw [← hT, if_pos hy]; rw [hT] at hy; rw [hy] at hlen; simp at hlen; rw [hlen]
        have hl3 : i + 3 = j := by rw [hT] at hy; rw [hy] at hlen; simpa using hlen
        have hyb : (t.toList == [121, 101, 115]) = true := by rw [hy]; rfl
        have Hp := Lib.hid hp
        clear hp hy hT hlen
        go_wp2_with (at_builtin; refine wpList_append_lies _ rfl _ _ 27 rfl B 3 i0 (.int .i64 0) 1 8 Tryz.underlying27 hi0 hz0 hz1 hz2 rfl (by decide) (.slice a fm.length c) fm.length (fm.map (fun x => Value.int .i64 x)) (by rfl) (Hrow.out.alloc _) ⟨w7.heap.size, 0, none⟩ 1 1 [.int .i64 (-1)] (by rfl) rfl (World.news_of_block (cs := #[.int .i64 (-1)]) (t := 3) (fr := (0, 0)) (heap_alloc_new w7 _)) (by intro u hu; simp at hu; subst hu; rfl) (by omega) (by unfold maxLen; omega) (by omega) (by simp; omega) _ rfl ?_; intro g2 cap2 w8 hown hgrow hat8 hlt8; have hk8 := ((Keeps.refl (fun b => (Value.slice a fm.length c).ownBlock = some b) w7).alloc (.cells #[.int .i64 (-1)] 3)).grown hgrow (fun k e => Or.inl e); have e3 := hk8.cell d3 Hne.out; have f3 := (hk8.frozen (o := 4) hlt7 Hne.out).trans (hf 4); have Hk8 := Lib.hid hk8; have Hown := Lib.hid hown; have Hat8 := Lib.hid hat8; clear hk8 hown hat8 hgrow)
        go_ret
        exact Or.inl ⟨j, [-1], false, _, Hp.out, rfl, by rw [Bool.or_false]; exact Hu7.out.trans (QAt.push (x := -1) Hu7.out.rat Hk8.out Hown.out (hat_of Hat8.out (by simp)) (by omega))⟩
      · have hyb : (t.toList == [121, 101, 115]) = false := by rw [beq_eq_false_iff_ne]; exact hy
        by_cases hn : t.toList = [110, 111]
        · have hp : pword ss (-1) D.s.toList i = some (j, [-2], false) := by
            unfold pword; rw [← hT, if_neg hy, if_pos hn]; rw [hT] at hn; rw [hn] at hlen; simp at hlen; rw [hlen]
          have hl3 : i + 2 = j := by rw [hT] at hn; rw [hn] at hlen; simpa using hlen
          have hnb : (t.toList == [110, 111]) = true := by rw [hn]; rfl
          have Hp := Lib.hid hp
          clear hp hy hn hT hlen
          go_wp2_with (at_builtin; refine wpList_append_lies _ rfl _ _ 27 rfl B 3 i0 (.int .i64 0) 1 8 Tryz.underlying27 hi0 hz0 hz1 hz2 rfl (by decide) (.slice a fm.length c) fm.length (fm.map (fun x => Value.int .i64 x)) (by rfl) (Hrow.out.alloc _) ⟨w7.heap.size, 0, none⟩ 1 1 [.int .i64 (-2)] (by rfl) rfl (World.news_of_block (cs := #[.int .i64 (-2)]) (t := 3) (fr := (0, 0)) (heap_alloc_new w7 _)) (by intro u hu; simp at hu; subst hu; rfl) (by omega) (by unfold maxLen; omega) (by omega) (by simp; omega) _ rfl ?_; intro g2 cap2 w8 hown hgrow hat8 hlt8; have hk8 := ((Keeps.refl (fun b => (Value.slice a fm.length c).ownBlock = some b) w7).alloc (.cells #[.int .i64 (-2)] 3)).grown hgrow (fun k e => Or.inl e); have e3 := hk8.cell d3 Hne.out; have f3 := (hk8.frozen (o := 4) hlt7 Hne.out).trans (hf 4); have Hk8 := Lib.hid hk8; have Hown := Lib.hid hown; have Hat8 := Lib.hid hat8; clear hk8 hown hat8 hgrow)
          go_ret
          exact Or.inl ⟨j, [-2], false, _, Hp.out, rfl, by rw [Bool.or_false]; exact Hu7.out.trans (QAt.push (x := -2) Hu7.out.rat Hk8.out Hown.out (hat_of Hat8.out (by simp)) (by omega))⟩
        · have hnb : (t.toList == [110, 111]) = false := by rw [beq_eq_false_iff_ne]; exact hn
          have hpn : nameB t.toList = false → pword ss (-1) D.s.toList i = none := fun h => by unfold pword; rw [← hT, if_neg hy, if_neg hn, h]; rfl
          have hps : nameB t.toList = true → ∀ k, numOf ss t.toList = some k → pword ss (-1) D.s.toList i = some (j, [(k : Int)], false) := fun h k hk => by
            unfold pword; rw [← hT, if_neg hy, if_neg hn, h, hk]; dsimp only; rw [hT, hlen]; rfl
          have hpu : nameB t.toList = true → numOf ss t.toList = none → pword ss (-1) D.s.toList i = some (j, [-1], true) := fun h hk => by
            unfold pword; rw [← hT, if_neg hy, if_neg hn, h, hk]; dsimp only; rw [hT, hlen]; rfl
          have hij2 : nameB t.toList = true → i < j := fun h => by
            have h1 : 1 ≤ t.toList.length := by unfold nameB at h; simp at h; omega
            rw [hT] at h1; omega
          have hnum := nI_num ss hno t
          have hcs : ∀ wr, Keeps (fun _ => False) w7 wr → 0 < ss.length → ∃ b off, ao = some ⟨b, off, none⟩ ∧ ∀ k, k < ss.length → wr.cell? ⟨b, off + k, none⟩ = some (.string (ss.getD k ByteArray.empty)) := fun wr k h0 => by
            obtain ⟨b, off, e, hc⟩ := hss.cells h0
            exact ⟨b, off, e, fun q hq => k.cell (Hu7.out.keeps.cell (hc q hq) (hout b off e h0)) (fun e => e)⟩
          have hfit := hss.fits
          have hslen := hss.len
          have Hpn := Lib.hid hpn; have Hps := Lib.hid hps; have Hpu := Lib.hid hpu; have Hij := Lib.hid hij2; have Hnum := Lib.hid hnum; have Hcs := Lib.hid hcs; have Hfit := Lib.hid hfit
          unfold maxLen at hslen
          rw [hmo] at d0
          clear hpn hps hpu hij2 hnum hcs hfit hy hn hT hlen
          go_wp2_with fail
          go_loopw [5, 6] (fun num i wr => ∃ k : Nat, k ≤ ss.length ∧ i = .int .i64 k ∧ num = .int .i64 (nI ss t k) ∧ Keeps (fun _ => False) w7 wr) (fun _ i _ => ss.length - (intOf i).toNat)
          case atStart => exact ⟨0, Nat.zero_le _, rfl, rfl, Keeps.refl _ _⟩
          case round =>
            obtain ⟨k, hk, rfl, rfl, kp⟩ := hrel
            have d0' := kp.cell d0 (fun e => e)
            by_cases hlk : k < ss.length
            · obtain ⟨b, off, rfl, hc⟩ := Hcs.out wr kp (by omega)
              have hck := hc k hlk
              have hbk : b < wr.heap.size := World.block_lt_of_cell? wr _ hck
              have hrk : D.rb < wr.heap.size := World.block_lt_of_cell? wr _ d0'
              have hsl := Hfit.out (ss.getD k ByteArray.empty) (by simp [List.getD, hlk])
              have hnx : nI ss t (k + 1) = if ss.getD k ByteArray.empty = t then (k : Int) else nI ss t k := rfl
              have i1 : (k : Int) < (ss.length : Int) := by omega
              generalize ss.getD k ByteArray.empty = nm at *
              have Kp := Lib.hid kp
              by_cases he : nm = t
              · rw [if_pos he] at hnx
                have hb1 : (nm.toList == t.toList) = true := by rw [he]; simp
                have Hnx := Lib.hid hnx
                clear hnx he hc kp
                go_wp2_with fail
                go_roundw
                case rel => exact ⟨k + 1, by omega, by go_num, by rw [Hnx.out], Kp.out⟩
                case measure => simp [intOf]; omega
              · rw [if_neg he] at hnx
                have hb1 : (nm.toList == t.toList) = false := by rw [beq_eq_false_iff_ne]; exact fun h => he (list_inj h)
                have Hnx := Lib.hid hnx
                clear hnx he hc kp
                go_wp2_with fail
                go_roundw
                case rel => exact ⟨k + 1, by omega, by go_num, by rw [Hnx.out], Kp.out⟩
                case measure => simp [intOf]; omega
            · obtain rfl : k = ss.length := by omega
              rcases Hnum.out with ⟨q, hq1, hq2⟩ | ⟨hq1, hq2⟩
              · rw [hq2]
                have hu9 := Hu7.out.quiet kp
                obtain ⟨e0, e1, e2, e3b, e4⟩ := hu9.rat.cells
                have hf9 := hu9.rat.unfrozen
                have hlt9 := hu9.rat.lt
                have hBw9 : B ≤ wr.heap.size := by have h1 := hu9.rat.hB; omega
                have Hrow9 := Lib.hid hu9.rat.row
                have Hu9 := Lib.hid hu9
                clear hu9
                have b9 : decide ((q : Int) < 0) = false := decide_eq_false (by omega)
                have Hq1 := Lib.hid hq1
                clear hq1 hq2 kp
                cases hnm : nameB t.toList with
                | true =>
                  have Hnm := Lib.hid hnm
                  have hij3 := Hij.out hnm
                  clear hnm
                  go_wp2_with (first | (at_builtin; refine wpList_append_lies _ rfl _ _ 27 rfl B 3 i0 (.int .i64 0) 1 8 Tryz.underlying27 hi0 hz0 hz1 hz2 rfl (by decide) (.slice a fm.length c) fm.length (fm.map (fun x => Value.int .i64 x)) (by rfl) (Hrow9.out.alloc _) ⟨wr.heap.size, 0, none⟩ 1 1 [.int .i64 (q : Int)] (by rfl) rfl (World.news_of_block (cs := #[.int .i64 (q : Int)]) (t := 3) (fr := (0, 0)) (heap_alloc_new wr _)) (by intro u hu; simp at hu; subst hu; rfl) (by omega) (by unfold maxLen; omega) (by omega) (by simp; omega) _ rfl ?_; intro g2 cap2 w8 hown hgrow hat8 hlt8; have hk8 := ((Keeps.refl (fun b => (Value.slice a fm.length c).ownBlock = some b) wr).alloc (.cells #[.int .i64 (q : Int)] 3)).grown hgrow (fun k e => Or.inl e); have e3c := hk8.cell e3b Hne.out; have f3c := (hk8.frozen (o := 4) hlt9 Hne.out).trans (hf9 4); have Hk8 := Lib.hid hk8; have Hown := Lib.hid hown; have Hat8 := Lib.hid hat8; clear hk8 hown hat8 hgrow) | (go_at_call 26; refine (refName_any _ _ (by unfold maxLen; omega)).mono ?_; rintro e w' ⟨rfl, rfl⟩; rw [Hnm.out]))
                  go_ret
                  exact Or.inl ⟨j, [(q : Int)], false, _, Hps.out Hnm.out q Hq1.out, rfl, by rw [Bool.or_false]; exact Hu9.out.trans (QAt.push (x := (q : Int)) Hu9.out.rat Hk8.out Hown.out (hat_of Hat8.out (by simp)) (by omega))⟩
                | false =>
                  have Hnm := Lib.hid hnm
                  have Hp := Lib.hid (Hpn.out hnm)
                  clear hnm
                  go_wp2_with (first | (at_builtin; refine wpList_append_lies _ rfl _ _ 27 rfl B 3 i0 (.int .i64 0) 1 8 Tryz.underlying27 hi0 hz0 hz1 hz2 rfl (by decide) (.slice a fm.length c) fm.length (fm.map (fun x => Value.int .i64 x)) (by rfl) (Hrow9.out.alloc _) ⟨wr.heap.size, 0, none⟩ 1 1 [.int .i64 (q : Int)] (by rfl) rfl (World.news_of_block (cs := #[.int .i64 (q : Int)]) (t := 3) (fr := (0, 0)) (heap_alloc_new wr _)) (by intro u hu; simp at hu; subst hu; rfl) (by omega) (by unfold maxLen; omega) (by omega) (by simp; omega) _ rfl ?_; intro g2 cap2 w8 hown hgrow hat8 hlt8; have hk8 := ((Keeps.refl (fun b => (Value.slice a fm.length c).ownBlock = some b) wr).alloc (.cells #[.int .i64 (q : Int)] 3)).grown hgrow (fun k e => Or.inl e); have e3c := hk8.cell e3b Hne.out; have f3c := (hk8.frozen (o := 4) hlt9 Hne.out).trans (hf9 4); have Hk8 := Lib.hid hk8; have Hown := Lib.hid hown; have Hat8 := Lib.hid hat8; clear hk8 hown hat8 hgrow) | (go_at_call 26; refine (refName_any _ _ (by unfold maxLen; omega)).mono ?_; rintro e w' ⟨rfl, rfl⟩; rw [Hnm.out]))
                  go_ret
                  exact Or.inr ⟨Hp.out, rfl, Hu9.out.fail (Keeps.setCell (S := qOwn D (.slice a fm.length c)) (p := ⟨D.rb, 4, none⟩) (Hk8.out.mono (fun k h => Or.inl (Or.inr h))) (Or.inl (Or.inl rfl)) _)⟩
              · rw [hq2]
                have hu8 := Hu7.out.quiet kp
                have hf8 := hu8.rat.unfrozen
                have e4b := hu8.rat.cells.2.2.2.2
                have hu9 := hu8.trans (hu8.rat.setUnk true)
                clear hu8
                obtain ⟨e0, e1, e2, e3b, e4⟩ := hu9.rat.cells
                have hf9 := hu9.rat.unfrozen
                have hlt9 := hu9.rat.lt
                have hBw9 : B ≤ (wr.setCell ⟨D.rb, 5, none⟩ (.bool true)).heap.size := by have h1 := hu9.rat.hB; omega
                have Hrow9 := Lib.hid hu9.rat.row
                have Hu9 := Lib.hid hu9
                clear hu9
                have hBw8 : B ≤ wr.heap.size := by simpa using hBw9
                have Hq1 := Lib.hid hq1
                clear hq1 hq2 kp
                cases hnm : nameB t.toList with
                | true =>
                  have Hnm := Lib.hid hnm
                  have hij3 := Hij.out hnm
                  clear hnm
                  go_wp2_with (first | (at_builtin; refine wpList_append_lies _ rfl _ _ 27 rfl B 3 i0 (.int .i64 0) 1 8 Tryz.underlying27 hi0 hz0 hz1 hz2 rfl (by decide) (.slice a fm.length c) fm.length (fm.map (fun x => Value.int .i64 x)) (by rfl) (Hrow9.out.alloc _) ⟨wr.heap.size, 0, none⟩ 1 1 [.int .i64 (-1)] (by rfl) rfl (World.news_of_block (cs := #[.int .i64 (-1)]) (t := 3) (fr := (0, 0)) (by have := heap_alloc_new (wr.setCell ⟨D.rb, 5, none⟩ (.bool true)) (.cells #[.int .i64 (-1)] 3); simpa using this)) (by intro u hu; simp at hu; subst hu; rfl) (by omega) (by unfold maxLen; omega) (by omega) (by simp; omega) _ rfl ?_; intro g2 cap2 w8 hown hgrow hat8 hlt8; have hk8 := ((Keeps.refl (fun b => (Value.slice a fm.length c).ownBlock = some b) (wr.setCell ⟨D.rb, 5, none⟩ (.bool true))).alloc (.cells #[.int .i64 (-1)] 3)).grown hgrow (fun k e => Or.inl e); have e3c := hk8.cell e3b Hne.out; have f3c := (hk8.frozen (o := 4) hlt9 Hne.out).trans (hf9 4); have Hk8 := Lib.hid hk8; have Hown := Lib.hid hown; have Hat8 := Lib.hid hat8; clear hk8 hown hat8 hgrow) | (go_at_call 26; refine (refName_any _ _ (by unfold maxLen; omega)).mono ?_; rintro e w' ⟨rfl, rfl⟩; rw [Hnm.out]))
                  go_ret
                  exact Or.inl ⟨j, [-1], true, _, Hpu.out Hnm.out Hq1.out, rfl, by rw [Bool.or_true]; exact Hu9.out.trans (QAt.push (x := -1) Hu9.out.rat Hk8.out Hown.out (hat_of Hat8.out (by simp)) (by omega))⟩
                | false =>
                  have Hnm := Lib.hid hnm
                  have Hp := Lib.hid (Hpn.out hnm)
                  clear hnm
                  go_wp2_with (first | (at_builtin; refine wpList_append_lies _ rfl _ _ 27 rfl B 3 i0 (.int .i64 0) 1 8 Tryz.underlying27 hi0 hz0 hz1 hz2 rfl (by decide) (.slice a fm.length c) fm.length (fm.map (fun x => Value.int .i64 x)) (by rfl) (Hrow9.out.alloc _) ⟨wr.heap.size, 0, none⟩ 1 1 [.int .i64 (-1)] (by rfl) rfl (World.news_of_block (cs := #[.int .i64 (-1)]) (t := 3) (fr := (0, 0)) (by have := heap_alloc_new (wr.setCell ⟨D.rb, 5, none⟩ (.bool true)) (.cells #[.int .i64 (-1)] 3); simpa using this)) (by intro u hu; simp at hu; subst hu; rfl) (by omega) (by unfold maxLen; omega) (by omega) (by simp; omega) _ rfl ?_; intro g2 cap2 w8 hown hgrow hat8 hlt8; have hk8 := ((Keeps.refl (fun b => (Value.slice a fm.length c).ownBlock = some b) (wr.setCell ⟨D.rb, 5, none⟩ (.bool true))).alloc (.cells #[.int .i64 (-1)] 3)).grown hgrow (fun k e => Or.inl e); have e3c := hk8.cell e3b Hne.out; have f3c := (hk8.frozen (o := 4) hlt9 Hne.out).trans (hf9 4); have Hk8 := Lib.hid hk8; have Hown := Lib.hid hown; have Hat8 := Lib.hid hat8; clear hk8 hown hat8 hgrow) | (go_at_call 26; refine (refName_any _ _ (by unfold maxLen; omega)).mono ?_; rintro e w' ⟨rfl, rfl⟩; rw [Hnm.out]))
                  go_ret
                  exact Or.inr ⟨Hp.out, rfl, Hu9.out.fail (Keeps.setCell (S := qOwn D (.slice a fm.length c)) (p := ⟨D.rb, 4, none⟩) (Hk8.out.mono (fun k h => Or.inl (Or.inr h))) (Or.inl (Or.inl rfl)) _)⟩
end Go.Proofs.YtngjjmniigkeoaaGreatDoor
