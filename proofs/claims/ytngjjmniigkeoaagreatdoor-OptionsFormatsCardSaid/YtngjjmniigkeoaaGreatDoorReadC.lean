/- The reader of a text: next, expect, operator. The reader of a text: expect, operator, append. The reader of a text: word. -/
import Derived.Test.YtngjjmniigkeoaaGreatDoorPar
import Derived.WalkLawsBesides
namespace Go.Proofs.YtngjjmniigkeoaaGreatDoor
open Go Go.RowKit Go.WideMaps Go.Maps
set_option linter.unusedSimpArgs false
set_option linter.unusedVariables false

/-- What of a reader does not change: where it lies, its map, its text. -/
structure RD where
  rb : Nat
  mb : Nat
  n : Nat
  s : ByteArray
  F : Value → Option Value

/-- A reader, as far as it has read. -/
structure RAt (B : Nat) (D : RD) (W : World) (i : Nat) (v : Value) (fm : List Int) (u : Bool) : Prop where
  hB : B ≤ D.rb
  blk : W.heap[D.rb]? = some (.cells #[.string D.s, .int .i64 i, .map (some D.mb), v, .bool u] 66 (0, 0))
  row : W.ownsRow B 3 1 v fm.length (fm.map (fun x => Value.int .i64 x))
  map : MapV W Tryz.prog 9 D.mb D.n D.F
  hi : i ≤ D.s.size
  sz : D.s.size ≤ 100000
  fl : fm.length ≤ i

theorem RAt.cells {B : Nat} {D : RD} {W : World} {i : Nat} {v : Value} {fm : List Int} {u : Bool} (r : RAt B D W i v fm u) :
    W.cell? ⟨D.rb, 0, none⟩ = some (.string D.s) ∧ W.cell? ⟨D.rb, 1, none⟩ = some (.int .i64 i) ∧ W.cell? ⟨D.rb, 2, none⟩ = some (.map (some D.mb)) ∧ W.cell? ⟨D.rb, 3, none⟩ = some v ∧ W.cell? ⟨D.rb, 4, none⟩ = some (.bool u) := by
  have h0 := r.blk
  refine ⟨?_, ?_, ?_, ?_, ?_⟩ <;> rw [cell_of_row W D.rb _ _ _ (0, 0) h0] <;> rfl
theorem RAt.unfrozen {B : Nat} {D : RD} {W : World} {i : Nat} {v : Value} {fm : List Int} {u : Bool} (r : RAt B D W i v fm u) (o : Nat) : W.frozen? ⟨D.rb, o, none⟩ = false := by
  have h0 := r.blk
  simp [World.frozen?, h0]
theorem RAt.lt {B : Nat} {D : RD} {W : World} {i : Nat} {v : Value} {fm : List Int} {u : Bool} (r : RAt B D W i v fm u) : D.rb < W.heap.size := (Array.getElem?_eq_some_iff.1 r.blk).1
theorem RAt.ne_map {B : Nat} {D : RD} {W : World} {i : Nat} {v : Value} {fm : List Int} {u : Bool} (r : RAt B D W i v fm u) : D.mb ≠ D.rb := by
  intro e
  obtain ⟨M, ⟨es, clock, h0, _⟩, _⟩ := r.map
  rw [e, r.blk] at h0; cases h0
theorem RAt.ne_row {B : Nat} {D : RD} {W : World} {i : Nat} {v : Value} {fm : List Int} {u : Bool} (r : RAt B D W i v fm u) {b : Nat} (hb : v.ownBlock = some b) : b ≠ D.rb ∧ b ≠ D.mb := by
  rcases r.row.2 with ⟨e, _⟩ | ⟨g, cap, cur, e, h1, hg, rest⟩
  · rw [e] at hb; simp [Value.ownBlock] at hb
  · rw [e] at hb
    simp [Value.ownBlock] at hb
    subst hb
    refine ⟨fun e2 => ?_, fun e2 => ?_⟩
    · rw [e2, r.blk] at hg; cases hg
    · obtain ⟨M, ⟨es, clock, h0, _⟩, _⟩ := r.map
      rw [← e2, hg] at h0; cases h0

def rOwn (D : RD) (v : Value) (b : Nat) : Prop := b = D.rb ∨ v.ownBlock = some b

/-- What a call leaves of it. -/
structure RUpd (B : Nat) (D : RD) (W : World) (v : Value) (W' : World) (i : Nat) (v' : Value) (fm : List Int) (u : Bool) : Prop where
  rat : RAt B D W' i v' fm u
  keeps : Keeps (rOwn D v) W W'
  own : ∀ b, v'.ownBlock = some b → v.ownBlock = some b ∨ W.heap.size ≤ b
theorem RUpd.refl {B : Nat} {D : RD} {W : World} {i : Nat} {v : Value} {fm : List Int} {u : Bool} (r : RAt B D W i v fm u) : RUpd B D W v W i v fm u := ⟨r, Keeps.refl _ _, fun b h => Or.inl h⟩
theorem RUpd.trans {B : Nat} {D : RD} {W W' W'' : World} {i i' : Nat} {v v' v'' : Value} {fm fm' : List Int} {u u' : Bool} (r : RUpd B D W v W' i v' fm u) (r' : RUpd B D W' v' W'' i' v'' fm' u') : RUpd B D W v W'' i' v'' fm' u' :=
  ⟨r'.rat, r.keeps.trans r'.keeps (fun k hk => by
    rcases hk with h | h
    · exact Or.inl (Or.inl h)
    · rcases r.own k h with h | h
      · exact Or.inl (Or.inr h)
      · exact Or.inr h), fun b hb => by
    rcases r'.own b hb with h | h
    · exact r.own b h
    · exact Or.inr (Nat.le_trans r.keeps.size h)⟩
theorem RUpd.fail {B : Nat} {D : RD} {W W' W'' : World} {i : Nat} {v v' : Value} {fm : List Int} {u : Bool} (r : RUpd B D W v W' i v' fm u) (k : Keeps (rOwn D v') W' W'') : Keeps (rOwn D v) W W'' :=
  r.keeps.trans k (fun k hk => by
    rcases hk with h | h
    · exact Or.inl (Or.inl h)
    · rcases r.own k h with h | h
      · exact Or.inl (Or.inr h)
      · exact Or.inr h)

/-- Nothing of it is written. -/
theorem RAt.quiet {B : Nat} {D : RD} {W W' : World} {i : Nat} {v : Value} {fm : List Int} {u : Bool} (r : RAt B D W i v fm u) (k : Keeps (fun _ => False) W W') : RAt B D W' i v fm u :=
  ⟨r.hB, (k.block _ r.lt (fun e => e)).trans r.blk, ownsRow_of_block r.row (fun b hb => k.block b (r.row.lt b hb).2 (fun e => e)), r.map.kept (k.block _ r.map.lt (fun e => e)), r.hi, r.sz, r.fl⟩
theorem RUpd.quiet {B : Nat} {D : RD} {W W' W'' : World} {i : Nat} {v v' : Value} {fm : List Int} {u : Bool} (r : RUpd B D W v W' i v' fm u) (k : Keeps (fun _ => False) W' W'') : RUpd B D W v W'' i v' fm u :=
  ⟨r.rat.quiet k, r.keeps.trans k (fun _ e => e.elim), r.own⟩

theorem RAt.setAt {B : Nat} {D : RD} {W : World} {i : Nat} {v : Value} {fm : List Int} {u : Bool} (r : RAt B D W i v fm u) (j : Nat) (hj : j ≤ D.s.size) (hf : fm.length ≤ j) : RUpd B D W v (W.setCell ⟨D.rb, 1, none⟩ (.int .i64 j)) j v fm u := by
  have hkeep : ∀ k, k ≠ D.rb → (W.setCell ⟨D.rb, 1, none⟩ (.int .i64 j)).heap[k]? = W.heap[k]? := fun k hk => Below.heap_setCell _ _ _ _ hk
  refine ⟨⟨r.hB, ?_, ownsRow_of_block r.row (fun b hb => hkeep b (r.ne_row hb).1), r.map.kept (hkeep _ r.ne_map), hj, r.sz, hf⟩, (Keeps.refl _ _).setCell (Or.inl (Or.inl rfl)) _, fun b h => Or.inl h⟩
  have h0 := r.blk
  simp [World.setCell, Array.getElem?_modify, h0]
theorem RAt.setUnk {B : Nat} {D : RD} {W : World} {i : Nat} {v : Value} {fm : List Int} {u : Bool} (r : RAt B D W i v fm u) (x : Bool) : RUpd B D W v (W.setCell ⟨D.rb, 4, none⟩ (.bool x)) i v fm x := by
  have hkeep : ∀ k, k ≠ D.rb → (W.setCell ⟨D.rb, 4, none⟩ (.bool x)).heap[k]? = W.heap[k]? := fun k hk => Below.heap_setCell _ _ _ _ hk
  refine ⟨⟨r.hB, ?_, ownsRow_of_block r.row (fun b hb => hkeep b (r.ne_row hb).1), r.map.kept (hkeep _ r.ne_map), r.hi, r.sz, r.fl⟩, (Keeps.refl _ _).setCell (Or.inl (Or.inl rfl)) _, fun b h => Or.inl h⟩
  have h0 := r.blk
  simp [World.setCell, Array.getElem?_modify, h0]

/-- The panic of a text that has not the form. -/
def mis : PanicEntry := { v := .iface 96 (.agg #[]), recovered := false }

def NextEnd (B : Nat) (D : RD) (W : World) (i : Nat) (v : Value) (fm : List Int) (u : Bool) (e : Ending) (W' : World) : Prop :=
  (i < D.s.size ∧ e = .returned (.int .u8 ((D.s.toList.getD i 0).toNat : Int)) ∧ RUpd B D W v W' (i + 1) v fm u) ∨ (i = D.s.size ∧ e = .panicked [mis] ∧ Keeps (rOwn D v) W W')

set_option maxHeartbeats 1600000 in
theorem rdNext_any (B : Nat) (D : RD) (W : World) (i : Nat) (v : Value) (fm : List Int) (u : Bool) (r : RAt B D W i v fm u) :
    Calls Tryz.prog 80 #[.pointer (some ⟨D.rb, 0, none⟩)] W (NextEnd B D W i v fm u) := by
  obtain ⟨c0, c1, c2, c3, c4⟩ := r.cells
  have hf := r.unfrozen
  have hi := r.hi
  have hz := r.sz
  by_cases he : i = D.s.size
  · have hq : ((i : Int) == (D.s.size : Int)) = true := by rw [he]; simp
    have Hr := Lib.hid r
    clear r
    go_enter Tryz.func80, Tryz.ntmps80
    go_wp2_with fail
    go_quiet (fail)
    go_wp2_with fail
    exact ⟨rfl, Or.inr ⟨rfl, rfl, (Keeps.refl _ _).drewN _⟩⟩
  · have hq : ((i : Int) == (D.s.size : Int)) = false := by rw [beq_eq_false_iff_ne]; omega
    have hb := byte_at D.s i (by omega)
    have hu : ∀ q, RUpd B D W v ((W.drewN q).setCell ⟨D.rb, 1, none⟩ (.int .i64 ((i : Int) + 1))) (i + 1) v fm u := fun q => by
      have k0 : Keeps (fun _ => False) W (W.drewN q) := (Keeps.refl _ _).drewN q
      have := ((RUpd.refl r).quiet k0).trans ((r.quiet k0).setAt (i + 1) (by omega) (by have := r.fl; omega))
      simpa using this
    have Hu := Lib.hid hu; have Hb := Lib.hid hb
    clear r hu hb
    go_enter Tryz.func80, Tryz.ntmps80
    go_wp2_with fail
    go_quiet (fail)
    go_wp2_with fail
    have hu := Hu.out nq
    obtain ⟨d0, d1, d2, d3, d4⟩ := hu.rat.cells
    generalize (W.drewN nq).setCell ⟨D.rb, 1, none⟩ (.int .i64 ((i : Int) + 1)) = W2 at *
    have Hu2 := Lib.hid hu
    have e1 : (((i + 1 : Nat) : Int)) = (i : Int) + 1 := by push_cast; rfl
    rw [e1] at d1
    clear hu c0 c1 c2 c3 c4 hf Hu
    have e2 : (i : Int) + 1 - 1 = i := by omega
    have i1 : i < D.s.size := by omega
    have i2 : (i : Int) < (D.s.size : Int) := by omega
    have e3 : IntKind.i64.wrap (i : Int) = i := IntWalk.i64_in _ (by omega)
    go_quiet (fail)
    go_wp2_with fail
    go_ret
    exact Or.inl ⟨i1, by rw [← Hb.out]; rfl, Hu2.out.quiet ((Keeps.refl _ _).drewN _)⟩

open Go Go.RowKit Go.WideMaps Go.Maps
set_option linter.unusedSimpArgs false
set_option linter.unusedVariables false

def ExpEnd (B : Nat) (D : RD) (W : World) (c : UInt8) (i : Nat) (v : Value) (fm : List Int) (u : Bool) (e : Ending) (W' : World) : Prop :=
  ((i < D.s.size ∧ D.s.toList.getD i 0 = c) ∧ e = .returned (.tuple #[]) ∧ RUpd B D W v W' (i + 1) v fm u) ∨ (¬ (i < D.s.size ∧ D.s.toList.getD i 0 = c) ∧ e = .panicked [mis] ∧ Keeps (rOwn D v) W W')

set_option maxHeartbeats 1600000 in
theorem expect_any (B : Nat) (D : RD) (W : World) (c : UInt8) (i : Nat) (v : Value) (fm : List Int) (u : Bool) (r : RAt B D W i v fm u) :
    Calls Tryz.prog 107 #[.pointer (some ⟨D.rb, 0, none⟩), .int .u8 (c.toNat : Int)] W (ExpEnd B D W c i v fm u) := by
  have hn := rdNext_any B D W i v fm u r
  have Hn := Lib.hid hn
  clear hn
  go_enter Tryz.func107, Tryz.ntmps107
  go_wp2_with fail
  refine Hn.out.mono ?_
  rintro e w1 (⟨hi, rfl, hu⟩ | ⟨hi, rfl, hk⟩)
  · have Hu := Lib.hid hu
    clear hu
    have hret : D.s.toList.getD i 0 = c → ExpEnd B D W c i v fm u (.returned (.tuple #[])) w1 := fun ho => Or.inl ⟨⟨hi, ho⟩, rfl, Hu.out⟩
    have hpan : ¬ D.s.toList.getD i 0 = c → ExpEnd B D W c i v fm u (.panicked [mis]) w1 := fun ho => Or.inr ⟨fun h => ho h.2, rfl, Hu.out.keeps⟩
    generalize D.s.toList.getD i 0 = b at *
    by_cases hc : b = c
    · have hq : ((b.toNat : Int) != (c.toNat : Int)) = false := by rw [hc]; simp
      have H := Lib.hid (hret hc)
      clear hret hpan hc
      go_wp2_with fail
      refine bodyPost_end (results_none rfl _ _ _) rfl ?_
      exact H.out
    · have hq : ((b.toNat : Int) != (c.toNat : Int)) = true := by
        rw [bne_iff_ne]; intro e; exact hc (UInt8.toNat_inj.1 (by exact_mod_cast e))
      have H := Lib.hid (hpan hc)
      clear hret hpan hc
      go_wp2_with fail
      exact ⟨rfl, H.out⟩
  · have Hk := Lib.hid hk
    clear hk
    go_wp2_with fail
    exact ⟨rfl, Or.inr ⟨fun h => by omega, rfl, Hk.out⟩⟩

def OpEnd (B : Nat) (D : RD) (W : World) (i : Nat) (v : Value) (fm : List Int) (u : Bool) (e : Ending) (W' : World) : Prop :=
  (∃ o : Int, (i < D.s.size ∧ opOf (D.s.toList.getD i 0) = some o) ∧ e = .returned (.int .i64 o) ∧ RUpd B D W v W' (i + 1) v fm u) ∨ ((i < D.s.size → opOf (D.s.toList.getD i 0) = none) ∧ e = .panicked [mis] ∧ Keeps (rOwn D v) W W')

set_option maxHeartbeats 1600000 in
theorem operator_any (B : Nat) (D : RD) (W : World) (i : Nat) (v : Value) (fm : List Int) (u : Bool) (r : RAt B D W i v fm u) :
    Calls Tryz.prog 108 #[.pointer (some ⟨D.rb, 0, none⟩)] W (OpEnd B D W i v fm u) := by
  have hn := rdNext_any B D W i v fm u r
  have Hn := Lib.hid hn
  clear hn
  go_enter Tryz.func108, Tryz.ntmps108
  go_wp2_with fail
  refine Hn.out.mono ?_
  rintro e w1 (⟨hi, rfl, hu⟩ | ⟨hi, rfl, hk⟩)
  · have Hu := Lib.hid hu
    clear hu
    have hret : ∀ o, opOf (D.s.toList.getD i 0) = some o → OpEnd B D W i v fm u (.returned (.int .i64 o)) w1 := fun o ho => Or.inl ⟨o, ⟨hi, ho⟩, rfl, Hu.out⟩
    have hpan : opOf (D.s.toList.getD i 0) = none → OpEnd B D W i v fm u (.panicked [mis]) w1 := fun ho => Or.inr ⟨fun _ => ho, rfl, Hu.out.keeps⟩
    generalize D.s.toList.getD i 0 = b at *
    by_cases h1 : b = 38
    · subst h1
      have H := Lib.hid (hret (-4) rfl)
      clear hret hpan
      go_wp2_with fail
      go_ret
      exact H.out
    · by_cases h2 : b = 124
      · subst h2
        have H := Lib.hid (hret (-5) rfl)
        clear hret hpan
        go_wp2_with fail
        go_ret
        exact H.out
      · by_cases h3 : b = 61
        · subst h3
          have H := Lib.hid (hret (-6) rfl)
          clear hret hpan
          go_wp2_with fail
          go_ret
          exact H.out
        · have ho : opOf b = none := by unfold opOf; rw [if_neg h1, if_neg h2, if_neg h3]
          have H := Lib.hid (hpan ho)
          have nat : ∀ c : UInt8, b ≠ c → ((b.toNat : Int) == (c.toNat : Int)) = false := fun c hc => by
            rw [beq_eq_false_iff_ne]; intro e; exact hc (UInt8.toNat_inj.1 (by exact_mod_cast e))
          have f1 : ((b.toNat : Int) == 38) = false := nat 38 h1
          have f2 : ((b.toNat : Int) == 124) = false := nat 124 h2
          have f3 : ((b.toNat : Int) == 61) = false := nat 61 h3
          clear hret hpan nat h1 h2 h3 ho
          go_wp2_with fail
          exact ⟨rfl, H.out⟩
  · have Hk := Lib.hid hk
    clear hk
    go_wp2_with fail
    exact ⟨rfl, Or.inr ⟨fun h => by omega, rfl, Hk.out⟩⟩

open Go Go.RowKit Go.WideMaps Go.Maps
set_option linter.unusedSimpArgs false
set_option linter.unusedVariables false

/-- The map tells where a name stands. -/
def NumOk (D : RD) (ss : List ByteArray) : Prop := ∀ t : ByteArray, D.F (.string t) = (numOf ss t.toList).map (fun (k : Nat) => Value.int .i64 (k : Int))

def WordEnd (B : Nat) (D : RD) (ss : List ByteArray) (W : World) (i : Nat) (v : Value) (fm : List Int) (u : Bool) (e : Ending) (W' : World) : Prop :=
  (∃ j x y, pword ss 0 D.s.toList i = some (j, [x], y) ∧ e = .returned (.int .i64 x) ∧ RUpd B D W v W' j v fm (u || y)) ∨ (pword ss 0 D.s.toList i = none ∧ e = .panicked [mis] ∧ Keeps (rOwn D v) W W')

theorem size_list (s : ByteArray) : s.toList.length = s.size := by rw [ByteArray.toList_eq]; simp

theorem wordAt_eq (s : List UInt8) (j : Nat) (hj : j ≤ s.length) (he : j = s.length ∨ isW (s.getD j 0) = false) : ∀ (n i : Nat), n = j - i → i ≤ j → (∀ k, i ≤ k → k < j → isW (s.getD k 0) = true) → wordAt s i = (s.drop i).take (j - i)
  | 0, i, hn, hij, h => by
    have : i = j := by omega
    subst this
    rw [Nat.sub_self, List.take_zero]
    unfold wordAt
    by_cases hl : i < s.length
    · have hd : s.drop i = s.getD i 0 :: s.drop (i + 1) := by rw [List.drop_eq_getElem_cons hl]; simp [List.getD, hl]
      rcases he with he | he
      · omega
      · rw [hd, List.takeWhile_cons, he]; simp
    · rw [List.drop_eq_nil_of_le (by omega)]; rfl
  | n + 1, i, hn, hij, h => by
    have hl : i < s.length := by omega
    have hd : s.drop i = s.getD i 0 :: s.drop (i + 1) := by rw [List.drop_eq_getElem_cons hl]; simp [List.getD, hl]
    have ih := wordAt_eq s j hj he n (i + 1) (by omega) (by omega) (fun k h1 h2 => h k (by omega) h2)
    unfold wordAt at ih ⊢
    rw [hd, List.takeWhile_cons, h i (Nat.le_refl _) (by omega), ih, show j - i = (j - (i + 1)) + 1 by omega, List.take_succ_cons]
    simp

theorem extract_list (s : ByteArray) (i j : Nat) : (s.extract i j).toList = (s.toList.drop i).take (j - i) := by
  rw [ByteArray.toList_eq, ByteArray.toList_eq, ByteArray.data_extract, Array.toList_extract]

theorem zeroInt (w : World) : (zeroValue 3).run Tryz.prog w = .ok (.int .i64 0) w := by kernel_rfl

def atOf (D : RD) (W : World) : Nat := (intOf ((W.cell? ⟨D.rb, 1, none⟩).getD undef)).toNat

set_option maxRecDepth 100000 in
set_option maxHeartbeats 3200000 in
theorem word_any (B : Nat) (D : RD) (ss : List ByteArray) (hN : NumOk D ss) (W : World) (i : Nat) (v : Value) (fm : List Int) (u : Bool) (r : RAt B D W i v fm u) :
    Calls Tryz.prog 82 #[.pointer (some ⟨D.rb, 0, none⟩)] W (WordEnd B D ss W i v fm u) := by
  obtain ⟨c0, c1, c2, c3, c4⟩ := r.cells
  have hz := r.sz
  have Hr := Lib.hid r
  clear r
  go_enter Tryz.func82, Tryz.ntmps82
  go_wp2_with fail
  go_loopw [] (fun wr => ∃ j, RUpd B D W v wr j v fm u ∧ i ≤ j ∧ Hid (∀ k, i ≤ k → k < j → isW (D.s.toList.getD k 0) = true)) (fun wr => D.s.size - atOf D wr)
  case atStart => exact ⟨i, RUpd.refl Hr.out, Nat.le_refl _, Lib.hid (fun k h1 h2 => by omega)⟩
  case round =>
    obtain ⟨j, ru, hij, hw⟩ := hrel
    obtain ⟨d0, d1, d2, d3, d4⟩ := ru.rat.cells
    have hf := ru.rat.unfrozen
    have hj := ru.rat.hi
    have hat : atOf D wr = j := by unfold atOf; rw [d1]; simp [intOf]
    clear c0 c1 c2 c3 c4
    by_cases hlt : j < D.s.size
    · have hbk : D.s[j] = D.s.toList.getD j 0 := byte_at D.s j hlt
      have hle := byte_le D.s[j]
      have i1 : (j : Int) < (D.s.size : Int) := by omega
      by_cases hW : isW (D.s.toList.getD j 0) = true
      · have hnext : ∀ k, i ≤ k → k < j + 1 → isW (D.s.toList.getD k 0) = true := fun k h1 h2 => by
          by_cases e : k = j
          · subst e; exact hW
          · exact hw.out k h1 (by omega)
        have hu : ∀ q, RUpd B D W v ((wr.drewN q).setCell ⟨D.rb, 1, none⟩ (.int .i64 ((j : Int) + 1))) (j + 1) v fm u := fun q => by
          have k0 : Keeps (fun _ => False) wr (wr.drewN q) := (Keeps.refl _ _).drewN q
          have := (ru.quiet k0).trans ((ru.rat.quiet k0).setAt (j + 1) (by omega) (by have := ru.rat.fl; omega))
          simpa using this
        rw [← hbk] at hW
        have Hu := Lib.hid hu; have Hnext := Lib.hid hnext; have Hat := Lib.hid hat
        clear hu hnext hat hbk ru hw
        cases hl : isLow (D.s[j]).toNat with
        | true =>
          have Hl := Lib.hid hl
          have Hg := Lib.hid hl
          clear hl
          go_wp2_with fail
          go_quiet (first | (go_at_call 64; exact Calls.quiet_of_same ((isLetter_any _ _ (by omega)).mono fun e w' h => ⟨by rw [h.1, Hl.out], h.2.symm⟩)) | (go_at_call 65; exact Calls.quiet_of_same ((isDigit_any _ _ (by omega)).mono fun e w' h => ⟨by rw [h.1, Hg.out], h.2.symm⟩)))
          go_wp2_with fail
          have hu := Hu.out nq
          go_roundw
          case rel => exact ⟨j + 1, by simpa using hu, by omega, Lib.hid Hnext.out⟩
          case measure =>
            have h1 := hu.rat.cells.2.1
            have h2 : atOf D ((wr.drewN nq).setCell ⟨D.rb, 1, none⟩ (.int .i64 ((j : Int) + 1))) = j + 1 := by unfold atOf; rw [h1]; simp [intOf]
            have h3 := Hat.out
            simp only [h2, h3] at *
            omega
        | false =>
          have hg : isDig (D.s[j]).toNat = true := by unfold isW at hW; rw [hl] at hW; simpa using hW
          have Hl := Lib.hid hl
          have Hg := Lib.hid hg
          clear hl hg
          go_wp2_with fail
          go_quiet (first | (go_at_call 64; exact Calls.quiet_of_same ((isLetter_any _ _ (by omega)).mono fun e w' h => ⟨by rw [h.1, Hl.out], h.2.symm⟩)) | (go_at_call 65; exact Calls.quiet_of_same ((isDigit_any _ _ (by omega)).mono fun e w' h => ⟨by rw [h.1, Hg.out], h.2.symm⟩)))
          go_wp2_with fail
          have hu := Hu.out nq
          go_roundw
          case rel => exact ⟨j + 1, by simpa using hu, by omega, Lib.hid Hnext.out⟩
          case measure =>
            have h1 := hu.rat.cells.2.1
            have h2 : atOf D ((wr.drewN nq).setCell ⟨D.rb, 1, none⟩ (.int .i64 ((j : Int) + 1))) = j + 1 := by unfold atOf; rw [h1]; simp [intOf]
            have h3 := Hat.out
            simp only [h2, h3] at *
            omega
      · have hW' : isW (D.s.toList.getD j 0) = false := by simpa using hW
        have hwd := wordAt_eq D.s.toList j (by rw [size_list]; exact hj) (Or.inr hW') (j - i) i rfl hij hw.out
        rw [← hbk] at hW'
        have hl : isLow (D.s[j]).toNat = false := by unfold isW at hW'; simp at hW'; exact hW'.1
        have hg : isDig (D.s[j]).toNat = false := by unfold isW at hW'; simp at hW'; exact hW'.2
        have Hl := Lib.hid hl; have Hg := Lib.hid hg; have Hwd := Lib.hid hwd; have Hu := Lib.hid ru
        clear hl hg hwd hW hW' hbk hw hat ru
        go_wp2_with fail
        go_quiet (first | (go_at_call 64; exact Calls.quiet_of_same ((isLetter_any _ _ (by omega)).mono fun e w' h => ⟨by rw [h.1, Hl.out], h.2.symm⟩)) | (go_at_call 65; exact Calls.quiet_of_same ((isDigit_any _ _ (by omega)).mono fun e w' h => ⟨by rw [h.1, Hg.out], h.2.symm⟩)))
        go_wp2_with fail
        go_quiet (fail)
        have hT : (D.s.extract i j).toList = wordAt D.s.toList i := by rw [extract_list]; exact Hwd.out.symm
        have hlen : i + (wordAt D.s.toList i).length = j := by
          rw [Hwd.out, List.length_take, List.length_drop, size_list]; omega
        have hsz : (D.s.extract i j).size ≤ 100000 := by rw [← size_list, hT]; omega
        generalize D.s.extract i j = t at *
        have hdone : ∀ W2 x y, RUpd B D W v W2 j v fm (u || y) → pword ss 0 D.s.toList i = some (j, [x], y) → WordEnd B D ss W i v fm u (.returned (.int .i64 x)) W2 := fun W2 x y h1 h2 => Or.inl ⟨j, x, y, h2, rfl, h1⟩
        have Hdone := Lib.hid hdone
        clear hdone
        by_cases hy : t.toList = [121, 101, 115]
        · have hp : pword ss 0 D.s.toList i = some (j, [-1], false) := by
            unfold pword; rw [← hT, if_pos hy]; rw [hT] at hy; rw [hy] at hlen; simp at hlen; rw [hlen]
          have hyb : (t.toList == [121, 101, 115]) = true := by rw [hy]; rfl
          have Hp := Lib.hid hp
          clear hp hy hT hlen
          go_wp2_with fail
          go_ret
          exact Hdone.out _ _ _ (by rw [Bool.or_false]; exact Hu.out.quiet ((Keeps.refl _ _).drewN _)) Hp.out
        · have hyb : (t.toList == [121, 101, 115]) = false := by rw [beq_eq_false_iff_ne]; exact hy
          by_cases hn : t.toList = [110, 111]
          · have hp : pword ss 0 D.s.toList i = some (j, [-2], false) := by
              unfold pword; rw [← hT, if_neg hy, if_pos hn]; rw [hT] at hn; rw [hn] at hlen; simp at hlen; rw [hlen]
            have hnb : (t.toList == [110, 111]) = true := by rw [hn]; rfl
            have Hp := Lib.hid hp
            clear hp hy hn hT hlen
            go_wp2_with fail
            go_ret
            exact Hdone.out _ _ _ (by rw [Bool.or_false]; exact Hu.out.quiet ((Keeps.refl _ _).drewN _)) Hp.out
          · have hnb : (t.toList == [110, 111]) = false := by rw [beq_eq_false_iff_ne]; exact hn
            cases hnm : nameB t.toList with
            | false =>
              have hp : pword ss 0 D.s.toList i = none := by
                unfold pword; rw [← hT, if_neg hy, if_neg hn, hnm]; rfl
              have Hp := Lib.hid hp; have Hnm := Lib.hid hnm
              clear hp hy hn hT hlen hnm
              go_wp2_with (go_at_call 43; refine (isName_any _ _ (by unfold maxLen; omega)).mono ?_; rintro e w' ⟨rfl, rfl⟩; rw [Hnm.out])
              exact ⟨rfl, Or.inr ⟨Hp.out, rfl, (Hu.out.quiet ((Keeps.refl _ _).drewN _)).keeps⟩⟩
            | true =>
              have hnum := hN t
              have hlook : ∀ q, (Instr.lookup 64 (.map (some D.mb)) (.string t) true).run Tryz.prog (wr.drewN q) = .ok (.tuple #[(D.F (.string t)).getD (.int .i64 0), .bool (D.F (.string t)).isSome]) (wr.drewN q) :=
                fun q => (Hu.out.rat.quiet ((Keeps.refl _ _).drewN q)).map.look_ok strLaw Tryz.underlying64 (zeroInt _) (keyOf_string_mk Tryz.underlying9 (by unfold maxLen; omega))
              cases hk : numOf ss t.toList with
              | some k =>
                have hp : pword ss 0 D.s.toList i = some (j, [(k : Int)], false) := by
                  unfold pword; rw [← hT, if_neg hy, if_neg hn, hnm, hk]; dsimp only; rw [hT, hlen]; rfl
                rw [hnum, hk] at hlook
                simp only [Option.map_some, Option.getD_some, Option.isSome_some] at hlook
                have Hp := Lib.hid hp; have Hnm := Lib.hid hnm
                clear hp hy hn hT hlen hnm hnum hk
                have hset : ∀ q x, RUpd B D W v ((wr.drewN q).setCell ⟨D.rb, 4, none⟩ (.bool x)) j v fm x := fun q x => (Hu.out.quiet ((Keeps.refl _ _).drewN q)).trans ((Hu.out.rat.quiet ((Keeps.refl _ _).drewN q)).setUnk x)
                have Hset := Lib.hid hset
                clear hset
                cases u
                all_goals
                  go_wp2_with (go_at_call 43; refine (isName_any _ _ (by unfold maxLen; omega)).mono ?_; rintro e w' ⟨rfl, rfl⟩; rw [Hnm.out])
                  go_ret
                  exact Hdone.out _ _ _ (Hset.out _ _) Hp.out
              | none =>
                have hp : pword ss 0 D.s.toList i = some (j, [0], true) := by
                  unfold pword; rw [← hT, if_neg hy, if_neg hn, hnm, hk]; dsimp only; rw [hT, hlen]; rfl
                rw [hnum, hk] at hlook
                simp only [Option.map_none, Option.getD_none, Option.isSome_none] at hlook
                have Hp := Lib.hid hp; have Hnm := Lib.hid hnm
                clear hp hy hn hT hlen hnm hnum hk
                have hset : ∀ q x, RUpd B D W v ((wr.drewN q).setCell ⟨D.rb, 4, none⟩ (.bool x)) j v fm x := fun q x => (Hu.out.quiet ((Keeps.refl _ _).drewN q)).trans ((Hu.out.rat.quiet ((Keeps.refl _ _).drewN q)).setUnk x)
                have Hset := Lib.hid hset
                clear hset
                cases u
                all_goals
                  go_wp2_with (go_at_call 43; refine (isName_any _ _ (by unfold maxLen; omega)).mono ?_; rintro e w' ⟨rfl, rfl⟩; rw [Hnm.out])
                  go_ret
                  exact Hdone.out _ _ _ (Hset.out _ _) Hp.out
    · have hje : j = D.s.size := by omega
      have hwd := wordAt_eq D.s.toList j (by rw [size_list]; exact hj) (Or.inl (by rw [size_list]; exact hje)) (j - i) i rfl hij hw.out
      have b1 : decide ((j : Int) < (D.s.size : Int)) = false := decide_eq_false (by omega)
      have b2 : D.s.size ≤ j := by omega
      have b3 : (D.s.size : Int) ≤ (j : Int) := by omega
      have Hwd := Lib.hid hwd; have Hu := Lib.hid ru
      clear hwd hw hat ru hje
      go_wp2_with fail
      go_quiet (fail)
      go_wp2_with fail
      go_quiet (fail)
      have hT : (D.s.extract i j).toList = wordAt D.s.toList i := by rw [extract_list]; exact Hwd.out.symm
      have hlen : i + (wordAt D.s.toList i).length = j := by
        rw [Hwd.out, List.length_take, List.length_drop, size_list]; omega
      have hsz : (D.s.extract i j).size ≤ 100000 := by rw [← size_list, hT]; omega
      generalize D.s.extract i j = t at *
      have hdone : ∀ W2 x y, RUpd B D W v W2 j v fm (u || y) → pword ss 0 D.s.toList i = some (j, [x], y) → WordEnd B D ss W i v fm u (.returned (.int .i64 x)) W2 := fun W2 x y h1 h2 => Or.inl ⟨j, x, y, h2, rfl, h1⟩
      have Hdone := Lib.hid hdone
      clear hdone
      by_cases hy : t.toList = [121, 101, 115]
      · have hp : pword ss 0 D.s.toList i = some (j, [-1], false) := by
          unfold pword; rw [← hT, if_pos hy]; rw [hT] at hy; rw [hy] at hlen; simp at hlen; rw [hlen]
        have hyb : (t.toList == [121, 101, 115]) = true := by rw [hy]; rfl
        have Hp := Lib.hid hp
        clear hp hy hT hlen
        go_wp2_with fail
        go_ret
        exact Hdone.out _ _ _ (by rw [Bool.or_false]; exact Hu.out.quiet ((Keeps.refl _ _).drewN _)) Hp.out
      · have hyb : (t.toList == [121, 101, 115]) = false := by rw [beq_eq_false_iff_ne]; exact hy
        by_cases hn : t.toList = [110, 111]
        · have hp : pword ss 0 D.s.toList i = some (j, [-2], false) := by
            unfold pword; rw [← hT, if_neg hy, if_pos hn]; rw [hT] at hn; rw [hn] at hlen; simp at hlen; rw [hlen]
          have hnb : (t.toList == [110, 111]) = true := by rw [hn]; rfl
          have Hp := Lib.hid hp
          clear hp hy hn hT hlen
          go_wp2_with fail
          go_ret
          exact Hdone.out _ _ _ (by rw [Bool.or_false]; exact Hu.out.quiet ((Keeps.refl _ _).drewN _)) Hp.out
        · have hnb : (t.toList == [110, 111]) = false := by rw [beq_eq_false_iff_ne]; exact hn
          cases hnm : nameB t.toList with
          | false =>
            have hp : pword ss 0 D.s.toList i = none := by
              unfold pword; rw [← hT, if_neg hy, if_neg hn, hnm]; rfl
            have Hp := Lib.hid hp; have Hnm := Lib.hid hnm
            clear hp hy hn hT hlen hnm
            go_wp2_with (go_at_call 43; refine (isName_any _ _ (by unfold maxLen; omega)).mono ?_; rintro e w' ⟨rfl, rfl⟩; rw [Hnm.out])
            exact ⟨rfl, Or.inr ⟨Hp.out, rfl, (Hu.out.quiet ((Keeps.refl _ _).drewN _)).keeps⟩⟩
          | true =>
            have hnum := hN t
            have hlook : ∀ q, (Instr.lookup 64 (.map (some D.mb)) (.string t) true).run Tryz.prog (wr.drewN q) = .ok (.tuple #[(D.F (.string t)).getD (.int .i64 0), .bool (D.F (.string t)).isSome]) (wr.drewN q) :=
              fun q => (Hu.out.rat.quiet ((Keeps.refl _ _).drewN q)).map.look_ok strLaw Tryz.underlying64 (zeroInt _) (keyOf_string_mk Tryz.underlying9 (by unfold maxLen; omega))
            cases hk : numOf ss t.toList with
            | some k =>
              have hp : pword ss 0 D.s.toList i = some (j, [(k : Int)], false) := by
                unfold pword; rw [← hT, if_neg hy, if_neg hn, hnm, hk]; dsimp only; rw [hT, hlen]; rfl
              rw [hnum, hk] at hlook
              simp only [Option.map_some, Option.getD_some, Option.isSome_some] at hlook
              have Hp := Lib.hid hp; have Hnm := Lib.hid hnm
              clear hp hy hn hT hlen hnm hnum hk
              have hset : ∀ q x, RUpd B D W v ((wr.drewN q).setCell ⟨D.rb, 4, none⟩ (.bool x)) j v fm x := fun q x => (Hu.out.quiet ((Keeps.refl _ _).drewN q)).trans ((Hu.out.rat.quiet ((Keeps.refl _ _).drewN q)).setUnk x)
              have Hset := Lib.hid hset
              clear hset
              cases u
              all_goals
                go_wp2_with (go_at_call 43; refine (isName_any _ _ (by unfold maxLen; omega)).mono ?_; rintro e w' ⟨rfl, rfl⟩; rw [Hnm.out])
                go_ret
                exact Hdone.out _ _ _ (Hset.out _ _) Hp.out
            | none =>
              have hp : pword ss 0 D.s.toList i = some (j, [0], true) := by
                unfold pword; rw [← hT, if_neg hy, if_neg hn, hnm, hk]; dsimp only; rw [hT, hlen]; rfl
              rw [hnum, hk] at hlook
              simp only [Option.map_none, Option.getD_none, Option.isSome_none] at hlook
              have Hp := Lib.hid hp; have Hnm := Lib.hid hnm
              clear hp hy hn hT hlen hnm hnum hk
              have hset : ∀ q x, RUpd B D W v ((wr.drewN q).setCell ⟨D.rb, 4, none⟩ (.bool x)) j v fm x := fun q x => (Hu.out.quiet ((Keeps.refl _ _).drewN q)).trans ((Hu.out.rat.quiet ((Keeps.refl _ _).drewN q)).setUnk x)
              have Hset := Lib.hid hset
              clear hset
              cases u
              all_goals
                go_wp2_with (go_at_call 43; refine (isName_any _ _ (by unfold maxLen; omega)).mono ?_; rintro e w' ⟨rfl, rfl⟩; rw [Hnm.out])
                go_ret
                exact Hdone.out _ _ _ (Hset.out _ _) Hp.out
end Go.Proofs.YtngjjmniigkeoaaGreatDoor
