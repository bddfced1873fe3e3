/- The reader of a text: term and pair. The reader of a text: pair; term and pair to any depth. The reader of a text: read, which turns its panic into an error. Parse: the names' numbers, and what is read. -/
import Derived.Test.YtngjjmniigkeoaaGreatDoorReadC
import Derived.Defers
import Derived.Recover
namespace Go.Proofs.YtngjjmniigkeoaaGreatDoor
open Go Go.RowKit Go.WideMaps Go.Maps
set_option linter.unusedSimpArgs false
set_option linter.unusedVariables false

theorem infoInt0 : (Tryz.prog.info? 3).map (fun i => (i.zero, i.size, i.bytes)) = some (some (.int .i64 0), 1, 8) := by kernel_rfl

/-- Behind an append and its store. -/
theorem RAt.push {B : Nat} {D : RD} {W w2 : World} {i : Nat} {v v2 : Value} {fm : List Int} {u : Bool} {x : Int} (r : RAt B D W i v fm u) (hk : Keeps (fun b => v.ownBlock = some b) W w2)
    (hown : w2.ownsRow B 3 1 v2 (fm.length + 1) (fm.map (fun x => Value.int .i64 x) ++ [.int .i64 x])) (hat : ∀ b, v2.ownBlock = some b → v.ownBlock = some b ∨ W.heap.size ≤ b) (hl : fm.length + 1 ≤ i) :
    RUpd B D W v (w2.setCell ⟨D.rb, 3, none⟩ v2) i v2 (fm ++ [x]) u := by
  have hkeep : ∀ k, k ≠ D.rb → (w2.setCell ⟨D.rb, 3, none⟩ v2).heap[k]? = w2.heap[k]? := fun k hk => Below.heap_setCell _ _ _ _ hk
  have hrb : w2.heap[D.rb]? = W.heap[D.rb]? := hk.block _ r.lt (fun e => (r.ne_row e).1 rfl)
  have hmb : w2.heap[D.mb]? = W.heap[D.mb]? := hk.block _ r.map.lt (fun e => (r.ne_row e).2 rfl)
  have hv2 : ∀ b, v2.ownBlock = some b → b ≠ D.rb := fun b hb e => by
    rcases hat b hb with h | h
    · exact (r.ne_row h).1 e
    · have := r.lt; omega
  refine ⟨⟨r.hB, ?_, ?_, (r.map.kept hmb).kept (hkeep _ r.ne_map), r.hi, r.sz, by simpa using hl⟩, ?_, hat⟩
  · have h0 := r.blk
    rw [← hrb] at h0
    simp [World.setCell, Array.getElem?_modify, h0]
  · have h1 := ownsRow_of_block hown (fun b hb => hkeep b (hv2 b hb))
    simpa using h1
  · exact Keeps.setCell (S := rOwn D v) (p := ⟨D.rb, 3, none⟩) (hk.mono (fun k h => Or.inl (Or.inr h))) (Or.inl (Or.inl rfl)) _

/-- A number is stored over another one. -/
theorem RAt.poke {B : Nat} {D : RD} {W : World} {i : Nat} {g n cap : Nat} {fm : List Int} {u : Bool} (r : RAt B D W i (.slice (some ⟨g, 0, none⟩) n cap) fm u) (j : Nat) (x : Int) :
    RUpd B D W (.slice (some ⟨g, 0, none⟩) n cap) (W.setCell ⟨g, j, none⟩ (.int .i64 x)) i (.slice (some ⟨g, 0, none⟩) n cap) (fm.set j x) u := by
  have hkeep : ∀ k, k ≠ g → (W.setCell ⟨g, j, none⟩ (.int .i64 x)).heap[k]? = W.heap[k]? := fun k hk => Below.heap_setCell _ _ _ _ hk
  obtain ⟨h1, h2⟩ := r.ne_row (b := g) rfl
  have hn : n = fm.length := by
    have := r.row.1
    rcases r.row.2 with ⟨e, _⟩ | ⟨g', cap', cur, e, _⟩
    · cases e
    · simp at e; exact e.2.1
  subst hn
  refine ⟨⟨r.hB, (hkeep _ (fun e => h1 e.symm)).trans r.blk, ?_, r.map.kept (hkeep _ (fun e => h2 e.symm)), r.hi, r.sz, by simpa using r.fl⟩, (Keeps.refl _ _).setCell (Or.inl (Or.inr rfl)) _, fun b h => Or.inl h⟩
  have := (r.row.stored j (.int .i64 x)).1
  simpa [List.map_set] using this

theorem RAt.shape {B : Nat} {D : RD} {W : World} {i : Nat} {v : Value} {fm : List Int} {u : Bool} (r : RAt B D W i v fm u) : ∃ a c, v = .slice a fm.length c := by
  rcases r.row.2 with ⟨e, h⟩ | ⟨g, cap, cur, e, _⟩
  · exact ⟨none, 0, by rw [e, h]⟩
  · exact ⟨_, _, e⟩
theorem hat_of {v : Value} {g n cap H : Nat} (h : v.ownBlock = some g ∨ g = H) {K : Nat} (hK : K ≤ H) : ∀ b, (Value.slice (some ⟨g, 0, none⟩) n cap).ownBlock = some b → v.ownBlock = some b ∨ K ≤ b := by
  intro b hb
  simp [Value.ownBlock] at hb
  subst hb
  rcases h with e | e
  · exact Or.inl e
  · right; omega

/-- What follows an opening parenthesis. -/
def ppair (ss : List ByteArray) (d : Int) (s : List UInt8) (n : Nat) (p : Nat) : Option PRes :=
  match pterm ss d s n p with
  | none => none
  | some a =>
    if a.1 < s.length ∧ s.getD a.1 0 = 32 then
      if a.1 + 1 < s.length then
        match opOf (s.getD (a.1 + 1) 0) with
        | none => none
        | some o =>
          if a.1 + 2 < s.length ∧ s.getD (a.1 + 2) 0 = 32 then
            match pterm ss d s n (a.1 + 3) with
            | none => none
            | some b => if b.1 < s.length ∧ s.getD b.1 0 = 41 then some (b.1 + 1, o :: (a.2.1 ++ b.2.1), a.2.2 || b.2.2) else none
          else none
      else none
    else none
theorem pterm_step (ss : List ByteArray) (d : Int) (s : List UInt8) (n i : Nat) : pterm ss d s (n + 1) i =
    if i < s.length then (if s.getD i 0 = 33 then (pterm ss d s n (i + 1)).map fun r => (r.1, -3 :: r.2.1, r.2.2) else if s.getD i 0 = 40 then ppair ss d s n (i + 1) else pword ss d s i) else none := by
  rw [pterm]; rfl

def TermEnd (B : Nat) (D : RD) (W : World) (v : Value) (fm : List Int) (u : Bool) (res : Option PRes) (e : Ending) (W' : World) : Prop :=
  (∃ j l y v', res = some (j, l, y) ∧ e = .returned (.tuple #[]) ∧ RUpd B D W v W' j v' (fm ++ l) (u || y)) ∨ (res = none ∧ e = .panicked [mis] ∧ Keeps (rOwn D v) W W')

/-- Nothing is left to walk: a call has panicked. -/
inductive Born : Prop
  | intro : Born
theorem bear {G : Prop} (h : G) (_ : wpAny Tryz.prog .any #[] (fun _ _ _ => Born) 0 #[] ⟨#[], []⟩ default) : G := h

/-- What the calls of a reader do from here on, n bytes deep. -/
def TermSpec (B : Nat) (D : RD) (ss : List ByteArray) (n : Nat) : Prop :=
  ∀ (W : World) (i : Nat) (v : Value) (fm : List Int) (u : Bool), RAt B D W i v fm u → D.s.size < n + i → Calls Tryz.prog 58 #[.pointer (some ⟨D.rb, 0, none⟩)] W (TermEnd B D W v fm u (pterm ss 0 D.s.toList n i))
def PairSpec (B : Nat) (D : RD) (ss : List ByteArray) (n : Nat) : Prop :=
  ∀ (W : World) (i : Nat) (v : Value) (fm : List Int) (u : Bool), RAt B D W i v fm u → fm.length < i → D.s.size < n + i → Calls Tryz.prog 81 #[.pointer (some ⟨D.rb, 0, none⟩)] W (TermEnd B D W v fm u (ppair ss 0 D.s.toList n i))

set_option maxRecDepth 100000 in
set_option maxHeartbeats 3200000 in
theorem term_of (B : Nat) (D : RD) (ss : List ByteArray) (hN : NumOk D ss) (n : Nat) (hT : TermSpec B D ss n) (hP : PairSpec B D ss n) : TermSpec B D ss (n + 1) := by
  intro W i v fm u r hni
  have hn := rdNext_any B D W i v fm u r
  have hstep := pterm_step ss 0 D.s.toList n i
  rw [size_list] at hstep
  have hz := r.sz
  have hfl := r.fl
  have Hn := Lib.hid hn; have Hstep := Lib.hid hstep
  clear hn r hstep
  go_enter Tryz.func58, Tryz.ntmps58
  go_wp2_with fail
  refine Hn.out.mono ?_
  rintro e w1 (⟨hi, rfl, hu⟩ | ⟨hi, rfl, hk⟩)
  rotate_left
  · have hstep := Hstep.out
    rw [if_neg (by omega)] at hstep
    have Hs := Lib.hid hstep; have Hk := Lib.hid hk
    clear hstep hk
    go_wp2_with fail
    exact ⟨rfl, Or.inr ⟨by rw [← hi]; exact Hs.out, rfl, Hk.out⟩⟩
  have hstep := Hstep.out
  rw [if_pos hi] at hstep
  clear Hstep
  generalize D.s.toList.getD i 0 = b at *
  by_cases h1 : b = 33
  · subst h1
    rw [if_pos rfl] at hstep
    obtain ⟨a, c, rfl⟩ := hu.rat.shape
    obtain ⟨d0, d1, d2, d3, d4⟩ := hu.rat.cells
    have hf := hu.rat.unfrozen
    have hrow := hu.rat.row
    have hBw : B ≤ w1.heap.size := by have h1 := hu.rat.hB; have h2 := hu.rat.lt; omega
    have hne : ¬ (Value.slice a fm.length c).ownBlock = some D.rb := fun e => (hu.rat.ne_row e).1 rfl
    have hlt := hu.rat.lt
    have hpush := fun (w2 : World) (v2 : Value) => RAt.push (w2 := w2) (v2 := v2) (x := -3) hu.rat
    obtain ⟨i0, hi0, hz0, hz1, hz2⟩ := info_parts infoInt0
    have Hs := Lib.hid hstep; have Hu := Lib.hid hu; have Hp := Lib.hid hpush; have Hr := Lib.hid hrow; have Hne := Lib.hid hne
    clear hstep hu hpush hrow hne
    go_wp2_with (at_builtin; refine wpList_append_lies _ rfl (.tmp 30) (.tmp 31) 27 rfl B 3 i0 (.int .i64 0) 1 8 Tryz.underlying27 hi0 hz0 hz1 hz2 rfl (by decide) (.slice a fm.length c) fm.length (fm.map (fun x => Value.int .i64 x)) (by rfl) (Hr.out.alloc _) ⟨w1.heap.size, 0, none⟩ 1 1 [.int .i64 (-3)] (by rfl) rfl (World.news_of_block (cs := #[.int .i64 (-3)]) (t := 3) (fr := (0, 0)) (heap_alloc_new w1 _)) (by intro u hu; simp at hu; subst hu; rfl) (by omega) (by unfold maxLen; omega) (by omega) (by simp; omega) _ rfl ?_; intro g2 cap2 w2 hown hgrow hat hlt2; have hk2 := ((Keeps.refl (fun b => (Value.slice a fm.length c).ownBlock = some b) w1).alloc (.cells #[.int .i64 (-3)] 3)).grown hgrow (fun k e => Or.inl e); have e3 := hk2.cell d3 Hne.out; have f3 := (hk2.frozen (o := 3) hlt Hne.out).trans (hf 3); have Hk2 := Lib.hid hk2; have Hown := Lib.hid hown; have Hat := Lib.hid hat; clear hk2 hown hat hgrow)
    have hu2 := Hu.out.trans (Hp.out w2 (.slice (some ⟨g2, 0, none⟩) (fm.length + 1) cap2) Hk2.out Hown.out (hat_of Hat.out (by simp)) (by omega))
    have Hu2 := Lib.hid hu2
    clear hu2
    refine (hT _ _ _ _ _ Hu2.out.rat (by omega)).mono ?_
    rintro e w3 (⟨j, l, y, v', h1, rfl, hu3⟩ | ⟨h1, rfl, hk3⟩)
    · have H1 := Lib.hid h1; have Hu3 := Lib.hid hu3
      clear h1 hu3
      go_wp2_with fail
      refine bodyPost_end (results_none rfl _ _ _) rfl ?_
      exact Or.inl ⟨j, -3 :: l, y, v', by rw [Hs.out, H1.out]; rfl, rfl, by simpa using Hu2.out.trans Hu3.out⟩
    · have H1 := Lib.hid h1; have Hk3 := Lib.hid hk3
      clear h1 hk3
      go_wp2_with fail
      exact ⟨rfl, Or.inr ⟨by rw [Hs.out, H1.out]; rfl, rfl, Hu2.out.fail Hk3.out⟩⟩
  rw [if_neg h1] at hstep
  have nat : ∀ c : UInt8, b ≠ c → ((b.toNat : Int) == (c.toNat : Int)) = false := fun c hc => by
    rw [beq_eq_false_iff_ne]; intro e; exact hc (UInt8.toNat_inj.1 (by exact_mod_cast e))
  have f1 : ((b.toNat : Int) == 33) = false := nat 33 h1
  by_cases h2 : b = 40
  · subst h2
    rw [if_pos rfl] at hstep
    have Hs := Lib.hid hstep; have Hu := Lib.hid hu
    clear hstep hu nat f1
    go_wp2_with fail
    refine (hP _ _ _ _ _ Hu.out.rat (by omega) (by omega)).mono ?_
    rintro e w3 (⟨j, l, y, v', h1, rfl, hu3⟩ | ⟨h1, rfl, hk3⟩)
    · have H1 := Lib.hid h1; have Hu3 := Lib.hid hu3
      clear h1 hu3
      go_wp2_with fail
      refine bodyPost_end (results_none rfl _ _ _) rfl ?_
      exact Or.inl ⟨j, l, y, v', by rw [Hs.out, H1.out], rfl, Hu.out.trans Hu3.out⟩
    · have H1 := Lib.hid h1; have Hk3 := Lib.hid hk3
      clear h1 hk3
      go_wp2_with fail
      exact ⟨rfl, Or.inr ⟨by rw [Hs.out, H1.out], rfl, Hu.out.fail Hk3.out⟩⟩
  rw [if_neg h2] at hstep
  have f2 : ((b.toNat : Int) == 40) = false := nat 40 h2
  obtain ⟨a, c, rfl⟩ := hu.rat.shape
  obtain ⟨d0, d1, d2, d3, d4⟩ := hu.rat.cells
  have hf := hu.rat.unfrozen
  have hset : RUpd B D W (.slice a fm.length c) (w1.setCell ⟨D.rb, 1, none⟩ (.int .i64 (i : Nat))) i (.slice a fm.length c) fm u := hu.trans (hu.rat.setAt i (by omega) hfl)
  have e2 : (((i + 1 : Nat) : Int)) = (i : Int) + 1 := by push_cast; rfl
  rw [e2] at d1
  have e3 : IntKind.i64.wrap (i : Int) = i := IntWalk.i64_in _ (by omega)
  have hword := word_any B D ss hN _ i _ fm u (hset.rat.quiet ((Keeps.refl _ _).drew))
  have hwd : (∃ j x y, pword ss 0 D.s.toList i = some (j, [x], y)) ∨ pword ss 0 D.s.toList i = none := by
    cases hp : pword ss 0 D.s.toList i with
    | none => exact Or.inr rfl
    | some r =>
      left
      unfold pword at hp
      split at hp
      · cases hp; exact ⟨_, _, _, rfl⟩
      · split at hp
        · cases hp; exact ⟨_, _, _, rfl⟩
        · split at hp
          · split at hp <;> (cases hp; exact ⟨_, _, _, rfl⟩)
          · cases hp
  obtain ⟨i0, hi0, hz0, hz1, hz2⟩ := info_parts infoInt0
  rcases hwd with ⟨j, x, y, hp⟩ | hp
  · rw [hp] at hstep
    have hword2 := hword.mono (R' := fun e W' => e = .returned (.int .i64 x) ∧ RUpd B D (w1.setCell ⟨D.rb, 1, none⟩ (.int .i64 (i : Nat))).drew (.slice a fm.length c) W' j (.slice a fm.length c) fm (u || y)) (fun e W' h => by
      rcases h with ⟨j', x', y', h1, h2, h3⟩ | ⟨h1, _⟩
      · rw [hp] at h1; cases h1; exact ⟨h2, h3⟩
      · rw [hp] at h1; cases h1)
    have hpw : i < j := (pword_end (by rw [size_list]; exact hi) hp).1
    have Hs := Lib.hid hstep; have Hset := Lib.hid hset; have Hw := Lib.hid hword2
    clear hstep hu hset nat h1 h2 hword hword2 hp
    go_wp2_with fail
    have hlt0 : D.rb < (w1.setCell ⟨D.rb, 1, none⟩ (.int .i64 (i : Nat))).heap.size := Hset.out.rat.lt
    obtain ⟨d0, d1, d2, d3, d4⟩ := Hset.out.rat.cells
    have hf := Hset.out.rat.unfrozen
    generalize (w1.setCell ⟨D.rb, 1, none⟩ (.int .i64 (i : Nat))) = V at *
    go_region_law (first | (refine step_append_lies _ rfl (.tmp 16) (.tmp 19) 27 rfl B 3 i0 (.int .i64 0) 1 8 Tryz.underlying27 hi0 hz0 hz1 hz2 rfl (by decide) (.slice a fm.length c) fm.length (fm.map (fun x => Value.int .i64 x)) (by simp [Act.eval, Act.put]) (by exact (Hid.out Hr3).alloc _) ⟨w3.heap.size, 0, none⟩ 1 1 [.int .i64 x] (by simp [Act.eval, Act.put]) rfl (World.news_of_block (cs := #[.int .i64 x]) (t := 3) (fr := (0, 0)) (by exact heap_alloc_new w3 _)) (by intro u hu; simp at hu; subst hu; rfl) (by omega) (by unfold maxLen; omega) (by omega) (by simp; omega) _ rfl ?_; intro g2 cap2 w2 hown hgrow hat hlt2; have hk2 := ((Keeps.refl (fun b => (Value.slice a fm.length c).ownBlock = some b) w3).alloc (.cells #[.int .i64 x] 3)).grown hgrow (fun k e => Or.inl e); have e3' := hk2.cell c3 (Hid.out Hne3); have f3 := (hk2.frozen (o := 3) hlt3 (Hid.out Hne3)).trans (hf3 3); have Hk2 := Lib.hid hk2; have Hown := Lib.hid hown; have Hat := Lib.hid hat; clear hk2 hown hat hgrow) | (go_simp; go_at_call 82; refine Hw.out.mono ?_; rintro e w3 ⟨rfl, hu3⟩; have c3 := hu3.rat.cells.2.2.2.1; have hf3 := hu3.rat.unfrozen; have hlt3 := hu3.rat.lt; have hBs := hu3.rat.hB; have hfl3 := hu3.rat.fl; have hsz3 := hu3.keeps.size; have Hr3 := Lib.hid hu3.rat.row; have Hne3 := Lib.hid (show ¬ (Value.slice a fm.length c).ownBlock = some D.rb from fun e => (hu3.rat.ne_row e).1 rfl); have Hu3 := Lib.hid hu3; clear hu3))
    all_goals
      have hu2 := (Hset.out.quiet ((Keeps.refl _ _).drew)).trans (Hu3.out.trans (RAt.push (x := x) Hu3.out.rat Hk2.out Hown.out (hat_of Hat.out (by simp)) (by omega)))
      have Hu2 := Lib.hid hu2
      clear hu2
      go_wp2_with fail
      refine bodyPost_end (results_none rfl _ _ _) rfl ?_
      exact Or.inl ⟨j, [x], y, _, Hs.out, rfl, Hu2.out⟩
  · rw [hp] at hstep
    have hword2 := hword.mono (R' := fun e W' => e = .panicked [mis] ∧ Keeps (rOwn D (.slice a fm.length c)) (w1.setCell ⟨D.rb, 1, none⟩ (.int .i64 (i : Nat))).drew W') (fun e W' h => by
      rcases h with ⟨j', x', y', h1, h2, h3⟩ | ⟨h1, h2, h3⟩
      · rw [hp] at h1; cases h1
      · exact ⟨h2, h3⟩)
    have Hs := Lib.hid hstep; have Hset := Lib.hid hset; have Hw := Lib.hid hword2
    clear hstep hu hset nat h1 h2 hword hword2 hp
    go_wp2_with fail
    obtain ⟨d0, d1, d2, d3, d4⟩ := Hset.out.rat.cells
    have hf := Hset.out.rat.unfrozen
    have hlt0 : D.rb < (w1.setCell ⟨D.rb, 1, none⟩ (.int .i64 (i : Nat))).heap.size := Hset.out.rat.lt
    have hfin : ∀ w3, Keeps (rOwn D (.slice a fm.length c)) (w1.setCell ⟨D.rb, 1, none⟩ (.int .i64 (i : Nat))).drew w3 → Keeps (rOwn D (.slice a fm.length c)) W w3 := fun w3 k => (Hset.out.quiet ((Keeps.refl _ _).drew)).fail k
    have Hfin := Lib.hid hfin
    clear hfin
    generalize (w1.setCell ⟨D.rb, 1, none⟩ (.int .i64 (i : Nat))) = V at *
    go_region_law (go_simp; go_at_call 82; refine Hw.out.mono ?_; rintro e w3 ⟨rfl, k3⟩; refine bear ⟨rfl, Or.inr ⟨Hs.out, rfl, Hfin.out w3 k3⟩⟩ ?_)
    all_goals exact Born.intro

open Go Go.RowKit Go.WideMaps Go.Maps
set_option linter.unusedSimpArgs false
set_option linter.unusedVariables false

set_option maxRecDepth 100000 in
set_option maxHeartbeats 6400000 in
theorem pair_of (B : Nat) (D : RD) (ss : List ByteArray) (n : Nat) (hT : TermSpec B D ss n) : PairSpec B D ss n := by
  intro W i v fm u r hfi hni
  obtain ⟨a, c, rfl⟩ := r.shape
  have hz := r.sz
  have hii := r.hi
  obtain ⟨d0, d1, d2, d3, d4⟩ := r.cells
  have hf := r.unfrozen
  have hBw : B ≤ W.heap.size := by have h1 := r.hB; have h2 := r.lt; omega
  have hne : ¬ (Value.slice a fm.length c).ownBlock = some D.rb := fun e => (r.ne_row e).1 rfl
  have hlt := r.lt
  obtain ⟨i0, hi0, hz0, hz1, hz2⟩ := info_parts infoInt0
  have Hr := Lib.hid r; have Hne := Lib.hid hne; have Hrow := Lib.hid r.row
  clear r hne
  go_enter Tryz.func81, Tryz.ntmps81
  go_wp2_with (at_builtin; refine wpList_append_lies _ rfl (.tmp 12) (.tmp 13) 27 rfl B 3 i0 (.int .i64 0) 1 8 Tryz.underlying27 hi0 hz0 hz1 hz2 rfl (by decide) (.slice a fm.length c) fm.length (fm.map (fun x => Value.int .i64 x)) (by rfl) (Hrow.out.alloc _) ⟨W.heap.size, 0, none⟩ 1 1 [.int .i64 0] (by rfl) rfl (World.news_of_block (cs := #[.int .i64 0]) (t := 3) (fr := (0, 0)) (heap_alloc_new W _)) (by intro u hu; simp at hu; subst hu; rfl) (by omega) (by unfold maxLen; omega) (by omega) (by simp; omega) _ rfl ?_; intro g2 cap2 w2 hown hgrow hat hlt2; have hk2 := ((Keeps.refl (fun b => (Value.slice a fm.length c).ownBlock = some b) W).alloc (.cells #[.int .i64 0] 3)).grown hgrow (fun k e => Or.inl e); have e3 := hk2.cell d3 Hne.out; have f3 := (hk2.frozen (o := 3) hlt Hne.out).trans (hf 3); have Hk2 := Lib.hid hk2; have Hown := Lib.hid hown; have Hat := Lib.hid hat; clear hk2 hown hat hgrow)
  have hu2 := RAt.push (x := 0) Hr.out Hk2.out Hown.out (hat_of Hat.out (by simp)) (by omega)
  have Hu2 := Lib.hid hu2
  clear hu2 d0 d1 d2 d3 d4 hf
  have hres : ppair ss 0 D.s.toList n i = ppair ss 0 D.s.toList n i := rfl
  refine (hT _ _ _ _ _ Hu2.out.rat (by omega)).mono ?_
  rintro e w3 (⟨j, l, y, v', h1, rfl, hu3⟩ | ⟨h1, rfl, hk3⟩)
  rotate_left
  · have hp : ppair ss 0 D.s.toList n i = none := by unfold ppair; rw [h1]
    have Hp := Lib.hid hp; have Hk3 := Lib.hid hk3
    clear hp h1 hk3 hres
    go_wp2_with fail
    exact ⟨rfl, Or.inr ⟨Hp.out, rfl, Hu2.out.fail Hk3.out⟩⟩
  have hu3' := Hu2.out.trans hu3
  have Hu3 := Lib.hid hu3'; have H1 := Lib.hid h1
  have hji := pterm_end h1
  rw [size_list] at hji
  have hr3 := hu3'.rat
  clear hu3 hu3' h1 hres
  go_wp2_with fail
  have he1 := expect_any B D w3 32 j v' ((fm ++ [0]) ++ l) (u || y) hr3
  refine he1.mono ?_
  rintro e w4 (⟨h1, rfl, hu4⟩ | ⟨h1, rfl, hk4⟩)
  rotate_left
  · have hp : ppair ss 0 D.s.toList n i = none := by
      unfold ppair; rw [H1.out]; dsimp only; rw [if_neg (by rw [size_list]; exact h1)]
    have Hp := Lib.hid hp; have Hk4 := Lib.hid hk4
    clear hp h1 hk4 he1 hr3
    go_wp2_with fail
    exact ⟨rfl, Or.inr ⟨Hp.out, rfl, Hu3.out.fail Hk4.out⟩⟩
  have hu4' := Hu3.out.trans hu4
  have Hu4 := Lib.hid hu4'; have H2 := Lib.hid h1
  obtain ⟨g, cap, rfl, hgB, hgl⟩ := World.ownsRow.form hu4'.rat.row (by simp; omega)
  have hop := operator_any B D w4.drew (j + 1) _ _ _ (hu4'.rat.quiet ((Keeps.refl _ _).drew))
  have hr4 := hu4'.rat
  clear hu4 h1 he1 hr3 hu4'
  generalize hFM : (fm ++ [0]) ++ l = FM at *
  have hFl : fm.length < FM.length := by rw [← hFM]; simp
  have hset : ∀ o, FM.set fm.length o = (fm ++ [o]) ++ l := fun o => by rw [← hFM]; simp [List.set_append]
  have hFl2 : FM.length ≤ 100000 := by have := hr4.fl; have := hr4.hi; omega
  have hpn : (j + 1 < D.s.size → opOf (D.s.toList.getD (j + 1) 0) = none) → ppair ss 0 D.s.toList n i = none := fun hh => by
    unfold ppair; rw [H1.out]; dsimp only; rw [if_pos (by rw [size_list]; exact H2.out), size_list]
    by_cases h0 : j + 1 < D.s.size
    · rw [if_pos h0, hh h0]
    · rw [if_neg h0]
  have hps : ∀ o, j + 1 < D.s.size → opOf (D.s.toList.getD (j + 1) 0) = some o → ppair ss 0 D.s.toList n i = if j + 2 < D.s.size ∧ D.s.toList.getD (j + 2) 0 = 32 then
      (match pterm ss 0 D.s.toList n (j + 3) with | none => none | some b => if b.1 < D.s.size ∧ D.s.toList.getD b.1 0 = 41 then some (b.1 + 1, o :: (l ++ b.2.1), y || b.2.2) else none) else none := fun o h0 ho => by
    unfold ppair; rw [H1.out]; dsimp only; rw [if_pos (by rw [size_list]; exact H2.out), size_list, if_pos h0, ho]; try rfl
  have hcs : (∃ o, j + 1 < D.s.size ∧ opOf (D.s.toList.getD (j + 1) 0) = some o) ∨ (j + 1 < D.s.size → opOf (D.s.toList.getD (j + 1) 0) = none) := by
    by_cases h0 : j + 1 < D.s.size
    · cases ho : opOf (D.s.toList.getD (j + 1) 0) with
      | none => exact Or.inr (fun _ => rfl)
      | some o => exact Or.inl ⟨o, h0, rfl⟩
    · exact Or.inr (fun h => absurd h h0)
  obtain ⟨d0, d1, d2, d3, d4⟩ := hr4.cells
  have hf := hr4.unfrozen
  have hlt4 := hr4.lt
  rcases hcs with ⟨o, ho1, ho2⟩ | hcs
  rotate_left
  · have hop2 := hop.mono (R' := fun e W' => e = .panicked [mis] ∧ Keeps (rOwn D (.slice (some ⟨g, 0, none⟩) FM.length cap)) w4.drew W') (fun e W' h => by
      rcases h with ⟨o, ⟨h1, h2⟩, _⟩ | ⟨_, h2, h3⟩
      · rw [hcs h1] at h2; cases h2
      · exact ⟨h2, h3⟩)
    have Hop := Lib.hid hop2; have Hp := Lib.hid (hpn hcs)
    have hfin : ∀ w5, Keeps (rOwn D (.slice (some ⟨g, 0, none⟩) FM.length cap)) w4.drew w5 → Keeps (rOwn D (.slice a fm.length c)) W w5 := fun w5 k => (Hu4.out.quiet ((Keeps.refl _ _).drew)).fail k
    have Hfin := Lib.hid hfin
    clear hop hop2 hcs hpn hps hset hr4 hFM hfin
    go_wp2_with fail
    go_region_law (go_simp; go_at_call 108; refine Hop.out.mono ?_; rintro e w5 ⟨rfl, k5⟩; refine bear ⟨rfl, Or.inr ⟨Hp.out, rfl, Hfin.out w5 k5⟩⟩ ?_)
    all_goals exact Born.intro
  have hop2 := hop.mono (R' := fun e W' => e = .returned (.int .i64 o) ∧ RUpd B D w4.drew (.slice (some ⟨g, 0, none⟩) FM.length cap) W' (j + 1 + 1) (.slice (some ⟨g, 0, none⟩) FM.length cap) FM (u || y)) (fun e W' h => by
      rcases h with ⟨o', ⟨h1, h2⟩, h3, h4⟩ | ⟨h1, _⟩
      · rw [ho2] at h2; cases h2; exact ⟨h3, h4⟩
      · rw [h1 ho1] at ho2; cases ho2)
  have Hop := Lib.hid hop2; have Hps := Lib.hid (hps o ho1 ho2); have Hset := Lib.hid hset
  have i1 : (fm.length : Int) < (FM.length : Int) := by omega
  clear hop hop2 hpn hps hset hr4 hFM ho2
  go_wp2_with fail
  go_region_law (go_simp; go_at_call 108; refine Hop.out.mono ?_; rintro e w5 ⟨rfl, hu5⟩; have c3 := hu5.rat.cells.2.2.2.1; have cr : w5.cell? ⟨g, fm.length, none⟩ = some (.int .i64 (FM.getD fm.length 0)) := (by rw [hu5.rat.row.cellAt fm.length (by omega)]; simp [List.getD, hFl]); have fz := hu5.rat.row.frozenAt fm.length; have hlt5 := hu5.rat.lt; have hg5 := World.block_lt_of_cell? w5 _ cr; have Hu5 := Lib.hid hu5; clear hu5)
  all_goals
    have hu6 := (Hu4.out.quiet ((Keeps.refl _ _).drew)).trans (Hu5.out.trans (Hu5.out.rat.poke fm.length o))
    rw [Hset.out] at hu6
    have Hu6 := Lib.hid hu6
    have hr6 := hu6.rat
    clear hu6 Hu5 Hu4 c3 cr fz hlt5 hg5 d0 d1 d2 d3 d4 hf
    go_wp2_with fail
    generalize (w5.setCell ⟨g, fm.length, none⟩ (.int .i64 o)) = w6 at *
    have he2 := expect_any B D w6 32 (j + 1 + 1) _ _ _ hr6
    refine he2.mono ?_
    rintro e w7 (⟨h1, rfl, hu7⟩ | ⟨h1, rfl, hk7⟩)
    rotate_left
    · have hp : ppair ss 0 D.s.toList n i = none := by rw [Hps.out, if_neg h1]
      have Hp := Lib.hid hp; have Hk7 := Lib.hid hk7
      clear hp h1 hk7 he2 hr6
      go_wp2_with fail
      exact ⟨rfl, Or.inr ⟨Hp.out, rfl, Hu6.out.fail Hk7.out⟩⟩
    have hps2 := Hps.out
    rw [if_pos h1] at hps2
    have Hps2 := Lib.hid hps2
    have hu7' := Hu6.out.trans hu7
    have Hu7 := Lib.hid hu7'
    have hr7 := hu7'.rat
    clear he2 hr6 hps2 hu7 hu7' h1 Hps
    go_wp2_with fail
    refine (hT _ _ _ _ _ hr7 (by omega)).mono ?_
    rintro e w8 (⟨j2, l2, y2, v8, h1, rfl, hu8⟩ | ⟨h1, rfl, hk8⟩)
    rotate_left
    · have hp : ppair ss 0 D.s.toList n i = none := by rw [Hps2.out, h1]
      have Hp := Lib.hid hp; have Hk8 := Lib.hid hk8
      clear hp h1 hk8 hr7
      go_wp2_with fail
      exact ⟨rfl, Or.inr ⟨Hp.out, rfl, Hu7.out.fail Hk8.out⟩⟩
    have hps3 := Hps2.out
    rw [h1] at hps3
    dsimp only at hps3
    have Hps3 := Lib.hid hps3
    have hu8' := Hu7.out.trans hu8
    have Hu8 := Lib.hid hu8'
    have hr8 := hu8'.rat
    clear hr7 hps3 hu8 hu8' h1 Hps2
    go_wp2_with fail
    have he3 := expect_any B D w8 41 j2 _ _ _ hr8
    refine he3.mono ?_
    rintro e w9 (⟨h1, rfl, hu9⟩ | ⟨h1, rfl, hk9⟩)
    rotate_left
    · have hp : ppair ss 0 D.s.toList n i = none := by rw [Hps3.out, if_neg h1]
      have Hp := Lib.hid hp; have Hk9 := Lib.hid hk9
      clear hp h1 hk9 he3 hr8
      go_wp2_with fail
      exact ⟨rfl, Or.inr ⟨Hp.out, rfl, Hu8.out.fail Hk9.out⟩⟩
    have hp := Hps3.out
    rw [if_pos h1] at hp
    have Hp := Lib.hid hp
    have Hu9 := Lib.hid (Hu8.out.trans hu9)
    clear he3 hr8 hp hu9 h1
    go_wp2_with fail
    refine bodyPost_end (results_none rfl _ _ _) rfl ?_
    exact Or.inl ⟨_, _, _, _, Hp.out, rfl, by simpa [Bool.or_assoc] using Hu9.out⟩

theorem reader_all (B : Nat) (D : RD) (ss : List ByteArray) (hN : NumOk D ss) : ∀ n, TermSpec B D ss n
  | 0 => fun W i v fm u r h => by have := r.hi; omega
  | n + 1 => term_of B D ss hN n (reader_all B D ss hN n) (pair_of B D ss n (reader_all B D ss hN n))

open Go Go.RowKit Go.WideMaps Go.Maps
set_option linter.unusedSimpArgs false
set_option linter.unusedVariables false

theorem readIdle (p : Addr) (w : World) :
    CallsD Tryz.prog 57 #[.pointer (some p)] .returning w fun e u' w' => e = .returned (.tuple #[]) ∧ u' = .returning ∧ w' = w := by
  refine callsD_of_wpS Tryz.func57 rfl fun c₀ cs hu => ?_
  apply wpS_seq
  apply wpS_region
  simp [wpOpsS, go_sem, recoverD, hu, Tryz.ntmps57, Exit.thenS]
  apply wpS_seq
  apply wpS_region
  simp [wpOpsS, go_sem, Exit.thenS]
  refine wpS_cond (t := false) (by simp [Act.eval, Array.replicate]) ?_
  simp only [Bool.false_eq_true, if_false]
  refine wpS_of_wp (wp_skip ?_)
  cases c₀
  simp_all [bodyPostS, results, Tryz.results57]

theorem readMis (eb : Nat) (x : Value) (w : World) (hc : w.cell? ⟨eb, 0, none⟩ = some x) (hz : w.frozen? ⟨eb, 0, none⟩ = false) :
    CallsD Tryz.prog 57 #[.pointer (some ⟨eb, 0, none⟩)] (.panicking [mis]) w fun e u' w' => e = .returned (.tuple #[]) ∧ u' = .panicking [{ mis with recovered := true }] ∧ w' = (w.alloc (.cells #[] 96)).setCell ⟨eb, 0, none⟩ (.int .i64 4) := by
  refine callsD_of_wpS Tryz.func57 rfl fun c₀ cs hu => ?_
  apply wpS_seq
  apply wpS_region
  simp [wpOpsS, go_sem, recoverD, hu, mis, Tryz.ntmps57, Exit.thenS]
  apply wpS_seq
  apply wpS_region
  simp [wpOpsS, go_sem, Exit.thenS]
  refine wpS_cond (t := true) (by simp [Act.eval, Array.replicate]) ?_
  simp only [if_true]
  have hta : ∀ w, (Instr.typeAssert (.iface 96 (.agg #[])) 20 96 true).run Tryz.prog w = .ok (.tuple #[.agg #[], .bool true]) w := fun _ => by kernel_rfl
  apply wpS_seq
  apply wpS_seq
  apply wpS_region
  simp [wpOpsS, go_sem, hta, Exit.thenS]
  apply wpS_seq
  apply wpS_region
  simp [wpOpsS, go_sem, Exit.thenS]
  refine wpS_cond (t := false) (by simp [Act.eval, Array.replicate]) ?_
  simp only [Bool.false_eq_true, if_false]
  refine wpS_of_wp (wp_skip ?_)
  simp only [Exit.thenS]
  have hk := keeps_alloc w (.cells #[] 96)
  have hc' := hk.cell hc (fun e => e)
  have hz' := (hk.frozen (o := 0) (World.block_lt_of_cell? w _ hc) (fun e => e)).trans hz
  apply wpS_region
  simp [wpOpsS, go_sem, hc', hz', bodyPostS, results, Tryz.results57]

theorem RAt.side {S : Nat → Prop} {B : Nat} {D : RD} {W W' : World} {i : Nat} {v : Value} {fm : List Int} {u : Bool} (r : RAt B D W i v fm u) (k : Keeps S W W') (h1 : ¬ S D.rb) (h2 : ¬ S D.mb) (h3 : ∀ b, v.ownBlock = some b → ¬ S b) : RAt B D W' i v fm u :=
  ⟨r.hB, (k.block _ r.lt h1).trans r.blk, ownsRow_of_block r.row (fun b hb => k.block b (r.row.lt b hb).2 (h3 b hb)), r.map.kept (k.block _ r.map.lt h2), r.hi, r.sz, r.fl⟩

/-- The error's own cell, laid ahead of the reading and written behind it. -/
theorem box_done {B : Nat} {D : RD} {W w1 : World} {i j : Nat} {v v' : Value} {fm fm' : List Int} {u u' : Bool} {o : Obj} (r : RAt B D W i v fm u) (hu : RUpd B D (W.alloc o) v w1 j v' fm' u') (q : Nat) (x : Value) : RUpd B D W v ((w1.drewN q).setCell ⟨W.heap.size, 0, none⟩ x) j v' fm' u' := by
  have hsz : (W.alloc o).heap.size = W.heap.size + 1 := by simp
  have hk : Keeps (fun b => b = W.heap.size) w1 ((w1.drewN q).setCell ⟨W.heap.size, 0, none⟩ x) := Keeps.setCell (S := fun b => b = W.heap.size) (p := ⟨W.heap.size, 0, none⟩) ((Keeps.refl _ _).drewN q) (Or.inl rfl) x
  have hrb := r.lt
  have hmb := r.map.lt
  refine ⟨hu.rat.side hk (by omega) (by omega) (fun b hb => ?_), ?_, fun b hb => ?_⟩
  · rcases hu.own b hb with h | h
    · have := (r.row.lt b h).2; omega
    · omega
  · exact Keeps.setCell (S := rOwn D v) (p := ⟨W.heap.size, 0, none⟩) (((keeps_alloc W o).mono (fun _ e => e.elim) : Keeps (rOwn D v) W (W.alloc o)).trans hu.keeps (fun k h => Or.inl h) |>.drewN q) (Or.inr (Nat.le_refl _)) x
  · rcases hu.own b hb with h | h
    · exact Or.inl h
    · right; omega
theorem box_fail {D : RD} {W w1 : World} {v : Value} {o o' : Obj} (k : Keeps (rOwn D v) (W.alloc o) w1) (x : Value) : Keeps (rOwn D v) W ((w1.alloc o').setCell ⟨W.heap.size, 0, none⟩ x) :=
  Keeps.setCell (S := rOwn D v) (p := ⟨W.heap.size, 0, none⟩) ((((keeps_alloc W o).mono (fun _ e => e.elim) : Keeps (rOwn D v) W (W.alloc o)).trans k (fun k h => Or.inl h)).alloc o') (Or.inr (Nat.le_refl _)) x

def ReadEnd (B : Nat) (D : RD) (W : World) (v : Value) (fm : List Int) (u : Bool) (res : Option PRes) (e : Ending) (W' : World) : Prop :=
  (∃ l y v', res = some (D.s.size, l, y) ∧ e = .returned (.int .i64 0) ∧ RUpd B D W v W' D.s.size v' (fm ++ l) (u || y)) ∨
  ((∀ l y, res ≠ some (D.s.size, l, y)) ∧ e = .returned (.int .i64 4) ∧ Keeps (rOwn D v) W W')

set_option maxRecDepth 100000 in
set_option maxHeartbeats 1600000 in
theorem read_any (B : Nat) (D : RD) (ss : List ByteArray) (hN : NumOk D ss) (W : World) (v : Value) (fm : List Int) (u : Bool) (n : Nat) (i : Nat) (r : RAt B D W i v fm u) (hn : D.s.size < n + i) :
    Calls Tryz.prog 35 #[.pointer (some ⟨D.rb, 0, none⟩)] W (ReadEnd B D W v fm u (pterm ss 0 D.s.toList n i)) := by
  have hk := keeps_alloc W (.cells #[.int .i64 0] 28)
  have ht := reader_all B D ss hN n _ i v fm u (r.quiet hk) hn
  have hno : ¬ rOwn D v W.heap.size := fun h => by
    rcases h with h | h
    · have := r.lt; omega
    · have := (r.row.lt _ h).2; omega
  have hc0 : (W.alloc (.cells #[.int .i64 0] 28)).cell? ⟨W.heap.size, 0, none⟩ = some (.int .i64 0) := by simp
  have hz0 : (W.alloc (.cells #[.int .i64 0] 28)).frozen? ⟨W.heap.size, 0, none⟩ = false := by simp
  have hl0 : W.heap.size < (W.alloc (.cells #[.int .i64 0] 28)).heap.size := by simp
  have Ht := Lib.hid ht; have Hr := Lib.hid r; have Hno := Lib.hid hno; have Hk := Lib.hid hk
  clear ht r hno hk
  have hmf : ∀ (fn : Fn) (first cap : Array Value) (w : World), (Instr.makeFunc fn first cap).run Tryz.prog w = .ok (.func fn first cap) w := fun _ _ _ _ => rfl
  generalize hres : pterm ss 0 D.s.toList n i = res at *
  clear hres
  go_enter_defers Tryz.func35, Tryz.ntmps35
  go_wp2_with fail
  refine Ht.out.mono ?_
  rintro e w1 (⟨j, l, y, v', h1, rfl, hu⟩ | ⟨h1, rfl, hk1⟩)
  · have ec := hu.keeps.cell hc0 Hno.out
    have ez := (hu.keeps.frozen (o := 0) hl0 Hno.out).trans hz0
    have el := World.block_lt_of_cell? w1 _ ec
    obtain ⟨d0, d1, d2, d3, d4⟩ := hu.rat.cells
    have hj := hu.rat.hi
    have hz := hu.rat.sz
    have Hu := Lib.hid hu
    clear hu
    by_cases hje : j = D.s.size
    · subst hje
      go_wp2_with fail
      go_quiet (fail)
      go_wp2_with fail
      refine leaves_cons (f := 57) (args := #[.pointer (some ⟨W.heap.size, 0, none⟩)]) (by simp) (by simp [go_sem]) ?_
      refine (readIdle _ _).mono ?_
      rintro e u' w'' ⟨rfl, rfl, rfl⟩
      simp [Leaves, settle, results, Tryz.results35, go_sem, ec]
      exact Or.inl ⟨l, y, v', h1, rfl, box_done Hr.out Hu.out nq _⟩
    · have hjl : j < D.s.size := by omega
      have hjl2 : (j : Int) < (D.s.size : Int) := by omega
      go_wp2_with fail
      go_quiet (fail)
      go_wp2_with fail
      refine leaves_cons (f := 57) (args := #[.pointer (some ⟨W.heap.size, 0, none⟩)]) (by simp) (by simp [go_sem]) ?_
      refine (readMis _ (.int .i64 0) _ (by simpa using ec) (by simpa using ez)).mono ?_
      rintro e u' w'' ⟨rfl, rfl, rfl⟩
      have e4 := World.cell?_setCell_same ((w1.drewN nq).alloc (.cells #[] 96)) ⟨W.heap.size, 0, none⟩ (.int .i64 4) ((keeps_alloc (w1.drewN nq) (.cells #[] 96)).cell (v := .int .i64 0) (by simpa using ec) (fun e => e))
      simp [Leaves, settle, results, Tryz.results35, go_sem, mis, e4]
      exact Or.inr ⟨fun l' y' hh => hje (by cases hh; rfl), rfl, box_fail (Hu.out.keeps.drewN nq) _⟩
  · have ec := hk1.cell hc0 Hno.out
    have ez := (hk1.frozen (o := 0) hl0 Hno.out).trans hz0
    have Hk1 := Lib.hid hk1
    clear hk1
    go_wp2_with fail
    refine leaves_cons (f := 57) (args := #[.pointer (some ⟨W.heap.size, 0, none⟩)]) (by simp) (by simp [go_sem]) ?_
    refine (readMis _ (.int .i64 0) _ (by simpa using ec) (by simpa using ez)).mono ?_
    rintro e u' w'' ⟨rfl, rfl, rfl⟩
    have e4 := World.cell?_setCell_same (w1.alloc (.cells #[] 96)) ⟨W.heap.size, 0, none⟩ (.int .i64 4) ((keeps_alloc w1 (.cells #[] 96)).cell ec (fun e => e))
    simp [Leaves, settle, results, Tryz.results35, go_sem, mis, e4]
    exact Or.inr ⟨fun l' y' hh => (by cases hh), rfl, box_fail Hk1.out _⟩

open Go Go.RowKit Go.WideMaps Go.Maps
set_option linter.unusedSimpArgs false
set_option linter.unusedVariables false

noncomputable def numF (ss : List ByteArray) : Nat → Value → Option Value
  | 0 => fun _ => none
  | k + 1 => putV (numF ss k) (.string (ss.getD k ByteArray.empty)) (.int .i64 (k : Int))

theorem numF_at (ss : List ByteArray) (hn : namesOk ss) (t : ByteArray) (j : Nat) (hj : j < ss.length) (ht : ss.getD j ByteArray.empty = t) : ∀ k, k ≤ ss.length → numF ss k (.string t) = if j < k then some (.int .i64 (j : Int)) else none
  | 0, _ => by simp [numF]
  | k + 1, hk => by
    have ih := numF_at ss hn t j hj ht k (by omega)
    unfold numF
    by_cases e : ss.getD k ByteArray.empty = t
    · have : j = k := by
        by_cases h1 : j < k
        · exact absurd (by rw [e, ← ht]; exact List.mem_take_iff_getElem.2 ⟨j, by omega, by simp [List.getD, hj]⟩) (hn k (by omega)).2
        · by_cases h2 : k < j
          · exact absurd (by rw [ht, ← e]; exact List.mem_take_iff_getElem.2 ⟨k, by omega, by simp [List.getD, show k < ss.length by omega]⟩) (hn j hj).2
          · omega
      subst this
      rw [e, putV_same, if_pos (by omega)]
    · rw [putV_other _ _ _ (by simpa using fun h => e h.symm), ih]
      have : j ≠ k := fun h => e (by rw [← h]; exact ht)
      by_cases h1 : j < k
      · rw [if_pos h1, if_pos (by omega)]
      · rw [if_neg h1, if_neg (by omega)]
theorem numF_no (ss : List ByteArray) (t : ByteArray) (h : ∀ j, j < ss.length → ss.getD j ByteArray.empty ≠ t) : ∀ k, k ≤ ss.length → numF ss k (.string t) = none
  | 0, _ => rfl
  | k + 1, hk => by
    unfold numF
    rw [putV_other _ _ _ (by simpa using fun e => h k (by omega) e.symm)]
    exact numF_no ss t h k (by omega)

theorem list_inj {s t : ByteArray} (h : s.toList = t.toList) : s = t := by
  rw [ByteArray.toList_eq, ByteArray.toList_eq] at h
  exact ByteArray.ext (Array.toList_inj.1 h)

theorem numOf_at {ss : List ByteArray} (hn : namesOk ss) {t : ByteArray} {j : Nat} (hj : j < ss.length) (ht : ss.getD j ByteArray.empty = t) : numOf ss t.toList = some j := by
  unfold numOf
  rw [if_pos]
  · congr 1
    rw [List.findIdx_eq hj]
    have e : ss[j] = t := by simpa [List.getD, hj] using ht
    refine ⟨by rw [e]; simp, fun k hk => ?_⟩
    rw [beq_eq_false_iff_ne]
    intro h
    have hk2 : k < ss.length := by omega
    have e2 := list_inj h
    refine (hn j hj).2 ?_
    rw [ht, ← e2]
    exact List.mem_take_iff_getElem.2 ⟨k, by omega, rfl⟩
  · rw [List.any_eq_true]
    exact ⟨t, by rw [← ht]; simp [List.getD, hj], by simp⟩
theorem numOf_no {ss : List ByteArray} {t : ByteArray} (h : ∀ j, j < ss.length → ss.getD j ByteArray.empty ≠ t) : numOf ss t.toList = none := by
  unfold numOf
  rw [if_neg]
  rw [List.any_eq_true]
  rintro ⟨s, hs, e⟩
  obtain ⟨j, hj, rfl⟩ := List.getElem_of_mem hs
  exact h j hj (by simp [List.getD, hj]; exact list_inj (by simpa using e))

theorem numOk_of {D : RD} {ss : List ByteArray} (hn : namesOk ss) (hF : D.F = numF ss ss.length) : NumOk D ss := by
  intro t
  rw [hF]
  by_cases h : ∃ j, j < ss.length ∧ ss.getD j ByteArray.empty = t
  · obtain ⟨j, hj, ht⟩ := h
    rw [numF_at ss hn t j hj ht _ (Nat.le_refl _), if_pos hj, numOf_at hn hj ht]; rfl
  · have h2 : ∀ j, j < ss.length → ss.getD j ByteArray.empty ≠ t := fun j hj e => h ⟨j, hj, e⟩
    rw [numF_no ss t h2 _ (Nat.le_refl _), numOf_no h2]; rfl

theorem numOf_lt {ss : List ByteArray} {t : List UInt8} {k : Nat} (h : numOf ss t = some k) : k < ss.length := by
  unfold numOf at h
  split at h
  · rename_i ha
    cases h
    rw [List.any_eq_true] at ha
    exact List.findIdx_lt_length_of_exists ha
  · cases h
theorem opOf_fits {c : UInt8} {o : Int} (h : opOf c = some o) : -6 ≤ o ∧ o ≤ -4 := by
  unfold opOf at h
  split at h
  · cases h; omega
  · split at h
    · cases h; omega
    · split at h
      · cases h; omega
      · cases h
theorem pword_fits {ss : List ByteArray} {s : List UInt8} {i : Nat} {r : PRes} (h : pword ss 0 s i = some r) : ∀ x ∈ r.2.1, -6 ≤ x ∧ x ≤ ss.length := by
  unfold pword at h
  split at h
  · cases h; intro x hx; simp at hx; omega
  · split at h
    · cases h; intro x hx; simp at hx; omega
    · split at h
      · cases hn : numOf ss (wordAt s i) with
        | none => rw [hn] at h; cases h; intro x hx; simp at hx; omega
        | some k => rw [hn] at h; cases h; intro x hx; simp at hx; have := numOf_lt hn; omega
      · cases h
theorem pterm_fits {ss : List ByteArray} {s : List UInt8} : ∀ {n i : Nat} {r : PRes}, pterm ss 0 s n i = some r → ∀ x ∈ r.2.1, -6 ≤ x ∧ x ≤ ss.length
  | 0, i, r, h => by simp [pterm] at h
  | n + 1, i, r, h => by
    rw [pterm_step] at h
    split at h
    · split at h
      · cases hp : pterm ss 0 s n (i + 1) with
        | none => rw [hp] at h; cases h
        | some a =>
          rw [hp] at h
          cases h
          intro x hx
          simp at hx
          rcases hx with rfl | hx
          · omega
          · exact pterm_fits hp x hx
      · split at h
        · unfold ppair at h
          cases hp : pterm ss 0 s n (i + 1) with
          | none => rw [hp] at h; cases h
          | some a =>
            rw [hp] at h
            dsimp only at h
            split at h
            · split at h
              · cases ho : opOf (s.getD (a.1 + 1) 0) with
                | none => rw [ho] at h; cases h
                | some o =>
                  rw [ho] at h
                  dsimp only at h
                  split at h
                  · cases hq : pterm ss 0 s n (a.1 + 3) with
                    | none => rw [hq] at h; cases h
                    | some b =>
                      rw [hq] at h
                      dsimp only at h
                      split at h
                      · cases h
                        intro x hx
                        simp at hx
                        rcases hx with rfl | hx | hx
                        · have := opOf_fits ho; omega
                        · exact pterm_fits hp x hx
                        · exact pterm_fits hq x hx
                      · cases h
                  · cases h
              · cases h
            · cases h
        · exact pword_fits h
    · cases h

theorem RAt.ints {B : Nat} {D : RD} {W : World} {i : Nat} {a : Option Addr} {c : Nat} {fm : List Int} {u : Bool} (r : RAt B D W i (.slice a fm.length c) fm u) (hf : ∀ x ∈ fm, -9223372036854775808 ≤ x ∧ x ≤ 9223372036854775807) : IntsAt W a c fm := by
  have h1 := r.fl; have h2 := r.hi; have h3 := r.sz
  refine ⟨by unfold maxLen; omega, fun h0 => ?_, hf⟩
  obtain ⟨g, cap, e, _, _⟩ := World.ownsRow.form r.row h0
  simp at e
  obtain ⟨rfl, rfl⟩ := e
  refine ⟨g, 0, rfl, fun k hk => ?_⟩
  rw [Nat.zero_add, r.row.cellAt k (by omega)]
  simp [List.getD, hk]

/-- What Parse must answer. -/
def parseRes (s : ByteArray) (res : Option PRes) : List Int × Int :=
  match res with
  | none => ([], 4)
  | some r => if r.1 = s.size then (if r.2.2 = true then ([], 10) else if 100 < r.2.1.length then ([], 11) else (r.2.1, 0)) else ([], 4)
def parseAns (ss : List ByteArray) (fs : List (List Int)) (s : ByteArray) : List Int × Int :=
  if modelErr ss fs = 0 then (if 65536 < s.size then ([], 2) else parseRes s (pterm ss 0 s.toList (s.size + 1) 0)) else ([], modelErr ss fs)
def ParseEnd (w : World) (ans : List Int × Int) (e : Ending) (w' : World) : Prop :=
  (∃ a c, e = .returned (.tuple #[.slice a ans.1.length c, .int .i64 ans.2]) ∧ IntsAt w' a c ans.1) ∧ Keeps (fun _ => False) w w'

set_option maxRecDepth 100000 in
set_option maxHeartbeats 3200000 in
theorem parse_any (ao ar : Option Addr) (ca cr : Nat) (ss : List ByteArray) (fs : List (List Int)) (s : ByteArray) (w : World) (h : ModelAt w ao ar ss fs) (hs : s.size ≤ maxLen) :
    Calls Tryz.prog 15 #[.agg #[.slice ao ss.length ca, .slice ar fs.length cr], .string s] w (ParseEnd w (parseAns ss fs s)) := by
  have hl1 := h.strs.len
  unfold maxLen at hl1 hs
  have hkA := keeps_alloc w (.cells #[.slice ao ss.length ca, .slice ar fs.length cr] 25)
  have hM := checkModel_any ao ar ca cr ss fs _ (h.keeps hkA)
  have hbx := box0 w (.slice ao ss.length ca) (.slice ar fs.length cr) 25
  have hnil : ∀ w', IntsAt w' none 0 [] := fun w' => ⟨Nat.zero_le _, fun h0 => absurd h0 (by simp), fun x hx => by simp at hx⟩
  have HM := Lib.hid hM; have HkA := Lib.hid hkA
  clear hM hkA
  by_cases hm : modelErr ss fs = 0
  rotate_left
  · have ha : parseAns ss fs s = ([], modelErr ss fs) := if_neg hm
    have hne : ((modelErr ss fs) != 0) = true := by simpa using hm
    rw [ha]
    clear ha hm h
    generalize modelErr ss fs = x at *
    go_enter Tryz.func15, Tryz.ntmps15
    go_wp2_with fail
    refine HM.out.mono ?_
    rintro e w1 ⟨rfl, hb1⟩
    go_wp2_with fail
    go_ret2
    exact ⟨⟨none, 0, rfl, hnil _⟩, HkA.out.step (Keeps.of_bel hb1)⟩
  by_cases hlen : 65536 < s.size
  · have ha : parseAns ss fs s = ([], 2) := by unfold parseAns; rw [if_pos hm, if_pos hlen]
    rw [ha]
    have Hm := Lib.hid hm
    have b1 : decide (65536 < (s.size : Int)) = true := decide_eq_true (by omega)
    clear ha hm h
    go_enter Tryz.func15, Tryz.ntmps15
    go_wp2_with fail
    refine HM.out.mono ?_
    rintro e w1 ⟨rfl, hb1⟩
    rw [Hm.out]
    go_wp2_with fail
    go_ret2
    exact ⟨⟨none, 0, rfl, hnil _⟩, HkA.out.step (Keeps.of_bel hb1)⟩
  have ha : parseAns ss fs s = parseRes s (pterm ss 0 s.toList (s.size + 1) 0) := by unfold parseAns; rw [if_pos hm, if_neg hlen]
  rw [ha]
  have b1 : decide (65536 < (s.size : Int)) = false := decide_eq_false (by omega)
  have hno := (modelErr_zero hm).2.2.1
  have Hm := Lib.hid hm; have Hno := Lib.hid hno
  have hmm := @run_makeMap Tryz.prog
  clear ha hm hno
  go_enter Tryz.func15, Tryz.ntmps15
  go_wp2_with fail
  refine HM.out.mono ?_
  rintro e w1 ⟨rfl, hb1⟩
  rw [Hm.out]
  have hc0 := cell_kept hbx hb1 (Nat.le_refl _)
  have blm : w.heap.size < w1.heap.size := World.block_lt_of_cell? w1 _ hc0
  go_wp2_with fail
  have hmp : MapV ((w1.alloc (.map #[] 0)).alloc (.cells #[.string s, .int .i64 0, .map (some w1.heap.size), .slice none 0 0, .bool false] 66)) Tryz.prog 9 w1.heap.size 0 (numF ss 0) := (MapV.made w1 _ _).kept (Below.heap_alloc _ _ _ (by simp))
  have hbk : ((w1.alloc (.map #[] 0)).alloc (.cells #[.string s, .int .i64 0, .map (some w1.heap.size), .slice none 0 0, .bool false] 66)).heap[w1.heap.size + 1]? = some (.cells #[.string s, .int .i64 0, .map (some w1.heap.size), .slice none 0 0, .bool false] 66 (0, 0)) := by
    have := heap_alloc_new (w1.alloc (.map #[] 0)) (.cells #[.string s, .int .i64 0, .map (some w1.heap.size), .slice none 0 0, .bool false] 66)
    simpa using this
  have hk0 : Keeps (fun _ => False) w ((w1.alloc (.map #[] 0)).alloc (.cells #[.string s, .int .i64 0, .map (some w1.heap.size), .slice none 0 0, .bool false] 66)) := ((HkA.out.step (Keeps.of_bel hb1)).alloc _).alloc _
  have hmb : w1.heap.size < ((w1.alloc (.map #[] 0)).alloc (.cells #[.string s, .int .i64 0, .map (some w1.heap.size), .slice none 0 0, .bool false] 66)).heap.size := by simp; omega
  generalize ((w1.alloc (.map #[] 0)).alloc (.cells #[.string s, .int .i64 0, .map (some w1.heap.size), .slice none 0 0, .bool false] 66)) = V at *
  have hmw : w.heap.size ≤ w1.heap.size := by omega
  generalize w1.heap.size = mb at *
  have Hh := Lib.hid h; have Hk0 := Lib.hid hk0
  clear h hk0 hbx hb1 hc0
  go_loopw [25] (fun i wr => ∃ k : Nat, k ≤ ss.length ∧ i = .int .i64 k ∧ MapV wr Tryz.prog 9 mb k (numF ss k) ∧ wr.heap[mb + 1]? = some (.cells #[.string s, .int .i64 0, .map (some mb), .slice none 0 0, .bool false] 66 (0, 0)) ∧ Keeps (fun b => b = mb) V wr) (fun i _ => ss.length - (intOf i).toNat)
  case atStart => exact ⟨0, Nat.zero_le _, rfl, hmp, hbk, Keeps.refl _ _⟩
  case round =>
    obtain ⟨k, hk, rfl, hm, hb, kp⟩ := hrel
    have hbel : Below w.heap.size w wr := (Hk0.out.trans kp (fun b e => Or.inr (by omega)) : Keeps (fun _ => False) w wr).bel
    have hrc : wr.cell? ⟨mb + 1, 2, none⟩ = some (.map (some mb)) := by rw [cell_of_row wr (mb + 1) _ _ _ (0, 0) hb]; rfl
    by_cases hlt : k < ss.length
    · obtain ⟨b, off, rfl, hc⟩ := (Hh.out.strs.kept hbel (Nat.le_refl _)).cells (by omega)
      have hck := hc k hlt
      have hsl := Hh.out.strs.fits (ss.getD k ByteArray.empty) (by simp [List.getD, hlt])
      have hnext : numF ss (k + 1) = putV (numF ss k) (.string (ss.getD k ByteArray.empty)) (.int .i64 (k : Int)) := rfl
      have i1 : (k : Int) < (ss.length : Int) := by omega
      generalize ss.getD k ByteArray.empty = nm at *
      have Hn := Lib.hid hnext; have Hb := Lib.hid hb; have Kp := Lib.hid kp
      clear hc hnext hb kp hbel
      go_wp2_with (at_mapUpdate; refine wpList_mapUpdate_V _ rfl _ _ _ 64 rfl 9 3 strLaw Tryz.underlying64 _ _ _ rfl hm (by unfold maxLen; omega) _ _ rfl rfl _ (keyOf_string_mk Tryz.underlying9 hsl) ?_; intro w2 hm2 hg2; have Hm2 := Lib.hid hm2; have Hg2 := Lib.hid hg2; clear hm2 hg2)
      go_roundw
      case rel => exact ⟨k + 1, by omega, by go_num, by rw [Hn.out]; exact Hm2.out, by
        have := Hg2.out.block (mb + 1) (Array.getElem?_eq_some_iff.1 Hb.out).1 (by simp)
        exact this.trans Hb.out, Kp.out.grown Hg2.out (fun j e => by cases e; exact Or.inl rfl)⟩
      case measure => simp [intOf]; omega
    · obtain rfl : k = ss.length := by omega
      have hN : NumOk ⟨mb + 1, mb, ss.length, s, numF ss ss.length⟩ ss := numOk_of Hno.out rfl
      have hrat : RAt w.heap.size ⟨mb + 1, mb, ss.length, s, numF ss ss.length⟩ wr 0 (.slice none 0 0) [] false := ⟨by simp; omega, hb, World.ownsRow_nil _ _ _ _, hm, Nat.zero_le _, by simp; omega, Nat.le_refl _⟩
      have hrd := read_any _ _ ss hN wr _ [] false (s.size + 1) 0 hrat (by simp)
      have hkw : ∀ w5, Keeps (rOwn ⟨mb + 1, mb, ss.length, s, numF ss ss.length⟩ (.slice none 0 0)) wr w5 → Keeps (fun _ => False) w w5 := fun w5 k5 => (Keeps.of_bel hbel).trans k5 (fun b hb => by
        rcases hb with h | h
        · simp at h; right; omega
        · simp [Value.ownBlock] at h)
      have Hrd := Lib.hid hrd; have Hkw := Lib.hid hkw
      clear hrd hkw hrat hN hm hb kp hbel
      go_wp2_with fail
      refine Hrd.out.mono ?_
      rintro e w5 (⟨l, y, v', h1, rfl, hu⟩ | ⟨h1, rfl, hk5⟩)
      rotate_left
      · have ha : parseRes s (pterm ss 0 s.toList (s.size + 1) 0) = ([], 4) := by
          cases hp : pterm ss 0 s.toList (s.size + 1) 0 with
          | none => rfl
          | some r =>
            obtain ⟨j, l, y⟩ := r
            unfold parseRes
            dsimp only
            rw [if_neg]
            intro hj
            subst hj
            exact h1 l y hp
        have Ha := Lib.hid ha; have Hk5 := Lib.hid hk5
        clear ha h1 hk5
        go_wp2_with fail
        go_ret2
        exact ⟨by rw [Ha.out]; exact ⟨none, 0, rfl, hnil _⟩, Hkw.out _ Hk5.out⟩
      rw [List.nil_append, Bool.false_or] at hu
      obtain ⟨a, c, rfl⟩ := hu.rat.shape
      obtain ⟨d0, d1, d2, d3, d4⟩ := hu.rat.cells
      have hfl := hu.rat.fl
      have hll : l.length ≤ 65536 := by simp at hfl; omega
      have hfit := pterm_fits h1
      have hfit2 : ∀ x ∈ l, -9223372036854775808 ≤ x ∧ x ≤ 9223372036854775807 := fun x hx => by have := hfit x hx; omega
      have hints := hu.rat.ints hfit2
      dsimp only at d0 d1 d2 d3 d4 h1
      have Hints := Lib.hid hints; have Hu := Lib.hid hu
      clear hu hints hfit hfit2 hfl
      cases y
      · by_cases h100 : 100 < l.length
        · have ha : parseRes s (pterm ss 0 s.toList (s.size + 1) 0) = ([], 11) := by rw [h1]; unfold parseRes; dsimp only; rw [if_pos rfl, if_neg (by simp), if_pos h100]
          have b2 : decide (100 < (l.length : Int)) = true := decide_eq_true (by omega)
          have Ha := Lib.hid ha
          clear ha h1
          go_wp2_with fail
          go_ret2
          exact ⟨by rw [Ha.out]; exact ⟨none, 0, rfl, hnil _⟩, Hkw.out _ Hu.out.keeps⟩
        · have ha : parseRes s (pterm ss 0 s.toList (s.size + 1) 0) = (l, 0) := by rw [h1]; unfold parseRes; dsimp only; rw [if_pos rfl, if_neg (by simp), if_neg h100]
          have b2 : decide (100 < (l.length : Int)) = false := decide_eq_false (by omega)
          have Ha := Lib.hid ha
          clear ha h1
          go_wp2_with fail
          go_ret2
          exact ⟨by rw [Ha.out]; exact ⟨a, c, rfl, Hints.out⟩, Hkw.out _ Hu.out.keeps⟩
      · have ha : parseRes s (pterm ss 0 s.toList (s.size + 1) 0) = ([], 10) := by rw [h1]; unfold parseRes; dsimp only; rw [if_pos rfl, if_pos rfl]
        have Ha := Lib.hid ha
        clear ha h1
        go_wp2_with fail
        go_ret2
        exact ⟨by rw [Ha.out]; exact ⟨none, 0, rfl, hnil _⟩, Hkw.out _ Hu.out.keeps⟩
end Go.Proofs.YtngjjmniigkeoaaGreatDoor
