/- What a frame waits for: add, rivalsOf. -/
import Derived.Test.YtcelbmpdnkaamaaBuQ
namespace Go.Proofs.Ytcelbmpdnkaamaa
open Go Go.RowKit Go.WideMaps Go.Maps
set_option linter.unusedSimpArgs false
set_option linter.unusedVariables false

theorem infoFrame : (Try.prog.info? 56).map (fun i => (i.zero, i.size, i.bytes)) = some (some (.agg #[.int .i64 0, .int .i64 0, .int .i64 0, .int .i64 0, .int .i64 0]), 5, 40) := by kernel_rfl
def frCells (f : Fr) : List Value := [.int .i64 f.s, .int .i64 f.e, .int .i64 f.j, .int .i64 f.d, .int .i64 f.r]
theorem flat5_len (l : List Fr) : (l.flatMap frCells).length = l.length * 5 := by
  induction l with
  | nil => rfl
  | cons x l ih => rw [List.flatMap_cons, List.length_append, ih]; simp [frCells]; omega
theorem flat5_at (l : List Fr) (k : Nat) (hk : k < l.length) : ∀ i, i < 5 → (l.flatMap frCells)[k * 5 + i]? = (frCells (frAt l k))[i]? := by
  induction l generalizing k with
  | nil => simp at hk
  | cons x l ih =>
    intro i hi
    have hx : (frCells x).length = 5 := rfl
    cases k with
    | zero =>
      rw [List.flatMap_cons, List.getElem?_append_left (by omega)]
      simp [frAt]
    | succ k =>
      have := ih k (by simpa using hk) i hi
      rw [List.flatMap_cons, List.getElem?_append_right (by omega), hx, show (k + 1) * 5 + i - 5 = k * 5 + i by omega, this]
      simp [frAt]
/-- A row of frames of the call's own, empty or not. -/
def OwnF (w : World) (B : Nat) (a : Option Addr) (c : Nat) (ls : List Fr) : Prop := w.ownsRow B 56 5 (.slice a ls.length c) ls.length (ls.flatMap frCells)
theorem OwnF.nil (w : World) (B : Nat) : OwnF w B none 0 [] := World.ownsRow_nil _ _ _ _
theorem OwnF.lt {w : World} {B : Nat} {a : Option Addr} {c : Nat} {ls : List Fr} (h : OwnF w B a c ls) {j : Nat} (e : (Value.slice a ls.length c).ownBlock = some j) : B ≤ j ∧ j < w.heap.size := by
  have h0 : w.ownsRow B 56 5 (.slice a ls.length c) ls.length (ls.flatMap frCells) := h
  exact h0.lt j e
theorem OwnF.ks {S : Nat → Prop} {w w' : World} {B : Nat} {a : Option Addr} {c : Nat} {ls : List Fr} (h : OwnF w B a c ls) (k : Keeps S w w') (hs : ∀ j, S j → j < B) : OwnF w' B a c ls := by
  have h0 : w.ownsRow B 56 5 (.slice a ls.length c) ls.length (ls.flatMap frCells) := h
  exact ownsRow_of_block h0 (fun j e => k.block j (h0.lt j e).2 (fun hj => by have := hs j hj; have := (h0.lt j e).1; omega))
theorem OwnF.kp {w w' : World} {B : Nat} {a : Option Addr} {c : Nat} {ls : List Fr} (h : OwnF w B a c ls) (k : Kp w w') : OwnF w' B a c ls := h.ks k (fun _ e => e.elim)
theorem OwnF.frames {w : World} {B : Nat} {a : Option Addr} {c : Nat} {ls : List Fr} (h : OwnF w B a c ls) (hl : ls.length ≤ maxLen) : FramesAt w a ls := by
  have h0 : w.ownsRow B 56 5 (.slice a ls.length c) ls.length (ls.flatMap frCells) := h
  rcases h0.2 with ⟨e1, e2⟩ | ⟨g, cap, cur, e1, e2⟩
  · exact ⟨hl, fun h2 => by omega⟩
  · simp only [Value.slice.injEq] at e1
    obtain ⟨rfl, -, rfl⟩ := e1
    have hlen := flat5_len ls
    refine ⟨hl, fun h2 => ⟨g, 0, rfl, fun k hk => ?_⟩⟩
    have hc : ∀ i, i < 5 → w.cell? ⟨g, 0 + k * 5 + i, none⟩ = (frCells (frAt ls k))[i]? := fun i hi => by
      rw [Nat.zero_add, h0.cellAt (k * 5 + i) (by omega), flat5_at ls k hk i hi]
    exact ⟨hc 0 (by omega), hc 1 (by omega), hc 2 (by omega), hc 3 (by omega), hc 4 (by omega)⟩

def rivObj (a : Option Addr) (n c : Nat) (rest : Int) : Obj := .cells #[.slice a n c, .int .i64 rest] 65 (0, 0)
/-- Rivals while they are gathered. -/
structure Riv (w : World) (b B : Nat) (a : Option Addr) (c : Nat) (ls : List Fr) (rest : Int) : Prop where
  box : w.heap[b]? = some (rivObj a ls.length c rest)
  own : OwnF w B a c ls
  lt : b < B
  sz : B ≤ w.heap.size

def AddEnd (w : World) (b B : Nat) (ls : List Fr) (rest : Int) (e : Ending) (w' : World) : Prop := e = .returned (.tuple #[]) ∧ (∃ a c, Riv w' b B a c ls rest) ∧ Keeps (fun j => j = b ∨ B ≤ j) w w'

set_option maxRecDepth 100000 in
set_option maxHeartbeats 3200000 in
theorem add_yes (b B : Nat) (a : Option Addr) (c : Nat) (ls : List Fr) (rest : Int) (f : Fr) (w : World) (h : Riv w b B a c ls rest) (hn : ls.length ≤ 40) :
    Calls Try.prog 64 #[.pointer (some ⟨b, 0, none⟩), frV f, .bool true] w (AddEnd w b B (ls ++ [f]) rest) := by
  have hlt := h.lt
  have hsz := h.sz
  have hbl : b < w.heap.size := by omega
  obtain ⟨i0, hi0, hz0, hz1, hz2⟩ := info_parts infoFrame
  unfold frV
  have hka := kp_alloc w (.cells #[.int .i64 f.s, .int .i64 f.e, .int .i64 f.j, .int .i64 f.d, .int .i64 f.r] 56)
  have hVs : (w.alloc (.cells #[.int .i64 f.s, .int .i64 f.e, .int .i64 f.j, .int .i64 f.d, .int .i64 f.r] 56)).heap.size = w.heap.size + 1 := by simp
  have hb1 := hka.blk h.box
  have hc0 : (w.alloc (.cells #[.int .i64 f.s, .int .i64 f.e, .int .i64 f.j, .int .i64 f.d, .int .i64 f.r] 56)).cell? ⟨b, 0, none⟩ = some (.slice a ls.length c) := (cell_of_row _ b 0 _ _ (0, 0) hb1).trans rfl
  have g0 : (w.alloc (.cells #[.int .i64 f.s, .int .i64 f.e, .int .i64 f.j, .int .i64 f.d, .int .i64 f.r] 56)).cell? ⟨w.heap.size, 0, none⟩ = some (.int .i64 f.s) := by simp
  have g1 : (w.alloc (.cells #[.int .i64 f.s, .int .i64 f.e, .int .i64 f.j, .int .i64 f.d, .int .i64 f.r] 56)).cell? ⟨w.heap.size, 1, none⟩ = some (.int .i64 f.e) := by simp
  have g2' : (w.alloc (.cells #[.int .i64 f.s, .int .i64 f.e, .int .i64 f.j, .int .i64 f.d, .int .i64 f.r] 56)).cell? ⟨w.heap.size, 2, none⟩ = some (.int .i64 f.j) := by simp
  have g3 : (w.alloc (.cells #[.int .i64 f.s, .int .i64 f.e, .int .i64 f.j, .int .i64 f.d, .int .i64 f.r] 56)).cell? ⟨w.heap.size, 3, none⟩ = some (.int .i64 f.d) := by simp
  have g4 : (w.alloc (.cells #[.int .i64 f.s, .int .i64 f.e, .int .i64 f.j, .int .i64 f.d, .int .i64 f.r] 56)).cell? ⟨w.heap.size, 4, none⟩ = some (.int .i64 f.r) := by simp
  have hone : ∀ u ∈ frCells f, u.oneCell' = true := by intro u hu; simp [frCells] at hu; rcases hu with rfl | rfl | rfl | rfl | rfl <;> rfl
  have hown1 := h.own.kp hka
  have Hown := Lib.hid hown1; have Hka := Lib.hid hka; have Hb1 := Lib.hid hb1; have Hone := Lib.hid hone
  clear h hown1 hka hb1 hone
  go_enter Try.func64, Try.ntmps64
  go_wp2_with fail
  generalize (w.alloc (.cells #[.int .i64 f.s, .int .i64 f.e, .int .i64 f.j, .int .i64 f.d, .int .i64 f.r] 56)) = W at *
  have hbW : b < W.heap.size := by omega
  have hwW : w.heap.size < W.heap.size := by omega
  have hnewb : ∀ X : World, X.heap.size = W.heap.size → (X.alloc (.cells #[.int .i64 f.s, .int .i64 f.e, .int .i64 f.j, .int .i64 f.d, .int .i64 f.r] 56)).heap[W.heap.size]? = some (.cells #[.int .i64 f.s, .int .i64 f.e, .int .i64 f.j, .int .i64 f.d, .int .i64 f.r] 56 (0, 0)) := fun X e => by rw [← e]; exact heap_alloc_new X _
  have Hnb := Lib.hid hnewb
  clear hnewb
  go_region_law (go_loud (refine step_append_lies _ rfl (.tmp 11) (.tmp 13) 22 rfl B 56 i0 (.agg #[.int .i64 0, .int .i64 0, .int .i64 0, .int .i64 0, .int .i64 0]) 5 40 Try.underlying22 hi0 hz0 hz1 hz2 rfl (by decide) (.slice a ls.length c) ls.length (ls.flatMap frCells) (by simp [Act.eval, Act.put]) (by first | exact Hown.out.kp (kp_alloc _ _) | exact Hown.out.kp (Keeps.drew (kp_alloc _ _))) ⟨W.heap.size, 0, none⟩ 1 1 (frCells f) (by simp [Act.eval, Act.put]) rfl (World.news_of_block (cs := #[.int .i64 f.s, .int .i64 f.e, .int .i64 f.j, .int .i64 f.d, .int .i64 f.r]) (t := 56) (fr := (0, 0)) (by first | exact Hnb.out W rfl | exact Hnb.out W.drew rfl)) Hone.out (by omega) (by unfold maxLen; omega) (by omega) (by first | omega | (simp; omega)) _ rfl ?_); intro g2 cap2 w2 hown hgrow hat hlt2; have hk2 : Keeps (fun j => (Value.slice a ls.length c).ownBlock = some j) W w2 := (by first | exact ((Keeps.refl _ W).alloc _).drew.grown hgrow (fun k e => Or.inl e) | exact ((Keeps.refl _ W).drew.alloc _).grown hgrow (fun k e => Or.inl e)); have hb2 : w2.heap[b]? = some (rivObj a ls.length c rest) := (hk2.block b hbW (fun e => by have := (Hown.out.lt e).1; omega)).trans Hb1.out; have hc2 : w2.cell? ⟨b, 0, none⟩ = some (.slice a ls.length c) := (cell_of_row w2 b 0 _ _ (0, 0) hb2).trans rfl; have hf2 : w2.frozen? ⟨b, 0, none⟩ = false := (by simp [World.frozen?, hb2, rivObj]); clear hgrow hat)
  all_goals
    have hsame := heap_setCell_same w2 b 0 _ _ (.slice (some ⟨g2, 0, none⟩) (ls.length + 1) cap2) hb2
    have hk3 : Keeps (fun j => j = b) w2 (w2.setCell ⟨b, 0, none⟩ (.slice (some ⟨g2, 0, none⟩) (ls.length + 1) cap2)) := (Keeps.refl (fun j => j = b) w2).setCell (p := ⟨b, 0, none⟩) (Or.inl rfl) _
    have hown4 : OwnF w2 B (some ⟨g2, 0, none⟩) cap2 (ls ++ [f]) := by
      unfold OwnF
      rw [List.length_append, List.flatMap_append]
      simpa using hown
    have hown5 := hown4.ks hk3 (fun j e => by omega)
    have hk4 : Keeps (fun j => j = b ∨ B ≤ j) w (w2.setCell ⟨b, 0, none⟩ (.slice (some ⟨g2, 0, none⟩) (ls.length + 1) cap2)) :=
      ((Hka.out.mono (S' := fun j => j = b ∨ B ≤ j) (fun _ e => e.elim)).trans hk2 (fun j e => Or.inl (Or.inr (Hown.out.lt e).1))).trans hk3 (fun j e => Or.inl (Or.inl e))
    refine bodyPost_end (results_none rfl _ _ _) rfl ?_
    exact ⟨rfl, ⟨some ⟨g2, 0, none⟩, cap2, ⟨by rw [List.length_append]; exact hsame, hown5, hlt, by have := hk4.size; omega⟩⟩, hk4⟩

set_option maxRecDepth 100000 in
set_option maxHeartbeats 3200000 in
theorem add_no (b B : Nat) (a : Option Addr) (c : Nat) (ls : List Fr) (rest : Int) (f : Fr) (w : World) (h : Riv w b B a c ls rest) (hs : 1 ≤ f.s ∧ f.s ≤ 1000) (hr : 0 ≤ rest ∧ rest ≤ 1000) :
    Calls Try.prog 64 #[.pointer (some ⟨b, 0, none⟩), frV f, .bool false] w (AddEnd w b B ls (max rest (f.s - 1))) := by
  have hlt := h.lt
  have hsz := h.sz
  have hbl : b < w.heap.size := by omega
  unfold frV
  have hka := kp_alloc w (.cells #[.int .i64 f.s, .int .i64 f.e, .int .i64 f.j, .int .i64 f.d, .int .i64 f.r] 56)
  have hVs : (w.alloc (.cells #[.int .i64 f.s, .int .i64 f.e, .int .i64 f.j, .int .i64 f.d, .int .i64 f.r] 56)).heap.size = w.heap.size + 1 := by simp
  have hb1 := hka.blk h.box
  have hc1 : (w.alloc (.cells #[.int .i64 f.s, .int .i64 f.e, .int .i64 f.j, .int .i64 f.d, .int .i64 f.r] 56)).cell? ⟨b, 1, none⟩ = some (.int .i64 rest) := (cell_of_row _ b 1 _ _ (0, 0) hb1).trans rfl
  have hf1 : (w.alloc (.cells #[.int .i64 f.s, .int .i64 f.e, .int .i64 f.j, .int .i64 f.d, .int .i64 f.r] 56)).frozen? ⟨b, 1, none⟩ = false := by simp [World.frozen?, hb1, rivObj]
  have g0 : (w.alloc (.cells #[.int .i64 f.s, .int .i64 f.e, .int .i64 f.j, .int .i64 f.d, .int .i64 f.r] 56)).cell? ⟨w.heap.size, 0, none⟩ = some (.int .i64 f.s) := by simp
  have hown1 := h.own.kp hka
  have Hown := Lib.hid hown1; have Hka := Lib.hid hka; have Hb1 := Lib.hid hb1
  clear h hown1 hka hb1
  go_enter Try.func64, Try.ntmps64
  go_wp2_with fail
  generalize (w.alloc (.cells #[.int .i64 f.s, .int .i64 f.e, .int .i64 f.j, .int .i64 f.d, .int .i64 f.r] 56)) = W at *
  have hfin : ∀ X : World, (X = W.setCell ⟨b, 1, none⟩ (.int .i64 (max rest (f.s - 1))) ∨ X = (W.setCell ⟨b, 1, none⟩ (.int .i64 (max rest (f.s - 1)))).drew) → AddEnd w b B ls (max rest (f.s - 1)) (.returned (.tuple #[])) X := by
    have hsame := heap_setCell_same W b 1 _ _ (.int .i64 (max rest (f.s - 1))) Hb1.out
    have hk3 : Keeps (fun j => j = b) W (W.setCell ⟨b, 1, none⟩ (.int .i64 (max rest (f.s - 1)))) := (Keeps.refl (fun j => j = b) W).setCell (p := ⟨b, 1, none⟩) (Or.inl rfl) _
    have hk4 : Keeps (fun j => j = b ∨ B ≤ j) w (W.setCell ⟨b, 1, none⟩ (.int .i64 (max rest (f.s - 1)))) := (Hka.out.mono (S' := fun j => j = b ∨ B ≤ j) (fun _ e => e.elim)).trans hk3 (fun j e => Or.inl (Or.inl e))
    rintro X (rfl | rfl)
    · exact ⟨rfl, ⟨a, c, ⟨hsame, Hown.out.ks hk3 (fun j e => by omega), hlt, by have := hk4.size; omega⟩⟩, hk4⟩
    · exact ⟨rfl, ⟨a, c, ⟨hsame, (Hown.out.ks hk3 (fun j e => by omega)).kp (Keeps.drew (Kp.refl _)), hlt, by have := hk4.size; exact Nat.le_trans hsz this⟩⟩, hk4.drew⟩
  have Hfin := Lib.hid hfin
  clear hfin
  have hw1 : wrap64 (f.s - 1) = f.s - 1 := wrap_in (by omega) (by omega)
  by_cases hm : rest < f.s - 1
  · have hmx : max rest (f.s - 1) = f.s - 1 := by omega
    rw [hmx] at Hfin ⊢
    clear hmx
    go_region
    all_goals
      refine bodyPost_end (results_none rfl _ _ _) rfl ?_
      exact Hfin.out _ (by first | exact Or.inl rfl | exact Or.inr rfl)
  · have hmx : max rest (f.s - 1) = rest := by omega
    rw [hmx] at Hfin ⊢
    clear hmx
    go_region
    all_goals
      refine bodyPost_end (results_none rfl _ _ _) rfl ?_
      exact Hfin.out _ (by first | exact Or.inl rfl | exact Or.inr rfl)
end Go.Proofs.Ytcelbmpdnkaamaa
