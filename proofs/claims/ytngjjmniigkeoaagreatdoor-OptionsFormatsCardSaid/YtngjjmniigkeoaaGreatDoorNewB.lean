/- newDiagrams. -/
import Derived.Test.YtngjjmniigkeoaaGreatDoorNew
namespace Go.Proofs.YtngjjmniigkeoaaGreatDoor
open Go Go.RowKit Go.WideMaps Go.Maps
set_option linter.unusedSimpArgs false
set_option linter.unusedVariables false

/-- Empty diagrams, the levels in the options' own order. -/
structure Fresh (w : World) (n : Nat) (steps : Int) (w' : World) (h : DH) (s : DS) : Prop where
  dia : Dia w' h s
  hn : h.n = n
  lv : Lv w' h s (List.range n)
  steps : s.steps = steps
  cnt : s.cnt = 0
  below : Below w.heap.size w w'
  own : ∀ k, own h s k → w.heap.size ≤ k
  ord : ∃ ao c, h.ov = .slice ao n c
def NewEnd (w : World) (n : Nat) (steps : Int) (e : Ending) (w' : World) : Prop := ∃ h s, e = .returned (.pointer (some ⟨h.b, 0, none⟩)) ∧ Fresh w n steps w' h s

def ends (n : Nat) : List Nd := [⟨n, 0, 0⟩, ⟨n, 0, 0⟩]
theorem wf_ends (n : Nat) : WF n (ends n) := by
  refine ⟨by simp [ends], rfl, rfl, ?_, ?_, ?_, ?_, ?_, ?_, ?_⟩ <;> intros <;> simp [ends] at * <;> omega

theorem fresh_of {w wr w3 : World} {n B g cap : Nat} {steps : Int} {ov lv : Value} (hov : ∃ ao c, ov = .slice ao n c) (hn : n ≤ 40) (hlv : lv = .slice (some ⟨w.heap.size, 0, none⟩) n n) (hB : w.heap.size < B) (hB2 : B + 2 < wr.heap.size)
    (hbl : Below w.heap.size w wr) (hl : IRow wr w.heap.size w.heap.size n n (upto n)) (hblk : wr.heap[B + 2]? = some (.cells #[ov, lv, .slice none 0 0, .map (some B), .map (some (B + 1)), .int .i64 steps] 112 (0, 0)))
    (hm1 : MapV wr Tryz.prog 107 B 0 (fun _ => none)) (hm2 : MapV wr Tryz.prog 152 (B + 1) 0 (fun _ => none))
    (hk : Keeps (fun _ => False) wr w3) (hrow : w3.ownsRow 0 107 3 (.slice (some ⟨g, 0, none⟩) 2 cap) 2 ((ends n).flatMap ndCells)) (hg : wr.heap.size ≤ g) :
    Fresh w n steps (w3.setCell ⟨B + 2, 2, none⟩ (.slice (some ⟨g, 0, none⟩) 2 cap)) ⟨B + 2, n, ov, lv, B, B + 1⟩ ⟨ends n, .slice (some ⟨g, 0, none⟩) 2 cap, fun _ => none, fun _ => none, steps, 0⟩ := by
  have hset : ∀ k, k ≠ B + 2 → (w3.setCell ⟨B + 2, 2, none⟩ (.slice (some ⟨g, 0, none⟩) 2 cap)).heap[k]? = w3.heap[k]? := fun k hk => Below.heap_setCell _ _ _ _ hk
  have hold : ∀ k, k < wr.heap.size → k ≠ B + 2 → (w3.setCell ⟨B + 2, 2, none⟩ (.slice (some ⟨g, 0, none⟩) 2 cap)).heap[k]? = wr.heap[k]? := fun k h1 h2 => (hset k h2).trans (hk.block k h1 (fun e => e))
  have hb3 : w3.heap[B + 2]? = _ := (hk.block (B + 2) (by omega) (fun e => e)).trans hblk
  have hown : ∀ k, own ⟨B + 2, n, ov, lv, B, B + 1⟩ ⟨ends n, .slice (some ⟨g, 0, none⟩) 2 cap, fun _ => none, fun _ => none, steps, 0⟩ k → k = B + 2 ∨ k = B ∨ k = B + 1 ∨ k = g := by
    intro k hk'
    rcases hk' with e | e | e | e
    · exact .inl e
    · exact .inr (.inl e)
    · exact .inr (.inr (.inl e))
    · simp [Value.ownBlock] at e; exact .inr (.inr (.inr e.symm))
  have hsz := hk.size
  have hlr := hl.of_block (hold w.heap.size (by omega) (by omega))
  have hlen : (List.range n).map (fun (x : Nat) => (x : Int)) = upto n := rfl
  refine ⟨⟨?_, ?_, hm1.kept (hold B (by omega) (by omega)), hm2.kept (hold (B + 1) (by omega) (by omega)), by simp, ⟨wf_ends n, ⟨fun i h2 hi => (by simp [ends] at hi; omega), fun x _ => rfl⟩, fun op a b v hv => (by cases hv), by simp [ends]⟩⟩, rfl, ?_, rfl, rfl, ?_, ?_, ?_⟩
  · simp [World.setCell, Array.getElem?_modify, hb3]
  · exact ownsRow_of_block hrow (fun k e => by simp [Value.ownBlock] at e; subst e; exact hset _ (by omega))
  · refine ⟨⟨some ⟨w.heap.size, 0, none⟩, n, by simp [hlv], ⟨by rw [hlen]; exact hlr.ints (by unfold maxLen; omega) (fun x hx => by simp [upto] at hx; obtain ⟨a, ha, rfl⟩ := hx; omega), fun b off _ e => ?_⟩⟩, by simp, fun x hx => by simpa using hx⟩
    simp at e
    obtain ⟨rfl, rfl⟩ := e
    refine ⟨by simp [World.setCell]; omega, fun hk' => ?_⟩
    have := hown _ hk'
    omega
  · refine hbl.trans ⟨hk.os, hk.tape, hk.output, by simp [World.setCell]; omega, fun k hk' => hold k (by omega) (by omega)⟩
  · intro k hk'
    have := hown _ hk'
    omega
  · exact hov

set_option maxRecDepth 100000 in
set_option maxHeartbeats 3200000 in
theorem newDiagrams_any (n : Nat) (steps : Int) (og cap : Nat) (w : World) (hn : n ≤ 40) (ho : IRow w 0 og n cap (upto n)) :
    Calls Tryz.prog 84 #[.slice (some ⟨og, 0, none⟩) n cap, .int .i64 steps] w (NewEnd w n steps) := by
  obtain ⟨i0, hi0, hz0, hz1, hz2⟩ := info_parts infoInt
  have hmm := @run_makeMap Tryz.prog
  have hog := ho.lt.2
  have Ho := Lib.hid ho
  clear ho
  go_enter Tryz.func84, Tryz.ntmps84
  go_wp2_with (first | (at_make; refine wpList_make_full _ rfl _ _ 26 rfl w.heap.size 3 i0 (.int .i64 0) 1 Tryz.underlying26 hi0 hz0 hz1 .i64 .i64 _ _ n rfl rfl rfl rfl (by rw [hz2]; omega) (by unfold maxLen; omega) (by simp) ?_; intro w2 hown hgrow) | fail)
  have hrow : IRow w2 w.heap.size w.heap.size n n (List.replicate n 0) := ⟨by
    have e : (madeCells (Value.int .i64 0).cells (n * 1)).toList = (List.replicate n (0 : Int)).map encI := by
      rw [List.map_replicate]; exact madeCells_one _ _
    rw [← e]; exact hown⟩
  have hsz := hgrow.size
  have hlt := hrow.lt.2
  have hb2 : Below w.heap.size w w2 := (Below.refl _ _).grown hgrow (Nat.le_refl _) (fun k e => by cases e)
  have hog2 : w2.heap[og]? = w.heap[og]? := hgrow.block og hog (by simp)
  have hF : Filled (fun j => (j : Int)) 0 n (List.replicate n (0 : Int)) := ⟨by simp, fun j hj => by omega⟩
  have k0 : Keeps (fun _ => False) w2 (((w2.alloc (.map #[] 0)).alloc (.map #[] 0)).alloc (.cells #[.slice (some ⟨og, 0, none⟩) n cap, .slice (some ⟨w.heap.size, 0, none⟩) n n, .slice none 0 0, .map (some w2.heap.size), .map (some (w2.heap.size + 1)), .int .i64 steps] 112)) := (((Keeps.refl _ _).alloc _).alloc _).alloc _
  have m1 : MapV (((w2.alloc (.map #[] 0)).alloc (.map #[] 0)).alloc (.cells #[.slice (some ⟨og, 0, none⟩) n cap, .slice (some ⟨w.heap.size, 0, none⟩) n n, .slice none 0 0, .map (some w2.heap.size), .map (some (w2.heap.size + 1)), .int .i64 steps] 112)) Tryz.prog 107 w2.heap.size 0 (fun _ => none) :=
    (MapV.made w2 _ _).kept ((Below.heap_alloc _ _ _ (by simp; omega)).trans (Below.heap_alloc _ _ _ (by simp)))
  have m2 : MapV (((w2.alloc (.map #[] 0)).alloc (.map #[] 0)).alloc (.cells #[.slice (some ⟨og, 0, none⟩) n cap, .slice (some ⟨w.heap.size, 0, none⟩) n n, .slice none 0 0, .map (some w2.heap.size), .map (some (w2.heap.size + 1)), .int .i64 steps] 112)) Tryz.prog 152 (w2.heap.size + 1) 0 (fun _ => none) := by
    have h0 := MapV.made (w2.alloc (.map #[] 0)) Tryz.prog 152
    have e : (w2.alloc (.map #[] 0)).heap.size = w2.heap.size + 1 := by simp
    rw [e] at h0
    exact h0.kept (Below.heap_alloc _ _ _ (by simp))
  have bk : (((w2.alloc (.map #[] 0)).alloc (.map #[] 0)).alloc (.cells #[.slice (some ⟨og, 0, none⟩) n cap, .slice (some ⟨w.heap.size, 0, none⟩) n n, .slice none 0 0, .map (some w2.heap.size), .map (some (w2.heap.size + 1)), .int .i64 steps] 112)).heap[w2.heap.size + 2]? = some (.cells #[.slice (some ⟨og, 0, none⟩) n cap, .slice (some ⟨w.heap.size, 0, none⟩) n n, .slice none 0 0, .map (some w2.heap.size), .map (some (w2.heap.size + 1)), .int .i64 steps] 112 (0, 0)) := by
    have h0 := heap_alloc_new ((w2.alloc (.map #[] 0)).alloc (.map #[] 0)) (.cells #[.slice (some ⟨og, 0, none⟩) n cap, .slice (some ⟨w.heap.size, 0, none⟩) n n, .slice none 0 0, .map (some w2.heap.size), .map (some (w2.heap.size + 1)), .int .i64 steps] 112)
    have e : ((w2.alloc (.map #[] 0)).alloc (.map #[] 0)).heap.size = w2.heap.size + 2 := by simp
    rw [e] at h0; exact h0
  have sz3 : w2.heap.size + 2 < (((w2.alloc (.map #[] 0)).alloc (.map #[] 0)).alloc (.cells #[.slice (some ⟨og, 0, none⟩) n cap, .slice (some ⟨w.heap.size, 0, none⟩) n n, .slice none 0 0, .map (some w2.heap.size), .map (some (w2.heap.size + 1)), .int .i64 steps] 112)).heap.size := by simp
  generalize ((w2.alloc (.map #[] 0)).alloc (.map #[] 0)).alloc (.cells #[.slice (some ⟨og, 0, none⟩) n cap, .slice (some ⟨w.heap.size, 0, none⟩) n n, .slice none 0 0, .map (some w2.heap.size), .map (some (w2.heap.size + 1)), .int .i64 steps] 112) = W0 at *
  have row0 := hrow.of_block (k0.block _ hlt (fun e => e))
  have bel0 : Below w.heap.size w W0 := hb2.trans (k0.below (by omega) (fun k e => e.elim))
  have og0 : IRow W0 0 og n cap (upto n) := Ho.out.of_block ((k0.block og (by omega) (fun e => e)).trans hog2)
  have hBw : w.heap.size < w2.heap.size := hlt
  generalize hBB : w2.heap.size = B at *
  clear hown hgrow hrow hb2 hog2 k0 hBB hsz hlt
  go_loopw [20] (fun i wr => ∃ (k : Nat) (xs : List Int), k ≤ n ∧ i = .int .i64 k ∧ IRow wr w.heap.size w.heap.size n n xs ∧ Filled (fun j => (j : Int)) k n xs ∧ Keeps (fun b => b = w.heap.size) W0 wr) (fun i _ => n - (intOf i).toNat)
  case atStart => exact ⟨0, _, Nat.zero_le _, rfl, row0, hF, Keeps.refl _ _⟩
  case round =>
    clear row0 hF
    obtain ⟨k, xs, hk, rfl, hr, hF, hkp⟩ := hrel
    have bkr := (hkp.block (B + 2) (by omega) (by omega)).trans bk
    by_cases hlt2 : k < n
    · have hc := hr.cell (j := k) hlt2
      have hf := hr.frozen k
      have hoc := (og0.of_block (hkp.block og (by omega) (by omega))).cell (j := k) hlt2
      rw [upto_at hlt2] at hoc
      have hr2 := hr.set k (k : Int)
      have hF2 := hF.step hlt2
      have hk2 : Keeps (fun b => b = w.heap.size) W0 (wr.setCell ⟨w.heap.size, k, none⟩ (.int .i64 (k : Int))) := hkp.setCell (Or.inl rfl) _
      have hc5 : wr.cell? ⟨B + 1 + 1, 1, none⟩ = some (.slice (some ⟨w.heap.size, 0, none⟩) n n) := (cell_of_row wr (B + 2) _ _ _ (0, 0) bkr).trans rfl
      have i1 : (k : Int) < (n : Int) := by omega
      clear hr hF hkp bkr
      go_wp2_with fail
      go_roundw
      case rel => exact ⟨k + 1, _, by omega, by go_num, hr2, hF2, hk2⟩
      case measure => simp [intOf]; omega
    · obtain rfl : n = k := by omega
      have hx := hF.upto
      subst hx
      have hbl := bel0.trans (hkp.below (Nat.le_of_lt (by omega : w.heap.size < W0.heap.size)) (fun k e => by omega))
      have hm1 := m1.kept (hkp.block B (by omega) (by omega))
      have hm2 := m2.kept (hkp.block (B + 1) (by omega) (by omega))
      have hsz2 := hkp.size
      obtain ⟨j0, hj0, hy0, hy1, hy2⟩ := info_parts infoNode
      have hlev := hr
      have hfr : ∀ (W3 : World) (g cap2 : Nat), Keeps (fun _ => False) (wr.alloc (.cells #[.int .i64 n, .int .i32 0, .int .i32 0] 107)) W3 → W3.ownsRow 0 107 3 (.slice (some ⟨g, 0, none⟩) 2 cap2) 2 ((ends n).flatMap ndCells) → wr.heap.size ≤ g →
          NewEnd w n steps (.returned (.pointer (some ⟨B + 1 + 1, 0, none⟩))) (W3.setCell ⟨B + 1 + 1, 2, none⟩ (.slice (some ⟨g, 0, none⟩) 2 cap2)) := by
        intro W3 g cap2 hk hrw hg
        exact ⟨_, _, rfl, fresh_of ⟨_, _, rfl⟩ hn rfl hBw (by omega) hbl hlev bkr hm1 hm2 (((Keeps.refl _ _).alloc _).trans hk (fun _ e => e.elim)) hrw hg⟩
      have hc2 : wr.cell? ⟨B + 1 + 1, 2, none⟩ = some (.slice none 0 0) := (cell_of_row wr (B + 2) _ _ _ (0, 0) bkr).trans rfl
      have hf2 : wr.frozen? ⟨B + 1 + 1, 2, none⟩ = false := by simp [World.frozen?, bkr]
      have hBr : B + 2 < wr.heap.size := by omega
      have hBne : B + 1 + 1 ≠ wr.heap.size := by omega
      have Hfr := Lib.hid hfr; have Hbk := Lib.hid bkr
      clear hr hF hkp bkr hbl hm1 hm2 hlev hfr bk m1 m2 og0 bel0 hsz2
      go_wp2_with fail
      have hWs : (wr.alloc (.cells #[.int .i64 n, .int .i32 0, .int .i32 0] 107)).heap.size = wr.heap.size + 1 := by simp
      have hW2 : (wr.alloc (.cells #[.int .i64 n, .int .i32 0, .int .i32 0] 107)).cell? ⟨B + 1 + 1, 2, none⟩ = some (.slice none 0 0) := (World.cell?_of_block (Below.heap_alloc _ _ _ hBr)).trans hc2
      have hW3 : (wr.alloc (.cells #[.int .i64 n, .int .i32 0, .int .i32 0] 107)).heap[B + 2]? = _ := (Below.heap_alloc _ _ _ hBr).trans Hbk.out
      have e0 : (wr.alloc (.cells #[.int .i64 n, .int .i32 0, .int .i32 0] 107)).cell? ⟨wr.heap.size, 0, none⟩ = some (.int .i64 n) := by simp
      have e1 : (wr.alloc (.cells #[.int .i64 n, .int .i32 0, .int .i32 0] 107)).cell? ⟨wr.heap.size, 1, none⟩ = some (.int .i32 0) := by simp
      have e2 : (wr.alloc (.cells #[.int .i64 n, .int .i32 0, .int .i32 0] 107)).cell? ⟨wr.heap.size, 2, none⟩ = some (.int .i32 0) := by simp
      generalize wr.alloc (.cells #[.int .i64 n, .int .i32 0, .int .i32 0] 107) = W at *
      have hone : ∀ u ∈ (ends n).flatMap ndCells, u.oneCell' = true := by intro u hu; simp [ends, ndCells] at hu; rcases hu with rfl | rfl | rfl | rfl <;> rfl
      have hWne : B + 1 + 1 ≠ W.heap.size := by omega
      have hWlt : B + 1 + 1 < W.heap.size := by omega
      have HWs := Lib.hid hWs; have HW3 := Lib.hid hW3; have Hone := Lib.hid hone
      clear hone
      clear hWs hW3 hc2 hf2
      go_region_law (refine step_append_lies _ rfl (.tmp 40) (.tmp 43) 108 rfl 0 107 j0 (.agg #[.int .i64 0, .int .i32 0, .int .i32 0]) 3 16 Tryz.underlying108 hj0 hy0 hy1 hy2 rfl (by decide) (.slice none 0 0) 0 [] (by simp [Act.eval, Act.put]) (World.ownsRow_nil _ _ _ _) ⟨W.heap.size, 0, none⟩ 2 2 ((ends n).flatMap ndCells) (by simp [Act.eval, Act.put]) rfl (World.news_of_block (cs := #[.int .i64 n, .int .i32 0, .int .i32 0, .int .i64 n, .int .i32 0, .int .i32 0]) (t := 107) (fr := (0, 0)) (by exact heap_alloc_new W _)) Hone.out (by omega) (by unfold maxLen; omega) (by omega) (Nat.zero_le _) _ rfl ?_; intro g cap2 W3 hown hgrow hat hlt3; have hk3 : Keeps (fun _ => False) W W3 := (by first | exact ((Keeps.refl _ W).alloc _).drew.grown hgrow (fun k e => by simp [Value.ownBlock] at e) | exact ((Keeps.refl _ W).drew.alloc _).grown hgrow (fun k e => by simp [Value.ownBlock] at e)); have hat2 : wr.heap.size ≤ g := (by rcases hat with e | e; (simp [Value.ownBlock] at e); (have := HWs.out; simp at e; omega)); have hb3 : W3.heap[B + 2]? = _ := (hk3.block (B + 2) (by have := HWs.out; omega) (fun e => e)).trans HW3.out; have hc3 : W3.cell? ⟨B + 1 + 1, 2, none⟩ = some (.slice none 0 0) := (cell_of_row W3 (B + 2) _ _ _ (0, 0) hb3).trans rfl; have hf3 : W3.frozen? ⟨B + 1 + 1, 2, none⟩ = false := (by simp [World.frozen?, hb3]))
      all_goals
        have hfin := Hfr.out W3 g cap2 hk3 hown hat2
        have Hfin := Lib.hid hfin
        clear hfin hown hgrow hk3 hb3
        go_wp2_with fail
        go_ret
        exact Hfin.out
end Go.Proofs.YtngjjmniigkeoaaGreatDoor
