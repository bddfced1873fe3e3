/- works: the look at the examples succeeds. -/
import Derived.Test.YtpebjjpiehhobaaGreatDoorEx
namespace Go.Proofs.YtpebjjpiehhobaaGreatDoor
open Go Go.RowKit Go.WideMaps Go.Maps
set_option linter.unusedSimpArgs false
set_option linter.unusedVariables false

theorem ex_lens : exS.length = 3 ∧ exF.length = 2 := ⟨rfl, rfl⟩
theorem ex_names : namesOk exS := by
  have e0 : (exS.getD 0 ByteArray.empty).toList = [116, 111, 119] := by rw [ByteArray.toList_eq]; rfl
  have e1 : (exS.getD 1 ByteArray.empty).toList = [104, 101, 97, 116] := by rw [ByteArray.toList_eq]; rfl
  have e2 : (exS.getD 2 ByteArray.empty).toList = [108, 101, 100] := by rw [ByteArray.toList_eq]; rfl
  intro j hj
  have : j = 0 ∨ j = 1 ∨ j = 2 := by simp [exS] at hj; omega
  rcases this with rfl | rfl | rfl
  · exact ⟨by rw [e0]; decide, by simp [exS]⟩
  · exact ⟨by rw [e1]; decide, by simp [exS]⟩
  · exact ⟨by rw [e2]; decide, by simp [exS]⟩
theorem ex_model : modelErr exS exF = 0 := by
  unfold modelErr
  rw [if_neg (by decide), if_neg (by simpa using ex_names)]
  decide
theorem ex_check : checkErr exS exF [[-1]] = 0 := by
  rw [checkErr_forms ex_model]; decide
theorem ex_count (W : World) (ao ar : Addr) (ca cr : Nat) (af : Option Addr) (cf : Nat) (h : ModelAt W (some ao) (some ar) exS exF) (hf : IntsAt W af cf [-1]) :
    Calls Tryz.prog 29 #[.agg #[.slice (some ao) 3 ca, .slice (some ar) 2 cr], .slice af 1 cf] W fun e w' => e = .returned (.tuple #[.int .i64 4, .int .i64 0]) ∧ Below W.heap.size W w' := by
  have := count_all (some ao) (some ar) af ca cr cf exS exF [-1] W h hf (fun e => by cases e) ex_check (by decide) (by decide) (by decide) (by decide)
  have e : counted exS.length (exF ++ [[-1]]) = 4 := ex_counted
  rw [e] at this
  exact this

def WMost (e : Ending) (w' : World) : Prop := ∃ g, e = .returned (.tuple #[.int .i64 5, .slice (some ⟨g, 0, none⟩) 3 3, .int .i64 0]) ∧ BoolsAt w' (some ⟨g, 0, none⟩) [false, true, true]
theorem ex_most (W : World) (ao ar : Addr) (ca cr : Nat) (al wo : Option Addr) (cl wc : Nat) (h : ModelAt W (some ao) (some ar) exS exF) (hg : FormsAt W al [[1], [2], [0]]) (hws : IntsAt W wo wc [3, 2, 2]) (tab : Tab W.heap.size W) (hcl : al = none → cl = 0) :
    Calls Tryz.prog 31 #[.agg #[.slice (some ao) 3 ca, .slice (some ar) 2 cr], .slice al 3 cl, .slice wo 3 wc] W (fun e w' => WMost e w' ∧ Below W.heap.size W w') := by
  have := most_all (some ao) (some ar) al wo ca cr cl wc exS exF [[1], [2], [0]] [3, 2, 2] W h (fun e => by cases e) hcl hg hws tab ex_model (by decide) (by decide) (by decide) rfl (by decide) (by decide) (by decide) (by decide)
  refine this.mono ?_
  rintro e w' ⟨⟨sum, g, vs, he, hr, hb⟩ | ⟨_, hno⟩, hbl⟩
  · obtain ⟨rfl, rfl⟩ := ex_best hb hr.len
    exact ⟨⟨g, he, hr.bools (by decide)⟩, hbl⟩
  · exfalso
    have h1 := hno (fun i => decide (0 < i))
    have h2 : allF 3 exF (fun i => decide (0 < i)) = false := h1
    rw [ex_all] at h2
    revert h2
    decide

theorem ex_forms (w : World) : FormsAt (((((w.alloc (.cells #[.int .i64 1] 3)).alloc (.cells #[.int .i64 2] 3)).alloc (.cells #[.int .i64 0] 3)).alloc (.cells #[.slice (some ⟨w.heap.size, 0, none⟩) 1 1, .slice (some ⟨w.heap.size + 1, 0, none⟩) 1 1, .slice (some ⟨w.heap.size + 1 + 1, 0, none⟩) 1 1] 27)).alloc (.cells #[.int .i64 3, .int .i64 2, .int .i64 2] 3)) (some ⟨w.heap.size + 1 + 1 + 1, 0, none⟩) [[1], [2], [0]] ∧
    IntsAt (((((w.alloc (.cells #[.int .i64 1] 3)).alloc (.cells #[.int .i64 2] 3)).alloc (.cells #[.int .i64 0] 3)).alloc (.cells #[.slice (some ⟨w.heap.size, 0, none⟩) 1 1, .slice (some ⟨w.heap.size + 1, 0, none⟩) 1 1, .slice (some ⟨w.heap.size + 1 + 1, 0, none⟩) 1 1] 27)).alloc (.cells #[.int .i64 3, .int .i64 2, .int .i64 2] 3)) (some ⟨w.heap.size + 1 + 1 + 1 + 1, 0, none⟩) 3 [3, 2, 2] ∧
    Below w.heap.size w (((((w.alloc (.cells #[.int .i64 1] 3)).alloc (.cells #[.int .i64 2] 3)).alloc (.cells #[.int .i64 0] 3)).alloc (.cells #[.slice (some ⟨w.heap.size, 0, none⟩) 1 1, .slice (some ⟨w.heap.size + 1, 0, none⟩) 1 1, .slice (some ⟨w.heap.size + 1 + 1, 0, none⟩) 1 1] 27)).alloc (.cells #[.int .i64 3, .int .i64 2, .int .i64 2] 3)) := by
  obtain ⟨x0, x1, x2, x3, x4, x5, x6⟩ := boxes5 w (.cells #[.int .i64 1] 3) (.cells #[.int .i64 2] 3) (.cells #[.int .i64 0] 3) (.cells #[.slice (some ⟨w.heap.size, 0, none⟩) 1 1, .slice (some ⟨w.heap.size + 1, 0, none⟩) 1 1, .slice (some ⟨w.heap.size + 1 + 1, 0, none⟩) 1 1] 27) (.cells #[.int .i64 3, .int .i64 2, .int .i64 2] 3)
  generalize (((((w.alloc (.cells #[.int .i64 1] 3)).alloc (.cells #[.int .i64 2] 3)).alloc (.cells #[.int .i64 0] 3)).alloc (.cells #[.slice (some ⟨w.heap.size, 0, none⟩) 1 1, .slice (some ⟨w.heap.size + 1, 0, none⟩) 1 1, .slice (some ⟨w.heap.size + 1 + 1, 0, none⟩) 1 1] 27)).alloc (.cells #[.int .i64 3, .int .i64 2, .int .i64 2] 3)) = W at *
  refine ⟨⟨by simp [maxLen], fun _ => ⟨_, 0, rfl, fun k hk => ?_⟩⟩, ints_of_block x4 rfl (by decide) (by decide) 3, x6⟩
  have : k = 0 ∨ k = 1 ∨ k = 2 := by simp at hk; omega
  rcases this with rfl | rfl | rfl
  · exact ⟨some ⟨w.heap.size, 0, none⟩, 1, (cell_of_row W _ 0 _ _ (0, 0) x3).trans rfl, ints_of_block x0 rfl (by decide) (by decide) 1⟩
  · exact ⟨some ⟨w.heap.size + 1, 0, none⟩, 1, (cell_of_row W _ 1 _ _ (0, 0) x3).trans rfl, ints_of_block x1 rfl (by decide) (by decide) 1⟩
  · exact ⟨some ⟨w.heap.size + 1 + 1, 0, none⟩, 1, (cell_of_row W _ 2 _ _ (0, 0) x3).trans rfl, ints_of_block x2 rfl (by decide) (by decide) 1⟩
theorem ex_here (W : World) : Calls Tryz.prog 30 #[] W (fun e w' => ∃ ao ar ca cr, e = .returned (.agg #[.slice (some ao) 3 ca, .slice (some ar) 2 cr]) ∧ ModelAt w' (some ao) (some ar) exS exF ∧ Below W.heap.size W w') := example_any W

set_option maxRecDepth 100000 in
set_option maxHeartbeats 3200000 in
theorem works_any (w : World) (tab : Tab w.heap.size w) : Calls Tryz.prog 12 #[] w fun e w' => e = .returned (.bool true) ∧ Below w.heap.size w w' := by
  have hex := fun W => ex_here W
  have Hex := Lib.hid hex; have Htab := Lib.hid tab
  clear hex tab
  go_enter Tryz.func12, Tryz.ntmps12
  go_wp2_with fail
  refine (Hex.out w).mono ?_
  rintro e w1 ⟨ao, ar, ca, cr, rfl, hm1, hb1⟩
  have hi1 : IntsAt (w1.alloc (.cells #[.int .i64 (-1)] 3)) (some ⟨w1.heap.size, 0, none⟩) 1 [-1] := ints_of_block (cs := #[.int .i64 (-1)]) (xs := [-1]) (heap_alloc_new w1 _) rfl (by decide) (by decide) 1
  have hcount := ex_count (w1.alloc (.cells #[.int .i64 (-1)] 3)) ao ar ca cr (some ⟨w1.heap.size, 0, none⟩) 1 (hm1.kept (below_alloc w1 _) (Nat.le_refl _)) hi1
  have hb1a : Below w.heap.size w (w1.alloc (.cells #[.int .i64 (-1)] 3)) := hb1.trans ((below_alloc w1 _).mono hb1.size)
  have Hcount := Lib.hid hcount; have Hb1 := Lib.hid hb1a
  clear hcount hb1a hi1 hm1 hb1
  go_wp2_with fail
  refine Hcount.out.mono ?_
  rintro e w2 ⟨rfl, hb2⟩
  have hb2a : Below w.heap.size w w2 := Hb1.out.trans (hb2.mono Hb1.out.size)
  have Hb2 := Lib.hid hb2a
  clear hb2 hb2a Hb1 Hcount
  go_wp2_with fail
  refine (Hex.out w2).mono ?_
  rintro e w3 ⟨ao2, ar2, ca2, cr2, rfl, hm3, hb3⟩
  have hb3a : Below w.heap.size w w3 := Hb2.out.trans (hb3.mono Hb2.out.size)
  obtain ⟨hf, hi, hb4⟩ := ex_forms w3
  have hm5 := hm3.kept hb4 (Nat.le_refl _)
  have hb5 := hb3a.trans (hb4.mono hb3a.size)
  have hmost := ex_most _ ao2 ar2 ca2 cr2 (some ⟨w3.heap.size + 1 + 1 + 1, 0, none⟩) (some ⟨w3.heap.size + 1 + 1 + 1 + 1, 0, none⟩) 3 3 hm5 hf hi ((Htab.out.on hb5).up hb5.size) (fun e => by cases e)
  have Hmost := Lib.hid hmost; have Hb5 := Lib.hid hb5
  clear hmost hf hi hb4 hm5 hb5 hb3a hm3 hb3 Hb2 Hex Htab
  go_wp2_with fail
  refine Hmost.out.mono ?_
  rintro e w6 ⟨⟨g, rfl, hbl⟩, hbl6⟩
  have hb6 : Below w.heap.size w (w6.alloc (.cells #[.bool false, .bool true, .bool true] 4)) := (Hb5.out.trans (hbl6.mono Hb5.out.size)).trans ((below_alloc w6 _).mono (Nat.le_trans Hb5.out.size hbl6.size))
  have Hb6 := Lib.hid hb6
  have hbr : BoolsAt (w6.alloc (.cells #[.bool false, .bool true, .bool true] 4)) (some ⟨w6.heap.size, 0, none⟩) [false, true, true] := ⟨by simp [maxLen], fun _ => ⟨w6.heap.size, 0, rfl, fun k hk => by
    rw [Nat.zero_add, cell_of_row _ _ k _ _ (0, 0) (heap_alloc_new w6 _)]
    have : k = 0 ∨ k = 1 ∨ k = 2 := by simp at hk; omega
    rcases this with rfl | rfl | rfl <;> rfl⟩⟩
  have hbl2 : BoolsAt (w6.alloc (.cells #[.bool false, .bool true, .bool true] 4)) (some ⟨g, 0, none⟩) [false, true, true] := ⟨hbl.len, fun h0 => by
    obtain ⟨b, off, e, hc⟩ := hbl.cells h0
    exact ⟨b, off, e, fun k hk => alloc_cell (hc k hk) _⟩⟩
  have hsame := same_any (some ⟨g, 0, none⟩) (some ⟨w6.heap.size, 0, none⟩) 3 3 [false, true, true] [false, true, true] _ hbl2 hbr
  have e3 : ([false, true, true] == [false, true, true]) = true := by decide
  rw [e3] at hsame
  have Hsame := Lib.hid hsame
  clear hsame hbl hbl2 hbr e3 Hmost hbl6 hb6
  go_wp2_with fail
  refine (Hsame.out).mono ?_
  rintro e w7 ⟨rfl, hk7⟩
  have hb7 := Hb6.out.trans (hk7.below Hb6.out.size (fun _ e => e.elim))
  have Hb7 := Lib.hid hb7
  clear hb7 hk7
  go_wp2_with fail
  go_ret
  exact ⟨rfl, Hb7.out⟩
end Go.Proofs.YtpebjjpiehhobaaGreatDoor
