/- slices.Grow and slices.Concat of lists of formulas. -/
import Derived.Test.YtngjjmniigkeoaaGreatDoorNew
import Derived.Lib.AppendZeros
import Derived.Maps.AppendAt
import Derived.Laws.AppendOwnNone
namespace Go.Proofs.YtngjjmniigkeoaaGreatDoor
open Go Go.RowKit Go.WideMaps Go.Maps
set_option linter.unusedSimpArgs false
set_option linter.unusedVariables false

theorem infoForm : (Tryz.prog.info? 27).map (fun i => (i.zero, i.size, i.bytes)) = some (some (.slice none 0 0), 1, 24) := by kernel_rfl

def GrowEnd (w : World) (e : Ending) (w' : World) : Prop := ∃ v, e = .returned v ∧ w'.ownsRow w.heap.size 27 1 v 0 [] ∧ Below w.heap.size w w'

set_option maxRecDepth 100000 in
set_option maxHeartbeats 1600000 in
theorem grow_any (n : Nat) (hn : n ≤ 1000) (w : World) :
    Calls Tryz.prog 72 #[.slice none 0 0, .int .i64 n] w (GrowEnd w) := by
  obtain ⟨i0, hi0, hz0, hz1, hz2⟩ := info_parts infoForm
  rcases Nat.eq_zero_or_pos n with rfl | h0
  · go_enter Tryz.func72, Tryz.ntmps72
    go_wp2_with fail
    go_ret
    exact ⟨_, rfl, World.ownsRow_nil _ _ _ _, Below.refl _ _⟩
  · have hrun := Lib.run_append_nil_zeros (P := Tryz.prog) w 23 3 23 27 i0 (.slice none 0 0) .i64 .i64 Tryz.underlying23 rfl hi0 hz0 n h0 (by rw [hz1]; omega) (by omega) (by rw [hz2]; omega)
    have hw1 : wrap64 ((n : Int) - 0) = (n : Int) := by rw [Int.sub_zero]; exact (IntWalk.i64_left _).symm.trans (IntWalk.i64_in _ (by omega))
    have hge := grownCap_ge w n 0 27
    have hle := grownCap_le_maxLen w n 0 27 (by unfold maxLen; omega)
    have i1 : (0 : Int) < (n : Int) := by omega
    go_enter Tryz.func72, Tryz.ntmps72
    go_wp2_with (at_builtin; refine Lib.wpList_append_run _ rfl _ _ _ _ rfl _ _ (by rfl) (by rfl) _ _ hrun ?_)
    go_ret
    refine ⟨_, rfl, ⟨rfl, .inr ⟨w.heap.size, grownCap w n 0 27, _, rfl, Nat.le_refl _, heap_alloc_new _ _, Nat.zero_le _, hle, ?_, rfl⟩⟩, ?_⟩
    · rw [Array.size_append, size_zeroCells, size_zeroCells]
      have e1 : (#[Value.slice none 0 0] : Array Value).size = 1 := rfl
      rw [e1]; omega
    · exact (Below.mono ((Below.refl _ _).alloc (Nat.le_refl w.drew.heap.size) _ : Below w.drew.heap.size w.drew _) (Nat.le_refl _) : Below w.heap.size w.drew _) |> fun b => ⟨b.os, b.tape, b.output, b.size, b.block⟩
end Go.Proofs.YtngjjmniigkeoaaGreatDoor
