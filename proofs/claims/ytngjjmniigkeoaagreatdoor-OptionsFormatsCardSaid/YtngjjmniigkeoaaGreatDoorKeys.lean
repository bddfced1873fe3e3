/- The keys of the maps: nodes and tasks. -/
import Derived.Test.YtngjjmniigkeoaaGreatDoorL5
import Derived.Test.YtngjjmniigkeoaaGreatDoorBdd
import Derived.DeepKeys4
import Derived.Test.YtngjjmniigkeoaaGreatDoorKeyB
namespace Go.Proofs.YtngjjmniigkeoaaGreatDoor
open Go.RowKit Go.WideMaps Go.Maps
set_option linter.unusedSimpArgs false
set_option linter.unusedVariables false

theorem laidOut : laidOutB Tryz.prog = true := by kernel_rfl
theorem ktNode : Tryz.prog.keyType 107 = true := by kernel_rfl
theorem ktTask : Tryz.prog.keyType 152 = true := by kernel_rfl
theorem nodeLaw : Keyed Tryz.prog 107 := Keyed.of_law (deep_law_laid laidOut (m := 4) (by omega) (of_decide_eq_true (by kernel_rfl)) (by kernel_rfl) (by kernel_rfl))
theorem taskLaw : Keyed Tryz.prog 152 := Keyed.of_law (deep_law_laid laidOut (m := 4) (by omega) (of_decide_eq_true (by kernel_rfl)) (by kernel_rfl) (by kernel_rfl))
theorem cellsNode : Tryz.prog.cellsOf 107 = 3 := by kernel_rfl
theorem cellsTask : Tryz.prog.cellsOf 152 = 3 := by kernel_rfl
theorem cells_int : Tryz.prog.cellsOf 3 = 1 := by kernel_rfl
theorem cells_i32 : Tryz.prog.cellsOf 21 = 1 := by kernel_rfl
theorem cells_knot : Tryz.prog.cellsOf 82 = 1 := by kernel_rfl

def ndV (x : Nd) : Value := .agg #[.int .i64 x.lev, .int .i32 x.lo, .int .i32 x.hi]
def tkV (op : Int) (a b : Nat) : Value := .agg #[.int .i32 op, .int .i32 a, .int .i32 b]

theorem wf64 {a : Nat} (h : a < 2 ^ 63) : (Lit.int .i64 (a : Int)).wf = true := WalkArith.wf_i64 (by omega)
theorem wf32 {a : Nat} (h : a < 2 ^ 31) : (Lit.int .i32 (a : Int)).wf = true := WalkArith.wf_i32 (by omega)
theorem types_pos : 0 < Tryz.prog.types.size := of_decide_eq_true (by kernel_rfl)
theorem key_nd (x : Nd) (h1 : x.lev < 2 ^ 63) (h2 : x.lo < 2 ^ 31) (h3 : x.hi < 2 ^ 31) : ∃ kl, keyOf Tryz.prog 107 (ndV x) = some kl :=
  ⟨_, keyOf_struct3 Tryz.underlying107 rfl ktNode cellsNode Tryz.underlying3 Tryz.underlying82 Tryz.underlying82 cells_int cells_knot cells_knot rfl rfl rfl (by simp) types_pos (wf64 h1) (wf32 h2) (wf32 h3)⟩
theorem key_tk (op : Int) (a b : Nat) (h1 : -6 ≤ op ∧ op ≤ 2) (h2 : a < 2 ^ 31) (h3 : b < 2 ^ 31) : ∃ kl, keyOf Tryz.prog 152 (tkV op a b) = some kl :=
  ⟨_, keyOf_struct3 Tryz.underlying152 rfl ktTask cellsTask Tryz.underlying21 Tryz.underlying21 Tryz.underlying21 cells_i32 cells_i32 cells_i32 rfl rfl rfl (by simp) types_pos (WalkArith.wf_i32 (by omega)) (wf32 h2) (wf32 h3)⟩
theorem ndV_inj {x y : Nd} (h : ndV x = ndV y) : x = y := by
  cases x; cases y; simp [ndV] at h ⊢; omega
theorem tkV_inj {o o' : Int} {a b a' b' : Nat} (h : tkV o a b = tkV o' a' b') : o = o' ∧ a = a' ∧ b = b' := by
  simp [tkV] at h; omega
end Go.Proofs.YtngjjmniigkeoaaGreatDoor
