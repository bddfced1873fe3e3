/- What every law's walk and card share: what lies in old blocks stays; the table behind the card. -/
import Derived.Test.YtngjjmniigkeoaaGreatDoorLaw1
import Derived.Test.YtngjjmniigkeoaaGreatDoorCards
import Derived.Test.YtngjjmniigkeoaaGreatDoorTie
import Derived.Carry
import Derived.Deep.DeepHandedRow
import Derived.Lay
import Derived.MakeChecks
import Derived.Deep.Grids
namespace Go.Proofs.YtngjjmniigkeoaaGreatDoor
open Go Go.RowKit Go.WideMaps Go.Maps
set_option linter.unusedSimpArgs false
set_option linter.unusedVariables false

/-! ### what lies in old blocks stays -/
theorem IntsAt.keeps {w w' : World} {ao : Option Addr} {cap : Nat} {xs : List Int} (h : IntsAt w ao cap xs) (k : Keeps (fun _ => False) w w') : IntsAt w' ao cap xs := h.kept (k.below (Nat.le_refl _) (fun _ e => e.elim)) (Nat.le_refl _)
theorem StrsAt.keeps {w w' : World} {ao : Option Addr} {ss : List ByteArray} (h : StrsAt w ao ss) (k : Keeps (fun _ => False) w w') : StrsAt w' ao ss := h.kept (k.below (Nat.le_refl _) (fun _ e => e.elim)) (Nat.le_refl _)
theorem FormsAt.keeps {w w' : World} {ao : Option Addr} {fs : List (List Int)} (h : FormsAt w ao fs) (k : Keeps (fun _ => False) w w') : FormsAt w' ao fs := h.kept (k.below (Nat.le_refl _) (fun _ e => e.elim)) (Nat.le_refl _)
theorem ModelAt.keeps {w w' : World} {ao ar : Option Addr} {ss : List ByteArray} {fs : List (List Int)} (h : ModelAt w ao ar ss fs) (k : Keeps (fun _ => False) w w') : ModelAt w' ao ar ss fs := h.kept (k.below (Nat.le_refl _) (fun _ e => e.elim)) (Nat.le_refl _)
theorem Keeps.of_bel {w w' : World} (h : Below w.heap.size w w') : Keeps (fun _ => False) w w' := Keeps.of_below h (Nat.le_refl _)
theorem Keeps.bel {w w' : World} (h : Keeps (fun _ => False) w w') : Below w.heap.size w w' := h.below (Nat.le_refl _) (fun _ e => e.elim)
theorem Keeps.step {a b c : World} (h : Keeps (fun _ => False) a b) (g : Keeps (fun _ => False) b c) : Keeps (fun _ => False) a c := h.trans g (fun _ e => e.elim)
theorem keeps_alloc (w : World) (o : Obj) : Keeps (fun _ => False) w (w.alloc o) := (Keeps.refl _ _).alloc o

theorem BoolsAt.keeps {w w' : World} {ao : Option Addr} {xs : List Bool} (h : BoolsAt w ao xs) (k : Keeps (fun _ => False) w w') : BoolsAt w' ao xs := by
  refine ⟨h.len, fun h0 => ?_⟩
  obtain ⟨b, off, e, hc⟩ := h.cells h0
  exact ⟨b, off, e, fun j hj => k.cell (hc j hj) (fun e => e)⟩
theorem checkErr_zero {ss : List ByteArray} {fs : List (List Int)} {f : List Int} (h : checkErr ss fs [f] = 0) : modelErr ss fs = 0 ∧ validB f ss.length = true := by
  unfold checkErr at h
  split at h
  · rename_i hm
    rw [formsErr_one] at h
    split at h
    · exact ⟨hm, by assumption⟩
    · cases h
  · contradiction

/-- A variant as an assignment of the options. -/
def vT (vs : List Bool) : Nat → Bool := fun o => vs.getD o false

theorem works_keeps (W : World) (B : Nat) (w0 : World) (tab : Tab B w0) (hB : B ≤ w0.heap.size) (k : Keeps (fun _ => False) w0 W) : Calls Tryz.prog 12 #[] W fun e w' => e = .returned (.bool true) ∧ Keeps (fun _ => False) W w' :=
  (works_any W ((tab.on (k.below hB (fun _ e => e.elim))).up (Nat.le_trans hB k.size))).mono (fun e w' hh => ⟨hh.1, Keeps.of_bel hh.2⟩)


open Go Go.RowKit Go.ChangeShapes Go.WideShapes Go.ChangeAt
set_option maxRecDepth 100000 in
theorem bools_open {H : Type} {enc : TypeId × Value → H} {W : World} {base : Nat} {v : Value} {d : DataW H} {p : List MemPlace} (hv : Value.okWide Tryz.prog W .any base 39 v) (h : DataW.Trod enc Tryz.prog W 0 (fun _ => true) true 39 v d p) :
    ∃ av cv vs, v = .slice av (List.length vs) cv ∧ BoolsAt W av vs := by
  obtain ⟨a, len, cap, rfl⟩ := okWide_slice Tryz.underlying39 hv
  obtain ⟨fuel, hf⟩ := h
  have hf' : DataW.trod enc Tryz.prog W 0 (fun _ => true) true fuel 39 [.slice a len cap] = some (d, p) := hf
  rcases Deep.open_bools Tryz.underlying39 Tryz.underlying4 (by kernel_rfl) hf' with ⟨hcs, _⟩ | ⟨ad, l, c, B, hcs, _, hl, hm, _, hcell⟩
  · simp at hcs
    obtain ⟨rfl, rfl, rfl⟩ := hcs
    exact ⟨none, 0, [], rfl, ⟨Nat.zero_le _, fun h0 => absurd h0 (by simp)⟩⟩
  · simp at hcs
    obtain ⟨rfl, rfl, rfl⟩ := hcs
    refine ⟨some ad, cap, (List.range len).map B, by simp, ⟨by simp; omega, fun h0 => ?_⟩⟩
    have hl0 : 0 < len := by simpa using h0
    have hs := hcell 0 (by omega)
    obtain ⟨b, off, spot⟩ := ad
    have hsp : spot = none := spot_none hs rfl
    subst hsp
    refine ⟨b, off, rfl, fun k hk => ?_⟩
    have hk2 : k < len := by simpa using hk
    have := hcell k (by omega)
    rw [add_none] at this
    rw [this]
    simp [List.getD, hk2]

theorem own1 : ownKnob Tryz.prog.godebug = none := by kernel_rfl
theorem laidOut1 : laidOutB Tryz.prog = true := by kernel_rfl
theorem gPow : ((Tryz.prog.globalNamed "internal/strconv.uint64pow10").bind fun g => (Tryz.prog.globals[g]?).map fun x => (Tryz.prog.underlying x.type, Tryz.prog.cellsOf x.type)) = some (some (.array 20 170), 20) := by kernel_rfl
theorem cells_u64 : Tryz.prog.cellsOf 170 = 1 := by kernel_rfl

set_option maxRecDepth 100000 in
theorem pow_of {W : World} (h : laidMet Tryz.prog [("math/bits.deBruijn32tab", Rows.laid_math_bits_deBruijn32tab), ("math/bits.deBruijn64tab", Rows.laid_math_bits_deBruijn64tab), ("internal/strconv.uint64pow10", Rows.laid_internal_strconv_uint64pow10)] W) : Tab W.heap.size W := by
  obtain ⟨ps, hv, _⟩ := h
  obtain ⟨_, _, _, _, _, _, _, _, _, _, ⟨_, _, _, _, _, _, _, _, _, _, ⟨g', t', cs, fuel, p, q, hg', ht', hvar, hd, _, _⟩, _⟩, _⟩ := hv
  have e := gPow
  rw [hg'] at e
  obtain ⟨x, hx, rfl⟩ := Option.map_eq_some_iff.1 ht'
  simp only [Option.bind_some, hx, Option.map_some, Option.some.injEq, Prod.mk.injEq] at e
  obtain ⟨e3, e4⟩ := e
  have e5 := cells_u64
  refine Lib.tabBelow_of_tabIs ?_
  unfold Lib.TabIs
  rw [hvar, ← Lib.cells_of_tab e3 Tryz.underlying170 e5 e4 (show DataW.trod _ _ _ _ _ _ _ _ _ = some (Lib.tabData .u64 Lib.pow10Tab, _) from hd)]

end Go.Proofs.YtngjjmniigkeoaaGreatDoor
