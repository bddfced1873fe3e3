/- A key that is a struct of three integers, over any program. -/
import Derived.WalkKit
import Derived.Maps.Keyed
namespace Go.Proofs.YtngjjmniigkeoaaGreatDoor
open Go

theorem keyOf_struct3 {P : Program} {k : TypeId} {fs : Array Field} {f0 f1 f2 : Field} {q0 q1 q2 : IntKind} (hk : P.underlying k = some (.struct fs)) (hfs : fs = #[f0, f1, f2]) (hkt : P.keyType k = true) (hc : P.cellsOf k = 3)
    (h0 : P.underlying f0.type = some (.int q0)) (h1 : P.underlying f1.type = some (.int q1)) (h2 : P.underlying f2.type = some (.int q2))
    (c0 : P.cellsOf f0.type = 1) (c1 : P.cellsOf f1.type = 1) (c2 : P.cellsOf f2.type = 1) (o0 : f0.offset = 0) (o1 : f1.offset = 1) (o2 : f2.offset = 2)
    (n : fs.all (·.name != "_") = true) (sz : 0 < P.types.size) {a0 a1 a2 : Int} (w0 : (Lit.int q0 a0).wf = true) (w1 : (Lit.int q1 a1).wf = true) (w2 : (Lit.int q2 a2).wf = true) :
    keyOf P k (.agg #[.int q0 a0, .int q1 a1, .int q2 a2]) = some (.string (keyBytes [.int q0 a0, .int q1 a1, .int q2 a2])) := by
  obtain ⟨d, hd⟩ : ∃ d, P.types.size = d + 1 := ⟨P.types.size - 1, by omega⟩
  unfold keyOf
  rw [hk]
  subst hfs
  simp only [hkt, Value.formed, hk, hc, hd, Value.cells]
  simp only [Program.keyLits, hk, hc, n]
  simp [h0, h1, h2, c0, c1, c2, o0, o1, o2, w0, w1, w2]
end Go.Proofs.YtngjjmniigkeoaaGreatDoor
