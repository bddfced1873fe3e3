/- Frames that come in, as they lie in memory. -/
import Derived.Test.YtcelbmpdnkaamaaBuY
namespace Go.Proofs.Ytcelbmpdnkaamaa
open Go Go.RowKit Go.WideMaps Go.Maps Go.ChangeShapes Go.WideShapes Go.ChangeAt
set_option linter.unusedSimpArgs false
set_option linter.unusedVariables false

theorem trod_struct5 {H : Type} {enc : TypeId × Value → H} {P : Program} {w : World} {base : Nat} {spare : Nat → Bool} {held : Bool} {t : TypeId} {f0 f1 f2 f3 f4 : Field} {fuel : Nat} {cs : List Value} {x : DataW H × List MemPlace} (ht : P.underlying t = some (.struct #[f0, f1, f2, f3, f4])) (h : DataW.trod enc P w base spare held fuel t cs = some x) :
    ∃ y0 y1 y2 y3 y4 n, cs.length = P.cellsOf t ∧ DataW.trod enc P w base spare held n f0.type ((cs.drop f0.offset).take (P.cellsOf f0.type)) = some y0 ∧
      DataW.trod enc P w base spare held n f1.type ((cs.drop f1.offset).take (P.cellsOf f1.type)) = some y1 ∧ DataW.trod enc P w base spare held n f2.type ((cs.drop f2.offset).take (P.cellsOf f2.type)) = some y2 ∧
      DataW.trod enc P w base spare held n f3.type ((cs.drop f3.offset).take (P.cellsOf f3.type)) = some y3 ∧ DataW.trod enc P w base spare held n f4.type ((cs.drop f4.offset).take (P.cellsOf f4.type)) = some y4 := by
  obtain ⟨xs, n, _, rfl, hl, hlen, hf⟩ := DataW.trod_struct ht h
  match xs, hlen with
  | [y0, y1, y2, y3, y4], _ => exact ⟨y0, y1, y2, y3, y4, n, hl, by simpa using hf 0 f0 rfl, by simpa using hf 1 f1 rfl, by simpa using hf 2 f2 rfl, by simpa using hf 3 f3 rfl, by simpa using hf 4 f4 rfl⟩

set_option maxRecDepth 100000 in
theorem frames_open {H : Type} {enc : TypeId × Value → H} {W : World} {base : Nat} {v : Value} {d : DataW H} {p : List MemPlace} (hv : Value.okWide Try.prog W .any base 22 v) (h : DataW.Trod enc Try.prog W 0 (fun _ => true) true 22 v d p) :
    ∃ ko kc ks, v = .slice ko (List.length ks) kc ∧ FramesAt W ko ks ∧ List.length ks ≤ kc ∧ kc ≤ maxLen := by
  have ce : Try.prog.cellsOf 56 = 5 := by kernel_rfl
  obtain ⟨a9, len9, cap9, rfl⟩ := okWide_slice Try.underlying22 hv
  obtain ⟨fuel, hf⟩ := h
  have hf' : DataW.trod enc Try.prog W 0 (fun _ => true) true fuel 22 [.slice a9 len9 cap9] = some (d, p) := hf
  rcases Deep.open_slice Try.underlying22 hf' with ⟨hcs, _⟩ | ⟨a, len, cap, m, n, D, Pl, hcs, _, hl, hm, hmm, _, hx⟩
  · simp at hcs
    obtain ⟨rfl, rfl, rfl⟩ := hcs
    exact ⟨none, 0, [], rfl, ⟨Nat.zero_le _, fun h0 => absurd h0 (by simp)⟩, Nat.zero_le _, Nat.zero_le _⟩
  simp at hcs
  obtain ⟨rfl, rfl, rfl⟩ := hcs
  simp only [if_true] at hmm
  subst hmm
  have each : ∀ i, i < m → ∃ q : Fr, W.cell? (a.add (i * 5)) = some (.int .i64 q.s) ∧ W.cell? (a.add (i * 5 + 1)) = some (.int .i64 q.e) ∧ W.cell? (a.add (i * 5 + 2)) = some (.int .i64 q.j) ∧ W.cell? (a.add (i * 5 + 3)) = some (.int .i64 q.d) ∧ W.cell? (a.add (i * 5 + 4)) = some (.int .i64 q.r) := by
    intro i hi
    obtain ⟨cs', h1, h2⟩ := hx i hi
    rw [ce] at h1
    obtain ⟨_, hlen, hcell⟩ := World.cells?_some h1
    obtain ⟨y0, y1, y2, y3, y4, k, _, g0, g1, g2, g3, g4⟩ := trod_struct5 Try.underlying56 h2
    match cs', hlen with
    | [c0, c1, c2, c3, c4], _ =>
      dsimp only at g0 g1 g2 g3 g4
      rw [ci] at g0 g1 g2 g3 g4
      obtain ⟨z0, e0, _, _⟩ := DataW.trod_int Try.underlying3 g0
      obtain ⟨z1, e1, _, _⟩ := DataW.trod_int Try.underlying3 g1
      obtain ⟨z2, e2, _, _⟩ := DataW.trod_int Try.underlying3 g2
      obtain ⟨z3, e3, _, _⟩ := DataW.trod_int Try.underlying3 g3
      obtain ⟨z4, e4, _, _⟩ := DataW.trod_int Try.underlying3 g4
      simp at e0 e1 e2 e3 e4
      subst e0 e1 e2 e3 e4
      have k0 := hcell 0 (by omega)
      have k1 := hcell 1 (by omega)
      have k2 := hcell 2 (by omega)
      have k3 := hcell 3 (by omega)
      have k4 := hcell 4 (by omega)
      rw [Deep.add_add] at k0 k1 k2 k3 k4
      exact ⟨⟨z0, z1, z2, z3, z4⟩, by simpa using k0, by simpa using k1, by simpa using k2, by simpa using k3, by simpa using k4⟩
  haveI : Inhabited Fr := ⟨⟨0, 0, 0, 0, 0⟩⟩
  obtain ⟨y, hy⟩ := Deep.choose_lt (α := Fr) each
  refine ⟨some a, m, (List.range len9).map y, by simp, ⟨by simp; omega, fun h0 => ?_⟩, by simp; omega, by unfold maxLen at *; omega⟩
  have hl0 : 0 < len9 := by simpa using h0
  have hs := (hy 0 (by omega)).1
  obtain ⟨b, off, spot⟩ := a
  have hsp : spot = none := spot_none hs (by simp)
  subst hsp
  refine ⟨b, off, rfl, fun k hk => ?_⟩
  have hk2 : k < len9 := by simpa using hk
  obtain ⟨a0, a1, a2, a3, a4⟩ := hy k (by omega)
  rw [add_none] at a0 a1 a2 a3 a4
  have e : frAt ((List.range len9).map y) k = y k := by simp [frAt, List.getD, hk2]
  rw [e]
  exact ⟨a0, by rw [Nat.add_assoc]; exact a1, by rw [Nat.add_assoc]; exact a2, by rw [Nat.add_assoc]; exact a3, by rw [Nat.add_assoc]; exact a4⟩
end Go.Proofs.Ytcelbmpdnkaamaa
