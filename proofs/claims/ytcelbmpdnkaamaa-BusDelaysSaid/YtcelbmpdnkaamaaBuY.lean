/- Nets and changes that come in, as they lie in memory. -/
import Derived.Test.YtcelbmpdnkaamaaBuA
import Derived.Test.YtcelbmpdnkaamaaChecked
import Derived.WalkKit
import Derived.ProofKit
import Derived.OpenShut
import Derived.Deep.Strs
import Derived.Deep.Matrix
import Derived.Lib.SmallJoins
namespace Go.Proofs.Ytcelbmpdnkaamaa
open Go Go.RowKit Go.WideMaps Go.Maps Go.ChangeShapes Go.WideShapes Go.ChangeAt
set_option linter.unusedSimpArgs false
set_option linter.unusedVariables false

theorem wf_bounds {n : Int} (h : (Lit.int .i64 n).wf = true) : -9223372036854775808 ≤ n ∧ n ≤ 9223372036854775807 := by
  simp [Lit.wf] at h
  have e1 : IntKind.i64.min = -9223372036854775808 := rfl
  have e2 : IntKind.i64.max = 9223372036854775807 := rfl
  omega
theorem ci : Try.prog.cellsOf 3 = 1 := by kernel_rfl
theorem cis : Try.prog.cellsOf 28 = 1 := by kernel_rfl

set_option maxRecDepth 100000 in
theorem ints_open {H : Type} {enc : TypeId × Value → H} {W : World} {fuel : Nat} {cs : List Value} {x : DataW H × List MemPlace} (h : DataW.trod enc Try.prog W 0 (fun _ => true) true fuel 28 cs = some x) :
    ∃ af cf f, cs = [.slice af (List.length f) cf] ∧ IntsAt W af f ∧ List.length f ≤ cf ∧ cf ≤ maxLen := by
  rcases open_ints Try.underlying28 Try.underlying3 ci h with ⟨hcs, _⟩ | ⟨ad, len, c, zs, hcs, _, hl, hm, hz, _, hcell, hw⟩
  · exact ⟨none, 0, [], by simpa using hcs, ⟨Nat.zero_le _, fun h0 => absurd h0 (by simp)⟩, Nat.zero_le _, Nat.zero_le _⟩
  · simp only [if_true] at hz
    refine ⟨some ad, c, zs.take len, by simp [hcs, hz, Nat.min_eq_left hl], ⟨by simp; omega, fun h0 => ?_⟩, by simp; omega, by unfold maxLen at *; omega⟩
    have hl0 : 0 < len := by simp at h0; omega
    have hs := hcell 0 (by omega)
    obtain ⟨b, off, spot⟩ := ad
    have hsp : spot = none := spot_none hs rfl
    subst hsp
    refine ⟨b, off, rfl, fun k hk => ?_⟩
    have hk2 : k < len := by simp at hk; omega
    have := hcell k (by omega)
    rw [add_none] at this
    rw [this]
    simp [List.getD, List.getElem?_take, hk2]

set_option maxRecDepth 100000 in
theorem gates_open {H : Type} {enc : TypeId × Value → H} {W : World} {fuel : Nat} {cs : List Value} {x : DataW H × List MemPlace} (h : DataW.trod enc Try.prog W 0 (fun _ => true) true fuel 44 cs = some x) :
    ∃ ko kc ks, cs = [.slice ko (List.length ks) kc] ∧ GatesAt W ko ks := by
  have ce : Try.prog.cellsOf 59 = 2 := by kernel_rfl
  rcases Deep.open_slice Try.underlying44 h with ⟨rfl, _⟩ | ⟨a, len, cap, m, n, D, Pl, rfl, _, hl, hm, hmm, _, hx⟩
  · exact ⟨none, 0, [], rfl, ⟨Nat.zero_le _, fun h0 => absurd h0 (by simp)⟩⟩
  simp only [if_true] at hmm
  subst hmm
  have each : ∀ i, i < m → ∃ q : Ga, W.cell? (a.add (i * 2)) = some (.int .i64 q.1) ∧ W.cell? (a.add (i * 2 + 1)) = some (.int .i64 q.2) := by
    intro i hi
    obtain ⟨cs', h1, h2⟩ := hx i hi
    rw [ce] at h1
    obtain ⟨_, hlen, hcell⟩ := World.cells?_some h1
    obtain ⟨y0, y1, k, _, _, g0, g1⟩ := trod_struct2 Try.underlying59 h2
    match cs', hlen with
    | [c0, c1], _ =>
      dsimp only at g0 g1
      rw [ci] at g0 g1
      obtain ⟨z0, e0, _, _⟩ := DataW.trod_int Try.underlying3 g0
      obtain ⟨z1, e1, _, _⟩ := DataW.trod_int Try.underlying3 g1
      simp at e0 e1
      subst e0 e1
      have k0 := hcell 0 (by omega)
      have k1 := hcell 1 (by omega)
      rw [Deep.add_add] at k0 k1
      exact ⟨(z0, z1), by simpa using k0, by simpa using k1⟩
  obtain ⟨y, hy⟩ := Deep.choose_lt (α := Ga) each
  refine ⟨some a, m, (List.range len).map y, by simp, ⟨by simp; omega, fun h0 => ?_⟩⟩
  have hl0 : 0 < len := by simpa using h0
  have hs := (hy 0 (by omega)).1
  obtain ⟨b, off, spot⟩ := a
  have hsp : spot = none := spot_none hs (by simp)
  subst hsp
  refine ⟨b, off, rfl, fun k hk => ?_⟩
  have hk2 : k < len := by simpa using hk
  obtain ⟨a0, a1⟩ := hy k (by omega)
  rw [add_none] at a0 a1
  have e : gaAt ((List.range len).map y) k = y k := by simp [gaAt, List.getD, hk2]
  rw [e]
  exact ⟨a0, by rw [Nat.add_assoc]; exact a1⟩

set_option maxRecDepth 100000 in
theorem flows_open {H : Type} {enc : TypeId × Value → H} {W : World} {fuel : Nat} {cs : List Value} {x : DataW H × List MemPlace} (h : DataW.trod enc Try.prog W 0 (fun _ => true) true fuel 45 cs = some x) :
    ∃ ko kc ks, cs = [.slice ko (List.length ks) kc] ∧ FlowsAt W ko ks := by
  have ce : Try.prog.cellsOf 61 = 3 := by kernel_rfl
  rcases Deep.open_slice Try.underlying45 h with ⟨rfl, _⟩ | ⟨a, len, cap, m, n, D, Pl, rfl, _, hl, hm, hmm, _, hx⟩
  · exact ⟨none, 0, [], rfl, ⟨Nat.zero_le _, fun h0 => absurd h0 (by simp)⟩⟩
  simp only [if_true] at hmm
  subst hmm
  have each : ∀ i, i < m → ∃ q : Fl, W.cell? (a.add (i * 3)) = some (.int .i64 q.b) ∧ W.cell? (a.add (i * 3 + 1)) = some (.int .i64 q.r) ∧ ∃ pa pc, W.cell? (a.add (i * 3 + 2)) = some (.slice pa q.p.length pc) ∧ IntsAt W pa q.p ∧ q.p.length ≤ pc ∧ pc ≤ maxLen := by
    intro i hi
    obtain ⟨cs', h1, h2⟩ := hx i hi
    rw [ce] at h1
    obtain ⟨_, hlen, hcell⟩ := World.cells?_some h1
    obtain ⟨y0, y1, y2, k, _, _, g0, g1, g2⟩ := Deep.trod_struct3 Try.underlying61 h2
    match cs', hlen with
    | [c0, c1, c2], _ =>
      dsimp only at g0 g1 g2
      rw [ci] at g0 g1
      rw [cis] at g2
      obtain ⟨z0, e0, _, _⟩ := DataW.trod_int Try.underlying3 g0
      obtain ⟨z1, e1, _, _⟩ := DataW.trod_int Try.underlying3 g1
      obtain ⟨pa, pc, p, e2, i2, l1, l2⟩ := ints_open g2
      simp at e0 e1 e2
      subst e0 e1 e2
      have k0 := hcell 0 (by omega)
      have k1 := hcell 1 (by omega)
      have k2 := hcell 2 (by omega)
      rw [Deep.add_add] at k0 k1 k2
      exact ⟨⟨z0, z1, p⟩, by simpa using k0, by simpa using k1, pa, pc, by simpa using k2, i2, l1, l2⟩
  haveI : Inhabited Fl := ⟨⟨0, 0, []⟩⟩
  obtain ⟨y, hy⟩ := Deep.choose_lt (α := Fl) each
  refine ⟨some a, m, (List.range len).map y, by simp, ⟨by simp; omega, fun h0 => ?_⟩⟩
  have hl0 : 0 < len := by simpa using h0
  have hs := (hy 0 (by omega)).1
  obtain ⟨b, off, spot⟩ := a
  have hsp : spot = none := spot_none hs (by simp)
  subst hsp
  refine ⟨b, off, rfl, fun k hk => ?_⟩
  have hk2 : k < len := by simpa using hk
  obtain ⟨a0, a1, pa, pc, a2, a3⟩ := hy k (by omega)
  rw [add_none] at a0 a1 a2
  have e : flAt ((List.range len).map y) k = y k := by simp [flAt, List.getD, hk2]
  rw [e]
  exact ⟨a0, by rw [Nat.add_assoc]; exact a1, pa, pc, by rw [Nat.add_assoc]; exact a2, a3⟩

set_option maxRecDepth 100000 in
theorem net_open {H : Type} {enc : TypeId × Value → H} {W : World} {base : Nat} {v : Value} {d : DataW H} {p : List MemPlace} (hv : Value.okWide Try.prog W .any base 47 v) (h : DataW.Trod enc Try.prog W 0 (fun _ => true) true 47 v d p) :
    ∃ ga gc gs fa fc fs, v = .agg #[.slice ga (List.length gs) gc, .slice fa (List.length fs) fc] ∧ GatesAt W ga gs ∧ FlowsAt W fa fs := by
  have ce : Try.prog.cellsOf 47 = 2 := by kernel_rfl
  have cg : Try.prog.cellsOf 44 = 1 := by kernel_rfl
  have cf : Try.prog.cellsOf 45 = 1 := by kernel_rfl
  obtain ⟨cs, rfl, hsz⟩ := okWide_struct Try.underlying47 hv
  rw [ce] at hsz
  obtain ⟨a, b, rfl⟩ : ∃ a b, cs = #[a, b] := by
    rcases cs with ⟨l⟩
    match l, hsz with
    | [a, b], _ => exact ⟨a, b, rfl⟩
  obtain ⟨fuel, hf⟩ := h
  obtain ⟨y0, y1, n, _, _, g0, g1⟩ := trod_struct2 Try.underlying47 hf
  dsimp only at g0 g1
  rw [cg] at g0
  rw [cf] at g1
  have g0' : DataW.trod enc Try.prog W 0 (fun _ => true) true n 44 [a] = some y0 := g0
  have g1' : DataW.trod enc Try.prog W 0 (fun _ => true) true n 45 [b] = some y1 := g1
  obtain ⟨ga, gc, gs, e0, hg⟩ := gates_open g0'
  obtain ⟨fa, fc, fs, e1, hfl⟩ := flows_open g1'
  simp at e0 e1
  subst e0 e1
  exact ⟨ga, gc, gs, fa, fc, fs, rfl, hg, hfl⟩
end Go.Proofs.Ytcelbmpdnkaamaa
