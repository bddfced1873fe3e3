/- Slotted buses and schedules that come in. -/
import Derived.Test.YtcelbmpdnkaamaaBuY
namespace Go.Proofs.Ytcelbmpdnkaamaa
open Go Go.RowKit Go.WideMaps Go.Maps Go.ChangeShapes Go.WideShapes Go.ChangeAt
set_option linter.unusedSimpArgs false
set_option linter.unusedVariables false

set_option maxRecDepth 100000 in
theorem msgs_cells {H : Type} {enc : TypeId × Value → H} {W : World} {fuel : Nat} {cs : List Value} {x : DataW H × List MemPlace} (h : DataW.trod enc Try.prog W 0 (fun _ => true) true fuel 33 cs = some x) :
    ∃ ko kc ks, cs = [.slice ko (List.length ks) kc] ∧ GatesAt W ko ks ∧ List.length ks ≤ kc ∧ kc ≤ maxLen := by
  have ce : Try.prog.cellsOf 82 = 2 := by kernel_rfl
  rcases Deep.open_slice Try.underlying33 h with ⟨rfl, _⟩ | ⟨a, len, cap, m, n, D, Pl, rfl, _, hl, hm, hmm, _, hx⟩
  · exact ⟨none, 0, [], rfl, ⟨Nat.zero_le _, fun h0 => absurd h0 (by simp)⟩, Nat.zero_le _, Nat.zero_le _⟩
  simp only [if_true] at hmm
  subst hmm
  have each : ∀ i, i < m → ∃ q : Ga, W.cell? (a.add (i * 2)) = some (.int .i64 q.1) ∧ W.cell? (a.add (i * 2 + 1)) = some (.int .i64 q.2) := by
    intro i hi
    obtain ⟨cs', h1, h2⟩ := hx i hi
    rw [ce] at h1
    obtain ⟨_, hlen, hcell⟩ := World.cells?_some h1
    obtain ⟨y0, y1, k, _, _, g0, g1⟩ := trod_struct2 Try.underlying82 h2
    match cs', hlen with
    | [c0, c1], _ =>
      dsimp only at g0 g1
      rw [ci] at g0 g1
      obtain ⟨z0, e0, _, _⟩ := DataW.trod_int Try.underlying3 g0
      obtain ⟨z1, e1, _, _⟩ := DataW.trod_int Try.underlying3 g1
      simp at e0 e1
      subst e0 e1
      have k0 := hcell 0 (by omega)
      have k1 := hcell 1 (by omega)
      rw [Deep.add_add] at k0 k1
      exact ⟨(z0, z1), by simpa using k0, by simpa using k1⟩
  obtain ⟨y, hy⟩ := Deep.choose_lt (α := Ga) each
  refine ⟨some a, m, (List.range len).map y, by simp, ⟨by simp; omega, fun h0 => ?_⟩, by simp; omega, by unfold maxLen at *; omega⟩
  have hl0 : 0 < len := by simpa using h0
  have hs := (hy 0 (by omega)).1
  obtain ⟨b, off, spot⟩ := a
  have hsp : spot = none := spot_none hs (by simp)
  subst hsp
  refine ⟨b, off, rfl, fun k hk => ?_⟩
  have hk2 : k < len := by simpa using hk
  obtain ⟨a0, a1⟩ := hy k (by omega)
  rw [add_none] at a0 a1
  have e : gaAt ((List.range len).map y) k = y k := by simp [gaAt, List.getD, hk2]
  rw [e]
  exact ⟨a0, by rw [Nat.add_assoc]; exact a1⟩

set_option maxRecDepth 100000 in
theorem slots_cells {H : Type} {enc : TypeId × Value → H} {W : World} {fuel : Nat} {cs : List Value} {x : DataW H × List MemPlace} (h : DataW.trod enc Try.prog W 0 (fun _ => true) true fuel 38 cs = some x) :
    ∃ ko kc ks, cs = [.slice ko (List.length ks) kc] ∧ GatesAt W ko ks ∧ List.length ks ≤ kc ∧ kc ≤ maxLen := by
  have ce : Try.prog.cellsOf 80 = 2 := by kernel_rfl
  rcases Deep.open_slice Try.underlying38 h with ⟨rfl, _⟩ | ⟨a, len, cap, m, n, D, Pl, rfl, _, hl, hm, hmm, _, hx⟩
  · exact ⟨none, 0, [], rfl, ⟨Nat.zero_le _, fun h0 => absurd h0 (by simp)⟩, Nat.zero_le _, Nat.zero_le _⟩
  simp only [if_true] at hmm
  subst hmm
  have each : ∀ i, i < m → ∃ q : Ga, W.cell? (a.add (i * 2)) = some (.int .i64 q.1) ∧ W.cell? (a.add (i * 2 + 1)) = some (.int .i64 q.2) := by
    intro i hi
    obtain ⟨cs', h1, h2⟩ := hx i hi
    rw [ce] at h1
    obtain ⟨_, hlen, hcell⟩ := World.cells?_some h1
    obtain ⟨y0, y1, k, _, _, g0, g1⟩ := trod_struct2 Try.underlying80 h2
    match cs', hlen with
    | [c0, c1], _ =>
      dsimp only at g0 g1
      rw [ci] at g0 g1
      obtain ⟨z0, e0, _, _⟩ := DataW.trod_int Try.underlying3 g0
      obtain ⟨z1, e1, _, _⟩ := DataW.trod_int Try.underlying3 g1
      simp at e0 e1
      subst e0 e1
      have k0 := hcell 0 (by omega)
      have k1 := hcell 1 (by omega)
      rw [Deep.add_add] at k0 k1
      exact ⟨(z0, z1), by simpa using k0, by simpa using k1⟩
  obtain ⟨y, hy⟩ := Deep.choose_lt (α := Ga) each
  refine ⟨some a, m, (List.range len).map y, by simp, ⟨by simp; omega, fun h0 => ?_⟩, by simp; omega, by unfold maxLen at *; omega⟩
  have hl0 : 0 < len := by simpa using h0
  have hs := (hy 0 (by omega)).1
  obtain ⟨b, off, spot⟩ := a
  have hsp : spot = none := spot_none hs (by simp)
  subst hsp
  refine ⟨b, off, rfl, fun k hk => ?_⟩
  have hk2 : k < len := by simpa using hk
  obtain ⟨a0, a1⟩ := hy k (by omega)
  rw [add_none] at a0 a1
  have e : gaAt ((List.range len).map y) k = y k := by simp [gaAt, List.getD, hk2]
  rw [e]
  exact ⟨a0, by rw [Nat.add_assoc]; exact a1⟩

set_option maxRecDepth 100000 in
theorem slots_open {H : Type} {enc : TypeId × Value → H} {W : World} {base : Nat} {v : Value} {d : DataW H} {p : List MemPlace} (hv : Value.okWide Try.prog W .any base 38 v) (h : DataW.Trod enc Try.prog W 0 (fun _ => true) true 38 v d p) :
    ∃ ko kc ks, v = .slice ko (List.length ks) kc ∧ GatesAt W ko ks ∧ List.length ks ≤ kc ∧ kc ≤ maxLen := by
  obtain ⟨a9, len9, cap9, rfl⟩ := okWide_slice Try.underlying38 hv
  obtain ⟨fuel, hf⟩ := h
  obtain ⟨af, cf, f, e, h1, h2, h3⟩ := slots_cells (show DataW.trod enc Try.prog W 0 (fun _ => true) true fuel 38 [.slice a9 len9 cap9] = some (d, p) from hf)
  simp at e
  obtain ⟨rfl, rfl, rfl⟩ := e
  exact ⟨_, _, _, rfl, h1, h2, h3⟩

set_option maxRecDepth 100000 in
theorem slotted_open {H : Type} {enc : TypeId × Value → H} {W : World} {base : Nat} {v : Value} {d : DataW H} {p : List MemPlace} (hv : Value.okWide Try.prog W .any base 35 v) (h : DataW.Trod enc Try.prog W 0 (fun _ => true) true 35 v d p) :
    ∃ ns nc ma mc ms, v = .agg #[.int .i64 ns, .int .i64 nc, .slice ma (List.length ms) mc] ∧ GatesAt W ma ms := by
  have ce : Try.prog.cellsOf 35 = 3 := by kernel_rfl
  have cm : Try.prog.cellsOf 33 = 1 := by kernel_rfl
  obtain ⟨cs, rfl, hsz⟩ := okWide_struct Try.underlying35 hv
  rw [ce] at hsz
  obtain ⟨a, b, c, rfl⟩ : ∃ a b c, cs = #[a, b, c] := by
    rcases cs with ⟨l⟩
    match l, hsz with
    | [a, b, c], _ => exact ⟨a, b, c, rfl⟩
  obtain ⟨fuel, hf⟩ := h
  obtain ⟨y0, y1, y2, n, _, _, g0, g1, g2⟩ := Deep.trod_struct3 Try.underlying35 hf
  dsimp only at g0 g1 g2
  rw [ci] at g0 g1
  rw [cm] at g2
  obtain ⟨z0, e0, _, _⟩ := DataW.trod_int Try.underlying3 (show DataW.trod enc Try.prog W 0 (fun _ => true) true n 3 [a] = some y0 from g0)
  obtain ⟨z1, e1, _, _⟩ := DataW.trod_int Try.underlying3 (show DataW.trod enc Try.prog W 0 (fun _ => true) true n 3 [b] = some y1 from g1)
  obtain ⟨ma, mc, ms, e2, hm, _, _⟩ := msgs_cells (show DataW.trod enc Try.prog W 0 (fun _ => true) true n 33 [c] = some y2 from g2)
  simp at e0 e1 e2
  subst e0 e1 e2
  exact ⟨z0, z1, ma, mc, ms, rfl, hm⟩
end Go.Proofs.Ytcelbmpdnkaamaa
