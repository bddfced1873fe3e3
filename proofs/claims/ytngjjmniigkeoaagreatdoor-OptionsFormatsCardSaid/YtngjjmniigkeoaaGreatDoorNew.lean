/- own, newDiagrams: empty diagrams in the options' own order. -/
import Derived.Test.YtngjjmniigkeoaaGreatDoorAll
namespace Go.Proofs.YtngjjmniigkeoaaGreatDoor
open Go Go.RowKit Go.WideMaps Go.Maps
set_option linter.unusedSimpArgs false
set_option linter.unusedVariables false

theorem infoInt : (Tryz.prog.info? 3).map (fun i => (i.zero, i.size, i.bytes)) = some (some (.int .i64 0), 1, 8) := by kernel_rfl

/-- 0, 1, 2 .. -/
def upto (n : Nat) : List Int := (List.range n).map (fun (x : Nat) => (x : Int))
theorem upto_len (n : Nat) : (upto n).length = n := by simp [upto]
theorem upto_at {n k : Nat} (h : k < n) : (upto n).getD k 0 = k := by simp [upto, List.getD, h]

def encI (x : Int) : Value := .int .i64 x
structure IRow (w : World) (base g n cap : Nat) (xs : List Int) : Prop where
  row : w.ownsRow base 3 1 (.slice (some ⟨g, 0, none⟩) n cap) n (xs.map encI)
theorem IRow.len {w : World} {base g n cap : Nat} {xs : List Int} (h : IRow w base g n cap xs) : xs.length = n := by have := h.row.1; simpa using this
theorem IRow.cell {w : World} {base g n cap : Nat} {xs : List Int} (h : IRow w base g n cap xs) {j : Nat} (hj : j < n) : w.cell? ⟨g, j, none⟩ = some (.int .i64 (xs.getD j 0)) := by
  have hl := h.len
  rw [h.row.cellAt j (by omega)]
  simp [encI, List.getD, show j < xs.length by omega]
theorem IRow.frozen {w : World} {base g n cap : Nat} {xs : List Int} (h : IRow w base g n cap xs) (j : Nat) : w.frozen? ⟨g, j, none⟩ = false := h.row.frozenAt j
theorem IRow.set {w : World} {base g n cap : Nat} {xs : List Int} (h : IRow w base g n cap xs) (j : Nat) (x : Int) : IRow (w.setCell ⟨g, j, none⟩ (.int .i64 x)) base g n cap (xs.set j x) :=
  ⟨by rw [List.map_set]; exact (h.row.stored j (.int .i64 x)).1⟩
theorem IRow.of_block {w w' : World} {base g n cap : Nat} {xs : List Int} (h : IRow w base g n cap xs) (hk : w'.heap[g]? = w.heap[g]?) : IRow w' base g n cap xs :=
  ⟨ownsRow_of_block h.row (fun k e => by simp [Value.ownBlock] at e; subst e; exact hk)⟩
theorem IRow.lt {w : World} {base g n cap : Nat} {xs : List Int} (h : IRow w base g n cap xs) : base ≤ g ∧ g < w.heap.size := h.row.lt g rfl
theorem IRow.ints {w : World} {base g n cap : Nat} {xs : List Int} (h : IRow w base g n cap xs) (hn : n ≤ maxLen) (hf : ∀ x ∈ xs, -9223372036854775808 ≤ x ∧ x ≤ 9223372036854775807) : IntsAt w (some ⟨g, 0, none⟩) cap xs := by
  have hl := h.len
  refine ⟨by omega, fun h0 => ⟨g, 0, rfl, fun k hk => ?_⟩, hf⟩
  rw [Nat.zero_add]; exact h.cell (by omega)

/-- A list that is filled step by step. -/
def Filled (f : Nat → Int) (k n : Nat) (xs : List Int) : Prop := xs.length = n ∧ ∀ j, j < k → xs.getD j 0 = f j
theorem Filled.step {f : Nat → Int} {k n : Nat} {xs : List Int} (h : Filled f k n xs) (hk : k < n) : Filled f (k + 1) n (xs.set k (f k)) := by
  refine ⟨by simp [h.1], fun j hj => ?_⟩
  by_cases e : j = k
  · subst e; simp [List.getD, h.1, hk]
  · have := h.2 j (by omega)
    simp [List.getD, List.getElem?_set, show ¬ k = j from fun e' => e e'.symm] at *; exact this
theorem Filled.upto {n : Nat} {xs : List Int} (h : Filled (fun j => (j : Int)) n n xs) : xs = upto n := by
  apply List.ext_getElem
  · rw [h.1, upto_len]
  · intro i h1 h2
    have hi : i < n := by rw [h.1] at h1; exact h1
    have := h.2 i hi
    have e2 := upto_at hi
    simp [List.getD, h1, h2] at this e2
    rw [this, e2]

def OwnEnd (w : World) (n : Nat) (e : Ending) (w' : World) : Prop := ∃ g cap, e = .returned (.slice (some ⟨g, 0, none⟩) n cap) ∧ IRow w' w.heap.size g n cap (upto n) ∧ Below w.heap.size w w'

set_option maxHeartbeats 1600000 in
theorem own_any (n : Nat) (w : World) (hn : n ≤ 40) :
    Calls Tryz.prog 70 #[.int .i64 n] w (OwnEnd w n) := by
  obtain ⟨i0, hi0, hz0, hz1, hz2⟩ := info_parts infoInt
  go_enter Tryz.func70, Tryz.ntmps70
  go_wp2_with (first | (at_make; refine wpList_make_full _ rfl _ _ 26 rfl w.heap.size 3 i0 (.int .i64 0) 1 Tryz.underlying26 hi0 hz0 hz1 .i64 .i64 _ _ n rfl rfl rfl rfl (by rw [hz2]; omega) (by unfold maxLen; omega) (by simp) ?_; intro w2 hown hgrow) | fail)
  have hrow : IRow w2 w.heap.size w.heap.size n n (List.replicate n 0) := ⟨by
    have e : (madeCells (Value.int .i64 0).cells (n * 1)).toList = (List.replicate n (0 : Int)).map encI := by
      rw [List.map_replicate]; exact madeCells_one _ _
    rw [← e]; exact hown⟩
  have hb : Below w.heap.size w w2 := (Below.refl _ _).grown hgrow (Nat.le_refl _) (fun k e => by cases e)
  have hsz := hgrow.size
  have hlt := hrow.lt
  have hF : Filled (fun j => (j : Int)) 0 n (List.replicate n (0 : Int)) := ⟨by simp, fun j hj => by omega⟩
  clear hown hgrow
  go_loopw [9] (fun i wr => ∃ (k : Nat) (xs : List Int), k ≤ n ∧ i = .int .i64 k ∧ IRow wr w.heap.size w.heap.size n n xs ∧ Filled (fun j => (j : Int)) k n xs ∧ Below w.heap.size w wr) (fun i _ => n - (intOf i).toNat)
  case atStart => exact ⟨0, _, Nat.zero_le _, rfl, hrow, hF, hb⟩
  case round =>
    clear hrow hF hb
    obtain ⟨k, xs, hk, rfl, hr, hF, hbl⟩ := hrel
    by_cases hlt2 : k < n
    · have hc := hr.cell (j := k) hlt2
      have hf := hr.frozen k
      have hr2 := hr.set k (k : Int)
      have hF2 := hF.step hlt2
      have hb2 : Below w.heap.size w (wr.setCell ⟨w.heap.size, k, none⟩ (.int .i64 (k : Int))) := hbl.setCell (Nat.le_refl _) _
      have i1 : (k : Int) < (n : Int) := by omega
      clear hr hF hbl
      go_wp2_with fail
      go_roundw
      case rel => exact ⟨k + 1, _, by omega, by go_num, hr2, hF2, hb2⟩
      case measure => simp [intOf]; omega
    · obtain rfl : k = n := by omega
      have hx := hF.upto
      subst hx
      have Hr := Lib.hid hr
      clear hr hF
      go_wp2_with fail
      go_ret
      exact ⟨_, _, rfl, Hr.out, hbl⟩
end Go.Proofs.YtngjjmniigkeoaaGreatDoor
