/- Formulas worked out by a function that only answers: the row of operands, and what the reference makes of the same formula. -/
import Derived.Test.YtngjjmniigkeoaaGreatDoorAnsw
namespace Go.Proofs.YtngjjmniigkeoaaGreatDoor
open Go Go.RowKit Go.WideMaps Go.Maps
set_option linter.unusedSimpArgs false
set_option linter.unusedVariables false

/-! ### the row of operands -/
theorem topE {T : Type} {enc : T → Value} {z : T} {t : TypeId} {w : World} {base g n cap : Nat} {ks : List T} (h : w.ownsRow base t 1 (.slice (some ⟨g, 0, none⟩) n cap) n (ks.reverse.map enc)) (j : Nat) (hj : j < ks.length) : w.cell? ⟨g, ks.length - 1 - j, none⟩ = some (enc (ks.getD j z)) := by
  have hc := h.cells (g := g) rfl (ks.length - 1 - j) (enc (ks.getD j z)) (by
    rw [List.getElem?_map, List.getElem?_reverse (by omega)]
    have : ks.length - 1 - (ks.length - 1 - j) = j := by omega
    rw [this]
    simp [List.getD, hj])
  have hadd : (⟨g, 0, none⟩ : Addr).add (ks.length - 1 - j) = ⟨g, ks.length - 1 - j, none⟩ := by unfold Addr.add; split <;> simp_all
  rw [hadd] at hc; exact hc

theorem takeRow {t : TypeId} {w : World} {base : Nat} {g n m cap : Nat} {xs : List Value} (h : w.ownsRow base t 1 (.slice (some ⟨g, 0, none⟩) n cap) n xs) (hm : m ≤ n) : w.ownsRow base t 1 (.slice (some ⟨g, 0, none⟩) m cap) m (xs.take m) := by
  have h1 := h.1
  refine ⟨by simp at h1 ⊢; omega, ?_⟩
  rcases h.2 with ⟨hn, _⟩ | ⟨g', cap', cur, he, hb, hg, q1, q2, q3, q4⟩
  · cases hn
  · simp at he
    obtain ⟨rfl, rfl⟩ := he
    refine .inr ⟨g, cap, cur, rfl, hb, hg, by omega, q2, q3, ?_⟩
    rw [← q4, List.take_take]
    congr 1
    omega

theorem cutE {T : Type} {enc : T → Value} {t : TypeId} {w : World} {base g cap c : Nat} {ks : List T} (h : w.ownsRow base t 1 (.slice (some ⟨g, 0, none⟩) ks.length cap) ks.length (ks.reverse.map enc)) (hc : c ≤ ks.length) :
    w.ownsRow base t 1 (.slice (some ⟨g, 0, none⟩) (ks.length - c) cap) (ks.length - c) ((ks.drop c).reverse.map enc) := by
  have h1 := takeRow h (m := ks.length - c) (by omega)
  have e : (ks.reverse.map enc).take (ks.length - c) = (ks.drop c).reverse.map enc := by
    rw [← List.map_take, List.take_reverse]
    congr 3
    omega
  rw [e] at h1; exact h1

theorem foldS_le {T : Type} (take : Int → T → T → T) (z : T) (xs : List Int) : (foldS take z xs).length ≤ xs.length := by
  induction xs with
  | nil => simp [foldS]
  | cons x xs ih => unfold foldS; split; (simp; omega); split <;> (simp; omega)

/-- Behind some rounds. -/
structure FoldE {T : Type} (enc : T → Value) (t : TypeId) (take : Int → T → T → T) (z : T) (w : World) (f : List Int) (k : Nat) (v : Value) (wr : World) (ks : List T) : Prop where
  hk : k ≤ f.length
  keeps : Keeps (fun _ => False) w wr
  row : wr.ownsRow w.heap.size t 1 v ks.length (ks.reverse.map enc)
  nil : ks = [] → v = .slice none 0 0
  mean : ks = foldS take z (f.drop k)

theorem FoldE.start {T : Type} (enc : T → Value) (t : TypeId) (take : Int → T → T → T) (z : T) (w : World) (f : List Int) : FoldE enc t take z w f f.length (.slice none 0 0) w [] :=
  ⟨Nat.le_refl _, Keeps.refl _ _, World.ownsRow_nil _ _ _ _, fun _ => rfl, by simp [foldS]⟩

theorem foldS_cons {T : Type} (take : Int → T → T → T) (z : T) (x : Int) (xs : List Int) : foldS take z (x :: xs) = take x (if 1 ≤ opC x then (foldS take z xs).getD 0 z else z) (if 2 ≤ opC x then (foldS take z xs).getD 1 z else z) :: (foldS take z xs).drop (opC x) := by
  have h2 := opC_le x
  rw [foldS]
  by_cases c0 : opC x = 0
  · simp [c0]
  · by_cases c1 : opC x = 1
    · simp [c1]
    · simp [show opC x = 2 by omega]

theorem FoldE.step {T : Type} {enc : T → Value} {t : TypeId} {take : Int → T → T → T} {z : T} {w : World} {f : List Int} {k : Nat} {v : Value} {wr w2 : World} {ks : List T} {v2 : Value} {a b : T} (i : FoldE enc t take z w f (k + 1) v wr ks) (hk : k < f.length)
    (hA : a = if 1 ≤ opC (f.getD k 0) then ks.getD 0 z else z) (hB : b = if 2 ≤ opC (f.getD k 0) then ks.getD 1 z else z)
    (hrow : w2.ownsRow w.heap.size t 1 v2 (ks.length - opC (f.getD k 0) + 1) ((ks.drop (opC (f.getD k 0))).reverse.map enc ++ [enc (take (f.getD k 0) a b)]))
    (hkeep : Keeps (fun b => v.ownBlock = some b) wr w2) : FoldE enc t take z w f k v2 w2 (take (f.getD k 0) a b :: ks.drop (opC (f.getD k 0))) := by
  have hdrop : f.drop k = f.getD k 0 :: f.drop (k + 1) := by rw [List.drop_eq_getElem_cons hk]; simp [List.getD, hk]
  refine ⟨Nat.le_of_lt hk, i.keeps.trans hkeep (fun b hb => Or.inr (i.row.lt b hb).1), ?_, fun e => (by cases e), ?_⟩
  · have e1 : (take (f.getD k 0) a b :: ks.drop (opC (f.getD k 0))).length = ks.length - opC (f.getD k 0) + 1 := by simp
    rw [e1]
    simpa using hrow
  · rw [hdrop, foldS_cons, ← i.mean, hA, hB]

/-! ### terms -/
/-- Where a term begins: behind it the rest is worked out. -/
theorem term_split {T : Type} (take : Int → T → T → T) (z : T) (n : Int) (f : List Int) : ∀ (m at0 d : Nat), f.length - at0 ≤ m → lack n (d + 1) (f.drop at0) = some 0 → ∃ to b, at0 < to ∧ to ≤ f.length ∧ foldS take z (f.drop at0) = b :: foldS take z (f.drop to) ∧ lack n d (f.drop to) = some 0
  | 0, at0, d, hm, h => by
    rw [List.drop_eq_nil_of_le (by omega)] at h; simp [lack] at h
  | m + 1, at0, d, hm, h => by
    by_cases hk : at0 < f.length
    · have hdrop : f.drop at0 = f.getD at0 0 :: f.drop (at0 + 1) := by rw [List.drop_eq_getElem_cons hk]; simp [List.getD, hk]
      rw [hdrop] at h
      simp only [lack] at h
      split at h
      · have h2 := opC_le (f.getD at0 0)
        rcases opC_cases (f.getD at0 0) with c | c | c
        · rw [c] at h
          exact ⟨at0 + 1, _, by omega, by omega, by rw [hdrop, foldS_cons, c]; simp; rfl, h⟩
        · rw [c] at h
          obtain ⟨to, b, h1, h3, h4, h5⟩ := term_split take z n f m (at0 + 1) d (by omega) h
          exact ⟨to, _, by omega, h3, by rw [hdrop, foldS_cons, c, h4]; simp; rfl, h5⟩
        · rw [c] at h
          obtain ⟨t1, b1, h1, h3, h4, h5⟩ := term_split take z n f m (at0 + 1) (d + 1) (by omega) h
          obtain ⟨to, b, g1, g3, g4, g5⟩ := term_split take z n f m t1 d (by omega) h5
          exact ⟨to, _, by omega, g3, by rw [hdrop, foldS_cons, c, h4, g4]; simp; rfl, g5⟩
      · cases h
    · rw [List.drop_eq_nil_of_le (by omega)] at h; simp [lack] at h

theorem drop_getD (f : List Int) (k : Nat) (hk : k < f.length) : f.drop k = f.getD k 0 :: f.drop (k + 1) := by rw [List.drop_eq_getElem_cons hk]; simp [List.getD, hk]
theorem foldS0 {T : Type} (take : Int → T → T → T) (z : T) {f : List Int} {k : Nat} (hk : k < f.length) (hc : opC (f.getD k 0) = 0) : foldS take z (f.drop k) = take (f.getD k 0) z z :: foldS take z (f.drop (k + 1)) := by
  rw [drop_getD f k hk, foldS_cons, hc]; simp
theorem foldS1 {T : Type} (take : Int → T → T → T) (z : T) {f : List Int} {k : Nat} (hk : k < f.length) (hc : opC (f.getD k 0) = 1) {b : T} {to : Nat} (h : foldS take z (f.drop (k + 1)) = b :: foldS take z (f.drop to)) : foldS take z (f.drop k) = take (f.getD k 0) b z :: foldS take z (f.drop to) := by
  rw [drop_getD f k hk, foldS_cons, hc, h]; simp
theorem foldS2 {T : Type} (take : Int → T → T → T) (z : T) {f : List Int} {k : Nat} (hk : k < f.length) (hc : opC (f.getD k 0) = 2) {a b : T} {t1 to : Nat} (h : foldS take z (f.drop (k + 1)) = a :: foldS take z (f.drop t1)) (h2 : foldS take z (f.drop t1) = b :: foldS take z (f.drop to)) : foldS take z (f.drop k) = take (f.getD k 0) a b :: foldS take z (f.drop to) := by
  rw [drop_getD f k hk, foldS_cons, hc, h, h2]; simp

/-- The head of a term: its number is one that may stand there, and its operands follow. -/
theorem lack_head {n : Int} {f : List Int} {at0 d : Nat} (h : lack n (d + 1) (f.drop at0) = some 0) : at0 < f.length ∧ opB (f.getD at0 0) n = true ∧ lack n (d + opC (f.getD at0 0)) (f.drop (at0 + 1)) = some 0 := by
  by_cases hk : at0 < f.length
  · rw [drop_getD f at0 hk] at h
    simp only [lack] at h
    split at h
    · rename_i hc
      exact ⟨hk, hc.1, by rw [show d + opC (f.getD at0 0) = d + 1 + opC (f.getD at0 0) - 1 by omega]; exact h⟩
    · cases h
  · rw [List.drop_eq_nil_of_le (by omega)] at h; simp [lack] at h

theorem validB_lack {f : List Int} {n : Int} (h : validB f n = true) : f.length ≤ 100 ∧ lack n 1 f = some 0 := by
  unfold validB at h; simpa using h
theorem modelErr_zero {ss : List ByteArray} {fs : List (List Int)} (h : modelErr ss fs = 0) : ss.length ≤ 40 ∧ fs.length ≤ 60 ∧ namesOk ss ∧ ∀ k, k < fs.length → validB (fs.getD k []) ss.length = true := by
  unfold modelErr at h
  split at h
  · cases h
  · split at h
    · cases h
    · rename_i h1 h2
      refine ⟨by omega, by omega, by simpa using h2, fun k hk => ?_⟩
      unfold formsErr at h
      split at h
      · rename_i ha
        rw [List.all_eq_true] at ha
        exact ha _ (by simp [List.getD, hk])
      · cases h
end Go.Proofs.YtngjjmniigkeoaaGreatDoor
