/- fold, at knots. -/
import Derived.Test.YtngjjmniigkeoaaGreatDoorOf
namespace Go.Proofs.YtngjjmniigkeoaaGreatDoor
open Go Go.RowKit Go.WideMaps Go.Maps
set_option linter.unusedSimpArgs false
set_option linter.unusedVariables false

/-- A formula worked out from its end: what is ready, the next operand first. -/
def foldS {T : Type} (take : Int → T → T → T) (z : T) : List Int → List T
  | [] => []
  | x :: xs =>
    if opC x = 0 then take x z z :: foldS take z xs
    else if opC x = 1 then take x ((foldS take z xs).getD 0 z) z :: (foldS take z xs).drop 1
    else take x ((foldS take z xs).getD 0 z) ((foldS take z xs).getD 1 z) :: (foldS take z xs).drop 2

theorem foldS_length {T : Type} (take : Int → T → T → T) (z : T) (n : Int) : ∀ (xs : List Int) (d : Nat), lack n d xs = some 0 → (foldS take z xs).length = d
  | [], d, h => by simp [lack] at h; simp [foldS, h]
  | x :: xs, d, h => by
    simp only [lack] at h
    split at h
    · rename_i hc
      have ih := foldS_length take z n xs _ h
      have h2 := opC_le x
      unfold foldS
      split
      · simp; omega
      · split
        · simp; omega
        · simp; omega
    · cases h

/-- The formula in an assignment of its options. -/
def evalF (σ : Nat → Bool) (f : List Int) : Bool := (foldS (tk σ) false f).getD 0 false

theorem upd_side {a w w' : World} {h : DH} {s s' : DS} {S : Nat → Prop} (u : Upd a w h s s') (k : Keeps S w w') (h1 : ∀ b, S b → a.heap.size ≤ b) (h2 : ∀ b, S b → ¬ own h s' b) : Upd a w' h s s' :=
  ⟨u.dia.kept (fun b hb => k.block b (u.dia.lt b hb) (fun hs => h2 b hs hb)), u.ext, u.keeps.trans k (fun b hs => Or.inr (h1 b hs)), u.own⟩

theorem ownsRow_of_block {w w' : World} {base : Nat} {e : TypeId} {size : Nat} {v : Value} {n : Nat} {xs : List Value} (h : w.ownsRow base e size v n xs) (hk : ∀ k, v.ownBlock = some k → w'.heap[k]? = w.heap[k]?) : w'.ownsRow base e size v n xs := by
  refine ⟨h.1, ?_⟩
  rcases h.2 with hn | ⟨g, cap, cur, e, hb, hg, rest⟩
  · exact .inl hn
  · exact .inr ⟨g, cap, cur, e, hb, (hk g (by rw [e]; rfl)).trans hg, rest⟩

/-- The first elements of an owned row. -/
theorem ownsRow_take {w : World} {base : Nat} {e : TypeId} {g n m cap : Nat} {xs : List Value} (h : w.ownsRow base e 1 (.slice (some ⟨g, 0, none⟩) n cap) n xs) (hm : m ≤ n) : w.ownsRow base e 1 (.slice (some ⟨g, 0, none⟩) m cap) m (xs.take m) := by
  have h1 := h.1
  refine ⟨by simp at h1 ⊢; omega, ?_⟩
  rcases h.2 with ⟨hn, _⟩ | ⟨g', cap', cur, he, hb, hg, q1, q2, q3, q4⟩
  · cases hn
  · simp at he
    obtain ⟨rfl, rfl⟩ := he
    refine .inr ⟨g, cap, cur, rfl, hb, hg, by omega, q2, q3, ?_⟩
    rw [← q4, List.take_take]
    congr 1
    omega

theorem lack_at {n : Int} {f : List Int} (hv : lack n 1 f = some 0) {k : Nat} (hk : k < f.length) : opB (f.getD k 0) n = true ∧ ∀ (T : Type) (take : Int → T → T → T) (z : T), opC (f.getD k 0) ≤ (foldS take z (f.drop (k + 1))).length := by
  have h1 := hv
  rw [← List.take_append_drop k f, lack_append] at h1
  cases ht : lack n 1 (f.take k) with
  | none => rw [ht] at h1; cases h1
  | some e =>
    rw [ht] at h1
    simp only [Option.bind_some] at h1
    rw [List.drop_eq_getElem_cons hk] at h1
    simp only [lack] at h1
    have hx : f.getD k 0 = f[k] := by simp [List.getD, hk]
    rw [hx]
    split at h1
    · rename_i hc
      refine ⟨hc.1, fun T take z => ?_⟩
      rw [foldS_length take z n _ _ h1]
      omega
    · cases h1

/-- Behind some rounds. -/
structure FoldInv (w : World) (h : DH) (s : DS) (ls : List Nat) (f : List Int) (k : Nat) (v : Value) (wr : World) (s' : DS) (ks : List Nat) : Prop where
  hk : k ≤ f.length
  upd : Upd w wr h s s'
  row : wr.ownsRow w.heap.size 82 1 v ks.length (ks.reverse.map (fun (x : Nat) => Value.int .i32 x))
  nil : ks = [] → v = .slice none 0 0
  sep : ∀ b, v.ownBlock = some b → ¬ own h s' b
  lt : ∀ x ∈ ks, x < s'.nodes.length
  mean : ∀ σ, ks.map (fun x => sem s'.nodes x σ) = foldS (tk (byLev ls σ)) false (f.drop k)
  steps : s.steps ≤ s'.steps + ((f.length - k) * 2 ^ h.n : Nat)
  le : s'.steps ≤ s.steps
  cnt : s'.cnt ≤ s.cnt + 2 * ((f.length - k) * 2 ^ h.n)

theorem FoldInv.start {w : World} {h : DH} {s : DS} (ls : List Nat) (f : List Int) (d : Dia w h s) : FoldInv w h s ls f f.length (.slice none 0 0) w s [] :=
  ⟨Nat.le_refl _, Upd.refl d, World.ownsRow_nil _ _ _ _, fun _ => rfl, fun b hb => by simp [Value.ownBlock] at hb, fun x hx => by simp at hx, fun σ => by simp [foldS], by simp, Int.le_refl _, by simp⟩

theorem FoldInv.length {w : World} {h : DH} {s : DS} {ls : List Nat} {f : List Int} {k : Nat} {v : Value} {wr : World} {s' : DS} {ks : List Nat} (i : FoldInv w h s ls f k v wr s' ks) (σ : Nat → Bool) : ks.length = (foldS (tk (byLev ls σ)) false (f.drop k)).length := by
  rw [← i.mean σ]; simp

theorem getD_map {α β : Type} (g : α → β) (l : List α) (i : Nat) (d : α) (e : β) (h : i < l.length) : (l.map g).getD i e = g (l.getD i d) := by simp [List.getD, h]

theorem FoldInv.step {w : World} {h : DH} {s : DS} {ls : List Nat} {f : List Int} {k : Nat} {v : Value} {wr w1 w2 : World} {s' s1 : DS} {ks : List Nat} {v2 : Value} {k1 a b : Nat} (i : FoldInv w h s ls f (k + 1) v wr s' ks) (hv : lack h.n 1 f = some 0) (hk : k < f.length)
    (ha : a < s'.nodes.length) (hb : b < s'.nodes.length) (hA : 1 ≤ opC (f.getD k 0) → a = ks.getD 0 0) (hB : 2 ≤ opC (f.getD k 0) → b = ks.getD 1 0)
    (p : OfPost wr.drew h s' (fun σ => tk (byLev ls σ) (f.getD k 0) (sem s'.nodes a σ) (sem s'.nodes b σ)) (2 ^ h.n) w1 s1 k1)
    (hrow : w2.ownsRow w.heap.size 82 1 v2 (ks.length - opC (f.getD k 0) + 1) ((ks.drop (opC (f.getD k 0))).reverse.map (fun (x : Nat) => Value.int .i32 x) ++ [.int .i32 k1]))
    (hkeep : Keeps (fun b => v.ownBlock = some b) w1 w2) (hat : ∀ b, v2.ownBlock = some b → v.ownBlock = some b ∨ w1.heap.size ≤ b) : FoldInv w h s ls f k v2 w2 s1 (k1 :: ks.drop (opC (f.getD k 0))) := by
  obtain ⟨hop, hcl⟩ := lack_at hv hk
  have hcl0 := hcl Bool (tk (byLev ls (fun _ => false))) false
  rw [← i.length] at hcl0
  have u0 : Upd w wr.drew h s s' := ⟨i.upd.dia.drew, i.upd.ext, i.upd.keeps.drew, i.upd.own⟩
  have u1 := u0.trans p.upd
  have hvb : ∀ b, v.ownBlock = some b → w.heap.size ≤ b ∧ b < wr.heap.size := i.row.lt
  have hsep1 : ∀ b, v.ownBlock = some b → ¬ own h s1 b := by
    intro b hb ho
    rcases p.upd.own b ho with h1 | h1
    · exact i.sep b hb h1
    · have := (hvb b hb).2
      have e : wr.drew.heap.size = wr.heap.size := rfl
      omega
  have u2 : Upd w w2 h s s1 := upd_side u1 hkeep (fun b hb => (hvb b hb).1) hsep1
  have hexp := p.upd.ext
  have hwf := i.upd.dia.inv.wf
  have hlen : f.length - k = (f.length - (k + 1)) + 1 := by omega
  have hdrop : f.drop k = f.getD k 0 :: f.drop (k + 1) := by rw [List.drop_eq_getElem_cons hk]; simp [List.getD, hk]
  refine ⟨Nat.le_of_lt hk, u2, ?_, fun e => (by cases e), ?_, ?_, ?_, ?_, ?_, ?_⟩
  · have e1 : (k1 :: ks.drop (opC (f.getD k 0))).length = ks.length - opC (f.getD k 0) + 1 := by simp
    rw [e1]
    simpa using hrow
  · intro b hb ho
    rcases hat b hb with h1 | h1
    · exact hsep1 b h1 ho
    · have := u1.dia.lt b ho; omega
  · intro x hx
    simp only [List.mem_cons] at hx
    rcases hx with rfl | hx
    · exact p.hk
    · have := i.lt x (List.mem_of_mem_drop hx); have := hexp.len; omega
  · intro σ
    have hm := i.mean σ
    have hrest : (ks.drop (opC (f.getD k 0))).map (fun x => sem s1.nodes x σ) = (foldS (tk (byLev ls σ)) false (f.drop (k + 1))).drop (opC (f.getD k 0)) := by
      rw [← hm, ← List.map_drop]
      apply List.map_congr_left
      intro x hx
      exact hexp.sem hwf (i.lt x (List.mem_of_mem_drop hx)) σ
    have h0 : 1 ≤ opC (f.getD k 0) → (foldS (tk (byLev ls σ)) false (f.drop (k + 1))).getD 0 false = sem s'.nodes a σ := by
      intro hc
      rw [← hm, getD_map _ _ _ 0 _ (by omega), ← hA hc]
    have h1 : 2 ≤ opC (f.getD k 0) → (foldS (tk (byLev ls σ)) false (f.drop (k + 1))).getD 1 false = sem s'.nodes b σ := by
      intro hc
      rw [← hm, getD_map _ _ _ 0 _ (by omega), ← hB hc]
    rw [hdrop]
    simp only [List.map_cons, foldS]
    rw [p.mean σ, hrest]
    have htk : ∀ x y z w' : Bool, opC (f.getD k 0) = 0 → tk (byLev ls σ) (f.getD k 0) x y = tk (byLev ls σ) (f.getD k 0) z w' := by
      intro x y z w' hc
      unfold opC at hc
      unfold tk
      split at hc
      · cases hc
      · rename_i n3
        split at hc
        · cases hc
        · rename_i n456
          rw [if_neg n3, if_neg n3, if_neg (fun e => n456 (.inl e)), if_neg (fun e => n456 (.inr (.inl e))), if_neg (fun e => n456 (.inr (.inr e))), if_neg (fun e => n456 (.inl e)), if_neg (fun e => n456 (.inr (.inl e))), if_neg (fun e => n456 (.inr (.inr e)))]
    have htk1 : ∀ x y z : Bool, opC (f.getD k 0) = 1 → tk (byLev ls σ) (f.getD k 0) x y = tk (byLev ls σ) (f.getD k 0) x z := by
      intro x y z hc
      unfold opC at hc
      split at hc
      · rename_i e; rw [e]; rfl
      · split at hc <;> cases hc
    have hc2 := opC_le (f.getD k 0)
    by_cases c0 : opC (f.getD k 0) = 0
    · rw [if_pos c0, c0, List.drop_zero, htk _ _ false false c0]
    · rw [if_neg c0]
      by_cases c1 : opC (f.getD k 0) = 1
      · rw [if_pos c1, c1, h0 (by omega), htk1 _ _ false c1]
      · rw [if_neg c1, show opC (f.getD k 0) = 2 by omega, h0 (by omega), h1 (by omega)]
  · have := p.steps; have := i.steps; rw [hlen, Nat.add_mul]; omega
  · have := p.le; have := i.le; omega
  · have := p.cnt; have := i.cnt; rw [hlen, Nat.add_mul]; omega
end Go.Proofs.YtngjjmniigkeoaaGreatDoor
