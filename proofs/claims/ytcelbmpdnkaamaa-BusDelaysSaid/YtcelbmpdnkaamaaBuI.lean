/- The order of the gates, as a function (plain). -/
import Derived.Test.YtcelbmpdnkaamaaBuG
namespace Go.Proofs.Ytcelbmpdnkaamaa
open Go Go.RowKit
set_option linter.unusedSimpArgs false
set_option linter.unusedVariables false

def inc (xs : List Int) (g : Int) : List Int := xs.set g.toNat (xs.getD g.toNat 0 + 1)
def incTo (xs p : List Int) : Nat → List Int
  | 0 => xs
  | m + 1 => inc (incTo xs p m) (p.getD (m + 1) 0)
def befTo (ng : Nat) (fs : List Fl) : Nat → List Int
  | 0 => List.replicate ng 0
  | k + 1 => incTo (befTo ng fs k) (flAt fs k).p ((flAt fs k).p.length - 1)

/-- A list of numbers from lo to hi. -/
def Bd (lo hi : Int) (n : Nat) (xs : List Int) : Prop := xs.length = n ∧ ∀ j, lo ≤ xs.getD j 0 ∧ xs.getD j 0 ≤ hi
theorem getD_set (xs : List Int) (i j : Nat) (v : Int) : (xs.set i v).getD j 0 = if j = i ∧ i < xs.length then v else xs.getD j 0 := by
  simp only [List.getD, List.getElem?_set]
  by_cases h : i = j
  · subst h
    by_cases h2 : i < xs.length
    · simp [h2]
    · simp [h2]
  · have h3 : ¬ j = i := fun e => h e.symm
    simp [h, h3]
theorem Bd.inc {lo hi : Int} {n : Nat} {xs : List Int} (h : Bd lo hi n xs) (h0 : lo ≤ 0) (h1 : 0 ≤ hi) (g : Int) : Bd lo (hi + 1) n (inc xs g) := by
  refine ⟨by unfold Proofs.Ytcelbmpdnkaamaa.inc; rw [List.length_set]; exact h.1, fun j => ?_⟩
  unfold Proofs.Ytcelbmpdnkaamaa.inc
  rw [getD_set]
  have h2 := h.2 j
  have h3 := h.2 g.toNat
  split <;> omega
theorem incTo_bd {lo hi : Int} {n : Nat} {xs p : List Int} (h : Bd lo hi n xs) (h0 : lo ≤ 0) (h1 : 0 ≤ hi) : ∀ m : Nat, Bd lo (hi + m) n (incTo xs p m)
  | 0 => by simpa [incTo] using h
  | m + 1 => by
    have := (incTo_bd (p := p) h h0 h1 m).inc h0 (by omega) (p.getD (m + 1) 0)
    have e : hi + ((m + 1 : Nat) : Int) = hi + m + 1 := by omega
    rw [e]; exact this
/-- Paths of gates of a net. -/
def PathsOk (ng : Nat) (fs : List Fl) : Prop := ∀ k, k < fs.length → 1 ≤ (flAt fs k).p.length ∧ (flAt fs k).p.length ≤ 8 ∧ ∀ j, j < (flAt fs k).p.length → ∃ i : Nat, (flAt fs k).p.getD j 0 = i ∧ i < ng
theorem befTo_bd {ng : Nat} {fs : List Fl} (h : PathsOk ng fs) : ∀ k, k ≤ fs.length → Bd 0 (8 * k) ng (befTo ng fs k)
  | 0, _ => ⟨by simp [befTo], fun j => by simp [befTo, List.getD, List.getElem?_replicate]; split <;> simp⟩
  | k + 1, hk => by
    have h1 := befTo_bd h k (by omega)
    have h2 := incTo_bd (p := (flAt fs k).p) h1 (Int.le_refl _) (by omega) ((flAt fs k).p.length - 1)
    have h3 := h k (by omega)
    refine ⟨h2.1, fun j => ?_⟩
    have h4 := h2.2 j
    have e : befTo ng fs (k + 1) = incTo (befTo ng fs k) (flAt fs k).p ((flAt fs k).p.length - 1) := rfl
    rw [e]
    omega

abbrev OS := List Int × List Int
def dec (s : OS) (x : Int) : OS := (s.1.set x.toNat (s.1.getD x.toNat 0 - 1), if s.1.getD x.toNat 0 - 1 = 0 then s.2 ++ [x] else s.2)
def decTo (s : OS) (l : List Int) : Nat → OS
  | 0 => s
  | m + 1 => dec (decTo s l m) (l.getD m 0)
def ordStep (fs : List Fl) (i : Nat) (s : OS) : OS := if i < s.2.length then decTo s (bhTo fs (s.2.getD i 0) fs.length) (bhTo fs (s.2.getD i 0) fs.length).length else s
def ordTo (fs : List Fl) (s : OS) : Nat → OS
  | 0 => s
  | i + 1 => ordStep fs i (ordTo fs s i)
def zeroF (b : List Int) (i : Nat) : Bool := b.getD i 0 == 0
def ord0 (ng : Nat) (fs : List Fl) : OS := (befTo ng fs fs.length, pick (zeroF (befTo ng fs fs.length)) ng)
def orderL (ng : Nat) (fs : List Fl) : List Int := (ordTo fs (ord0 ng fs) ng).2

structure OInv (ng : Nat) (lo : Int) (s : OS) : Prop where
  len : s.1.length = ng
  bd : ∀ j, lo ≤ s.1.getD j 0 ∧ s.1.getD j 0 ≤ 320
  nodup : s.2.Nodup
  mem : ∀ x ∈ s.2, ∃ i : Nat, x = i ∧ i < ng ∧ s.1.getD i 0 ≤ 0
theorem OInv.dec {ng : Nat} {lo : Int} {s : OS} (h : OInv ng lo s) (hlo : lo ≤ 0) {i : Nat} (hi : i < ng) : OInv ng (lo - 1) (dec s i) := by
  have hl := h.len
  have e : ∀ j, (s.1.set i (s.1.getD i 0 - 1)).getD j 0 = if j = i then s.1.getD i 0 - 1 else s.1.getD j 0 := fun j => by
    rw [getD_set]; simp [show i < s.1.length by omega]
  have e0 : (Proofs.Ytcelbmpdnkaamaa.dec s i).1 = s.1.set i (s.1.getD i 0 - 1) := by simp [Proofs.Ytcelbmpdnkaamaa.dec]
  have e1 : (Proofs.Ytcelbmpdnkaamaa.dec s i).2 = if s.1.getD i 0 - 1 = 0 then s.2 ++ [(i : Int)] else s.2 := by simp [Proofs.Ytcelbmpdnkaamaa.dec]
  have hold : ∀ x ∈ s.2, ∃ j : Nat, x = j ∧ j < ng ∧ (s.1.set i (s.1.getD i 0 - 1)).getD j 0 ≤ 0 := fun x hx => by
    obtain ⟨j, e2, e3, e4⟩ := h.mem x hx
    refine ⟨j, e2, e3, ?_⟩
    rw [e]; split
    · rename_i h5; subst h5; omega
    · exact e4
  refine ⟨by rw [e0, List.length_set]; exact hl, fun j => ?_, ?_, fun x hx => ?_⟩
  · rw [e0, e]
    have h1 := h.bd j
    have h2 := h.bd i
    split <;> omega
  · rw [e1]; split
    · rename_i h1
      rw [List.nodup_append]
      refine ⟨h.nodup, by simp, fun a ha b hb => ?_⟩
      simp at hb; subst hb
      rintro rfl
      obtain ⟨j, e2, e3, e4⟩ := h.mem _ ha
      have : j = i := by omega
      subst this; omega
    · exact h.nodup
  · rw [e0]
    rw [e1] at hx
    split at hx
    · rename_i h1
      rcases List.mem_append.1 hx with h2 | h2
      · exact hold x h2
      · simp at h2; subst h2
        exact ⟨i, rfl, hi, by rw [e, if_pos rfl]; omega⟩
    · exact hold x hx
theorem OInv.mono {ng : Nat} {lo lo' : Int} {s : OS} (h : OInv ng lo s) (hl : lo' ≤ lo) : OInv ng lo' s := ⟨h.len, fun j => ⟨by have := (h.bd j).1; omega, (h.bd j).2⟩, h.nodup, h.mem⟩
def Gates (ng : Nat) (l : List Int) : Prop := ∀ j, j < l.length → ∃ i : Nat, l.getD j 0 = i ∧ i < ng
theorem decTo_inv {ng : Nat} {lo : Int} {s : OS} {l : List Int} (h : OInv ng lo s) (hlo : lo ≤ 0) (hl : Gates ng l) : ∀ m : Nat, m ≤ l.length → OInv ng (lo - m) (decTo s l m)
  | 0, _ => h.mono (by omega)
  | m + 1, hm => by
    have h1 := decTo_inv h hlo hl m (by omega)
    obtain ⟨i, e, hi⟩ := hl m (by omega)
    have h2 := h1.dec (by omega) hi
    have e2 : decTo s l (m + 1) = dec (decTo s l m) (l.getD m 0) := rfl
    rw [e2, e]
    exact h2.mono (by omega)
theorem bh_gates {ng : Nat} {fs : List Fl} (h : PathsOk ng fs) (g : Int) : Gates ng (bhTo fs g fs.length) := by
  intro j hj
  have h1 : (bhTo fs g fs.length)[j] ∈ bhTo fs g fs.length := List.getElem_mem hj
  obtain ⟨k, hk, e⟩ := List.mem_filterMap.1 h1
  have hk2 := List.mem_range.1 hk
  unfold bhF at e
  split at e
  · rename_i h2
    simp only [Option.some.injEq] at e
    obtain ⟨i, e3, hi⟩ := (h k hk2).2.2 ((idxI (flAt fs k).p g).toNat + 1) (by omega)
    exact ⟨i, by simp only [List.getD, hj, List.getElem?_eq_getElem, Option.getD_some]; rw [← e, e3], hi⟩
  · cases e
theorem nodup_cast : ∀ {l : List Nat}, l.Nodup → (l.map (fun (i : Nat) => (i : Int))).Nodup
  | [], _ => by simp
  | x :: l, h => by
    rw [List.nodup_cons] at h
    rw [List.map_cons, List.nodup_cons]
    refine ⟨fun hx => ?_, nodup_cast h.2⟩
    obtain ⟨y, hy, e⟩ := List.mem_map.1 hx
    have : x = y := by omega
    subst this
    exact h.1 hy
theorem ord0_inv {ng : Nat} {fs : List Fl} (h : PathsOk ng fs) (hl : fs.length ≤ 40) : OInv ng 0 (ord0 ng fs) := by
  have h1 := befTo_bd h fs.length (Nat.le_refl _)
  refine ⟨h1.1, fun j => ?_, ?_, fun x hx => ?_⟩
  · have := h1.2 j
    have e : (ord0 ng fs).1 = befTo ng fs fs.length := rfl
    rw [e]; omega
  · have e : (ord0 ng fs).2 = pick (zeroF (befTo ng fs fs.length)) ng := rfl
    rw [e]; unfold pick
    exact nodup_cast (List.Nodup.sublist List.filter_sublist List.nodup_range)
  · obtain ⟨i, hi, e⟩ := List.mem_map.1 hx
    have h2 := List.mem_filter.1 hi
    refine ⟨i, e.symm, List.mem_range.1 h2.1, ?_⟩
    have := h2.2
    unfold zeroF at this
    have h3 := eq_of_beq this
    have e : (ord0 ng fs).1 = befTo ng fs fs.length := rfl
    rw [e]; omega
theorem ordTo_inv {ng : Nat} {fs : List Fl} (h : PathsOk ng fs) (hl : fs.length ≤ 40) : ∀ i : Nat, OInv ng (-(40 * i)) (ordTo fs (ord0 ng fs) i)
  | 0 => (ord0_inv h hl).mono (by omega)
  | i + 1 => by
    have h1 := ordTo_inv h hl i
    have e : ordTo fs (ord0 ng fs) (i + 1) = ordStep fs i (ordTo fs (ord0 ng fs) i) := rfl
    rw [e]
    unfold ordStep
    split
    · have h2 := decTo_inv h1 (by omega) (bh_gates h ((ordTo fs (ord0 ng fs) i).2.getD i 0)) _ (Nat.le_refl _)
      have h3 := bh_len fs ((ordTo fs (ord0 ng fs) i).2.getD i 0) fs.length
      exact h2.mono (by omega)
    · exact h1.mono (by omega)
theorem nodup_len : ∀ {n : Nat} {l : List Nat}, l.Nodup → (∀ x ∈ l, x < n) → l.length ≤ n
  | 0, l, _, h => by
    cases l with
    | nil => simp
    | cons x l => exact absurd (h x (List.mem_cons_self ..)) (by omega)
  | n + 1, l, hn, h => by
    by_cases hm : n ∈ l
    · have h1 := nodup_len (n := n) (l := l.erase n) (hn.erase n) (fun x hx => by
        have h2 := (hn.mem_erase_iff).1 hx
        have h3 := h x h2.2
        have h4 := h2.1
        omega)
      rw [List.length_erase_of_mem hm] at h1
      omega
    · have h1 := nodup_len (n := n) (l := l) hn (fun x hx => by
        have h3 := h x hx
        have h4 : x ≠ n := fun e => hm (e ▸ hx)
        omega)
      omega
theorem OInv.ol {ng : Nat} {lo : Int} {s : OS} (h : OInv ng lo s) : s.2.length ≤ ng := by
  have h1 := nodup_len (n := ng) (l := s.2.map Int.toNat) (by
    have := h.nodup
    have hm := h.mem
    generalize s.2 = l at *
    induction l with
    | nil => simp
    | cons x l ih =>
      rw [List.map_cons, List.nodup_cons]
      rw [List.nodup_cons] at this
      refine ⟨fun hx => ?_, ih this.2 (fun y hy => hm y (List.mem_cons_of_mem _ hy))⟩
      obtain ⟨y, hy, e⟩ := List.mem_map.1 hx
      obtain ⟨i, e1, _⟩ := hm y (List.mem_cons_of_mem _ hy)
      obtain ⟨j, e2, _⟩ := hm x (List.mem_cons_self ..)
      have : x = y := by omega
      subst this
      exact this.1 hy) (fun x hx => by
    obtain ⟨y, hy, rfl⟩ := List.mem_map.1 hx
    obtain ⟨i, rfl, hi, _⟩ := h.mem y hy
    simpa using hi)
  simpa using h1
theorem ordTo_stop {fs : List Fl} {s : OS} {i : Nat} (h : (ordTo fs s i).2.length ≤ i) : ∀ d : Nat, ordTo fs s (i + d) = ordTo fs s i
  | 0 => rfl
  | d + 1 => by
    have h1 := ordTo_stop h d
    have e : ordTo fs s (i + (d + 1)) = ordStep fs (i + d) (ordTo fs s (i + d)) := rfl
    rw [e, h1]
    unfold ordStep
    rw [if_neg (by omega)]
theorem orderL_of {ng : Nat} {fs : List Fl} {i : Nat} (hi : i ≤ ng) (h : (ordTo fs (ord0 ng fs) i).2.length ≤ i) : orderL ng fs = (ordTo fs (ord0 ng fs) i).2 := by
  have := ordTo_stop h (ng - i)
  rw [show i + (ng - i) = ng by omega] at this
  unfold orderL; rw [this]
theorem orderL_gates {ng : Nat} {fs : List Fl} (h : PathsOk ng fs) (hl : fs.length ≤ 40) : (orderL ng fs).length ≤ ng ∧ (orderL ng fs).Nodup ∧ ∀ x ∈ orderL ng fs, ∃ i : Nat, x = i ∧ i < ng := by
  have h1 := ordTo_inv h hl ng
  exact ⟨h1.ol, h1.nodup, fun x hx => by obtain ⟨i, e, hi, _⟩ := h1.mem x hx; exact ⟨i, e, hi⟩⟩
end Go.Proofs.Ytcelbmpdnkaamaa
