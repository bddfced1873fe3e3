/- Texts as formulas (plain): what the grammar makes of a text, and that it makes of a formula's text the formula. -/
import Derived.Test.YtngjjmniigkeoaaGreatDoorFoldE
namespace Go.Proofs.YtngjjmniigkeoaaGreatDoor
open Go Go.RowKit Go.WideMaps Go.Maps
set_option linter.unusedSimpArgs false
set_option linter.unusedVariables false

def isW (c : UInt8) : Bool := isLow c.toNat || isDig c.toNat
def wordAt (s : List UInt8) (i : Nat) : List UInt8 := (s.drop i).takeWhile isW
def opOf (c : UInt8) : Option Int := if c = 38 then some (-4) else if c = 124 then some (-5) else if c = 61 then some (-6) else none

/-- Where a name stands. -/
def numOf (ss : List ByteArray) (t : List UInt8) : Option Nat := if ss.any (fun s => s.toList == t) = true then some (ss.findIdx (fun s => s.toList == t)) else none

abbrev PRes := Nat × List Int × Bool
def pword (ss : List ByteArray) (d : Int) (s : List UInt8) (i : Nat) : Option PRes :=
  if wordAt s i = [121, 101, 115] then some (i + 3, [-1], false)
  else if wordAt s i = [110, 111] then some (i + 2, [-2], false)
  else if nameB (wordAt s i) = true then
    match numOf ss (wordAt s i) with
    | some k => some (i + (wordAt s i).length, [(k : Int)], false)
    | none => some (i + (wordAt s i).length, [d], true)
  else none

/-- A term: where it ends, its numbers, and whether a name is unknown (for which d stands). -/
def pterm (ss : List ByteArray) (d : Int) (s : List UInt8) : Nat → Nat → Option PRes
  | 0, _ => none
  | n + 1, i =>
    if i < s.length then
      if s.getD i 0 = 33 then (pterm ss d s n (i + 1)).map fun r => (r.1, -3 :: r.2.1, r.2.2)
      else if s.getD i 0 = 40 then
        match pterm ss d s n (i + 1) with
        | none => none
        | some a =>
          if a.1 < s.length ∧ s.getD a.1 0 = 32 then
            if a.1 + 1 < s.length then
              match opOf (s.getD (a.1 + 1) 0) with
              | none => none
              | some o =>
                if a.1 + 2 < s.length ∧ s.getD (a.1 + 2) 0 = 32 then
                  match pterm ss d s n (a.1 + 3) with
                  | none => none
                  | some b => if b.1 < s.length ∧ s.getD b.1 0 = 41 then some (b.1 + 1, o :: (a.2.1 ++ b.2.1), a.2.2 || b.2.2) else none
                else none
            else none
          else none
      else pword ss d s i
    else none

theorem wordAt_le (s : List UInt8) (i : Nat) : i + (wordAt s i).length ≤ max i s.length := by
  unfold wordAt
  have h1 : ((s.drop i).takeWhile isW).length ≤ (s.drop i).length := (List.takeWhile_prefix _).length_le
  simp at h1
  omega

theorem pword_end {ss : List ByteArray} {d : Int} {s : List UInt8} {i : Nat} {r : PRes} (hi : i < s.length) (h : pword ss d s i = some r) : i < r.1 ∧ r.1 ≤ s.length := by
  have hw := wordAt_le s i
  unfold pword at h
  split at h
  · rename_i e
    rw [e] at hw; cases h; simp at hw ⊢; omega
  · split at h
    · rename_i e
      rw [e] at hw; cases h; simp at hw ⊢; omega
    · split at h
      · rename_i hn
        have h1 : 1 ≤ (wordAt s i).length := by
          unfold nameB at hn; simp at hn; omega
        split at h <;> (cases h; simp; omega)
      · cases h

theorem pterm_end {ss : List ByteArray} {d : Int} {s : List UInt8} : ∀ {n i : Nat} {r : PRes}, pterm ss d s n i = some r → i < r.1 ∧ r.1 ≤ s.length
  | 0, i, r, h => by simp [pterm] at h
  | n + 1, i, r, h => by
    simp only [pterm] at h
    split at h
    · rename_i hi
      split at h
      · cases hp : pterm ss d s n (i + 1) with
        | none => rw [hp] at h; simp at h
        | some a =>
          rw [hp] at h
          simp at h
          obtain ⟨rfl⟩ := h
          have := pterm_end hp
          simp; omega
      · split at h
        · cases hp : pterm ss d s n (i + 1) with
          | none => rw [hp] at h; simp at h
          | some a =>
            rw [hp] at h
            have ha := pterm_end hp
            dsimp only at h
            split at h
            · split at h
              · cases ho : opOf (s.getD (a.1 + 1) 0) with
                | none => rw [ho] at h; simp at h
                | some o =>
                  rw [ho] at h
                  dsimp only at h
                  split at h
                  · cases hq : pterm ss d s n (a.1 + 3) with
                    | none => rw [hq] at h; simp at h
                    | some b =>
                      rw [hq] at h
                      have hb := pterm_end hq
                      dsimp only at h
                      split at h
                      · rename_i hlt
                        cases h
                        simp; omega
                      · cases h
                  · cases h
              · cases h
            · cases h
        · exact pword_end hi h
    · cases h

theorem pterm_fuel {ss : List ByteArray} {d : Int} {s : List UInt8} : ∀ {n m i : Nat}, s.length < n + i → s.length < m + i → pterm ss d s n i = pterm ss d s m i
  | 0, 0, i, _, _ => rfl
  | 0, m + 1, i, h, _ => by simp only [pterm]; rw [if_neg (by omega)]
  | n + 1, 0, i, _, h => by simp only [pterm]; rw [if_neg (by omega)]
  | n + 1, m + 1, i, h1, h2 => by
    simp only [pterm]
    rw [pterm_fuel (n := n) (m := m) (i := i + 1) (by omega) (by omega)]
    cases hp : pterm ss d s m (i + 1) with
    | none => rfl
    | some a =>
      have ha := pterm_end hp
      dsimp only
      rw [pterm_fuel (n := n) (m := m) (i := a.1 + 3) (by omega) (by omega)]

/-- What stands for an unknown name matters only where there is one. -/
theorem pword_same {ss : List ByteArray} {d d' : Int} {s : List UInt8} {i : Nat} : (pword ss d s i = none ∧ pword ss d' s i = none) ∨ ∃ r r', pword ss d s i = some r ∧ pword ss d' s i = some r' ∧ r.1 = r'.1 ∧ r.2.2 = r'.2.2 ∧ r.2.1.length = r'.2.1.length ∧ (r.2.2 = false → r.2.1 = r'.2.1) := by
  unfold pword
  split
  · exact Or.inr ⟨_, _, rfl, rfl, rfl, rfl, rfl, fun _ => rfl⟩
  · split
    · exact Or.inr ⟨_, _, rfl, rfl, rfl, rfl, rfl, fun _ => rfl⟩
    · split
      · cases numOf ss (wordAt s i) with
        | some k => exact Or.inr ⟨_, _, rfl, rfl, rfl, rfl, rfl, fun _ => rfl⟩
        | none => exact Or.inr ⟨_, _, rfl, rfl, rfl, rfl, rfl, fun h => by cases h⟩
      · exact Or.inl ⟨rfl, rfl⟩

theorem pterm_same {ss : List ByteArray} {d d' : Int} {s : List UInt8} : ∀ (n i : Nat), (pterm ss d s n i = none ∧ pterm ss d' s n i = none) ∨ ∃ r r', pterm ss d s n i = some r ∧ pterm ss d' s n i = some r' ∧ r.1 = r'.1 ∧ r.2.2 = r'.2.2 ∧ r.2.1.length = r'.2.1.length ∧ (r.2.2 = false → r.2.1 = r'.2.1)
  | 0, i => Or.inl ⟨rfl, rfl⟩
  | n + 1, i => by
    simp only [pterm]
    split
    · split
      · rcases pterm_same (ss := ss) (d := d) (d' := d') (s := s) n (i + 1) with ⟨e1, e2⟩ | ⟨r, r', e1, e2, h1, h2, h3, h4⟩
        · rw [e1, e2]; exact Or.inl ⟨rfl, rfl⟩
        · rw [e1, e2]
          exact Or.inr ⟨_, _, rfl, rfl, h1, h2, by simp [h3], fun h => by simp; exact h4 h⟩
      · split
        · rcases pterm_same (ss := ss) (d := d) (d' := d') (s := s) n (i + 1) with ⟨e1, e2⟩ | ⟨r, r', e1, e2, h1, h2, h3, h4⟩
          · rw [e1, e2]; exact Or.inl ⟨rfl, rfl⟩
          · rw [e1, e2]
            dsimp only
            rw [← h1]
            split
            · split
              · cases opOf (s.getD (r.1 + 1) 0) with
                | none => exact Or.inl ⟨rfl, rfl⟩
                | some o =>
                  dsimp only
                  split
                  · rcases pterm_same (ss := ss) (d := d) (d' := d') (s := s) n (r.1 + 3) with ⟨f1, f2⟩ | ⟨q, q', f1, f2, g1, g2, g3, g4⟩
                    · rw [f1, f2]; exact Or.inl ⟨rfl, rfl⟩
                    · rw [f1, f2]
                      dsimp only
                      rw [← g1]
                      split
                      · refine Or.inr ⟨_, _, rfl, rfl, rfl, by simp [h2, g2], by simp [h3, g3], fun h => ?_⟩
                        simp only [Bool.or_eq_false_iff] at h
                        simp only
                        rw [h4 h.1, g4 h.2]
                      · exact Or.inl ⟨rfl, rfl⟩
                  · exact Or.inl ⟨rfl, rfl⟩
              · exact Or.inl ⟨rfl, rfl⟩
            · exact Or.inl ⟨rfl, rfl⟩
        · exact pword_same
    · exact Or.inl ⟨rfl, rfl⟩
end Go.Proofs.YtngjjmniigkeoaaGreatDoor
