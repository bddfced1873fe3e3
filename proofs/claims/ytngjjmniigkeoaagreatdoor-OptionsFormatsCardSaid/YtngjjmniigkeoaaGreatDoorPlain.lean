/- Plain words: what names and formulas are. -/
namespace Go.Proofs.YtngjjmniigkeoaaGreatDoor

/-- How many operands a number of a formula has. -/
def opC (x : Int) : Nat := if x = -3 then 1 else if x = -4 ∨ x = -5 ∨ x = -6 then 2 else 0
/-- Whether a formula for n options may contain it. -/
def opB (x n : Int) : Bool := decide (-6 ≤ x ∧ x < n)

/-- How many terms are lacking behind a list of numbers, where d were lacking before. -/
def lack (n : Int) : Nat → List Int → Option Nat
  | d, [] => some d
  | d, x :: xs => if opB x n = true ∧ 0 < d then lack n (d + opC x - 1) xs else none

def validB (xs : List Int) (n : Int) : Bool := decide (xs.length ≤ 100) && (lack n 1 xs == some 0)

theorem lack_append (n : Int) : ∀ (xs ys : List Int) (d : Nat), lack n d (xs ++ ys) = (lack n d xs).bind (fun e => lack n e ys)
  | [], ys, d => by simp [lack]
  | x :: xs, ys, d => by
    simp only [List.cons_append, lack]
    split
    · exact lack_append n xs ys _
    · rfl

theorem lack_snoc (n : Int) (xs : List Int) (d e : Nat) (x : Int) (h : lack n d xs = some e) : lack n d (xs ++ [x]) = if opB x n = true ∧ 0 < e then some (e + opC x - 1) else none := by
  rw [lack_append, h]; simp [lack]

theorem opC1 : opC (-1) = 0 := rfl
theorem opC2 : opC (-2) = 0 := rfl
theorem opC3 : opC (-3) = 1 := rfl
theorem opC4 : opC (-4) = 2 := rfl
theorem opC5 : opC (-5) = 2 := rfl
theorem opC6 : opC (-6) = 2 := rfl
theorem opC_le (x : Int) : opC x ≤ 2 := by unfold opC; split <;> (try split) <;> omega

theorem lack_le (n : Int) : ∀ (xs : List Int) (d e : Nat), lack n d xs = some e → e ≤ d + xs.length
  | [], d, e, h => by simp [lack] at h; omega
  | x :: xs, d, e, h => by
    simp only [lack] at h
    split at h
    · rename_i hc
      have h1 := lack_le n xs _ _ h
      have h2 := opC_le x
      simp; omega
    · cases h

theorem lack_zero_cons (n : Int) (x : Int) (xs : List Int) : lack n 0 (x :: xs) = none := by simp [lack]

theorem lack_take_none (n : Int) (xs : List Int) (d k : Nat) (h : lack n d (xs.take k) = none) : lack n d xs = none := by
  rw [← List.take_append_drop k xs, lack_append, h]; rfl

theorem take_succ_getD (xs : List Int) (k : Nat) (h : k < xs.length) : xs.take (k + 1) = xs.take k ++ [xs.getD k 0] := by
  rw [List.take_succ_eq_append_getElem h]; simp [List.getD, h]

theorem lack_step (n : Int) (xs : List Int) (k e : Nat) (hk : k < xs.length) (h : lack n 1 (xs.take k) = some e) (hb : opB (xs.getD k 0) n = true) (he : 0 < e) : lack n 1 (xs.take (k + 1)) = some (e + opC (xs.getD k 0) - 1) := by
  rw [take_succ_getD xs k hk, lack_snoc n _ _ _ _ h, if_pos ⟨hb, he⟩]

theorem lack_stop (n : Int) (xs : List Int) (k e : Nat) (hk : k < xs.length) (h : lack n 1 (xs.take k) = some e) (hb : ¬ (opB (xs.getD k 0) n = true ∧ 0 < e)) : lack n 1 xs = none := by
  apply lack_take_none n xs 1 (k + 1)
  rw [take_succ_getD xs k hk, lack_snoc n _ _ _ _ h, if_neg hb]

/-! ### names -/
def isLow (c : Nat) : Bool := decide (97 ≤ c ∧ c ≤ 122)
def isDig (c : Nat) : Bool := decide (48 ≤ c ∧ c ≤ 57)
/-- Whether an option may be called so. -/
def nameB (l : List UInt8) : Bool := decide (1 ≤ l.length ∧ l.length ≤ 8) && !(l == [121, 101, 115]) && !(l == [110, 111]) && isLow (l.getD 0 0).toNat && l.all (fun c => isLow c.toNat || isDig c.toNat)

theorem nameB_eq (l : List UInt8) (h1 : 1 ≤ l.length) (h8 : l.length ≤ 8) (hy : (l == [121, 101, 115]) = false) (hn : (l == [110, 111]) = false) (h0 : isLow (l.getD 0 0).toNat = true) : nameB l = l.all (fun c => isLow c.toNat || isDig c.toNat) := by
  unfold nameB
  rw [hy, hn, h0, decide_eq_true (⟨h1, h8⟩ : 1 ≤ l.length ∧ l.length ≤ 8)]; simp
theorem nameB_first (l : List UInt8) (h0 : isLow (l.getD 0 0).toNat = false) : nameB l = false := by unfold nameB; rw [h0]; simp
theorem nameB_yes (l : List UInt8) (h : (l == [121, 101, 115]) = true) : nameB l = false := by unfold nameB; rw [h]; simp
theorem nameB_no (l : List UInt8) (h : (l == [110, 111]) = true) : nameB l = false := by unfold nameB; rw [h]; simp
theorem all_take_succ (p : UInt8 → Bool) (l : List UInt8) (k : Nat) (hk : k < l.length) (h : (l.take k).all p = true) (hp : p (l.getD k 0) = true) : (l.take (k + 1)).all p = true := by
  rw [List.take_succ_eq_append_getElem hk, List.all_append, h]
  simp [List.getD, hk] at hp
  simp [hp]
theorem all_stop (p : UInt8 → Bool) (l : List UInt8) (k : Nat) (hk : k < l.length) (hp : p (l.getD k 0) = false) : l.all p = false := by
  have h1 : l.getD k 0 ∈ l := by simp [List.getD, hk]
  cases h : l.all p with
  | false => rfl
  | true => rw [List.all_eq_true] at h; rw [h _ h1] at hp; cases hp

/-! ### models -/
instance memDec (s : ByteArray) (l : List ByteArray) : Decidable (s ∈ l) := decidable_of_iff (l.any (fun t => decide (t = s)) = true) (by simp)
def namesOk (ss : List ByteArray) : Prop := ∀ j, j < ss.length → nameB (ss.getD j ByteArray.empty).toList = true ∧ ss.getD j ByteArray.empty ∉ ss.take j
instance (ss : List ByteArray) : Decidable (namesOk ss) := by unfold namesOk; infer_instance

def formsErr (fs : List (List Int)) (n : Int) : Int := if fs.all (fun f => validB f n) = true then 0 else 11
def modelErr (ss : List ByteArray) (fs : List (List Int)) : Int :=
  if 40 < ss.length ∨ 60 < fs.length then 2 else if ¬ namesOk ss then 10 else formsErr fs ss.length

theorem formsErr_all (fs : List (List Int)) (n : Int) (h : ∀ j, j < fs.length → validB (fs.getD j []) n = true) : formsErr fs n = 0 := by
  unfold formsErr
  rw [if_pos]
  rw [List.all_eq_true]
  intro f hf
  obtain ⟨j, hj, rfl⟩ := List.getElem_of_mem hf
  have := h j hj
  simpa [List.getD, hj] using this
theorem formsErr_stop (fs : List (List Int)) (n : Int) (j : Nat) (hj : j < fs.length) (h : validB (fs.getD j []) n = false) : formsErr fs n = 11 := by
  unfold formsErr
  rw [if_neg]
  intro ha
  rw [List.all_eq_true] at ha
  have := ha (fs.getD j []) (by simp [List.getD, hj])
  rw [h] at this; cases this
end Go.Proofs.YtngjjmniigkeoaaGreatDoor
