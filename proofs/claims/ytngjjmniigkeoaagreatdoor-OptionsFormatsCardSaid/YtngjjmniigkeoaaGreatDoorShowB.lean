/- Format: write, and the text of a formula. Format, and the reference's show and Format. -/
import Derived.Test.YtngjjmniigkeoaaGreatDoorFoldW
namespace Go.Proofs.YtngjjmniigkeoaaGreatDoor
open Go Go.RowKit Go.WideMaps Go.Maps
set_option linter.unusedSimpArgs false
set_option linter.unusedVariables false

/-- What a number of a formula makes of its operands' texts. -/
def showT (nm : Nat → ByteArray) (x : Int) (a b : ByteArray) : ByteArray :=
  if x = -1 then ⟨#[121, 101, 115]⟩ else if x = -2 then ⟨#[110, 111]⟩ else if x = -3 then ⟨#[33]⟩ ++ a
  else if x = -4 then (((⟨#[40]⟩ ++ a) ++ ⟨#[32, 38, 32]⟩) ++ b) ++ ⟨#[41]⟩
  else if x = -5 then (((⟨#[40]⟩ ++ a) ++ ⟨#[32, 124, 32]⟩) ++ b) ++ ⟨#[41]⟩
  else if x = -6 then (((⟨#[40]⟩ ++ a) ++ ⟨#[32, 61, 32]⟩) ++ b) ++ ⟨#[41]⟩
  else nm x.toNat
theorem size_listS (s : ByteArray) : s.toList.length = s.size := by rw [ByteArray.toList_eq]; simp
def nmOf (ss : List ByteArray) : Nat → ByteArray := fun o => ss.getD o ByteArray.empty

set_option maxHeartbeats 1600000 in
theorem write1_any (vb : Nat) (av : Option Addr) (cv : Nat) (ss : List ByteArray) (x : Int) (a b : ByteArray) (w : World) (hbox : w.cell? ⟨vb, 0, none⟩ = some (.slice av ss.length cv)) (hv : StrsAt w av ss) (hx : opB x ss.length = true) (ha : a.size ≤ 1000) (hb : b.size ≤ 1000) :
    Calls Tryz.prog 56 #[.int .i64 x, .string a, .string b, .pointer (some ⟨vb, 0, none⟩)] w fun e w' => e = .returned (.string (showT (nmOf ss) x a b)) ∧ Keeps (fun _ => False) w w' := by
  have hl := hv.len
  unfold maxLen at hl
  unfold opB at hx
  simp at hx
  rcases (show x = -1 ∨ x = -2 ∨ x = -3 ∨ x = -4 ∨ x = -5 ∨ x = -6 ∨ 0 ≤ x by omega) with h1 | h1 | h1 | h1 | h1 | h1 | h1
  case inr.inr.inr.inr.inr.inr =>
    obtain ⟨o, rfl⟩ := Int.eq_ofNat_of_zero_le h1
    have ho : o < ss.length := by omega
    obtain ⟨b0, off, rfl, hcs⟩ := hv.cells (by omega)
    have hco := hcs o ho
    have hm : showT (nmOf ss) (o : Int) a b = ss.getD o ByteArray.empty := by
      unfold showT nmOf
      rw [if_neg (by omega), if_neg (by omega), if_neg (by omega), if_neg (by omega), if_neg (by omega), if_neg (by omega)]
      simp
    generalize ss.getD o ByteArray.empty = c at *
    have i1 : (o : Int) < (ss.length : Int) := by omega
    have f1 : ((o : Int) == -1) = false := beq_eq_false_iff_ne.2 (by omega)
    have f2 : ((o : Int) == -2) = false := beq_eq_false_iff_ne.2 (by omega)
    have f3 : ((o : Int) == -3) = false := beq_eq_false_iff_ne.2 (by omega)
    have f4 : ((o : Int) == -4) = false := beq_eq_false_iff_ne.2 (by omega)
    have f5 : ((o : Int) == -5) = false := beq_eq_false_iff_ne.2 (by omega)
    have f6 : ((o : Int) == -6) = false := beq_eq_false_iff_ne.2 (by omega)
    have Hm := Lib.hid hm
    clear hcs hm hv
    go_enter Tryz.func56, Tryz.ntmps56
    go_wp2_with fail
    go_ret
    exact ⟨by rw [Hm.out]; rfl, Keeps.refl _ _⟩
  all_goals
    subst h1
    clear hv
    go_enter Tryz.func56, Tryz.ntmps56
    go_wp2_with fail
    go_ret
    exact ⟨rfl, Keeps.refl _ _⟩

/-! ### how long the texts are -/
def tot (l : List ByteArray) : Nat := (l.map ByteArray.size).sum
theorem tot_cons (s : ByteArray) (l : List ByteArray) : tot (s :: l) = s.size + tot l := by simp [tot]
theorem showT_le (nm : Nat → ByteArray) (hn : ∀ o, (nm o).size ≤ 8) (x : Int) (a b : ByteArray) : (showT nm x a b).size ≤ 8 + (if 1 ≤ opC x then a.size else 0) + (if 2 ≤ opC x then b.size else 0) := by
  by_cases h1 : x = -1
  · subst h1
    have z : (showT nm (-1) a b).size = 3 := rfl
    omega
  by_cases h2 : x = -2
  · subst h2
    have z : (showT nm (-2) a b).size = 2 := rfl
    omega
  by_cases h3 : x = -3
  · subst h3
    have e : showT nm (-3) a b = ⟨#[33]⟩ ++ a := rfl
    rw [e, ByteArray.size_append]
    have z1 : (⟨#[33]⟩ : ByteArray).size = 1 := rfl
    have c : opC (-3) = 1 := rfl
    rw [c, if_pos (by omega)]
    omega
  by_cases h4 : x = -4
  · subst h4
    have e : showT nm (-4) a b = (((⟨#[40]⟩ ++ a) ++ ⟨#[32, 38, 32]⟩) ++ b) ++ ⟨#[41]⟩ := rfl
    rw [e, ByteArray.size_append, ByteArray.size_append, ByteArray.size_append, ByteArray.size_append]
    have z1 : (⟨#[40]⟩ : ByteArray).size = 1 := rfl
    have z2 : (⟨#[32, 38, 32]⟩ : ByteArray).size = 3 := rfl
    have z3 : (⟨#[41]⟩ : ByteArray).size = 1 := rfl
    have c : opC (-4) = 2 := rfl
    rw [c, if_pos (by omega), if_pos (by omega)]
    omega
  by_cases h5 : x = -5
  · subst h5
    have e : showT nm (-5) a b = (((⟨#[40]⟩ ++ a) ++ ⟨#[32, 124, 32]⟩) ++ b) ++ ⟨#[41]⟩ := rfl
    rw [e, ByteArray.size_append, ByteArray.size_append, ByteArray.size_append, ByteArray.size_append]
    have z1 : (⟨#[40]⟩ : ByteArray).size = 1 := rfl
    have z2 : (⟨#[32, 124, 32]⟩ : ByteArray).size = 3 := rfl
    have z3 : (⟨#[41]⟩ : ByteArray).size = 1 := rfl
    have c : opC (-5) = 2 := rfl
    rw [c, if_pos (by omega), if_pos (by omega)]
    omega
  by_cases h6 : x = -6
  · subst h6
    have e : showT nm (-6) a b = (((⟨#[40]⟩ ++ a) ++ ⟨#[32, 61, 32]⟩) ++ b) ++ ⟨#[41]⟩ := rfl
    rw [e, ByteArray.size_append, ByteArray.size_append, ByteArray.size_append, ByteArray.size_append]
    have z1 : (⟨#[40]⟩ : ByteArray).size = 1 := rfl
    have z2 : (⟨#[32, 61, 32]⟩ : ByteArray).size = 3 := rfl
    have z3 : (⟨#[41]⟩ : ByteArray).size = 1 := rfl
    have c : opC (-6) = 2 := rfl
    rw [c, if_pos (by omega), if_pos (by omega)]
    omega
  · unfold showT
    rw [if_neg h1, if_neg h2, if_neg h3, if_neg h4, if_neg h5, if_neg h6]
    have := hn x.toNat
    omega
theorem tot_drop (l : List ByteArray) : tot (l.drop 1) + (l.getD 0 ByteArray.empty).size ≤ tot l ∧ tot (l.drop 2) + (l.getD 0 ByteArray.empty).size + (l.getD 1 ByteArray.empty).size ≤ tot l := by
  match l with
  | [] => simp [tot]
  | [a] => simp [tot]
  | a :: b :: r => simp [tot]; omega
theorem tot_fold (nm : Nat → ByteArray) (hn : ∀ o, (nm o).size ≤ 8) : ∀ xs : List Int, tot (foldS (showT nm) ByteArray.empty xs) ≤ 8 * xs.length
  | [] => by simp [foldS, tot]
  | x :: xs => by
    have ih := tot_fold nm hn xs
    have h1 := showT_le nm hn x (if 1 ≤ opC x then (foldS (showT nm) ByteArray.empty xs).getD 0 ByteArray.empty else ByteArray.empty) (if 2 ≤ opC x then (foldS (showT nm) ByteArray.empty xs).getD 1 ByteArray.empty else ByteArray.empty)
    have h2 := tot_drop (foldS (showT nm) ByteArray.empty xs)
    rw [foldS_cons, tot_cons]
    simp only [List.length_cons]
    rcases opC_cases x with c | c | c
    · rw [c] at h1 ⊢
      simp at h1 ⊢
      omega
    · rw [c] at h1 ⊢
      simp at h1 h2 ⊢
      omega
    · rw [c] at h1 ⊢
      simp at h1 h2 ⊢
      omega
theorem mem_tot {s : ByteArray} : ∀ {l : List ByteArray}, s ∈ l → s.size ≤ tot l
  | [], h => by simp at h
  | a :: l, h => by
    rw [tot_cons]
    rcases List.mem_cons.1 h with rfl | h
    · omega
    · have := mem_tot h; omega
theorem nm_le {ss : List ByteArray} (hn : namesOk ss) (o : Nat) : (nmOf ss o).size ≤ 8 := by
  unfold nmOf
  by_cases h : o < ss.length
  · have := (hn o h).1
    unfold nameB at this
    simp at this
    rw [← size_listS]
    have h2 := this.1.1.1.1.2
    simpa [List.getD, h] using h2
  · simp [List.getD, h]
/-- The text of a formula. -/
def textF (ss : List ByteArray) (f : List Int) : ByteArray := (foldS (showT (nmOf ss)) ByteArray.empty f).getD 0 ByteArray.empty

theorem sizes_of {ss : List ByteArray} (hn : namesOk ss) {f : List Int} (hf : f.length ≤ 100) (k : Nat) : ∀ s ∈ foldS (showT (nmOf ss)) ByteArray.empty (f.drop k), s.size ≤ 1000 := fun s hs => by
  have h1 := mem_tot hs
  have h2 := tot_fold (nmOf ss) (nm_le hn) (f.drop k)
  simp at h2
  omega

set_option maxHeartbeats 1600000 in
theorem write_any (af av : Option Addr) (cf cv : Nat) (f : List Int) (ss : List ByteArray) (w : World) (hf : IntsAt w af cf f) (hv : StrsAt w av ss) (hn : namesOk ss) (hl : validB f ss.length = true) :
    Calls Tryz.prog 33 #[.slice af f.length cf, .slice av ss.length cv] w fun e w' => e = .returned (.string (textF ss f)) ∧ Keeps (fun _ => False) w w' := by
  obtain ⟨h1, h2⟩ := validB_lack hl
  have hk := keeps_alloc w (.cells #[.slice av ss.length cv] 22)
  have hbox : (w.alloc (.cells #[.slice av ss.length cv] 22)).cell? ⟨w.heap.size, 0, none⟩ = some (.slice av ss.length cv) := by simp
  have hc := foldStr_any w.heap.size ss.length (showT (nmOf ss)) #[.pointer (some ⟨w.heap.size, 0, none⟩)] af cf f (w.alloc (.cells #[.slice av ss.length cv] 22)) (hf.keeps hk) rfl h2 h1 (fun k _ => sizes_of hn h1 k)
    (fun wr x a b k hx ha hb => write1_any w.heap.size av cv ss x a b wr (k.cell hbox (fun e => e)) ((hv.keeps hk).keeps k) hx ha hb)
  have Hc := Lib.hid hc; have Hk := Lib.hid hk
  clear hc hk hf hv hl h2
  go_enter Tryz.func33, Tryz.ntmps33
  go_wp2_with fail
  refine Hc.out.mono ?_
  rintro e w1 ⟨rfl, k1⟩
  go_wp2_with fail
  go_ret
  exact ⟨rfl, Hk.out.step k1⟩

open Go Go.RowKit Go.WideMaps Go.Maps
set_option linter.unusedSimpArgs false
set_option linter.unusedVariables false

/-- What Format must answer. -/
def formatAns (ss : List ByteArray) (fs : List (List Int)) (f : List Int) : ByteArray := if checkErr ss fs [f] = 0 then textF ss f else ByteArray.empty

set_option maxHeartbeats 1600000 in
theorem format_any (ao ar af : Option Addr) (ca cr cf : Nat) (ss : List ByteArray) (fs : List (List Int)) (f : List Int) (w : World) (h : ModelAt w ao ar ss fs) (hf : IntsAt w af cf f) :
    Calls Tryz.prog 13 #[.agg #[.slice ao ss.length ca, .slice ar fs.length cr], .slice af f.length cf] w fun e w' => e = .returned (.tuple #[.string (formatAns ss fs f), .int .i64 (checkErr ss fs [f])]) ∧ Keeps (fun _ => False) w w' := by
  have hkA := (keeps_alloc w (.cells #[.slice ao ss.length ca, .slice ar fs.length cr] 25)).alloc (.cells #[.slice af f.length cf] 27)
  have hc := check_any ao ar (some ⟨w.heap.size + 1, 0, none⟩) ca cr 1 ss fs [f] ((w.alloc (.cells #[.slice ao ss.length ca, .slice ar fs.length cr] 25)).alloc (.cells #[.slice af f.length cf] 27)) (h.keeps hkA)
    (by have := formsAt_one (hf.keeps (keeps_alloc w (.cells #[.slice ao ss.length ca, .slice ar fs.length cr] 25))) 27; simpa using this)
  have hbx : ((w.alloc (.cells #[.slice ao ss.length ca, .slice ar fs.length cr] 25)).alloc (.cells #[.slice af f.length cf] 27)).cell? ⟨w.heap.size, 0, none⟩ = some (.slice ao ss.length ca) := by simp
  have hw : ∀ w1, Keeps (fun _ => False) w w1 → checkErr ss fs [f] = 0 → Calls Tryz.prog 33 #[.slice af f.length cf, .slice ao ss.length ca] w1 fun e w' => e = .returned (.string (textF ss f)) ∧ Keeps (fun _ => False) w1 w' := fun w1 k hz => by
    obtain ⟨h1, h2⟩ := checkErr_zero hz
    exact write_any af ao cf ca f ss w1 (hf.keeps k) (h.strs.keeps k) (modelErr_zero h1).2.2.1 h2
  have Hc := Lib.hid hc; have HkA := Lib.hid hkA; have Hw := Lib.hid hw
  clear hc hkA h hf hw
  unfold formatAns
  by_cases hz : checkErr ss fs [f] = 0
  · rw [if_pos hz]
    have Hz := Lib.hid hz
    go_enter Tryz.func13, Tryz.ntmps13
    go_wp2_with fail
    refine Hc.out.mono ?_
    rintro e w1 ⟨rfl, hb1⟩
    rw [hz]
    clear hz
    have hc0 := cell_kept hbx hb1 (Nat.le_refl _)
    have K1 := Lib.hid (HkA.out.step (Keeps.of_bel hb1))
    go_wp2_with fail
    refine (Hw.out _ (by first | exact K1.out | exact K1.out.drew | exact K1.out.drewN _) Hz.out).mono ?_
    rintro e w2 ⟨rfl, k2⟩
    go_wp2_with fail
    go_ret2
    exact ⟨by rw [Hz.out]; rfl, K1.out.step ⟨k2.os, k2.tape, k2.output, k2.size, k2.block⟩⟩
  · rw [if_neg hz]
    have hne : ((checkErr ss fs [f]) != 0) = true := by simpa using hz
    clear hz Hw
    generalize checkErr ss fs [f] = x at *
    go_enter Tryz.func13, Tryz.ntmps13
    go_wp2_with fail
    refine Hc.out.mono ?_
    rintro e w1 ⟨rfl, hb1⟩
    go_wp2_with fail
    go_ret2
    exact ⟨rfl, HkA.out.step (Keeps.of_bel hb1)⟩

/-! ### the reference's show -/
def ShowEnd (w : World) (ss : List ByteArray) (f : List Int) (at0 d : Nat) (e : Ending) (w' : World) : Prop :=
  ∃ (to : Nat) (b : ByteArray), e = .returned (.tuple #[.string b, .int .i64 to]) ∧ foldS (showT (nmOf ss)) ByteArray.empty (f.drop at0) = b :: foldS (showT (nmOf ss)) ByteArray.empty (f.drop to) ∧ lack ss.length d (f.drop to) = some 0 ∧ at0 < to ∧ to ≤ f.length ∧ Keeps (fun _ => False) w w'

theorem bin_text (x : Int) (a b o : ByteArray) (nm : Nat → ByteArray) (h : x = -4 ∧ o = ⟨#[38]⟩ ∨ x = -5 ∧ o = ⟨#[124]⟩ ∨ x = -6 ∧ o = ⟨#[61]⟩) : (((((⟨#[40]⟩ ++ a) ++ ⟨#[32]⟩) ++ o) ++ ⟨#[32]⟩) ++ b) ++ ⟨#[41]⟩ = showT nm x a b := by
  have e1 : (⟨#[32]⟩ ++ (⟨#[38]⟩ ++ ⟨#[32]⟩) : ByteArray) = ⟨#[32, 38, 32]⟩ := rfl
  have e2 : (⟨#[32]⟩ ++ (⟨#[124]⟩ ++ ⟨#[32]⟩) : ByteArray) = ⟨#[32, 124, 32]⟩ := rfl
  have e3 : (⟨#[32]⟩ ++ (⟨#[61]⟩ ++ ⟨#[32]⟩) : ByteArray) = ⟨#[32, 61, 32]⟩ := rfl
  rcases h with ⟨rfl, rfl⟩ | ⟨rfl, rfl⟩ | ⟨rfl, rfl⟩
  · show _ = (((⟨#[40]⟩ ++ a) ++ ⟨#[32, 38, 32]⟩) ++ b) ++ ⟨#[41]⟩
    rw [← e1]; simp only [ByteArray.append_assoc]
  · show _ = (((⟨#[40]⟩ ++ a) ++ ⟨#[32, 124, 32]⟩) ++ b) ++ ⟨#[41]⟩
    rw [← e2]; simp only [ByteArray.append_assoc]
  · show _ = (((⟨#[40]⟩ ++ a) ++ ⟨#[32, 61, 32]⟩) ++ b) ++ ⟨#[41]⟩
    rw [← e3]; simp only [ByteArray.append_assoc]

set_option maxRecDepth 100000 in
set_option maxHeartbeats 6400000 in
theorem show_any (ao ar af : Option Addr) (ca cr cf : Nat) (ss : List ByteArray) (fs : List (List Int)) (f : List Int) (hn : namesOk ss) (hlf : f.length ≤ 100) : ∀ (m at0 d : Nat) (i : Int) (w : World), i = (at0 : Nat) → f.length - at0 ≤ m → lack ss.length (d + 1) (f.drop at0) = some 0 → ModelAt w ao ar ss fs → IntsAt w af cf f →
    Calls Tryz.prog 34 #[.agg #[.slice ao ss.length ca, .slice ar fs.length cr], .slice af f.length cf, .int .i64 i] w (ShowEnd w ss f at0 d)
  | 0, at0, d, i, w, hi, hm, h, hmd, hf => by
    have := (lack_head h).1
    omega
  | m + 1, at0, d, i, w, hi, hm, h, hmd, hf => by
    subst hi
    obtain ⟨hk, hop, hrest⟩ := lack_head h
    have hl := hmd.strs.len
    unfold maxLen at hl
    obtain ⟨fb, off, rfl, hcs⟩ := hf.cells (by omega)
    have hc := hcs at0 hk
    have hS0 := fun hc => foldS0 (showT (nmOf ss)) ByteArray.empty hk hc
    have hS1 := fun (b : ByteArray) (to : Nat) hc hh => foldS1 (showT (nmOf ss)) ByteArray.empty hk hc (b := b) (to := to) hh
    have hS2 := fun (a b : ByteArray) (t1 to : Nat) hc hh h2 => foldS2 (showT (nmOf ss)) ByteArray.empty hk hc (a := a) (b := b) (t1 := t1) (to := to) hh h2
    have hkA := keeps_alloc w (.cells #[.slice ao ss.length ca, .slice ar fs.length cr] 25)
    have i1 : (at0 : Int) < (f.length : Int) := by omega
    have ih := fun (at1 d1 : Nat) (i : Int) (w1 : World) (hi : i = (at1 : Nat)) (h1 : at0 < at1) (h2 : lack ss.length (d1 + 1) (f.drop at1) = some 0) (k : Keeps (fun _ => False) w w1) => show_any ao ar (some ⟨fb, off, none⟩) ca cr cf ss fs f hn hlf m at1 d1 i w1 hi (by omega) h2 (hmd.keeps k) (hf.keeps k)
    have hcK : ∀ w1, Keeps (fun _ => False) w w1 → w1.cell? ⟨fb, off + at0, none⟩ = some (.int .i64 (f.getD at0 0)) := fun w1 k => k.cell hc (fun e => e)
    have hbv := hmd.strs.cells
    have hsz := fun (k : Nat) => sizes_of hn hlf k
    have hfb : fb < w.heap.size := World.block_lt_of_cell? w _ hc
    have hmb : ∀ w1, Keeps (fun _ => False) (w.alloc (.cells #[.slice ao ss.length ca, .slice ar fs.length cr] 25)) w1 → w1.cell? ⟨w.heap.size, 0, none⟩ = some (.slice ao ss.length ca) ∧ w1.cell? ⟨w.heap.size, 1, none⟩ = some (.slice ar fs.length cr) := fun w1 k => ⟨k.cell (by simp) (fun e => e), k.cell (by simp) (fun e => e)⟩
    generalize f.getD at0 0 = x at *
    unfold opB at hop
    simp at hop
    have Ih := Lib.hid ih; have HS0 := Lib.hid hS0; have HS1 := Lib.hid hS1; have HS2 := Lib.hid hS2; have Hrest := Lib.hid hrest; have HcK := Lib.hid hcK; have HkA := Lib.hid hkA; have Hsz := Lib.hid hsz; have Hmb := Lib.hid hmb
    clear ih hS0 hS1 hS2 hrest hcK hcs hf hmd h hkA hsz hmb
    rcases (show x = -1 ∨ x = -2 ∨ x = -3 ∨ x = -4 ∨ x = -5 ∨ x = -6 ∨ 0 ≤ x by omega) with h1 | h1 | h1 | h1 | h1 | h1 | h1
    · subst h1
      go_enter Tryz.func34, Tryz.ntmps34
      go_wp2_with fail
      go_ret2
      exact ⟨at0 + 1, _, by go_num, HS0.out rfl, Hrest.out, by omega, by omega, HkA.out⟩
    · subst h1
      go_enter Tryz.func34, Tryz.ntmps34
      go_wp2_with fail
      go_ret2
      exact ⟨at0 + 1, _, by go_num, HS0.out rfl, Hrest.out, by omega, by omega, HkA.out⟩
    · subst h1
      go_enter Tryz.func34, Tryz.ntmps34
      go_wp2_with fail
      refine (Ih.out (at0 + 1) d _ _ (by push_cast; rfl) (by omega) Hrest.out (by first | exact HkA.out | exact HkA.out.drew | exact HkA.out.drewN _)).mono ?_
      rintro e w1 ⟨to, b, rfl, p1, p2, p3, p4, k1⟩
      have hbs : b.size ≤ 1000 := Hsz.out (at0 + 1) b (by rw [p1]; simp)
      have P1 := Lib.hid p1; have P2 := Lib.hid p2
      clear p1 p2
      go_wp2_with fail
      go_ret2
      exact ⟨to, _, rfl, HS1.out _ _ rfl P1.out, P2.out, by omega, p4, HkA.out.step ⟨k1.os, k1.tape, k1.output, k1.size, k1.block⟩⟩
    · subst h1
      have hop3 : ((⟨#[38, 124, 61]⟩ : ByteArray).extract 0 1) = ⟨#[38]⟩ := rfl
      go_enter Tryz.func34, Tryz.ntmps34
      go_wp2_with fail
      refine (Ih.out (at0 + 1) (d + 1) _ _ (by push_cast; rfl) (by omega) Hrest.out (by first | exact HkA.out | exact HkA.out.drew | exact HkA.out.drewN _)).mono ?_
      rintro e w1 ⟨t1, a, rfl, p1, p2, p3, p4, k1⟩
      have has : a.size ≤ 1000 := Hsz.out (at0 + 1) a (by rw [p1]; simp)
      have P1 := Lib.hid p1; have P2 := Lib.hid p2
      have k1' : Keeps (fun _ => False) (w.alloc (.cells #[.slice ao ss.length ca, .slice ar fs.length cr] 25)) w1 := ⟨k1.os, k1.tape, k1.output, k1.size, k1.block⟩
      obtain ⟨m0, m1⟩ := Hmb.out w1 k1'
      have K1 := Lib.hid (HkA.out.step k1')
      have hc1 := HcK.out _ K1.out
      have hfb1 : fb < w1.heap.size := World.block_lt_of_cell? w1 _ hc1
      clear p1 p2 k1 k1'
      go_wp2_with fail
      refine (Ih.out t1 d _ _ rfl (by omega) P2.out (by first | exact K1.out | exact K1.out.drew | exact K1.out.drewN _)).mono ?_
      rintro e w2 ⟨to, b, rfl, q1, q2, q3, q4, k2⟩
      have hbs : b.size ≤ 1000 := Hsz.out t1 b (by rw [q1]; simp)
      have Q1 := Lib.hid q1; have Q2 := Lib.hid q2
      have k2' : Keeps (fun _ => False) w1 w2 := ⟨k2.os, k2.tape, k2.output, k2.size, k2.block⟩
      have K2 := Lib.hid (K1.out.step k2')
      have hc2 := HcK.out _ K2.out
      have hfb2 : fb < w2.heap.size := World.block_lt_of_cell? w2 _ hc2
      clear q1 q2 k2 k2' hc1 hc m0 m1
      go_wp2_with fail
      go_ret2
      exact ⟨to, _, rfl, by rw [bin_text (-4) a b _ (nmOf ss) (by simp [hop3])]; exact HS2.out _ _ _ _ rfl P1.out Q1.out, Q2.out, by omega, q4, K2.out⟩
    · subst h1
      have hop3 : ((⟨#[38, 124, 61]⟩ : ByteArray).extract 1 2) = ⟨#[124]⟩ := rfl
      go_enter Tryz.func34, Tryz.ntmps34
      go_wp2_with fail
      refine (Ih.out (at0 + 1) (d + 1) _ _ (by push_cast; rfl) (by omega) Hrest.out (by first | exact HkA.out | exact HkA.out.drew | exact HkA.out.drewN _)).mono ?_
      rintro e w1 ⟨t1, a, rfl, p1, p2, p3, p4, k1⟩
      have has : a.size ≤ 1000 := Hsz.out (at0 + 1) a (by rw [p1]; simp)
      have P1 := Lib.hid p1; have P2 := Lib.hid p2
      have k1' : Keeps (fun _ => False) (w.alloc (.cells #[.slice ao ss.length ca, .slice ar fs.length cr] 25)) w1 := ⟨k1.os, k1.tape, k1.output, k1.size, k1.block⟩
      obtain ⟨m0, m1⟩ := Hmb.out w1 k1'
      have K1 := Lib.hid (HkA.out.step k1')
      have hc1 := HcK.out _ K1.out
      have hfb1 : fb < w1.heap.size := World.block_lt_of_cell? w1 _ hc1
      clear p1 p2 k1 k1'
      go_wp2_with fail
      refine (Ih.out t1 d _ _ rfl (by omega) P2.out (by first | exact K1.out | exact K1.out.drew | exact K1.out.drewN _)).mono ?_
      rintro e w2 ⟨to, b, rfl, q1, q2, q3, q4, k2⟩
      have hbs : b.size ≤ 1000 := Hsz.out t1 b (by rw [q1]; simp)
      have Q1 := Lib.hid q1; have Q2 := Lib.hid q2
      have k2' : Keeps (fun _ => False) w1 w2 := ⟨k2.os, k2.tape, k2.output, k2.size, k2.block⟩
      have K2 := Lib.hid (K1.out.step k2')
      have hc2 := HcK.out _ K2.out
      have hfb2 : fb < w2.heap.size := World.block_lt_of_cell? w2 _ hc2
      clear q1 q2 k2 k2' hc1 hc m0 m1
      go_wp2_with fail
      go_ret2
      exact ⟨to, _, rfl, by rw [bin_text (-5) a b _ (nmOf ss) (by simp [hop3])]; exact HS2.out _ _ _ _ rfl P1.out Q1.out, Q2.out, by omega, q4, K2.out⟩
    · subst h1
      have hop3 : ((⟨#[38, 124, 61]⟩ : ByteArray).extract 2 3) = ⟨#[61]⟩ := rfl
      go_enter Tryz.func34, Tryz.ntmps34
      go_wp2_with fail
      refine (Ih.out (at0 + 1) (d + 1) _ _ (by push_cast; rfl) (by omega) Hrest.out (by first | exact HkA.out | exact HkA.out.drew | exact HkA.out.drewN _)).mono ?_
      rintro e w1 ⟨t1, a, rfl, p1, p2, p3, p4, k1⟩
      have has : a.size ≤ 1000 := Hsz.out (at0 + 1) a (by rw [p1]; simp)
      have P1 := Lib.hid p1; have P2 := Lib.hid p2
      have k1' : Keeps (fun _ => False) (w.alloc (.cells #[.slice ao ss.length ca, .slice ar fs.length cr] 25)) w1 := ⟨k1.os, k1.tape, k1.output, k1.size, k1.block⟩
      obtain ⟨m0, m1⟩ := Hmb.out w1 k1'
      have K1 := Lib.hid (HkA.out.step k1')
      have hc1 := HcK.out _ K1.out
      have hfb1 : fb < w1.heap.size := World.block_lt_of_cell? w1 _ hc1
      clear p1 p2 k1 k1'
      go_wp2_with fail
      refine (Ih.out t1 d _ _ rfl (by omega) P2.out (by first | exact K1.out | exact K1.out.drew | exact K1.out.drewN _)).mono ?_
      rintro e w2 ⟨to, b, rfl, q1, q2, q3, q4, k2⟩
      have hbs : b.size ≤ 1000 := Hsz.out t1 b (by rw [q1]; simp)
      have Q1 := Lib.hid q1; have Q2 := Lib.hid q2
      have k2' : Keeps (fun _ => False) w1 w2 := ⟨k2.os, k2.tape, k2.output, k2.size, k2.block⟩
      have K2 := Lib.hid (K1.out.step k2')
      have hc2 := HcK.out _ K2.out
      have hfb2 : fb < w2.heap.size := World.block_lt_of_cell? w2 _ hc2
      clear q1 q2 k2 k2' hc1 hc m0 m1
      go_wp2_with fail
      go_ret2
      exact ⟨to, _, rfl, by rw [bin_text (-6) a b _ (nmOf ss) (by simp [hop3])]; exact HS2.out _ _ _ _ rfl P1.out Q1.out, Q2.out, by omega, q4, K2.out⟩
    · obtain ⟨o, rfl⟩ := Int.eq_ofNat_of_zero_le h1
      have ho : o < ss.length := by omega
      obtain ⟨b0, off0, rfl, hco⟩ := hbv (by omega)
      have hv1 := hco o ho
      have hb0 : b0 < w.heap.size := World.block_lt_of_cell? w _ hv1
      have i3 : (o : Int) < (ss.length : Int) := by omega
      have hcc : opC (o : Int) = 0 := by unfold opC; rw [if_neg (by omega), if_neg (by omega)]
      have hmm : showT (nmOf ss) (o : Int) ByteArray.empty ByteArray.empty = ss.getD o ByteArray.empty := by
        unfold showT nmOf
        rw [if_neg (by omega), if_neg (by omega), if_neg (by omega), if_neg (by omega), if_neg (by omega), if_neg (by omega)]
        simp
      have hr : lack ss.length d (f.drop (at0 + 1)) = some 0 := by have := Hrest.out; rw [hcc] at this; exact this
      have hs := HS0.out hcc
      rw [hmm] at hs
      generalize ss.getD o ByteArray.empty = c at *
      have Hr := Lib.hid hr; have Hs := Lib.hid hs
      clear hco hmm hr hs hbv hcc
      go_enter Tryz.func34, Tryz.ntmps34
      go_wp2_with fail
      go_quiet (fail)
      go_wp2_with fail
      go_ret2
      exact ⟨at0 + 1, c, by go_num, Hs.out, Hr.out, by omega, by omega, HkA.out.drewN _⟩

set_option maxHeartbeats 1600000 in
theorem refFormat_any (ao ar af : Option Addr) (ca cr cf : Nat) (ss : List ByteArray) (fs : List (List Int)) (f : List Int) (w : World) (h : ModelAt w ao ar ss fs) (hf : IntsAt w af cf f) :
    Calls Tryz.prog 14 #[.agg #[.slice ao ss.length ca, .slice ar fs.length cr], .slice af f.length cf] w fun e w' => e = .returned (.tuple #[.string (formatAns ss fs f), .int .i64 (checkErr ss fs [f])]) ∧ Keeps (fun _ => False) w w' := by
  have hkA := keeps_alloc w (.cells #[.slice ao ss.length ca, .slice ar fs.length cr] 25)
  have hc := refCheckFormula_any ao ar af ca cr cf ss fs f (w.alloc (.cells #[.slice ao ss.length ca, .slice ar fs.length cr] 25)) (h.keeps hkA) (hf.keeps hkA)
  have hbx := box0 w (.slice ao ss.length ca) (.slice ar fs.length cr) 25
  have hbx1 := box1 w (.slice ao ss.length ca) (.slice ar fs.length cr) 25
  have hw : ∀ w1, Keeps (fun _ => False) w w1 → checkErr ss fs [f] = 0 → Calls Tryz.prog 34 #[.agg #[.slice ao ss.length ca, .slice ar fs.length cr], .slice af f.length cf, .int .i64 0] w1 (ShowEnd w1 ss f 0 0) := fun w1 k hz => by
    obtain ⟨h1, h2⟩ := checkErr_zero hz
    obtain ⟨h3, h4⟩ := validB_lack h2
    exact show_any ao ar af ca cr cf ss fs f (modelErr_zero h1).2.2.1 h3 f.length 0 0 0 w1 rfl (by omega) (by simpa using h4) (h.keeps k) (hf.keeps k)
  have Hc := Lib.hid hc; have HkA := Lib.hid hkA; have Hw := Lib.hid hw
  clear hc hkA h hf hw
  unfold formatAns
  by_cases hz : checkErr ss fs [f] = 0
  · rw [if_pos hz]
    have Hz := Lib.hid hz
    go_enter Tryz.func14, Tryz.ntmps14
    go_wp2_with fail
    refine Hc.out.mono ?_
    rintro e w1 ⟨rfl, hb1⟩
    rw [hz]
    clear hz
    have hc0 := cell_kept hbx hb1 (Nat.le_refl _)
    have hc1 := cell_kept hbx1 hb1 (Nat.le_refl _)
    have K1 := Lib.hid (HkA.out.step (Keeps.of_bel hb1))
    go_wp2_with fail
    refine (Hw.out _ (by first | exact K1.out | exact K1.out.drew | exact K1.out.drewN _) Hz.out).mono ?_
    rintro e w2 ⟨to, b, rfl, p1, p2, p3, p4, k2⟩
    have hb : b = textF ss f := by unfold textF; rw [List.drop_zero] at p1; rw [p1]; rfl
    subst hb
    clear p1 p2
    go_wp2_with fail
    go_ret2
    exact ⟨by rw [Hz.out]; rfl, K1.out.step ⟨k2.os, k2.tape, k2.output, k2.size, k2.block⟩⟩
  · rw [if_neg hz]
    have hne : ((checkErr ss fs [f]) != 0) = true := by simpa using hz
    clear hz Hw
    generalize checkErr ss fs [f] = x at *
    go_enter Tryz.func14, Tryz.ntmps14
    go_wp2_with fail
    refine Hc.out.mono ?_
    rintro e w1 ⟨rfl, hb1⟩
    go_wp2_with fail
    go_ret2
    exact ⟨rfl, HkA.out.step (Keeps.of_bel hb1)⟩
end Go.Proofs.YtngjjmniigkeoaaGreatDoor
