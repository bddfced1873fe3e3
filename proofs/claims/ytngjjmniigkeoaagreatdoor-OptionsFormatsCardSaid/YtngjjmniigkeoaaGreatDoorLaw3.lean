/- The text of a formula is read as the formula (plain). The walk of OptionsFormats. -/
import Derived.Test.YtngjjmniigkeoaaGreatDoorShowB
import Derived.Test.YtngjjmniigkeoaaGreatDoorReadG
namespace Go.Proofs.YtngjjmniigkeoaaGreatDoor
open Go Go.RowKit Go.WideMaps Go.Maps
set_option linter.unusedSimpArgs false
set_option linter.unusedVariables false

theorem app_list (a b : ByteArray) : (a ++ b).toList = a.toList ++ b.toList := by
  rw [ByteArray.toList_eq, ByteArray.toList_eq, ByteArray.toList_eq, ByteArray.data_append]; simp
theorem lit_list (l : List UInt8) : (⟨l.toArray⟩ : ByteArray).toList = l := by rw [ByteArray.toList_eq]
theorem getD_app (l r : List UInt8) (c : UInt8) (k : Nat) (hk : k = l.length) : (l ++ c :: r).getD k 0 = c := by subst hk; simp [List.getD]
theorem wordAt_mid (pre w post : List UInt8) (hw : w.all isW = true) (hp : post = [] ∨ isW (post.getD 0 0) = false) : wordAt (pre ++ w ++ post) pre.length = w := by
  unfold wordAt
  rw [List.append_assoc, List.drop_left]
  have hpost : post.takeWhile isW = [] := by
    rcases hp with rfl | hp
    · rfl
    · match post, hp with
      | [], _ => rfl
      | c :: r, hp =>
        simp [List.getD] at hp
        rw [List.takeWhile_cons, hp]; rfl
  induction w with
  | nil => simpa using hpost
  | cons c r ih =>
    simp at hw
    rw [List.cons_append, List.takeWhile_cons, hw.1]
    simp only [if_true]
    rw [ih (by simpa using hw.2)]

def Trips (ss : List ByteArray) (b : ByteArray) (l : List Int) : Prop :=
  ∀ (pre post : List UInt8), (post = [] ∨ isW (post.getD 0 0) = false) → ∀ N, (pre ++ b.toList ++ post).length < N + pre.length → pterm ss 0 (pre ++ b.toList ++ post) N pre.length = some (pre.length + b.toList.length, l, false)

theorem trip_word {ss : List ByteArray} {b : ByteArray} {l : List Int} (c : UInt8) (r : List UInt8) (hb : b.toList = c :: r) (h33 : c ≠ 33) (h40 : c ≠ 40) (hw : (c :: r).all isW = true)
    (hp : ∀ i s, wordAt s i = c :: r → pword ss 0 s i = some (i + (c :: r).length, l, false)) : Trips ss b l := by
  intro pre post hpost N hN
  rw [hb] at hN ⊢
  obtain ⟨n, rfl⟩ : ∃ n, N = n + 1 := ⟨N - 1, by simp at hN; omega⟩
  have hg : (pre ++ (c :: r) ++ post).getD pre.length 0 = c := by rw [List.append_assoc, List.cons_append]; exact getD_app pre _ c _ rfl
  rw [pterm_step, if_pos (by simp), hg, if_neg h33, if_neg h40]
  exact hp _ _ (wordAt_mid pre (c :: r) post hw hpost)

theorem trip_not {ss : List ByteArray} {b : ByteArray} {l : List Int} (h : Trips ss b l) : Trips ss (⟨#[33]⟩ ++ b) (-3 :: l) := by
  intro pre post hpost N hN
  have hb : (⟨#[33]⟩ ++ b : ByteArray).toList = 33 :: b.toList := by rw [app_list]; rw [show (⟨#[33]⟩ : ByteArray).toList = [33] from lit_list [33]]; rfl
  rw [hb] at hN ⊢
  obtain ⟨n, rfl⟩ : ∃ n, N = n + 1 := ⟨N - 1, by simp at hN; omega⟩
  have hg : (pre ++ (33 :: b.toList) ++ post).getD pre.length 0 = 33 := by rw [List.append_assoc, List.cons_append]; exact getD_app pre _ 33 _ rfl
  have e : pre ++ (33 :: b.toList) ++ post = (pre ++ [33]) ++ b.toList ++ post := by simp
  have h2 := h (pre ++ [33]) post hpost n (by simp at hN ⊢; omega)
  rw [pterm_step, if_pos (by simp), hg, if_pos rfl, e]
  have hl1 : (pre ++ [33]).length = pre.length + 1 := by simp
  rw [hl1] at h2
  rw [h2]
  simp; omega

theorem trip_bin {ss : List ByteArray} {a b : ByteArray} {la lb : List Int} {o : UInt8} {x : Int} (ho : opOf o = some x) (ha : Trips ss a la) (hb : Trips ss b lb) (t : ByteArray) (ht : t.toList = 40 :: (a.toList ++ (32 :: o :: 32 :: (b.toList ++ [41])))) : Trips ss t (x :: (la ++ lb)) := by
  intro pre post hpost N hN
  rw [ht] at hN ⊢
  obtain ⟨n, rfl⟩ : ∃ n, N = n + 1 := ⟨N - 1, by simp at hN; omega⟩
  generalize hS : pre ++ (40 :: (a.toList ++ (32 :: o :: 32 :: (b.toList ++ [41])))) ++ post = S at *
  have hlen : S.length = pre.length + a.toList.length + b.toList.length + 5 + post.length := by rw [← hS]; simp; omega
  have e1 : S = (pre ++ [40]) ++ a.toList ++ (32 :: o :: 32 :: (b.toList ++ (41 :: post))) := by rw [← hS]; simp
  have e2 : S = ((pre ++ [40]) ++ a.toList ++ [32, o, 32]) ++ b.toList ++ (41 :: post) := by rw [← hS]; simp
  have g0 : S.getD pre.length 0 = 40 := by rw [← hS, List.append_assoc, List.cons_append]; exact getD_app pre _ 40 _ rfl
  have g1 : S.getD (pre.length + 1 + a.toList.length) 0 = 32 := by rw [e1]; exact getD_app _ _ 32 _ (by simp <;> omega)
  have g2 : S.getD (pre.length + 1 + a.toList.length + 1) 0 = o := by
    rw [show S = ((pre ++ [40]) ++ a.toList ++ [32]) ++ (o :: 32 :: (b.toList ++ (41 :: post))) by rw [e1]; simp]; exact getD_app _ _ o _ (by simp <;> omega)
  have g3 : S.getD (pre.length + 1 + a.toList.length + 2) 0 = 32 := by
    rw [show S = ((pre ++ [40]) ++ a.toList ++ [32, o]) ++ (32 :: (b.toList ++ (41 :: post))) by rw [e1]; simp]; exact getD_app _ _ 32 _ (by simp <;> omega)
  have g4 : S.getD (pre.length + 1 + a.toList.length + 3 + b.toList.length) 0 = 41 := by rw [e2]; exact getD_app _ _ 41 _ (by simp; omega)
  have h1 := ha (pre ++ [40]) (32 :: o :: 32 :: (b.toList ++ (41 :: post))) (Or.inr (by simp [List.getD]; decide)) n (by rw [← e1, hlen]; simp at hN ⊢; omega)
  have h2 := hb ((pre ++ [40]) ++ a.toList ++ [32, o, 32]) (41 :: post) (Or.inr (by simp [List.getD]; decide)) n (by rw [← e2, hlen]; simp at hN ⊢; omega)
  have hl1 : (pre ++ [40]).length = pre.length + 1 := by simp
  have hl2 : ((pre ++ [40]) ++ a.toList ++ [32, o, 32]).length = pre.length + 1 + a.toList.length + 3 := by simp <;> omega
  rw [← e1, hl1] at h1
  rw [← e2, hl2] at h2
  rw [pterm_step, if_pos (by rw [hlen]; omega), g0, if_neg (by decide), if_pos rfl]
  unfold ppair
  rw [h1]
  dsimp only
  rw [g1, if_pos ⟨by rw [hlen]; omega, rfl⟩, if_pos (by rw [hlen]; omega), g2, ho]
  dsimp only
  rw [g3, if_pos ⟨by rw [hlen]; omega, rfl⟩, h2]
  dsimp only
  rw [g4, if_pos ⟨by rw [hlen]; omega, rfl⟩]
  simp; omega

theorem take_term (f : List Int) {i j : Nat} (hi : i < f.length) (hj : i + 1 ≤ j) : (f.drop i).take (j - i) = f.getD i 0 :: (f.drop (i + 1)).take (j - (i + 1)) := by
  rw [drop_getD f i hi, show j - i = (j - (i + 1)) + 1 by omega, List.take_succ_cons]
theorem take_join (f : List Int) {i j k : Nat} (h1 : i ≤ j) (h2 : j ≤ k) : (f.drop i).take (j - i) ++ (f.drop j).take (k - j) = (f.drop i).take (k - i) := by
  have e : f.drop j = (f.drop i).drop (j - i) := by rw [List.drop_drop]; congr 1; omega
  rw [e, ← List.take_add]
  congr 1
  omega

theorem trip_all (ss : List ByteArray) (hn : namesOk ss) (f : List Int) : ∀ (m at0 d : Nat), f.length - at0 ≤ m → lack ss.length (d + 1) (f.drop at0) = some 0 →
    ∃ to b, at0 < to ∧ to ≤ f.length ∧ foldS (showT (nmOf ss)) ByteArray.empty (f.drop at0) = b :: foldS (showT (nmOf ss)) ByteArray.empty (f.drop to) ∧ lack ss.length d (f.drop to) = some 0 ∧ Trips ss b ((f.drop at0).take (to - at0))
  | 0, at0, d, hm, h => by
    have := (lack_head h).1
    omega
  | m + 1, at0, d, hm, h => by
    obtain ⟨hk, hop, hrest⟩ := lack_head h
    have hS0 := fun hc => foldS0 (showT (nmOf ss)) ByteArray.empty hk hc
    have hS1 := fun (b : ByteArray) (to : Nat) hc hh => foldS1 (showT (nmOf ss)) ByteArray.empty hk hc (b := b) (to := to) hh
    have hS2 := fun (a b : ByteArray) (t1 to : Nat) hc hh h2 => foldS2 (showT (nmOf ss)) ByteArray.empty hk hc (a := a) (b := b) (t1 := t1) (to := to) hh h2
    have htk := fun (j : Nat) (hj : at0 + 1 ≤ j) => take_term f hk hj
    generalize f.getD at0 0 = x at *
    unfold opB at hop
    simp at hop
    have h1t := htk (at0 + 1) (Nat.le_refl _)
    rw [show at0 + 1 - (at0 + 1) = 0 by omega, List.take_zero] at h1t
    rcases (show x = -1 ∨ x = -2 ∨ x = -3 ∨ (x = -4 ∨ x = -5 ∨ x = -6) ∨ 0 ≤ x by omega) with h1 | h1 | h1 | h1 | h1
    · subst h1
      refine ⟨at0 + 1, _, by omega, by omega, hS0 rfl, hrest, ?_⟩
      rw [h1t]
      exact trip_word 121 [101, 115] (lit_list [121, 101, 115]) (by decide) (by decide) (by decide) (fun i s hw => by unfold pword; rw [hw, if_pos rfl]; rfl)
    · subst h1
      refine ⟨at0 + 1, _, by omega, by omega, hS0 rfl, hrest, ?_⟩
      rw [h1t]
      exact trip_word 110 [111] (lit_list [110, 111]) (by decide) (by decide) (by decide) (fun i s hw => by unfold pword; rw [hw, if_neg (by decide), if_pos rfl]; rfl)
    · subst h1
      obtain ⟨to, b, p1, p2, p3, p4, p5⟩ := trip_all ss hn f m (at0 + 1) d (by omega) hrest
      refine ⟨to, _, by omega, p2, hS1 b to rfl p3, p4, ?_⟩
      rw [htk to (by omega)]
      exact trip_not p5
    · have hc : opC x = 2 := by rcases h1 with rfl | rfl | rfl <;> rfl
      rw [hc] at hrest
      obtain ⟨t1, a, p1, p2, p3, p4, p5⟩ := trip_all ss hn f m (at0 + 1) (d + 1) (by omega) hrest
      obtain ⟨to, b, q1, q2, q3, q4, q5⟩ := trip_all ss hn f m t1 d (by omega) p4
      refine ⟨to, _, by omega, q2, hS2 a b t1 to hc p3 q3, q4, ?_⟩
      rw [htk to (by omega), ← take_join f (show at0 + 1 ≤ t1 by omega) (show t1 ≤ to by omega)]
      have bin : ∀ (o : UInt8), ((((⟨#[40]⟩ ++ a) ++ ⟨#[32, o, 32]⟩) ++ b) ++ ⟨#[41]⟩ : ByteArray).toList = 40 :: (a.toList ++ (32 :: o :: 32 :: (b.toList ++ [41]))) := fun o => by
        rw [app_list, app_list, app_list, app_list, show (⟨#[40]⟩ : ByteArray).toList = [40] from lit_list [40], show (⟨#[32, o, 32]⟩ : ByteArray).toList = [32, o, 32] from lit_list [32, o, 32], show (⟨#[41]⟩ : ByteArray).toList = [41] from lit_list [41]]
        simp
      rcases h1 with rfl | rfl | rfl
      · exact trip_bin (o := 38) rfl p5 q5 _ (bin 38)
      · exact trip_bin (o := 124) rfl p5 q5 _ (bin 124)
      · exact trip_bin (o := 61) rfl p5 q5 _ (bin 61)
    · obtain ⟨o, rfl⟩ := Int.eq_ofNat_of_zero_le h1
      have ho : o < ss.length := by omega
      have hcc : opC (o : Int) = 0 := by unfold opC; rw [if_neg (by omega), if_neg (by omega)]
      have hmm : showT (nmOf ss) (o : Int) ByteArray.empty ByteArray.empty = ss.getD o ByteArray.empty := by
        unfold showT nmOf
        rw [if_neg (by omega), if_neg (by omega), if_neg (by omega), if_neg (by omega), if_neg (by omega), if_neg (by omega)]
        simp
      have hs := hS0 hcc
      rw [hmm] at hs
      rw [hcc] at hrest
      refine ⟨at0 + 1, _, by omega, by omega, hs, hrest, ?_⟩
      rw [h1t]
      have hnb := (hn o ho).1
      have hnum := numOf_at hn ho rfl
      generalize ss.getD o ByteArray.empty = nm at *
      have hnb2 := hnb
      unfold nameB at hnb2
      simp only [Bool.and_eq_true, Bool.not_eq_true', decide_eq_true_eq, beq_eq_false_iff_ne] at hnb2
      obtain ⟨⟨⟨⟨l1, l2⟩, l3⟩, l4⟩, l5⟩ := hnb2
      cases hl : nm.toList with
      | nil => rw [hl] at l1; simp at l1
      | cons c r =>
        rw [hl] at hnb l2 l3 l4 l5 hnum
        refine trip_word c r hl ?_ ?_ l5 (fun i s hw => ?_)
        · rintro rfl; simp [List.getD, isLow] at l4
        · rintro rfl; simp [List.getD, isLow] at l4
        · unfold pword; rw [hw, if_neg l2, if_neg l3, if_pos hnb, hnum]

/-- Format's text is read as the formula. -/
theorem parse_format {ss : List ByteArray} {fs : List (List Int)} {f : List Int} (h : checkErr ss fs [f] = 0) : parseAns ss fs (textF ss f) = (f, 0) := by
  obtain ⟨h1, h2⟩ := checkErr_zero h
  obtain ⟨h3, h4⟩ := validB_lack h2
  have hn := (modelErr_zero h1).2.2.1
  obtain ⟨to, b, p1, p2, p3, p4, p5⟩ := trip_all ss hn f f.length 0 0 (by omega) (by simpa using h4)
  rw [List.drop_zero] at p3 p5
  have hb : textF ss f = b := by unfold textF; rw [p3]; rfl
  have hto : to = f.length := by
    by_cases hlt : to < f.length
    · rw [drop_getD f to hlt, lack_zero_cons] at p4; cases p4
    · omega
  have hs : b.size ≤ 1000 := sizes_of hn h3 0 b (by rw [List.drop_zero, p3]; simp)
  have hp := p5 [] [] (Or.inl rfl) (b.size + 1) (by simp [size_list])
  simp only [List.nil_append, List.append_nil, List.length_nil, Nat.zero_add] at hp
  rw [size_list, hto, Nat.sub_zero, List.take_length] at hp
  unfold parseAns
  rw [if_pos h1, hb, if_neg (by omega), hp]
  unfold parseRes
  dsimp only
  rw [if_pos rfl, if_neg (by simp), if_neg (by omega)]

open Go Go.RowKit Go.WideMaps Go.Maps
set_option linter.unusedSimpArgs false
set_option linter.unusedVariables false

set_option maxHeartbeats 1600000 in
theorem sameIntsF_any (xo yo : Option Addr) (xc yc : Nat) (xs ys : List Int) (w : World) (hx : IntsAt w xo xc xs) (hy : IntsAt w yo yc ys) (he : xs = ys) :
    Calls Tryz.prog 16 #[.slice xo xs.length xc, .slice yo ys.length yc] w fun e w' => e = .returned (.bool true) ∧ Keeps (fun _ => False) w w' := by
  subst he
  have hl1 := hx.len
  unfold maxLen at hl1
  have hq : (((xs.length : Int)) != (xs.length : Int)) = false := by simp
  have Hx := Lib.hid hx; have Hy := Lib.hid hy
  clear hx hy
  go_enter Tryz.func16, Tryz.ntmps16
  go_wp2_with fail
  go_loopw [5] (fun i wr => ∃ (k : Nat), k ≤ xs.length ∧ i = .int .i64 k ∧ Keeps (fun _ => False) w wr) (fun i _ => xs.length - (intOf i).toNat)
  case atStart => exact ⟨0, Nat.zero_le _, rfl, Keeps.refl _ _⟩
  case round =>
    obtain ⟨k, hk, rfl, kp⟩ := hrel
    by_cases hlt : k < xs.length
    · obtain ⟨b1, o1, rfl, hc1⟩ := Hx.out.cells (by omega)
      obtain ⟨b2, o2, rfl, hc2⟩ := Hy.out.cells (by omega)
      have c1 := kp.cell (hc1 k hlt) (fun e => e)
      have c2 := kp.cell (hc2 k hlt) (fun e => e)
      have i1 : (k : Int) < (xs.length : Int) := by omega
      generalize xs.getD k 0 = x at *
      have q0 : ((x : Int) != x) = false := by simp
      have Kp := Lib.hid kp
      clear hc1 hc2 kp
      go_wp2_with fail
      go_quiet (fail)
      go_wp2_with fail
      go_roundw
      case rel => exact ⟨k + 1, by omega, by go_num, Kp.out.drewN _⟩
      case measure => simp [intOf]; omega
    · obtain rfl : k = xs.length := by omega
      go_wp2_with fail
      go_ret
      exact ⟨rfl, kp⟩

set_option maxRecDepth 100000 in
set_option maxHeartbeats 3200000 in
theorem optionsFormats_any (ao ar af : Option Addr) (ca cr cf : Nat) (ss : List ByteArray) (fs : List (List Int)) (f : List Int) (w : World) (h : ModelAt w ao ar ss fs) (hf : IntsAt w af cf f) (tab : Tab w.heap.size w) :
    Calls Tryz.prog 4 #[.agg #[.slice ao ss.length ca, .slice ar fs.length cr], .slice af f.length cf] w fun e w' => e = .returned (.bool true) ∧ Below w.heap.size w w' := by
  have h5 : ∀ W, Keeps (fun _ => False) w W → Calls Tryz.prog 12 #[] W fun e w' => e = .returned (.bool true) ∧ Keeps (fun _ => False) W w' := fun W k => works_keeps W w.heap.size w tab (Nat.le_refl _) k
  have h1 := fun W (k : Keeps (fun _ => False) w W) => format_any ao ar af ca cr cf ss fs f W (h.keeps k) (hf.keeps k)
  have h2 := fun W (k : Keeps (fun _ => False) w W) => refFormat_any ao ar af ca cr cf ss fs f W (h.keeps k) (hf.keeps k)
  have hsz : (formatAns ss fs f).size ≤ 1000 := by
    unfold formatAns
    by_cases hz : checkErr ss fs [f] = 0
    · rw [if_pos hz]
      obtain ⟨g1, g2⟩ := checkErr_zero hz
      obtain ⟨g3, g4⟩ := validB_lack g2
      have hn := (modelErr_zero g1).2.2.1
      unfold textF
      have hl := foldS_length (showT (nmOf ss)) ByteArray.empty ss.length f 1 g4
      have := sizes_of hn g3 0 ((foldS (showT (nmOf ss)) ByteArray.empty f).getD 0 ByteArray.empty) (by rw [List.drop_zero]; simp [List.getD, hl])
      exact this
    · rw [if_neg hz]; simp
  have h3 := fun (hz : checkErr ss fs [f] = 0) W (k : Keeps (fun _ => False) w W) => (parse_any ao ar ca cr ss fs (formatAns ss fs f) W (h.keeps k) (by unfold maxLen; omega)).mono (R' := fun e W' => (∃ a c, e = .returned (.tuple #[.slice a f.length c, .int .i64 0]) ∧ IntsAt W' a c f) ∧ Keeps (fun _ => False) W W') (fun e W' hh => by
    have e1 : formatAns ss fs f = textF ss f := if_pos hz
    rw [e1, parse_format hz] at hh
    exact hh)
  have hfK := fun W (k : Keeps (fun _ => False) w W) => hf.keeps k
  have kA := keeps_alloc w (.cells #[.slice ao ss.length ca, .slice ar fs.length cr] 25)
  have hcell : ∀ W, Keeps (fun _ => False) (w.alloc (.cells #[.slice ao ss.length ca, .slice ar fs.length cr] 25)) W → W.cell? ⟨w.heap.size, 0, none⟩ = some (.slice ao ss.length ca) ∧ W.cell? ⟨w.heap.size, 1, none⟩ = some (.slice ar fs.length cr) := fun W k => ⟨k.cell (by simp) (fun e => e), k.cell (by simp) (fun e => e)⟩
  have KA := Lib.hid kA; have H1 := Lib.hid h1; have H2 := Lib.hid h2; have H3 := Lib.hid h3; have H5 := Lib.hid h5; have HC := Lib.hid hcell; have HfK := Lib.hid hfK
  clear kA h1 h2 h3 h5 h hf tab hcell hfK
  generalize formatAns ss fs f = t at *
  have q0 : (t.toList == t.toList) = true := by simp
  by_cases hz : checkErr ss fs [f] = 0
  · have Hz := Lib.hid hz
    go_enter Tryz.func4, Tryz.ntmps4
    go_wp2_with fail
    refine (H1.out _ (by first | exact KA.out | exact KA.out.drew | exact KA.out.drewN _)).mono ?_
    rintro e w1 ⟨rfl, k1⟩
    rw [hz]
    have k1' : Keeps (fun _ => False) (w.alloc (.cells #[.slice ao ss.length ca, .slice ar fs.length cr] 25)) w1 := ⟨k1.os, k1.tape, k1.output, k1.size, k1.block⟩
    obtain ⟨d0, d1⟩ := HC.out _ k1'
    have L1 := Lib.hid k1'
    clear k1 k1'
    go_wp2_with fail
    refine (H2.out _ (by first | exact KA.out.step L1.out | exact (KA.out.step L1.out).drew | exact (KA.out.step L1.out).drewN _)).mono ?_
    rintro e w2 ⟨rfl, k2⟩
    rw [hz]
    have k2' := L1.out.step (⟨k2.os, k2.tape, k2.output, k2.size, k2.block⟩ : Keeps (fun _ => False) w1 w2)
    clear d0 d1 hz
    obtain ⟨d0, d1⟩ := HC.out _ k2'
    have L2 := Lib.hid k2'
    clear k2 k2'
    go_wp2_with fail
    refine (H3.out Hz.out _ (by first | exact KA.out.step L2.out | exact (KA.out.step L2.out).drew | exact (KA.out.step L2.out).drewN _)).mono ?_
    rintro e w3 ⟨⟨a1, c1, rfl, hi1⟩, k3⟩
    have k3' := L2.out.step (⟨k3.os, k3.tape, k3.output, k3.size, k3.block⟩ : Keeps (fun _ => False) w2 w3)
    have hs2 : ∀ W, Keeps (fun _ => False) w3 W → Calls Tryz.prog 16 #[.slice a1 f.length c1, .slice af f.length cf] W fun e w' => e = .returned (.bool true) ∧ Keeps (fun _ => False) W w' := fun W k => sameIntsF_any a1 af c1 cf f f W (hi1.keeps k) (HfK.out W ((KA.out.step k3').step k)) rfl
    have L3 := Lib.hid k3'; have Hs2 := Lib.hid hs2
    clear k3 k3' hi1 hs2 d0 d1
    go_wp2_with fail
    refine (Hs2.out _ (by first | exact Keeps.refl _ _ | exact (Keeps.refl _ _).drew | exact (Keeps.refl _ _).drewN _)).mono ?_
    rintro e w4 ⟨rfl, k4⟩
    have L4 := Lib.hid (L3.out.step (⟨k4.os, k4.tape, k4.output, k4.size, k4.block⟩ : Keeps (fun _ => False) w3 w4))
    clear k4
    go_wp2_with fail
    refine (H5.out _ (by first | exact KA.out.step L4.out | exact (KA.out.step L4.out).drew | exact (KA.out.step L4.out).drewN _)).mono ?_
    rintro e w5 ⟨rfl, k5⟩
    go_wp2_with fail
    go_ret
    exact ⟨rfl, ((KA.out.step L4.out).step ⟨k5.os, k5.tape, k5.output, k5.size, k5.block⟩).bel⟩
  · have hne : ((checkErr ss fs [f]) != 0) = true := by simpa using hz
    clear H3 hz
    generalize checkErr ss fs [f] = n at *
    have q1 : ((n : Int) != n) = false := by simp
    go_enter Tryz.func4, Tryz.ntmps4
    go_wp2_with fail
    refine (H1.out _ (by first | exact KA.out | exact KA.out.drew | exact KA.out.drewN _)).mono ?_
    rintro e w1 ⟨rfl, k1⟩
    have k1' : Keeps (fun _ => False) (w.alloc (.cells #[.slice ao ss.length ca, .slice ar fs.length cr] 25)) w1 := ⟨k1.os, k1.tape, k1.output, k1.size, k1.block⟩
    obtain ⟨d0, d1⟩ := HC.out _ k1'
    have L1 := Lib.hid k1'
    clear k1 k1'
    go_wp2_with fail
    refine (H2.out _ (by first | exact KA.out.step L1.out | exact (KA.out.step L1.out).drew | exact (KA.out.step L1.out).drewN _)).mono ?_
    rintro e w2 ⟨rfl, k2⟩
    have L2 := Lib.hid (L1.out.step (⟨k2.os, k2.tape, k2.output, k2.size, k2.block⟩ : Keeps (fun _ => False) w1 w2))
    clear d0 d1 k2
    go_wp2_with fail
    refine (H5.out _ (by first | exact KA.out.step L2.out | exact (KA.out.step L2.out).drew | exact (KA.out.step L2.out).drewN _)).mono ?_
    rintro e w3 ⟨rfl, k3⟩
    go_wp2_with fail
    go_ret
    exact ⟨rfl, ((KA.out.step L2.out).step ⟨k3.os, k3.tape, k3.output, k3.size, k3.block⟩).bel⟩
end Go.Proofs.YtngjjmniigkeoaaGreatDoor
