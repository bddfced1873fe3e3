/- The reference's reader: term. The reference's Parse, and sameInts. The walk of OptionsParses. -/
import Derived.Test.YtngjjmniigkeoaaGreatDoorRefB
namespace Go.Proofs.YtngjjmniigkeoaaGreatDoor
open Go Go.RowKit Go.WideMaps Go.Maps
set_option linter.unusedSimpArgs false
set_option linter.unusedVariables false

theorem one_list (c : UInt8) : (⟨#[c]⟩ : ByteArray).toList = [c] := by rw [ByteArray.toList_eq]

/-- The names lie below. -/
structure Names (B : Nat) (ss : List ByteArray) (ao : Option Addr) (W : World) : Prop where
  strs : StrsAt W ao ss
  low : ∀ b off, ao = some ⟨b, off, none⟩ → 0 < ss.length → b < B
theorem Names.upd {B : Nat} {ss : List ByteArray} {ao : Option Addr} {D : QD} {W W' : World} {i : Nat} {v : Value} {fm : List Int} {u : Bool} (h : Names B ss ao W) (r : QAt B D W i v fm u) (k : Keeps (qOwn D v) W W') : Names B ss ao W' := by
  refine ⟨⟨h.strs.len, fun h0 => ?_, h.strs.fits⟩, h.low⟩
  obtain ⟨b, off, e, hc⟩ := h.strs.cells h0
  have hb := h.low b off e h0
  refine ⟨b, off, e, fun q hq => k.cell (hc q hq) (fun ho => ?_)⟩
  rcases ho with ho | ho
  · have := r.hB; omega
  · have := (r.row.lt b ho).1; omega
theorem Names.out {B : Nat} {ss : List ByteArray} {ao : Option Addr} {D : QD} {W : World} {i : Nat} {v : Value} {fm : List Int} {u : Bool} (h : Names B ss ao W) (r : QAt B D W i v fm u) : ∀ b off, ao = some ⟨b, off, none⟩ → 0 < ss.length → ¬ qOwn D v b := by
  intro b off e h0 ho
  have hb := h.low b off e h0
  rcases ho with ho | ho
  · have := r.hB; omega
  · have := (r.row.lt b ho).1; omega

def QSpec (B : Nat) (D : QD) (ss : List ByteArray) (ao : Option Addr) (n : Nat) : Prop :=
  ∀ (W : World) (i : Nat) (v : Value) (fm : List Int) (u : Bool), QAt B D W i v fm u → Names B ss ao W → D.s.size < n + i → Calls Tryz.prog 36 #[.pointer (some ⟨D.rb, 0, none⟩)] W (QEnd B D W v fm u (pterm ss (-1) D.s.toList n i))

theorem res_33 {ss : List ByteArray} {d : Int} {s : ByteArray} {n i : Nat} (h : i < s.size ∧ s.toList.getD i 0 = 33) : pterm ss d s.toList (n + 1) i = (pterm ss d s.toList n (i + 1)).map fun r => (r.1, -3 :: r.2.1, r.2.2) := by
  rw [pterm_step, size_list, if_pos h.1, if_pos h.2]
theorem res_40 {ss : List ByteArray} {d : Int} {s : ByteArray} {n i : Nat} (h : i < s.size ∧ s.toList.getD i 0 = 40) : pterm ss d s.toList (n + 1) i = ppair ss d s.toList n (i + 1) := by
  rw [pterm_step, size_list, if_pos h.1, if_neg (by rw [h.2]; decide), if_pos h.2]
theorem res_word {ss : List ByteArray} {d : Int} {s : ByteArray} {n i : Nat} (hi : i < s.size) (h1 : ¬ (i < s.size ∧ s.toList.getD i 0 = 33)) (h2 : ¬ (i < s.size ∧ s.toList.getD i 0 = 40)) : pterm ss d s.toList (n + 1) i = pword ss d s.toList i := by
  rw [pterm_step, size_list, if_pos hi, if_neg (fun h => h1 ⟨hi, h⟩), if_neg (fun h => h2 ⟨hi, h⟩)]
theorem res_end {ss : List ByteArray} {d : Int} {s : ByteArray} {n i : Nat} (hi : ¬ i < s.size) : pterm ss d s.toList (n + 1) i = none := by
  rw [pterm_step, size_list, if_neg hi]
theorem word_end {ss : List ByteArray} {d : Int} {s : ByteArray} {i : Nat} (hi : ¬ i < s.size) : pword ss d s.toList i = none := by
  have e : wordAt s.toList i = [] := by unfold wordAt; rw [List.drop_eq_nil_of_le (by rw [size_list]; omega)]; rfl
  unfold pword
  rw [e, if_neg (by simp), if_neg (by simp), if_neg (by decide)]
theorem word_res {ss : List ByteArray} {d : Int} {s : ByteArray} {n i : Nat} (h1 : ¬ (i < s.size ∧ s.toList.getD i 0 = 33)) (h2 : ¬ (i < s.size ∧ s.toList.getD i 0 = 40)) : pterm ss d s.toList (n + 1) i = pword ss d s.toList i := by
  by_cases hi : i < s.size
  · exact res_word hi h1 h2
  · rw [res_end hi, word_end hi]

def opByte : Nat → UInt8
  | 0 => 38
  | 1 => 124
  | _ => 61
theorem opOf_byte {q : Nat} (h : q < 3) : opOf (opByte q) = some (-4 - (q : Int)) := by
  rcases (show q = 0 ∨ q = 1 ∨ q = 2 by omega) with rfl | rfl | rfl <;> rfl
theorem opOf_none {c : UInt8} (h : ∀ q, q < 3 → c ≠ opByte q) : opOf c = none := by
  have h0 : c ≠ 38 := h 0 (by omega)
  have h1 : c ≠ 124 := h 1 (by omega)
  have h2 : c ≠ 61 := h 2 (by omega)
  unfold opOf
  rw [if_neg h0, if_neg h1, if_neg h2]
theorem ops_list (q : Nat) (h : q < 3) : ((⟨#[38, 124, 61]⟩ : ByteArray).extract q (q + 1)).toList = [opByte q] := by
  rw [extract_list, ByteArray.toList_eq]
  rcases (show q = 0 ∨ q = 1 ∨ q = 2 by omega) with rfl | rfl | rfl <;> rfl

/-- Whether the operator is found, behind some rounds. -/
def FoundAt (B : Nat) (D : QD) (W : World) (v0 v : Value) (fm l FM : List Int) (u : Bool) (p K : Nat) (fd : Value) (wr : World) : Prop :=
  (fd = .bool false ∧ K ≤ 3 ∧ QUpd B D W v0 wr p v FM u ∧ ∀ q, q < K → ¬ (p < D.s.size ∧ D.s.toList.getD p 0 = opByte q)) ∨
  (fd = .bool true ∧ ∃ q : Nat, K = q + 1 ∧ q < 3 ∧ QUpd B D W v0 wr (p + 1) v ((fm ++ [-4 - (q : Int)]) ++ l) u ∧ (p < D.s.size ∧ D.s.toList.getD p 0 = opByte q))

set_option maxRecDepth 100000 in
set_option maxHeartbeats 12800000 in
theorem refTerm_of (B : Nat) (D : QD) (ss : List ByteArray) (ao : Option Addr) (ca : Nat) (hmo : D.mo = .slice ao ss.length ca) (hno : namesOk ss) (n : Nat) (hT : QSpec B D ss ao n) : QSpec B D ss ao (n + 1) := by
  intro W i v fm u r hnm hni
  have ht := takes_any B D W ⟨#[33]⟩ 33 (one_list _) i v fm u r
  have hfl := r.fl
  have hii := r.hi
  have hz := r.sz
  have Ht := Lib.hid ht; have Hr := Lib.hid r; have Hnm := Lib.hid hnm
  clear ht r hnm
  go_enter Tryz.func36, Tryz.ntmps36
  go_wp2_with fail
  refine Ht.out.mono ?_
  rintro e w1 (⟨h1, rfl, hu⟩ | ⟨h1, rfl, hu⟩)
  · obtain ⟨a, c, rfl⟩ := hu.rat.shape
    obtain ⟨d0, d1, d2, d3, d4⟩ := hu.rat.cells
    have hf := hu.rat.unfrozen
    have hBw : B ≤ w1.heap.size := by have h1 := hu.rat.hB; have h2 := hu.rat.lt; omega
    have hne : ¬ (Value.slice a fm.length c).ownBlock = some D.rb := fun e => (hu.rat.ne_row e) rfl
    have hlt := hu.rat.lt
    obtain ⟨i0, hi0, hz0, hz1, hz2⟩ := info_parts infoInt0
    have Hu := Lib.hid hu; have Hrow := Lib.hid hu.rat.row; have Hne := Lib.hid hne; have H1 := Lib.hid h1
    clear hu hne h1
    go_wp2_with (at_builtin; refine wpList_append_lies _ rfl _ _ 27 rfl B 3 i0 (.int .i64 0) 1 8 Tryz.underlying27 hi0 hz0 hz1 hz2 rfl (by decide) (.slice a fm.length c) fm.length (fm.map (fun x => Value.int .i64 x)) (by rfl) (Hrow.out.alloc _) ⟨w1.heap.size, 0, none⟩ 1 1 [.int .i64 (-3)] (by rfl) rfl (World.news_of_block (cs := #[.int .i64 (-3)]) (t := 3) (fr := (0, 0)) (heap_alloc_new w1 _)) (by intro u hu; simp at hu; subst hu; rfl) (by omega) (by unfold maxLen; omega) (by omega) (by simp; omega) _ rfl ?_; intro g2 cap2 w2 hown hgrow hat hlt2; have hk2 := ((Keeps.refl (fun b => (Value.slice a fm.length c).ownBlock = some b) w1).alloc (.cells #[.int .i64 (-3)] 3)).grown hgrow (fun k e => Or.inl e); have e3 := hk2.cell d3 Hne.out; have f3 := (hk2.frozen (o := 4) hlt Hne.out).trans (hf 4); have Hk2 := Lib.hid hk2; have Hown := Lib.hid hown; have Hat := Lib.hid hat; clear hk2 hown hat hgrow)
    have hu2 := Hu.out.trans (QAt.push (x := -3) Hu.out.rat Hk2.out Hown.out (hat_of Hat.out (by simp)) (by omega))
    have Hu2 := Lib.hid hu2
    clear hu2
    refine (hT _ _ _ _ _ Hu2.out.rat (Hnm.out.upd Hr.out Hu2.out.keeps) (by omega)).mono ?_
    rintro e w3 (⟨j, l, y, v', h1, rfl, hu3⟩ | ⟨h1, rfl, hk3⟩)
    · have hp := res_33 (ss := ss) (d := -1) (n := n) H1.out
      rw [h1] at hp
      have Hp := Lib.hid hp; have Hu3 := Lib.hid hu3
      clear h1 hp hu3
      go_wp2_with fail
      go_ret
      exact Or.inl ⟨j, -3 :: l, y, v', Hp.out, rfl, by simpa using Hu2.out.trans Hu3.out⟩
    · have hp := res_33 (ss := ss) (d := -1) (n := n) H1.out
      rw [h1] at hp
      have Hp := Lib.hid hp; have Hk3 := Lib.hid hk3
      clear h1 hp hk3
      go_wp2_with fail
      go_ret
      exact Or.inr ⟨Hp.out, rfl, Hu2.out.fail Hk3.out⟩
  have H1 := Lib.hid h1; have Hu := Lib.hid hu
  have ht2 := takes_any B D w1 ⟨#[40]⟩ 40 (one_list _) i v fm u hu.rat
  have Ht2 := Lib.hid ht2
  clear hu h1 ht2
  go_wp2_with fail
  refine Ht2.out.mono ?_
  rintro e w2 (⟨h2, rfl, hu2⟩ | ⟨h2, rfl, hu2⟩)
  rotate_left
  · have hp := word_res (ss := ss) (d := -1) (n := n) H1.out h2
    have hu2' := Hu.out.trans hu2
    have hN2 := Hnm.out.upd Hr.out hu2'.keeps
    have hw := refWord_any B D ss ao ca hmo hno w2 hN2.strs i v fm u hu2'.rat (hN2.out hu2'.rat)
    have Hp := Lib.hid hp; have Hw := Lib.hid hw; have Hu2 := Lib.hid hu2'
    clear hp hu2 hu2' hN2 hw h2
    go_wp2_with fail
    refine Hw.out.mono ?_
    rintro e w3 (⟨j, l, y, v', h1, rfl, hu3⟩ | ⟨h1, rfl, hk3⟩)
    · have H3 := Lib.hid h1; have Hu3 := Lib.hid hu3
      clear h1 hu3
      go_wp2_with fail
      go_ret
      exact Or.inl ⟨j, l, y, v', Hp.out.trans H3.out, rfl, Hu2.out.trans Hu3.out⟩
    · have H3 := Lib.hid h1; have Hk3 := Lib.hid hk3
      clear h1 hk3
      go_wp2_with fail
      go_ret
      exact Or.inr ⟨Hp.out.trans H3.out, rfl, Hu2.out.fail Hk3.out⟩
  have hp0 := res_40 (ss := ss) (d := -1) (n := n) h2
  have Hp0 := Lib.hid hp0
  clear hp0
  have hu2' := Hu.out.trans hu2
  obtain ⟨a, c, rfl⟩ := hu2'.rat.shape
  obtain ⟨d0, d1, d2, d3, d4⟩ := hu2'.rat.cells
  have hf := hu2'.rat.unfrozen
  have hBw : B ≤ w2.heap.size := by have h1 := hu2'.rat.hB; have h2 := hu2'.rat.lt; omega
  have hne : ¬ (Value.slice a fm.length c).ownBlock = some D.rb := fun e => (hu2'.rat.ne_row e) rfl
  have hlt := hu2'.rat.lt
  obtain ⟨i0, hi0, hz0, hz1, hz2⟩ := info_parts infoInt0
  have Hu2 := Lib.hid hu2'; have Hrow := Lib.hid hu2'.rat.row; have Hne := Lib.hid hne; have H2 := Lib.hid h2
  clear hu2 hu2' hne h2 Hu Ht2
  go_wp2_with (at_builtin; refine wpList_append_lies _ rfl _ _ 27 rfl B 3 i0 (.int .i64 0) 1 8 Tryz.underlying27 hi0 hz0 hz1 hz2 rfl (by decide) (.slice a fm.length c) fm.length (fm.map (fun x => Value.int .i64 x)) (by rfl) (Hrow.out.alloc _) ⟨w2.heap.size, 0, none⟩ 1 1 [.int .i64 (-4)] (by rfl) rfl (World.news_of_block (cs := #[.int .i64 (-4)]) (t := 3) (fr := (0, 0)) (heap_alloc_new w2 _)) (by intro u hu; simp at hu; subst hu; rfl) (by omega) (by unfold maxLen; omega) (by omega) (by simp; omega) _ rfl ?_; intro g2 cap2 w3 hown hgrow hat hlt2; have hk2 := ((Keeps.refl (fun b => (Value.slice a fm.length c).ownBlock = some b) w2).alloc (.cells #[.int .i64 (-4)] 3)).grown hgrow (fun k e => Or.inl e); have e3 := hk2.cell d3 Hne.out; have f3 := (hk2.frozen (o := 4) hlt Hne.out).trans (hf 4); have Hk2 := Lib.hid hk2; have Hown := Lib.hid hown; have Hat := Lib.hid hat; clear hk2 hown hat hgrow)
  have hi1 := H2.out.1
  have hu3 := Hu2.out.trans (QAt.push (x := -4) Hu2.out.rat Hk2.out Hown.out (hat_of Hat.out (by simp)) (by omega))
  have Hu3 := Lib.hid hu3
  clear hu3 d0 d1 d2 d3 d4 hf
  refine (hT _ _ _ _ _ Hu3.out.rat (Hnm.out.upd Hr.out Hu3.out.keeps) (by omega)).mono ?_
  rintro e w4 (⟨j, l, y, v', h1, rfl, hu4⟩ | ⟨h1, rfl, hk4⟩)
  rotate_left
  · have hp : pterm ss (-1) D.s.toList (n + 1) i = none := by rw [Hp0.out]; unfold ppair; rw [h1]
    have Hp := Lib.hid hp; have Hk4 := Lib.hid hk4
    clear hp h1 hk4
    go_wp2_with fail
    go_ret
    exact Or.inr ⟨Hp.out, rfl, Hu3.out.fail Hk4.out⟩
  have hu4' := Hu3.out.trans hu4
  have Hu4 := Lib.hid hu4'; have H3 := Lib.hid h1
  have hji := pterm_end h1
  rw [size_list] at hji
  have ht3 := takes_any B D w4 ⟨#[32]⟩ 32 (one_list _) j v' _ _ hu4'.rat
  have Ht3 := Lib.hid ht3
  clear hu4 hu4' h1 ht3
  go_wp2_with fail
  refine Ht3.out.mono ?_
  rintro e w5 (⟨h1, rfl, hu5⟩ | ⟨h1, rfl, hu5⟩)
  rotate_left
  · have hp : pterm ss (-1) D.s.toList (n + 1) i = none := by
      rw [Hp0.out]; unfold ppair; rw [H3.out]; dsimp only; rw [if_neg (by rw [size_list]; exact h1)]
    have Hp := Lib.hid hp; have Hu5 := Lib.hid hu5
    clear hp h1 hu5 Ht3
    go_wp2_with fail
    go_ret
    exact Or.inr ⟨Hp.out, rfl, Hu4.out.fail Hu5.out.keeps⟩
  have hu5' := Hu4.out.trans hu5
  have Hu5 := Lib.hid hu5'; have H4 := Lib.hid h1
  obtain ⟨g, cap, rfl, hgB, hgl⟩ := World.ownsRow.form hu5'.rat.row (by simp; omega)
  have hr5 := hu5'.rat
  clear hu5 hu5' h1 Ht3
  generalize hFM : (fm ++ [-4]) ++ l = FM at *
  have hFl : fm.length < FM.length := by rw [← hFM]; simp
  have hset : ∀ o, FM.set fm.length o = (fm ++ [o]) ++ l := fun o => by rw [← hFM]; simp [List.set_append]
  have hFl2 : FM.length ≤ 100000 := by have := hr5.fl; have := hr5.hi; omega
  have Hset := Lib.hid hset; have Hr5 := Lib.hid hr5
  clear hset hFM hr5
  go_wp2_with fail
  go_loopw [4, 5] (fun fd kk wr => ∃ K : Nat, kk = .int .i64 K ∧ FoundAt B D W (.slice a fm.length c) (.slice (some ⟨g, 0, none⟩) FM.length cap) fm l FM (u || y) (j + 1) K fd wr) (fun _ kk _ => 4 - (intOf kk).toNat)
  case atStart => exact ⟨0, rfl, Or.inl ⟨rfl, by omega, Hu5.out, fun q hq => by omega⟩⟩
  case round =>
    obtain ⟨K, rfl, hfa⟩ := hrel
    rcases hfa with ⟨rfl, hK, hu, hnone⟩ | ⟨rfl, q, rfl, hq3, hu, hat⟩
    · by_cases hK3 : K = 3
      · subst hK3
        have hp : pterm ss (-1) D.s.toList (n + 1) i = none := by
          rw [Hp0.out]; unfold ppair; rw [H3.out]; dsimp only; rw [if_pos (by rw [size_list]; exact H4.out), size_list]
          by_cases h0 : j + 1 < D.s.size
          · rw [if_pos h0, opOf_none (fun q hq e => hnone q hq ⟨h0, e⟩)]
          · rw [if_neg h0]
        have Hp := Lib.hid hp; have Hu := Lib.hid hu
        clear hp hu hnone
        go_wp2_with fail
        go_ret
        exact Or.inr ⟨Hp.out, rfl, Hu.out.keeps⟩
      · have hK4 : K < 3 := by omega
        have hops := ops_list K hK4
        have Hu := Lib.hid hu; have Hnone := Lib.hid hnone; have Hops := Lib.hid hops
        have i1 : (K : Int) < 3 := by omega
        have i2 : (0 : Int) ≤ (K : Int) := by omega
        have i3 : (K : Int) + 1 ≤ 3 := by omega
        have i4 : (K : Int) ≤ (K : Int) + 1 := by omega
        have i5 : ((K : Int) + 1).toNat = K + 1 := by omega
        have i6 : (0 : Int) ≤ (K : Int) + 1 := by omega
        clear hu hnone hops
        go_wp2_with fail
        refine (takes_any B D wr _ (opByte K) Hops.out (j + 1) _ _ _ Hu.out.rat).mono ?_
        rintro e w6 (⟨h1, rfl, hu6⟩ | ⟨h1, rfl, hu6⟩)
        · have d3 := hu6.rat.cells.2.2.2.1
          have cr : w6.cell? ⟨g, fm.length, none⟩ = some (.int .i64 (FM.getD fm.length 0)) := by rw [hu6.rat.row.cellAt fm.length (by omega)]; simp [List.getD, hFl]
          have fz := hu6.rat.row.frozenAt fm.length
          have hg6 := World.block_lt_of_cell? w6 _ cr
          have hl6 := hu6.rat.lt
          have j1 : (fm.length : Int) < (FM.length : Int) := by omega
          have e9 : IntKind.i64.wrap (-4 - (K : Int)) = -4 - (K : Int) := IntWalk.i64_in _ (by omega)
          have hu7 := Hu.out.trans (hu6.trans (hu6.rat.poke fm.length (-4 - (K : Int))))
          rw [Hset.out] at hu7
          have Hu7 := Lib.hid hu7; have H6 := Lib.hid h1
          clear hu6 hu7 h1
          go_wp2_with fail
          go_roundw
          case rel => exact ⟨K + 1, by go_num, Or.inr ⟨rfl, K, rfl, hK4, Hu7.out, H6.out⟩⟩
          case measure => simp [intOf]; omega
        · have Hu7 := Lib.hid (Hu.out.trans hu6); have H6 := Lib.hid h1
          clear hu6 h1
          go_wp2_with fail
          go_roundw
          case rel => exact ⟨K + 1, by go_num, Or.inl ⟨rfl, by omega, Hu7.out, fun q hq => by
            by_cases e : q = K
            · subst e; exact H6.out
            · exact Hnone.out q (by omega)⟩⟩
          case measure => simp [intOf]; omega
    · have hps : pterm ss (-1) D.s.toList (n + 1) i = if j + 2 < D.s.size ∧ D.s.toList.getD (j + 2) 0 = 32 then
          (match pterm ss (-1) D.s.toList n (j + 3) with | none => none | some b => if b.1 < D.s.size ∧ D.s.toList.getD b.1 0 = 41 then some (b.1 + 1, (-4 - (q : Int)) :: (l ++ b.2.1), y || b.2.2) else none) else none := by
        rw [Hp0.out]; unfold ppair; rw [H3.out]; dsimp only; rw [if_pos (by rw [size_list]; exact H4.out), size_list, if_pos hat.1, hat.2, opOf_byte hq3]; rfl
      have Hps := Lib.hid hps; have Hu := Lib.hid hu
      have hN6 := Hnm.out.upd Hr.out hu.keeps
      have HN6 := Lib.hid hN6
      have hjs : j + 1 < D.s.size := hat.1
      clear hps hu hat hN6
      rcases (show decide ((q : Int) + 1 < 3) = true ∨ decide ((q : Int) + 1 < 3) = false by cases decide ((q : Int) + 1 < 3) <;> simp) with hb | hb
      all_goals
        go_wp2_with fail
        refine (takes_any B D wr ⟨#[32]⟩ 32 (one_list _) (j + 1 + 1) _ _ _ Hu.out.rat).mono ?_
        rintro e w7 (⟨h1, rfl, hu7⟩ | ⟨h1, rfl, hu7⟩)
        rotate_left
        · have hp : pterm ss (-1) D.s.toList (n + 1) i = none := by rw [Hps.out, if_neg h1]
          have Hp := Lib.hid hp; have Hu7 := Lib.hid hu7
          clear hp h1 hu7
          go_wp2_with fail
          go_ret
          exact Or.inr ⟨Hp.out, rfl, Hu.out.fail Hu7.out.keeps⟩
        have hps2 := Hps.out
        rw [if_pos h1] at hps2
        have Hps2 := Lib.hid hps2
        have Hu7 := Lib.hid (Hu.out.trans hu7)
        clear hps2 hu7 h1
        go_wp2_with fail
        refine (hT _ _ _ _ _ Hu7.out.rat (Hnm.out.upd Hr.out Hu7.out.keeps) (by omega)).mono ?_
        rintro e w8 (⟨j2, l2, y2, v8, h1, rfl, hu8⟩ | ⟨h1, rfl, hk8⟩)
        rotate_left
        · have hp : pterm ss (-1) D.s.toList (n + 1) i = none := by rw [Hps2.out, h1]
          have Hp := Lib.hid hp; have Hk8 := Lib.hid hk8
          clear hp h1 hk8
          go_wp2_with fail
          go_ret
          exact Or.inr ⟨Hp.out, rfl, Hu7.out.fail Hk8.out⟩
        have hps3 := Hps2.out
        rw [h1] at hps3
        dsimp only at hps3
        have Hps3 := Lib.hid hps3
        have Hu8 := Lib.hid (Hu7.out.trans hu8)
        clear hps3 hu8 h1
        go_wp2_with fail
        refine (takes_any B D w8 ⟨#[41]⟩ 41 (one_list _) j2 _ _ _ Hu8.out.rat).mono ?_
        rintro e w9 (⟨h1, rfl, hu9⟩ | ⟨h1, rfl, hu9⟩)
        rotate_left
        · have hp : pterm ss (-1) D.s.toList (n + 1) i = none := by rw [Hps3.out, if_neg h1]
          have Hp := Lib.hid hp; have Hu9 := Lib.hid hu9
          clear hp h1 hu9
          go_wp2_with fail
          go_ret
          exact Or.inr ⟨Hp.out, rfl, Hu8.out.fail Hu9.out.keeps⟩
        have hp := Hps3.out
        rw [if_pos h1] at hp
        have Hp := Lib.hid hp; have Hu9 := Lib.hid (Hu8.out.trans hu9)
        clear hp hu9 h1
        go_wp2_with fail
        go_ret
        exact Or.inl ⟨_, _, _, _, Hp.out, rfl, by simpa [Bool.or_assoc] using Hu9.out⟩

theorem refReader_all (B : Nat) (D : QD) (ss : List ByteArray) (ao : Option Addr) (ca : Nat) (hmo : D.mo = .slice ao ss.length ca) (hno : namesOk ss) : ∀ n, QSpec B D ss ao n
  | 0 => fun W i v fm u r _ h => by have := r.hi; omega
  | n + 1 => refTerm_of B D ss ao ca hmo hno n (refReader_all B D ss ao ca hmo hno n)

open Go Go.RowKit Go.WideMaps Go.Maps
set_option linter.unusedSimpArgs false
set_option linter.unusedVariables false

theorem parseRes_same {ss : List ByteArray} {s : ByteArray} {n i : Nat} : parseRes s (pterm ss (-1) s.toList n i) = parseRes s (pterm ss 0 s.toList n i) := by
  rcases pterm_same (ss := ss) (d := -1) (d' := 0) (s := s.toList) n i with ⟨e1, e2⟩ | ⟨r, r', e1, e2, h1, h2, h3, h4⟩
  · rw [e1, e2]
  · rw [e1, e2]
    unfold parseRes
    dsimp only
    rw [h1, h2, h3]
    by_cases hy : r'.2.2 = true
    · rw [if_pos hy, if_pos hy]
    · rw [if_neg hy, if_neg hy, h4 (by rw [h2]; simpa using hy)]

theorem QAt.ints {B : Nat} {D : QD} {W : World} {i : Nat} {a : Option Addr} {c : Nat} {fm : List Int} {u : Bool} (r : QAt B D W i (.slice a fm.length c) fm u) (hf : ∀ x ∈ fm, -9223372036854775808 ≤ x ∧ x ≤ 9223372036854775807) : IntsAt W a c fm := by
  have h1 := r.fl; have h2 := r.hi; have h3 := r.sz
  refine ⟨by unfold maxLen; omega, fun h0 => ?_, hf⟩
  obtain ⟨g, cap, e, _, _⟩ := World.ownsRow.form r.row h0
  simp at e
  obtain ⟨rfl, rfl⟩ := e
  refine ⟨g, 0, rfl, fun k hk => ?_⟩
  rw [Nat.zero_add, r.row.cellAt k (by omega)]
  simp [List.getD, hk]

set_option maxRecDepth 100000 in
set_option maxHeartbeats 3200000 in
theorem refParse_any (ao ar : Option Addr) (ca cr : Nat) (ss : List ByteArray) (fs : List (List Int)) (s : ByteArray) (w : World) (h : ModelAt w ao ar ss fs) (hs : s.size ≤ maxLen) :
    Calls Tryz.prog 17 #[.agg #[.slice ao ss.length ca, .slice ar fs.length cr], .string s] w (ParseEnd w (parseAns ss fs s)) := by
  have hl1 := h.strs.len
  unfold maxLen at hl1 hs
  have hkA := keeps_alloc w (.cells #[.slice ao ss.length ca, .slice ar fs.length cr] 25)
  have hM := refCheckModel_any ao ar ca cr ss fs _ (h.keeps hkA)
  have hbx := box0 w (.slice ao ss.length ca) (.slice ar fs.length cr) 25
  have hbx1 := box1 w (.slice ao ss.length ca) (.slice ar fs.length cr) 25
  have hnil : ∀ w', IntsAt w' none 0 [] := fun w' => ⟨Nat.zero_le _, fun h0 => absurd h0 (by simp), fun x hx => by simp at hx⟩
  have HM := Lib.hid hM; have HkA := Lib.hid hkA
  clear hM hkA
  by_cases hm : modelErr ss fs = 0
  rotate_left
  · have ha : parseAns ss fs s = ([], modelErr ss fs) := if_neg hm
    have hne : ((modelErr ss fs) != 0) = true := by simpa using hm
    rw [ha]
    clear ha hm h
    generalize modelErr ss fs = x at *
    go_enter Tryz.func17, Tryz.ntmps17
    go_wp2_with fail
    refine HM.out.mono ?_
    rintro e w1 ⟨rfl, hb1⟩
    go_wp2_with fail
    go_ret2
    exact ⟨⟨none, 0, rfl, hnil _⟩, HkA.out.step (Keeps.of_bel hb1)⟩
  by_cases hlen : 65536 < s.size
  · have ha : parseAns ss fs s = ([], 2) := by unfold parseAns; rw [if_pos hm, if_pos hlen]
    rw [ha]
    have Hm := Lib.hid hm
    have b1 : decide (65536 < (s.size : Int)) = true := decide_eq_true (by omega)
    clear ha hm h
    go_enter Tryz.func17, Tryz.ntmps17
    go_wp2_with fail
    refine HM.out.mono ?_
    rintro e w1 ⟨rfl, hb1⟩
    rw [Hm.out]
    go_wp2_with fail
    go_ret2
    exact ⟨⟨none, 0, rfl, hnil _⟩, HkA.out.step (Keeps.of_bel hb1)⟩
  have ha : parseAns ss fs s = parseRes s (pterm ss (-1) s.toList (s.size + 1) 0) := by unfold parseAns; rw [if_pos hm, if_neg hlen, parseRes_same]
  rw [ha]
  have b1 : decide (65536 < (s.size : Int)) = false := decide_eq_false (by omega)
  have hno := (modelErr_zero hm).2.2.1
  have Hm := Lib.hid hm; have Hno := Lib.hid hno
  clear ha hm hno
  go_enter Tryz.func17, Tryz.ntmps17
  go_wp2_with fail
  refine HM.out.mono ?_
  rintro e w1 ⟨rfl, hb1⟩
  rw [Hm.out]
  have hc0 := cell_kept hbx hb1 (Nat.le_refl _)
  have hc1 := cell_kept hbx1 hb1 (Nat.le_refl _)
  have blm : w.heap.size < w1.heap.size := World.block_lt_of_cell? w1 _ hc0
  go_wp2_with fail
  have hblk : (w1.alloc (.cells #[.slice ao ss.length ca, .slice ar fs.length cr, .string s, .int .i64 0, .slice none 0 0, .bool false] 70)).heap[w1.heap.size]? = some (.cells #[.slice ao ss.length ca, .slice ar fs.length cr, .string s, .int .i64 0, .slice none 0 0, .bool false] 70 (0, 0)) := heap_alloc_new _ _
  have hk0 : Keeps (fun _ => False) w (w1.alloc (.cells #[.slice ao ss.length ca, .slice ar fs.length cr, .string s, .int .i64 0, .slice none 0 0, .bool false] 70)) := (HkA.out.step (Keeps.of_bel hb1)).alloc _
  generalize (w1.alloc (.cells #[.slice ao ss.length ca, .slice ar fs.length cr, .string s, .int .i64 0, .slice none 0 0, .bool false] 70)) = V at *
  have hN : Names w.heap.size ss ao V := ⟨h.strs.keeps hk0, fun b off e h0 => by
    obtain ⟨b', off', e', hc⟩ := h.strs.cells h0
    rw [e] at e'; cases e'
    exact World.block_lt_of_cell? w _ (hc 0 h0)⟩
  have hq : QAt w.heap.size ⟨w1.heap.size, .slice ao ss.length ca, .slice ar fs.length cr, s⟩ V 0 (.slice none 0 0) [] false := ⟨by simp; omega, hblk, World.ownsRow_nil _ _ _ _, Nat.zero_le _, by simp; omega, Nat.le_refl _⟩
  have hrd := refReader_all w.heap.size ⟨w1.heap.size, .slice ao ss.length ca, .slice ar fs.length cr, s⟩ ss ao ca rfl Hno.out (s.size + 1) V 0 (.slice none 0 0) [] false hq hN (by simp)
  have hkw : ∀ w5, Keeps (qOwn ⟨w1.heap.size, .slice ao ss.length ca, .slice ar fs.length cr, s⟩ (.slice none 0 0)) V w5 → Keeps (fun _ => False) w w5 := fun w5 k5 => hk0.trans k5 (fun b hb => by
    rcases hb with h | h
    · simp at h; right; omega
    · simp [Value.ownBlock] at h)
  generalize hmb : w1.heap.size = mb at *
  have Hrd := Lib.hid hrd; have Hkw := Lib.hid hkw
  clear hrd hkw hq hN hblk hk0 h hmb hb1 hc0 hc1 hbx hbx1
  refine Hrd.out.mono ?_
  rintro e w5 (⟨j, l, y, v', h1, rfl, hu⟩ | ⟨h1, rfl, hk5⟩)
  rotate_left
  · have ha : parseRes s (pterm ss (-1) s.toList (s.size + 1) 0) = ([], 4) := by dsimp only at h1; rw [h1]; rfl
    have Ha := Lib.hid ha; have Hk5 := Lib.hid hk5
    clear ha h1 hk5
    go_wp2_with fail
    go_ret2
    exact ⟨by rw [Ha.out]; exact ⟨none, 0, rfl, hnil _⟩, Hkw.out _ Hk5.out⟩
  rw [List.nil_append, Bool.false_or] at hu
  obtain ⟨a, c, rfl⟩ := hu.rat.shape
  obtain ⟨d0, d1, d2, d3, d4⟩ := hu.rat.cells
  have hfl := hu.rat.fl
  have hj := hu.rat.hi
  have hll : l.length ≤ 65536 := by simp at hfl hj; omega
  dsimp only at d0 d1 d2 d3 d4 h1 hj
  by_cases hje : j = s.size
  rotate_left
  · have ha : parseRes s (pterm ss (-1) s.toList (s.size + 1) 0) = ([], 4) := by rw [h1]; unfold parseRes; dsimp only; rw [if_neg hje]
    have b2 : decide ((j : Int) < (s.size : Int)) = true := decide_eq_true (by omega)
    have b3 : j < s.size := by omega
    have Ha := Lib.hid ha; have Hu := Lib.hid hu
    clear ha h1 hu
    go_wp2_with fail
    go_ret2
    exact ⟨by rw [Ha.out]; exact ⟨none, 0, rfl, hnil _⟩, Hkw.out _ Hu.out.keeps⟩
  subst hje
  cases y
  · by_cases h100 : 100 < l.length
    · have ha : parseRes s (pterm ss (-1) s.toList (s.size + 1) 0) = ([], 11) := by rw [h1]; unfold parseRes; dsimp only; rw [if_pos rfl, if_neg (by simp), if_pos h100]
      have b2 : decide (100 < (l.length : Int)) = true := decide_eq_true (by omega)
      have Ha := Lib.hid ha; have Hu := Lib.hid hu
      clear ha h1 hu
      go_wp2_with fail
      go_ret2
      exact ⟨by rw [Ha.out]; exact ⟨none, 0, rfl, hnil _⟩, Hkw.out _ Hu.out.keeps⟩
    · have ha : parseRes s (pterm ss (-1) s.toList (s.size + 1) 0) = (l, 0) := by rw [h1]; unfold parseRes; dsimp only; rw [if_pos rfl, if_neg (by simp), if_neg h100]
      have hfit2 : ∀ x ∈ l, -9223372036854775808 ≤ x ∧ x ≤ 9223372036854775807 := by
        rcases pterm_same (ss := ss) (d := -1) (d' := 0) (s := s.toList) (s.size + 1) 0 with ⟨e1, _⟩ | ⟨r, r', e1, e2, _, _, _, h4⟩
        · rw [h1] at e1; cases e1
        · rw [h1] at e1; cases e1
          intro x hx
          have h5 : l = r'.2.1 := h4 rfl
          rw [h5] at hx
          have := pterm_fits e2 x hx
          omega
      have hints := hu.rat.ints hfit2
      have b2 : decide (100 < (l.length : Int)) = false := decide_eq_false (by omega)
      have Ha := Lib.hid ha; have Hu := Lib.hid hu; have Hints := Lib.hid hints
      clear ha h1 hu hints hfit2
      go_wp2_with fail
      go_ret2
      exact ⟨by rw [Ha.out]; exact ⟨a, c, rfl, Hints.out⟩, Hkw.out _ Hu.out.keeps⟩
  · have ha : parseRes s (pterm ss (-1) s.toList (s.size + 1) 0) = ([], 10) := by rw [h1]; unfold parseRes; dsimp only; rw [if_pos rfl, if_pos rfl]
    have Ha := Lib.hid ha; have Hu := Lib.hid hu
    clear ha h1 hu
    go_wp2_with fail
    go_ret2
    exact ⟨by rw [Ha.out]; exact ⟨none, 0, rfl, hnil _⟩, Hkw.out _ Hu.out.keeps⟩

set_option maxHeartbeats 1600000 in
theorem sameInts_any (xo yo : Option Addr) (xc yc : Nat) (xs ys : List Int) (w : World) (hx : IntsAt w xo xc xs) (hy : IntsAt w yo yc ys) (he : xs = ys) :
    Calls Tryz.prog 16 #[.slice xo xs.length xc, .slice yo ys.length yc] w fun e w' => e = .returned (.bool true) ∧ Keeps (fun _ => False) w w' := by
  subst he
  have hl1 := hx.len
  unfold maxLen at hl1
  have hq : (((xs.length : Int)) != (xs.length : Int)) = false := by simp
  have Hx := Lib.hid hx; have Hy := Lib.hid hy
  clear hx hy
  go_enter Tryz.func16, Tryz.ntmps16
  go_wp2_with fail
  go_loopw [5] (fun i wr => ∃ (k : Nat), k ≤ xs.length ∧ i = .int .i64 k ∧ Keeps (fun _ => False) w wr) (fun i _ => xs.length - (intOf i).toNat)
  case atStart => exact ⟨0, Nat.zero_le _, rfl, Keeps.refl _ _⟩
  case round =>
    obtain ⟨k, hk, rfl, kp⟩ := hrel
    by_cases hlt : k < xs.length
    · obtain ⟨b1, o1, rfl, hc1⟩ := Hx.out.cells (by omega)
      obtain ⟨b2, o2, rfl, hc2⟩ := Hy.out.cells (by omega)
      have c1 := kp.cell (hc1 k hlt) (fun e => e)
      have c2 := kp.cell (hc2 k hlt) (fun e => e)
      have i1 : (k : Int) < (xs.length : Int) := by omega
      generalize xs.getD k 0 = x at *
      have q0 : ((x : Int) != x) = false := by simp
      have Kp := Lib.hid kp
      clear hc1 hc2 kp
      go_wp2_with fail
      go_quiet (fail)
      go_wp2_with fail
      go_roundw
      case rel => exact ⟨k + 1, by omega, by go_num, Kp.out.drewN _⟩
      case measure => simp [intOf]; omega
    · obtain rfl : k = xs.length := by omega
      go_wp2_with fail
      go_ret
      exact ⟨rfl, kp⟩

open Go Go.RowKit Go.WideMaps Go.Maps
set_option linter.unusedSimpArgs false
set_option linter.unusedVariables false

set_option maxRecDepth 100000 in
set_option maxHeartbeats 3200000 in
theorem optionsParses_any (ao ar : Option Addr) (ca cr : Nat) (ss : List ByteArray) (fs : List (List Int)) (s : ByteArray) (w : World) (h : ModelAt w ao ar ss fs) (hs : s.size ≤ maxLen) (tab : Tab w.heap.size w) :
    Calls Tryz.prog 5 #[.agg #[.slice ao ss.length ca, .slice ar fs.length cr], .string s] w fun e w' => e = .returned (.bool true) ∧ Below w.heap.size w w' := by
  have h5 : ∀ W, Keeps (fun _ => False) w W → Calls Tryz.prog 12 #[] W fun e w' => e = .returned (.bool true) ∧ Keeps (fun _ => False) W w' := fun W k => works_keeps W w.heap.size w tab (Nat.le_refl _) k
  have h1 := fun W (k : Keeps (fun _ => False) w W) => parse_any ao ar ca cr ss fs s W (h.keeps k) hs
  have h2 := fun W (k : Keeps (fun _ => False) w W) => refParse_any ao ar ca cr ss fs s W (h.keeps k) hs
  have kA := keeps_alloc w (.cells #[.slice ao ss.length ca, .slice ar fs.length cr] 25)
  have hcell : ∀ W, Keeps (fun _ => False) (w.alloc (.cells #[.slice ao ss.length ca, .slice ar fs.length cr] 25)) W → W.cell? ⟨w.heap.size, 0, none⟩ = some (.slice ao ss.length ca) ∧ W.cell? ⟨w.heap.size, 1, none⟩ = some (.slice ar fs.length cr) := fun W k => ⟨k.cell (by simp) (fun e => e), k.cell (by simp) (fun e => e)⟩
  unfold maxLen at hs
  have KA := Lib.hid kA; have H1 := Lib.hid h1; have H2 := Lib.hid h2; have H5 := Lib.hid h5; have HC := Lib.hid hcell
  clear kA h1 h2 h5 h tab hcell
  generalize parseAns ss fs s = ans at *
  obtain ⟨l, n⟩ := ans
  have q2 : ((n : Int) == n) = true := by simp
  by_cases hb : 2000 < s.size ∧ s.size ≤ 65536
  · have b1 : decide (2000 < (s.size : Int)) = true := decide_eq_true (by omega)
    have b2 : decide ((s.size : Int) ≤ 65536) = true := decide_eq_true (by omega)
    go_enter Tryz.func5, Tryz.ntmps5
    go_wp2_with fail
    refine (H5.out _ (by first | exact KA.out | exact KA.out.drew | exact KA.out.drewN _)).mono ?_
    rintro e w1 ⟨rfl, k1⟩
    go_wp2_with fail
    go_ret
    exact ⟨rfl, (KA.out.step ⟨k1.os, k1.tape, k1.output, k1.size, k1.block⟩).bel⟩
  have hbb : (2000 < s.size ∧ 65536 < s.size) ∨ s.size ≤ 2000 := by omega
  rcases hbb with ⟨g1, g2⟩ | g1
  · have b1 : decide (2000 < (s.size : Int)) = true := decide_eq_true (by omega)
    have b2 : decide ((s.size : Int) ≤ 65536) = false := decide_eq_false (by omega)
    clear hb g1 g2
    go_enter Tryz.func5, Tryz.ntmps5
    go_wp2_with fail
    refine (H1.out _ (by first | exact KA.out | exact KA.out.drew | exact KA.out.drewN _)).mono ?_
    rintro e w1 ⟨⟨a1, c1, rfl, hi1⟩, k1⟩
    have k1' : Keeps (fun _ => False) (w.alloc (.cells #[.slice ao ss.length ca, .slice ar fs.length cr] 25)) w1 := ⟨k1.os, k1.tape, k1.output, k1.size, k1.block⟩
    obtain ⟨d0, d1⟩ := HC.out _ k1'
    have L1 := Lib.hid k1'; have Hi1 := Lib.hid hi1
    clear k1 k1' hi1
    go_wp2_with fail
    refine (H2.out _ (by first | exact KA.out.step L1.out | exact (KA.out.step L1.out).drew | exact (KA.out.step L1.out).drewN _)).mono ?_
    rintro e w2 ⟨⟨a2, c2, rfl, hi2⟩, k2⟩
    have k2' : Keeps (fun _ => False) w1 w2 := ⟨k2.os, k2.tape, k2.output, k2.size, k2.block⟩
    have hs2 : ∀ W, Keeps (fun _ => False) w2 W → Calls Tryz.prog 16 #[.slice a1 l.length c1, .slice a2 l.length c2] W fun e w' => e = .returned (.bool true) ∧ Keeps (fun _ => False) W w' := fun W k => sameInts_any a1 a2 c1 c2 l l W ((Hi1.out.keeps k2').keeps k) (hi2.keeps k) rfl
    have L2 := Lib.hid (L1.out.step k2'); have Hs2 := Lib.hid hs2
    clear k2 k2' hi2 hs2 d0 d1
    go_wp2_with fail
    refine (Hs2.out _ (by first | exact Keeps.refl _ _ | exact (Keeps.refl _ _).drew | exact (Keeps.refl _ _).drewN _)).mono ?_
    rintro e w3 ⟨rfl, k3⟩
    have L3 := Lib.hid (L2.out.step ⟨k3.os, k3.tape, k3.output, k3.size, k3.block⟩)
    clear k3
    go_wp2_with fail
    refine (H5.out _ (by first | exact KA.out.step L3.out | exact (KA.out.step L3.out).drew | exact (KA.out.step L3.out).drewN _)).mono ?_
    rintro e w4 ⟨rfl, k4⟩
    go_wp2_with fail
    go_ret
    exact ⟨rfl, ((KA.out.step L3.out).step ⟨k4.os, k4.tape, k4.output, k4.size, k4.block⟩).bel⟩
  · have b1 : decide (2000 < (s.size : Int)) = false := decide_eq_false (by omega)
    clear hb
    go_enter Tryz.func5, Tryz.ntmps5
    go_wp2_with fail
    refine (H1.out _ (by first | exact KA.out | exact KA.out.drew | exact KA.out.drewN _)).mono ?_
    rintro e w1 ⟨⟨a1, c1, rfl, hi1⟩, k1⟩
    have k1' : Keeps (fun _ => False) (w.alloc (.cells #[.slice ao ss.length ca, .slice ar fs.length cr] 25)) w1 := ⟨k1.os, k1.tape, k1.output, k1.size, k1.block⟩
    obtain ⟨d0, d1⟩ := HC.out _ k1'
    have L1 := Lib.hid k1'; have Hi1 := Lib.hid hi1
    clear k1 k1' hi1
    go_wp2_with fail
    refine (H2.out _ (by first | exact KA.out.step L1.out | exact (KA.out.step L1.out).drew | exact (KA.out.step L1.out).drewN _)).mono ?_
    rintro e w2 ⟨⟨a2, c2, rfl, hi2⟩, k2⟩
    have k2' : Keeps (fun _ => False) w1 w2 := ⟨k2.os, k2.tape, k2.output, k2.size, k2.block⟩
    have hs2 : ∀ W, Keeps (fun _ => False) w2 W → Calls Tryz.prog 16 #[.slice a1 l.length c1, .slice a2 l.length c2] W fun e w' => e = .returned (.bool true) ∧ Keeps (fun _ => False) W w' := fun W k => sameInts_any a1 a2 c1 c2 l l W ((Hi1.out.keeps k2').keeps k) (hi2.keeps k) rfl
    have L2 := Lib.hid (L1.out.step k2'); have Hs2 := Lib.hid hs2
    clear k2 k2' hi2 hs2 d0 d1
    go_wp2_with fail
    refine (Hs2.out _ (by first | exact Keeps.refl _ _ | exact (Keeps.refl _ _).drew | exact (Keeps.refl _ _).drewN _)).mono ?_
    rintro e w3 ⟨rfl, k3⟩
    have L3 := Lib.hid (L2.out.step ⟨k3.os, k3.tape, k3.output, k3.size, k3.block⟩)
    clear k3
    go_wp2_with fail
    refine (H5.out _ (by first | exact KA.out.step L3.out | exact (KA.out.step L3.out).drew | exact (KA.out.step L3.out).drewN _)).mono ?_
    rintro e w4 ⟨rfl, k4⟩
    go_wp2_with fail
    go_ret
    exact ⟨rfl, ((KA.out.step L3.out).step ⟨k4.os, k4.tape, k4.output, k4.size, k4.block⟩).bel⟩
end Go.Proofs.YtngjjmniigkeoaaGreatDoor
