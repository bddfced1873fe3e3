/- Most's work. options.Most, where nothing is wrong and the first attempt suffices. -/
import Derived.Test.YtngjjmniigkeoaaGreatDoorMost
import Derived.Test.YtngjjmniigkeoaaGreatDoorCountB
namespace Go.Proofs.YtngjjmniigkeoaaGreatDoor
open Go Go.RowKit Go.WideMaps Go.Maps
set_option linter.unusedSimpArgs false
set_option linter.unusedVariables false

theorem enters_most1 : Enters 52 := enter_of Tryz.func52 (by kernel_rfl) (by kernel_rfl)

set_option maxHeartbeats 1600000 in
theorem checkList_ok (ao ar al : Option Addr) (ca cr cl : Nat) (ss : List ByteArray) (fs l : List (List Int)) (w : World) (h : ModelAt w ao ar ss fs) (hl : FormsAt w al l) (hm : modelErr ss fs = 0) (hll : l.length ≤ 200) :
    Calls Tryz.prog 49 #[.agg #[.slice ao ss.length ca, .slice ar fs.length cr], .slice al l.length cl] w fun e w' => e = .returned (.int .i64 (formsErr l ss.length)) ∧ Below w.heap.size w w' := by
  have hl1 := h.strs.len
  unfold maxLen at hl1
  have hM : ∀ o, ModelAt (w.alloc o) ao ar ss fs := fun o => h.kept (below_alloc w o) (Nat.le_refl _)
  have hL : ∀ o, FormsAt (w.alloc o) al l := fun o => hl.kept (below_alloc w o) (Nat.le_refl _)
  have HM := Lib.hid hM; have HL := Lib.hid hL; have Hm := Lib.hid hm
  clear hm h hM hl hL
  go_enter Tryz.func49, Tryz.ntmps49
  go_wp2_with fail
  refine (checkModel_any _ _ _ _ _ _ _ (HM.out _)).mono ?_
  rintro e w1 ⟨rfl, hb1⟩
  rw [Hm.out]
  have hc0 := cell_kept (box0 w (.slice ao ss.length ca) (.slice ar fs.length cr) 25) hb1 (Nat.le_refl _)
  have hgt : ¬ (200 : Int) < (l.length : Int) := by omega
  have hdec : decide ((200 : Int) < (l.length : Int)) = false := decide_eq_false hgt
  go_wp2_with fail
  refine (checkFormulas_any _ _ _ _ _ ((HL.out _).kept hb1 (Nat.le_refl _)) (by omega)).mono ?_
  rintro e w2 ⟨rfl, rfl⟩
  go_wp2_with fail
  go_ret
  exact ⟨rfl, ((below_alloc w _).trans (hb1.mono (by simp)))⟩

theorem Lv.side {w w' : World} {h : DH} {s : DS} {ls : List Nat} {p : Nat} {b : Bool} {t : TypeId} (l : Lv w h s ls) (k : Keeps (fun j => j = p) w w') (hp : w.heap[p]? = some (.cells #[.bool b] t (0, 0))) : Lv w' h s ls := by
  obtain ⟨ao, cap, e, o⟩ := l.ex
  have hne : ∀ b' off, 0 < (ls.map (fun (x : Nat) => (x : Int))).length → ao = some ⟨b', off, none⟩ → b' ≠ p := by
    intro b' off h0 ea e'
    subst e'
    obtain ⟨b2, off2, e2, hc⟩ := o.ints.cells h0
    rw [ea] at e2; cases e2
    have h1 := hc 0 h0
    rw [cell_of_row w _ _ _ _ (0, 0) hp] at h1
    rcases off with _ | off
    · simp at h1
    · simp at h1
  refine ⟨⟨ao, cap, e, ⟨o.ints.len, fun h0 => ?_, o.ints.fits⟩, fun b' off h0 ea => ⟨Nat.lt_of_lt_of_le (o.out b' off h0 ea).lt k.size, (o.out b' off h0 ea).no⟩⟩, l.len, l.bd⟩
  obtain ⟨b2, off2, e2, hc⟩ := o.ints.cells h0
  exact ⟨b2, off2, e2, fun j hj => k.cell (hc j hj) (hne b2 off2 h0 e2)⟩

theorem outInts_of {w w1 : World} {h : DH} {s : DS} {al : Option Addr} {c : Nat} {f : List Int} (hf : IntsAt w al c f) (hb : Below w.heap.size w w1) (ho : ∀ j, own h s j → w.heap.size ≤ j) : OutInts w1 h s al c f := by
  refine ⟨hf.kept hb (Nat.le_refl _), fun b off h0 e => ?_⟩
  obtain ⟨b2, off2, e2, hc⟩ := hf.cells h0
  rw [e] at e2; cases e2
  have hl : b < w.heap.size := World.block_lt_of_cell? w _ (hc 0 h0)
  exact ⟨Nat.lt_of_lt_of_le hl hb.size, fun hk => by have := ho _ hk; omega⟩

theorem keep_other {g p : Nat} (h : g ≠ p) (w : World) (v : Value) : (w.setCell ⟨p, 0, none⟩ v).heap[g]? = w.heap[g]? := Below.heap_setCell w ⟨p, 0, none⟩ v g h

/-- Where Most's variables lie. -/
structure MBoxes (w W : World) (pm pn pl pw ps pv : Nat) (ar al wo : Option Addr) (cr cl wc : Nat) (fs gs : List (List Int)) (ws : List Int) : Prop where
  below : Below w.heap.size w W
  m : W.cell? ⟨pm, 1, none⟩ = some (.slice ar fs.length cr)
  l : W.cell? ⟨pl, 0, none⟩ = some (.slice al gs.length cl)
  wt : W.cell? ⟨pw, 0, none⟩ = some (.slice wo ws.length wc)
  no : W.heap[pn]? = some (.cells #[.bool false] 4 (0, 0))
  sum : W.cell? ⟨ps, 0, none⟩ = some (.int .i64 0)
  v : W.cell? ⟨pv, 0, none⟩ = some (.slice none 0 0)
  fs' : W.frozen? ⟨ps, 0, none⟩ = false
  fv : W.frozen? ⟨pv, 0, none⟩ = false
  ne : pn ≠ pm ∧ pn ≠ pl ∧ pn ≠ pw ∧ pn ≠ ps ∧ pn ≠ pv ∧ ps ≠ pv
  lo : w.heap.size ≤ pn ∧ w.heap.size ≤ ps ∧ w.heap.size ≤ pv

def allF (n : Nat) (fs : List (List Int)) (σ : Nat → Bool) : Bool := fs.all (fun f => evalF (byLev (List.range n) σ) f)
def MostR (W : World) (n : Nat) (fs gs : List (List Int)) (ws : List Int) (pn ps pv : Nat) (w' : World) : Prop :=
  Keeps (fun b => b = pn ∨ b = ps ∨ b = pv) W w' ∧ w'.frozen? ⟨ps, 0, none⟩ = false ∧ w'.frozen? ⟨pv, 0, none⟩ = false ∧ ((∃ sum g vs, w'.cell? ⟨pn, 0, none⟩ = some (.bool false) ∧ w'.cell? ⟨ps, 0, none⟩ = some (.int .i64 sum) ∧ w'.cell? ⟨pv, 0, none⟩ = some (.slice (some ⟨g, 0, none⟩) n n) ∧ BRow w' W.heap.size g n n vs ∧ Best (allF n fs) (fun σ => sumF (byLev (List.range n) σ) gs ws) sum vs) ∨
  (w'.cell? ⟨pn, 0, none⟩ = some (.bool true) ∧ w'.cell? ⟨ps, 0, none⟩ = some (.int .i64 0) ∧ w'.cell? ⟨pv, 0, none⟩ = some (.slice none 0 0) ∧ ∀ σ, allF n fs σ = false))

set_option maxRecDepth 100000 in
set_option maxHeartbeats 3200000 in
theorem most1_any (n : Nat) (fs gs : List (List Int)) (ws : List Int) (w W : World) (pm pn pl pw ps pv : Nat) (ar al wo : Option Addr) (cr cl wc : Nat) (hn : n ≤ 40) (mb : MBoxes w W pm pn pl pw ps pv ar al wo cr cl wc fs gs ws) (hf : FormsAt w ar fs) (hg : FormsAt w al gs) (hws : IntsAt w wo wc ws) (tab : Tab w.heap.size w)
    (hfl : fs.length < 20) (hgl : gs.length ≤ 12) (hwl : ws.length = gs.length) (hvf : ∀ k, k < fs.length → validB (fs.getD k []) n = true) (hvg : ∀ k, k < gs.length → validB (gs.getD k []) n = true) (hbd : ∀ x ∈ ws, -1000000 ≤ x ∧ x ≤ 1000000) (hst : fs.length * (101 * 2 ^ n) + costM n gs.length ≤ 524288) :
    ∀ w0, Below W.heap.size W w0 → Works w0 n 524288 52 #[.pointer (some ⟨pm, 0, none⟩), .pointer (some ⟨pn, 0, none⟩), .pointer (some ⟨pl, 0, none⟩), .pointer (some ⟨pw, 0, none⟩), .pointer (some ⟨ps, 0, none⟩), .pointer (some ⟨pv, 0, none⟩)] (MostR W n fs gs ws pn ps pv) := by
  intro w0 hb0 h s w1 hfr
  obtain rfl : n = h.n := hfr.hn.symm
  have hb1 : Below W.heap.size W w1 := hb0.trans (hfr.below.mono hb0.size)
  have hown : ∀ j, own h s j → W.heap.size ≤ j := fun j hj => Nat.le_trans hb0.size (hfr.own j hj)
  have hwW := mb.below.size
  have hbw : Below w.heap.size w w1 := mb.below.trans (hb1.mono hwW)
  have hownw : ∀ j, own h s j → w.heap.size ≤ j := fun j hj => Nat.le_trans hwW (hown j hj)
  have hP : 0 < 2 ^ h.n := Nat.two_pow_pos _
  have hall := all_any h (by omega) s (List.range h.n) ar cr fs w1 hfr.dia hfr.lv (outForms_of hf hbw hownw) hvf hfl (by rw [hfr.steps]; omega) (by rw [hfr.steps]; omega) (by rw [hfr.cnt]; omega)
  have c1 : w1.cell? ⟨pm, 1, none⟩ = some (.slice ar fs.length cr) := cell_kept mb.m hb1 (Nat.le_refl _)
  have lpm := World.block_lt_of_cell? W _ mb.m
  have Hall := Lib.hid hall; have Hfr := Lib.hid hfr; have Hb1 := Lib.hid hb1; have Hown := Lib.hid hown; have Mb := Lib.hid mb
  clear hall hfr hb1 hown mb
  go_enter Tryz.func52, Tryz.ntmps52
  go_wp2_with fail
  refine Hall.out.mono ?_
  rintro e w2 ⟨s1, k, rfl, p⟩
  have u := p.upd
  have hkW : Keeps (fun _ => False) W w2 := ⟨u.keeps.os.trans Hb1.out.os, u.keeps.tape.trans Hb1.out.tape, u.keeps.output.trans Hb1.out.output, Nat.le_trans Hb1.out.size u.keeps.size, fun j hj _ => (u.keeps.block j (Nat.lt_of_lt_of_le hj Hb1.out.size) (fun ho => by have := Hown.out j ho; omega)).trans (Hb1.out.block j hj)⟩
  have hown1 : ∀ j, own h s1 j → W.heap.size ≤ j := fun j hj => by
    rcases u.own j hj with h1 | h1
    · exact Hown.out j h1
    · exact Nat.le_trans Hb1.out.size h1
  have lpn : pn < W.heap.size := (Array.getElem?_eq_some_iff.1 Mb.out.no).1
  have lps := World.block_lt_of_cell? W _ Mb.out.sum
  have lpv := World.block_lt_of_cell? W _ Mb.out.v
  have hno2 := (hkW.block pn lpn (fun e => e)).trans Mb.out.no
  have hn2 : w2.cell? ⟨pn, 0, none⟩ = some (.bool false) := (cell_of_row w2 pn 0 _ _ (0, 0) hno2).trans rfl
  have hnf : w2.frozen? ⟨pn, 0, none⟩ = false := by simp [World.frozen?, hno2]
  obtain ⟨e1, e2, e3, e4, e5, e6⟩ := Mb.out.ne
  obtain ⟨o1, o2, o3⟩ := Mb.out.lo
  have hset : ∀ b (q : Nat) (v : Value), pn ≠ q → w2.cell? ⟨q, 0, none⟩ = some v → (w2.setCell ⟨pn, 0, none⟩ b).cell? ⟨q, 0, none⟩ = some v := fun b q v hq hc => by
    rw [World.cell?_setCell_other (h := fun e => hq (congrArg Addr.block e))]; exact hc
  have z4a := fun b => hset b ps _ e4 (hkW.cell Mb.out.sum (fun e => e))
  have z5a := fun b => hset b pv _ e5 (hkW.cell Mb.out.v (fun e => e))
  have z6a : ∀ b, (w2.setCell ⟨pn, 0, none⟩ b).frozen? ⟨ps, 0, none⟩ = false := fun b => by rw [World.frozen?_setCell, hkW.frozen lps (fun e => e)]; exact Mb.out.fs'
  have z7a : ∀ b, (w2.setCell ⟨pn, 0, none⟩ b).frozen? ⟨pv, 0, none⟩ = false := fun b => by rw [World.frozen?_setCell, hkW.frozen lpv (fun e => e)]; exact Mb.out.fv
  by_cases hk0 : k = 0
  · subst hk0
    have hfin : MostR W h.n fs gs ws pn ps pv (w2.setCell ⟨pn, 0, none⟩ (.bool true)) := ⟨(hkW.mono (fun _ e => e.elim)).setCell (p := ⟨pn, 0, none⟩) (Or.inl (Or.inl rfl)) _, z6a _, z7a _, .inr ⟨World.cell?_setCell_same _ _ _ hn2, z4a _, z5a _, fun σ => by have := p.mean σ; rw [sem_no] at this; exact this.symm⟩⟩
    have z1 := World.cell?_setCell_same w2 ⟨pn, 0, none⟩ (.bool true) hn2
    have hq : ((0 : Int) == 0) = true := by decide
    have Hfin := Lib.hid hfin
    clear hfin hset p u hkW hown1 z4a z5a z6a z7a
    go_wp2_with fail
    refine bodyPost_end (results_none rfl _ _ _) rfl ?_
    exact ⟨rfl, Hfin.out⟩
  · have hq : ((k : Int) == 0) = false := beq_eq_false_iff_ne.2 (by omega)
    have hkp : Keeps (fun j => j = pn) w2 (w2.setCell ⟨pn, 0, none⟩ (.bool false)) := Keeps.setCell (S := fun j => j = pn) (p := ⟨pn, 0, none⟩) (Keeps.refl _ w2) (Or.inl rfl) _
    have hnn : ¬ own h s1 pn := fun e => by have := hown1 _ e; omega
    have hbw3 : Below w.heap.size w (w2.setCell ⟨pn, 0, none⟩ (.bool false)) := (Mb.out.below.trans (hkW.below (by omega) (fun j e => e.elim))).trans (hkp.below (by have := hkW.size; omega) (fun j e => by omega))
    have hlow : ∀ j, own h s1 j → w.heap.size ≤ j := fun j hj => Nat.le_trans hwW (hown1 j hj)
    have hlv := (Hfr.out.lv.upd u).side hkp hno2
    have hfu : FUpd (fun j => j = pn) w2 (w2.setCell ⟨pn, 0, none⟩ (.bool false)) h s1 s1 := (FUpd.refl u.dia).side hkp (fun b e => Or.inl e) (fun b e => by subst e; exact hnn)
    have q1 := p.steps; have q2 := p.le; have q3 := p.cnt; have q4 := Hfr.out.steps; have q5 := Hfr.out.cnt
    have hmost := most_any w.heap.size h hn s1 k al cl gs wo wc ws (w2.setCell ⟨pn, 0, none⟩ (.bool false)) hfu.dia hgl hwl hlv Hfr.out.ord (outForms_of hg hbw3 hlow) (outInts_of hws hbw3 hlow) hvg hbd p.hk hk0 hlow hbw3.size (tab.on hbw3) (by omega) (by omega) (by omega)
    rw [hwl] at hmost
    have z1 := World.cell?_setCell_same w2 ⟨pn, 0, none⟩ (.bool false) hn2
    have z2 := hset (.bool false) pl _ e2 (hkW.cell Mb.out.l (fun e => e))
    have z3 := hset (.bool false) pw _ e3 (hkW.cell Mb.out.wt (fun e => e))
    have z4 := z4a (.bool false)
    have z5 := z5a (.bool false)
    have z6 := z6a (.bool false)
    have z7 := z7a (.bool false)
    have hsz3 : (w2.setCell ⟨pn, 0, none⟩ (.bool false)).heap.size = w2.heap.size := by simp [World.setCell]
    have hs2 := hkW.size
    have hKK : Keeps (fun b => b = pn ∨ b = ps ∨ b = pv) W (w2.setCell ⟨pn, 0, none⟩ (.bool false)) := (hkW.mono (fun _ e => e.elim)).setCell (p := ⟨pn, 0, none⟩) (Or.inl (Or.inl rfl)) _
    have HKK := Lib.hid hKK
    clear hKK
    have Hmost := Lib.hid hmost; have P := Lib.hid p; have Hown1 := Lib.hid hown1
    clear z4a z5a z6a z7a hmost hset p u hkW hown1 hfu hlv hlow hbw3 hkp q1 q2 q3 q4 q5
    go_wp2_with fail
    refine Hmost.out.mono ?_
    rintro e w4 ⟨g, vs, s2, sum, rfl, hrow, hbest, hfu⟩
    have hkw : ∀ q, q < W.heap.size → w4.heap[q]? = (w2.setCell ⟨pn, 0, none⟩ (.bool false)).heap[q]? := fun q hq => hfu.block (by rw [hsz3]; omega) (fun e => by have := Hown1.out _ e; omega) (fun e => e)
    have y1 : w4.cell? ⟨pn, 0, none⟩ = some (.bool false) := (World.cell?_of_block (a := ⟨pn, 0, none⟩) (hkw pn lpn)).trans z1
    have y4 : w4.cell? ⟨ps, 0, none⟩ = some (.int .i64 0) := (World.cell?_of_block (a := ⟨ps, 0, none⟩) (hkw ps lps)).trans z4
    have y5 : w4.cell? ⟨pv, 0, none⟩ = some (.slice none 0 0) := (World.cell?_of_block (a := ⟨pv, 0, none⟩) (hkw pv lpv)).trans z5
    have y6 : w4.frozen? ⟨ps, 0, none⟩ = false := (World.frozen?_of_block (hkw ps lps)).trans z6
    have y7 : w4.frozen? ⟨pv, 0, none⟩ = false := (World.frozen?_of_block (hkw pv lpv)).trans z7
    have hgg := hrow.lt
    have hK4 := HKK.out.trans hfu.keeps (fun j hj => hj.elim (fun h1 => Or.inr (Hown1.out j h1)) (fun e => e.elim))
    have hfin : MostR W h.n fs gs ws pn ps pv ((w4.setCell ⟨ps, 0, none⟩ (.int .i64 sum)).setCell ⟨pv, 0, none⟩ (.slice (some ⟨g, 0, none⟩) h.n h.n)) := by
      refine ⟨(hK4.setCell (p := ⟨ps, 0, none⟩) (Or.inl (Or.inr (Or.inl rfl))) _).setCell (p := ⟨pv, 0, none⟩) (Or.inl (Or.inr (Or.inr rfl))) _, by rw [World.frozen?_setCell, World.frozen?_setCell]; exact y6, by rw [World.frozen?_setCell, World.frozen?_setCell]; exact y7, .inl ⟨sum, g, vs, ?_, ?_, ?_, ?_, ?_⟩⟩
      · rw [World.cell?_setCell_other (h := fun e => e5 (congrArg Addr.block e).symm), World.cell?_setCell_other (h := fun e => e4 (congrArg Addr.block e).symm)]; exact y1
      · rw [World.cell?_setCell_other (h := fun e => e6 (congrArg Addr.block e).symm)]; exact World.cell?_setCell_same _ _ _ y4
      · exact World.cell?_setCell_same _ _ _ (show _ = some (.slice none 0 0) by rw [World.cell?_setCell_other (h := fun e => e6 (congrArg Addr.block e))]; exact y5)
      · exact ((hrow.low (base' := W.heap.size) (by omega)).of_block (keep_other (p := ps) (by omega) w4 _)).of_block (keep_other (p := pv) (by omega) _ _)
      · have hA : sem s1.nodes k = allF h.n fs := funext P.out.mean
        rw [hA] at hbest
        exact hbest
    have Hfin := Lib.hid hfin
    clear hfin hrow hbest hfu hkw hK4
    go_wp2_with fail
    refine bodyPost_end (results_none rfl _ _ _) rfl ?_
    exact ⟨rfl, Hfin.out⟩

open Go Go.RowKit Go.WideMaps Go.Maps
set_option linter.unusedSimpArgs false
set_option linter.unusedVariables false

def MostAnswer (n : Nat) (fs gs : List (List Int)) (ws : List Int) (e : Ending) (w' : World) : Prop :=
  (∃ sum g vs, e = .returned (.tuple #[.int .i64 sum, .slice (some ⟨g, 0, none⟩) n n, .int .i64 0]) ∧ BRow w' 0 g n n vs ∧ Best (allF n fs) (fun σ => sumF (byLev (List.range n) σ) gs ws) sum vs) ∨
  (e = .returned (.tuple #[.int .i64 0, .slice none 0 0, .int .i64 12]) ∧ ∀ σ, allF n fs σ = false)

theorem sp_drew {W : World} {ps pv : Nat} {sum v : Value} (h : W.cell? ⟨ps, 0, none⟩ = some sum ∧ W.cell? ⟨pv, 0, none⟩ = some v ∧ W.frozen? ⟨ps, 0, none⟩ = false ∧ W.frozen? ⟨pv, 0, none⟩ = false) : W.drew.cell? ⟨ps, 0, none⟩ = some sum ∧ W.drew.cell? ⟨pv, 0, none⟩ = some v ∧ W.drew.frozen? ⟨ps, 0, none⟩ = false ∧ W.drew.frozen? ⟨pv, 0, none⟩ = false := h
theorem sp_s {W : World} {ps pv : Nat} {sum v : Value} (hne : ps ≠ pv) (h : W.cell? ⟨ps, 0, none⟩ = some sum ∧ W.cell? ⟨pv, 0, none⟩ = some v ∧ W.frozen? ⟨ps, 0, none⟩ = false ∧ W.frozen? ⟨pv, 0, none⟩ = false) : (W.setCell ⟨ps, 0, none⟩ sum).cell? ⟨ps, 0, none⟩ = some sum ∧ (W.setCell ⟨ps, 0, none⟩ sum).cell? ⟨pv, 0, none⟩ = some v ∧ (W.setCell ⟨ps, 0, none⟩ sum).frozen? ⟨ps, 0, none⟩ = false ∧ (W.setCell ⟨ps, 0, none⟩ sum).frozen? ⟨pv, 0, none⟩ = false :=
  ⟨World.cell?_setCell_same _ _ _ h.1, by rw [World.cell?_setCell_other (h := fun e => hne (congrArg Addr.block e))]; exact h.2.1, by rw [World.frozen?_setCell]; exact h.2.2.1, by rw [World.frozen?_setCell]; exact h.2.2.2⟩
theorem sp_v {W : World} {ps pv : Nat} {sum v : Value} (hne : ps ≠ pv) (h : W.cell? ⟨ps, 0, none⟩ = some sum ∧ W.cell? ⟨pv, 0, none⟩ = some v ∧ W.frozen? ⟨ps, 0, none⟩ = false ∧ W.frozen? ⟨pv, 0, none⟩ = false) : (W.setCell ⟨pv, 0, none⟩ v).cell? ⟨ps, 0, none⟩ = some sum ∧ (W.setCell ⟨pv, 0, none⟩ v).cell? ⟨pv, 0, none⟩ = some v ∧ (W.setCell ⟨pv, 0, none⟩ v).frozen? ⟨ps, 0, none⟩ = false ∧ (W.setCell ⟨pv, 0, none⟩ v).frozen? ⟨pv, 0, none⟩ = false :=
  ⟨by rw [World.cell?_setCell_other (h := fun e => hne (congrArg Addr.block e).symm)]; exact h.1, World.cell?_setCell_same _ _ _ h.2.1, by rw [World.frozen?_setCell]; exact h.2.2.1, by rw [World.frozen?_setCell]; exact h.2.2.2⟩
theorem boxes5 (w : World) (o0 o1 o2 o3 o4 : Obj) : (((((w.alloc o0).alloc o1).alloc o2).alloc o3).alloc o4).heap[w.heap.size]? = some o0 ∧ (((((w.alloc o0).alloc o1).alloc o2).alloc o3).alloc o4).heap[w.heap.size + 1]? = some o1 ∧ (((((w.alloc o0).alloc o1).alloc o2).alloc o3).alloc o4).heap[w.heap.size + 2]? = some o2 ∧
    (((((w.alloc o0).alloc o1).alloc o2).alloc o3).alloc o4).heap[w.heap.size + 3]? = some o3 ∧ (((((w.alloc o0).alloc o1).alloc o2).alloc o3).alloc o4).heap[w.heap.size + 4]? = some o4 ∧ (((((w.alloc o0).alloc o1).alloc o2).alloc o3).alloc o4).heap.size = w.heap.size + 5 ∧ Below w.heap.size w (((((w.alloc o0).alloc o1).alloc o2).alloc o3).alloc o4) := by
  have up : ∀ (W : World) (o o' : Obj) (j : Nat), W.heap[j]? = some o → (W.alloc o').heap[j]? = some o := fun W o o' j hj => (Below.heap_alloc _ _ _ (Array.getElem?_eq_some_iff.1 hj).1).trans hj
  have nw : ∀ (W : World) (o : Obj) (j : Nat), W.heap.size = j → (W.alloc o).heap[j]? = some o := fun W o j hj => by subst hj; exact heap_alloc_new _ _
  refine ⟨up _ _ _ _ (up _ _ _ _ (up _ _ _ _ (up _ _ _ _ (nw _ _ _ rfl)))), up _ _ _ _ (up _ _ _ _ (up _ _ _ _ (nw _ _ _ (by simp)))), up _ _ _ _ (up _ _ _ _ (nw _ _ _ (by simp))), up _ _ _ _ (nw _ _ _ (by simp)), nw _ _ _ (by simp), by simp, ?_⟩
  exact ((((below_alloc _ _).alloc (by simp) _).alloc (by simp; omega) _).alloc (by simp; omega) _).alloc (by simp; omega) _

set_option maxRecDepth 100000 in
set_option maxHeartbeats 6400000 in
theorem most_all (ao ar al wo : Option Addr) (ca cr cl wc : Nat) (ss : List ByteArray) (fs gs : List (List Int)) (ws : List Int) (w : World) (h : ModelAt w ao ar ss fs) (hcr : ar = none → cr = 0) (hcl : al = none → cl = 0) (hg : FormsAt w al gs) (hws : IntsAt w wo wc ws) (tab : Tab w.heap.size w)
    (hm : modelErr ss fs = 0) (hn : ss.length ≤ 40) (hfl : fs.length < 20) (hgl : gs.length ≤ 12) (hwl : ws.length = gs.length) (hvf : ∀ k, k < fs.length → validB (fs.getD k []) ss.length = true) (hvg : ∀ k, k < gs.length → validB (gs.getD k []) ss.length = true) (hbd : ∀ x ∈ ws, -1000000 ≤ x ∧ x ≤ 1000000)
    (hst : fs.length * (101 * 2 ^ ss.length) + costM ss.length gs.length ≤ 524288) :
    Calls Tryz.prog 31 #[.agg #[.slice ao ss.length ca, .slice ar fs.length cr], .slice al gs.length cl, .slice wo ws.length wc] w (fun e w' => MostAnswer ss.length fs gs ws e w' ∧ Below w.heap.size w w') := by
  have hmf : ∀ (fn : Fn) (first cap : Array Value) (w : World), (Instr.makeFunc fn first cap).run Tryz.prog w = .ok (.func fn first cap) w := fun _ _ _ _ => rfl
  have hck := fun (W : World) (hb : Below w.heap.size w W) => checkList_ok ao ar al ca cr cl ss fs gs W (h.kept hb (Nat.le_refl _)) (hg.kept hb (Nat.le_refl _)) hm (by omega)
  rw [formsErr_all gs ss.length hvg] at hck
  have Hck := Lib.hid hck; have Hh := Lib.hid h; have Hg := Lib.hid hg; have Hws := Lib.hid hws; have Htab := Lib.hid tab; have Hvf := Lib.hid hvf; have Hvg := Lib.hid hvg; have Hbd := Lib.hid hbd; have Hst := Lib.hid hst
  clear hck h hg hws tab hvf hvg hbd hst
  go_enter Tryz.func31, Tryz.ntmps31
  go_wp2_with fail
  have hbx := boxes5 w (.cells #[.slice ao ss.length ca, .slice ar fs.length cr] 25) (.cells #[.slice al gs.length cl] 23) (.cells #[.slice wo ws.length wc] 26) (.cells #[.int .i64 0] 3) (.cells #[.slice none 0 0] 39)
  rw [hwl] at hbx
  obtain ⟨x0, x1, x2, x3, x4, x5, x6⟩ := hbx
  have X0 := Lib.hid x0; have X1 := Lib.hid x1; have X2 := Lib.hid x2; have X3 := Lib.hid x3; have X4 := Lib.hid x4; have X5 := Lib.hid x5; have X6 := Lib.hid x6
  clear x0 x1 x2 x3 x4 x5 x6
  refine (Hck.out _ X6.out).mono ?_
  rintro e w1 ⟨rfl, hb1⟩
  have K1 := Keeps.of_below (S := fun _ => False) hb1 (Nat.le_refl _)
  have y0 := (K1.block w.heap.size (Array.getElem?_eq_some_iff.1 X0.out).1 (fun e => e)).trans X0.out
  have y1 := (K1.block (w.heap.size + 1) (Array.getElem?_eq_some_iff.1 X1.out).1 (fun e => e)).trans X1.out
  have y2 := (K1.block (w.heap.size + 2) (Array.getElem?_eq_some_iff.1 X2.out).1 (fun e => e)).trans X2.out
  have y3 := (K1.block (w.heap.size + 3) (Array.getElem?_eq_some_iff.1 X3.out).1 (fun e => e)).trans X3.out
  have y4 := (K1.block (w.heap.size + 4) (Array.getElem?_eq_some_iff.1 X4.out).1 (fun e => e)).trans X4.out
  have hbw := X6.out.trans (hb1.mono (by rw [X5.out]; omega))
  have hs1 : w.heap.size + 5 ≤ w1.heap.size := by have := hb1.size; rw [X5.out] at this; exact this
  clear K1 hb1 X0 X1 X2 X3 X4 X5 X6 Hck hmf
  generalize epv : w.heap.size + 1 + 1 + 1 + 1 = pv at *
  generalize eps : w.heap.size + 1 + 1 + 1 = ps at *
  generalize epw : w.heap.size + 1 + 1 = pw at *
  generalize epl : w.heap.size + 1 = pl at *
  have ePV : pv = w.heap.size + 4 := by omega
  have ePS : ps = w.heap.size + 3 := by omega
  have ePW : pw = w.heap.size + 2 := by omega
  have ePL : pl = w.heap.size + 1 := by omega
  generalize ePM : w.heap.size = pm at *
  have E := Lib.hid (And.intro ePV (And.intro ePS (And.intro ePW (And.intro ePL (And.intro ePM hs1)))))
  have c0 : w1.cell? ⟨pm, 0, none⟩ = some (.slice ao ss.length ca) := (cell_of_row w1 pm 0 _ _ (0, 0) y0).trans rfl
  have c1 : w1.cell? ⟨pm, 1, none⟩ = some (.slice ar fs.length cr) := (cell_of_row w1 pm 1 _ _ (0, 0) y0).trans rfl
  have c2 : w1.cell? ⟨pl, 0, none⟩ = some (.slice al gs.length cl) := (cell_of_row w1 pl 0 _ _ (0, 0) y1).trans rfl
  have c3 : w1.cell? ⟨pw, 0, none⟩ = some (.slice wo gs.length wc) := (cell_of_row w1 pw 0 _ _ (0, 0) y2).trans rfl
  have Y := Lib.hid (And.intro y0 (And.intro y1 (And.intro y2 (And.intro y3 y4))))
  have Hbw := Lib.hid hbw
  clear epv eps epw epl ePV ePS ePW ePL ePM hs1 y0 y1 y2 y3 y4 hbw
  go_wp2_with fail
  go_loopw [26] (fun i wr => ∃ (k : Nat), k ≤ gs.length ∧ i = .int .i64 k ∧ wr = w1) (fun i _ => gs.length - (intOf i).toNat)
  case atStart => exact ⟨0, Nat.zero_le _, rfl, rfl⟩
  case round =>
    obtain ⟨k, hk, rfl, rfl⟩ := hrel
    by_cases hlt : k < gs.length
    · have hwi := Hws.out.kept Hbw.out (by have := E.out; omega)
      obtain ⟨wb, wof, rfl, hwc⟩ := hwi.cells (by omega)
      have hck := hwc k (by omega)
      have hb := Hbd.out (ws.getD k 0) (by simp [List.getD, show k < ws.length by omega])
      have i1 : (k : Int) < (gs.length : Int) := by omega
      clear hwi hwc
      generalize ws.getD k 0 = x at *
      have d1 : decide (x < -1000000) = false := decide_eq_false (by omega)
      have d2 : decide ((1000000 : Int) < x) = false := decide_eq_false (by omega)
      go_wp2_with fail
      go_roundw
      case rel => exact ⟨k + 1, by omega, by go_num, trivial⟩
      case measure => simp [intOf]; omega
    · obtain rfl : k = gs.length := by omega
      go_wp2_with fail
      obtain ⟨y0, y1, y2, y3, y4⟩ := Y.out
      obtain ⟨ePV, ePS, ePW, ePL, ePM, hs1⟩ := E.out
      have hnb := heap_alloc_new wr (Obj.cells #[.bool false] 4)
      have kV : Keeps (fun _ => False) wr (wr.alloc (Obj.cells #[.bool false] 4)) := (Keeps.refl _ _).alloc _
      have hVs : (wr.alloc (Obj.cells #[.bool false] 4)).heap.size = wr.heap.size + 1 := by simp
      have hMB : ∀ W, Keeps (fun _ => False) (wr.alloc (Obj.cells #[.bool false] 4)) W → MBoxes w W pm wr.heap.size pl pw ps pv ar al wo cr cl wc fs gs ws := fun W k => by
        have kw := kV.trans k (fun _ e => e.elim)
        have z1 := (kw.block pm (by omega) (fun e => e)).trans y0
        have z2 := (kw.block pl (by omega) (fun e => e)).trans y1
        have z3 := (kw.block pw (by omega) (fun e => e)).trans y2
        have z4 := (kw.block ps (by omega) (fun e => e)).trans y3
        have z5 := (kw.block pv (by omega) (fun e => e)).trans y4
        have z6 := (k.block wr.heap.size (by omega) (fun e => e)).trans hnb
        refine ⟨?_, (cell_of_row W pm 1 _ _ (0, 0) z1).trans rfl, (cell_of_row W pl 0 _ _ (0, 0) z2).trans rfl, ?_, z6, (cell_of_row W ps 0 _ _ (0, 0) z4).trans rfl, (cell_of_row W pv 0 _ _ (0, 0) z5).trans rfl, by simp [World.frozen?, z4], by simp [World.frozen?, z5], by omega, by omega⟩
        · have := Hbw.out
          rw [← ePM] at this
          exact this.trans (kw.below (by omega) (fun _ e => e.elim))
        · rw [hwl]; exact (cell_of_row W pw 0 _ _ (0, 0) z3).trans rfl
      have hj : joined [(ar, cr, fs), (al, cl, gs)] = fs ++ gs := by simp [joined]
      have hHC : ∀ W, Keeps (fun _ => False) (wr.alloc (Obj.cells #[.bool false] 4)) W → ∀ pb, W.cell? ⟨pb, 0, none⟩ = some (.slice ar fs.length cr) → W.cell? ⟨pb, 1, none⟩ = some (.slice al gs.length cl) → Calls Tryz.prog 51 #[.slice (some ⟨pb, 0, none⟩) 2 2] W (fun e w' => ∃ a c, e = .returned (.slice a (fs ++ gs).length c) ∧ Keeps (fun _ => False) (wr.alloc (Obj.cells #[.bool false] 4)) w') := by
        intro W k pb z0 z1
        have hbW := (hMB W k).below
        have := concat_any pb 2 [(ar, cr, fs), (al, cl, gs)] W (fun k hk => by
          have : k = 0 ∨ k = 1 := by simp at hk; omega
          rcases this with rfl | rfl
          · exact ⟨ar, cr, fs, rfl, z0, Hh.out.forms.kept hbW (Nat.le_refl _), hcr⟩
          · exact ⟨al, cl, gs, rfl, z1, Hg.out.kept hbW (Nat.le_refl _), hcl⟩) (by simp) (by rw [hj]; simp; omega)
        rw [hj] at this
        refine this.mono ?_
        rintro e w2 ⟨a, c, he, _, _, hb⟩
        exact ⟨a, c, he, k.trans (Keeps.of_below (S := fun _ => False) hb (Nat.le_refl _)) (fun _ e => e.elim)⟩
      have hHS : ∀ W, Keeps (fun _ => False) (wr.alloc (Obj.cells #[.bool false] 4)) W → ∀ a c, Calls Tryz.prog 50 #[.int .i64 ss.length, .slice a (fs.length + gs.length) c, .func (Fn.func 52) #[] #[.pointer (some ⟨pm, 0, none⟩), .pointer (some ⟨wr.heap.size, 0, none⟩), .pointer (some ⟨pl, 0, none⟩), .pointer (some ⟨pw, 0, none⟩), .pointer (some ⟨ps, 0, none⟩), .pointer (some ⟨pv, 0, none⟩)]] W (fun e w' => e = .returned (.tuple #[]) ∧ MostR W ss.length fs gs ws wr.heap.size ps pv w') := fun W k a c =>
        solve_any ss.length a (fs.length + gs.length) c _ _ _ W hn enters_most1 (most1_any ss.length fs gs ws w W pm wr.heap.size pl pw ps pv ar al wo cr cl wc hn (hMB W k) Hh.out.forms Hg.out Hws.out (by have := Htab.out; rw [← ePM] at this; exact this) hfl hgl hwl Hvf.out Hvg.out Hbd.out Hst.out)
      have hST : ∀ W w', Keeps (fun _ => False) (wr.alloc (Obj.cells #[.bool false] 4)) W → MostR W ss.length fs gs ws wr.heap.size ps pv w' → w'.cell? ⟨pm, 0, none⟩ = some (.slice ao ss.length ca) ∧ w'.cell? ⟨pm, 1, none⟩ = some (.slice ar fs.length cr) ∧ w'.cell? ⟨pl, 0, none⟩ = some (.slice al gs.length cl) := fun W w' k r => by
        have kw := kV.trans k (fun _ e => e.elim)
        exact ⟨r.1.cell (kw.cell c0 (fun e => e)) (by omega), r.1.cell (kw.cell c1 (fun e => e)) (by omega), r.1.cell (kw.cell c2 (fun e => e)) (by omega)⟩
      have hSS : ∀ W, Keeps (fun _ => False) (wr.alloc (Obj.cells #[.bool false] 4)) W → W.cell? ⟨pm, 0, none⟩ = some (.slice ao ss.length ca) ∧ W.cell? ⟨pm, 1, none⟩ = some (.slice ar fs.length cr) ∧ W.cell? ⟨pl, 0, none⟩ = some (.slice al gs.length cl) := fun W k =>
        ⟨(kV.trans k (fun _ e => e.elim)).cell c0 (fun e => e), (kV.trans k (fun _ e => e.elim)).cell c1 (fun e => e), (kV.trans k (fun _ e => e.elim)).cell c2 (fun e => e)⟩
      have hHC2 : ∀ W, (W = (wr.alloc (Obj.cells #[.bool false] 4)).alloc (.cells #[.slice ar fs.length cr, .slice al gs.length cl] 23) ∨ W = ((wr.alloc (Obj.cells #[.bool false] 4)).alloc (.cells #[.slice ar fs.length cr, .slice al gs.length cl] 23)).drew) → Calls Tryz.prog 51 #[.slice (some ⟨wr.heap.size + 1, 0, none⟩) 2 2] W (fun e w' => ∃ a c, e = .returned (.slice a (fs ++ gs).length c) ∧ Keeps (fun _ => False) (wr.alloc (Obj.cells #[.bool false] 4)) w') := by
        intro W hW
        rcases hW with rfl | rfl
        · exact hHC _ ((Keeps.refl _ _).alloc _) _ (box_at0 hVs) (box_at1 hVs)
        · exact hHC _ ((Keeps.refl _ _).alloc _).drew _ (show (World.alloc _ _).cell? _ = _ from box_at0 hVs) (show (World.alloc _ _).cell? _ = _ from box_at1 hVs)
      have HC := Lib.hid hHC2; have HSo := Lib.hid hHS; have HSS := Lib.hid hSS; have HST := Lib.hid hST; have KV := Lib.hid kV
      have hmf : ∀ (fn : Fn) (first cap : Array Value) (w : World), (Instr.makeFunc fn first cap).run Tryz.prog w = .ok (.func fn first cap) w := fun _ _ _ _ => rfl
      clear hHC hHC2 hHS hSS hST hMB y0 y1 y2 y3 y4 ePV ePS ePW ePL ePM hnb kV c0 c1 c2 c3 hj
      generalize (wr.alloc (Obj.cells #[.bool false] 4)) = V at *
      go_region_held3 (fun W => W.cell? ⟨pm, 0, none⟩ = some (.slice ao ss.length ca) ∧ W.cell? ⟨pm, 1, none⟩ = some (.slice ar fs.length cr) ∧ W.cell? ⟨pl, 0, none⟩ = some (.slice al gs.length cl))
        (first | exact HSS.out _ (Keeps.refl _ _) | exact HSS.out _ (Keeps.refl _ _).drew | exact HSS.out _ ((Keeps.refl _ _).alloc _) | exact HSS.out _ ((Keeps.refl _ _).drew.alloc _) | exact HSS.out _ ((Keeps.refl _ _).alloc _).drew | exact HST.out _ _ (by assumption) (by assumption) | exact HSS.out _ (by assumption) | exact HSS.out _ (Keeps.drew (by assumption)))
        (first
          | (go_at_call 51; (with_reducible refine (HC.out _ (by first | exact Or.inl rfl | exact Or.inr rfl)).mono ?_); rintro e w2 ⟨a, c, rfl, k2⟩)
          | (go_at_call 50; (with_reducible refine (HSo.out _ (by first | exact k2 | exact k2.drew) _ _).mono ?_); rintro e w3 ⟨rfl, hr3⟩))
      all_goals
        have hk2 := k2.size
        have hVsz := hVs
        have hne1 : ps ≠ pv := by have := E.out; omega
        have hne2 : pv ≠ ps := fun e => hne1 e.symm
        have hlps : ps < w2.heap.size := by have := E.out; omega
        have hlpv : pv < w2.heap.size := by have := E.out; omega
        obtain ⟨kr, fr1, fr2, hr⟩ := hr3
        have hbl3 : Below w.heap.size w w3 := by
          have e0 := E.out
          have hV := hVs
          have b1 : Below w.heap.size w wr := by rw [e0.2.2.2.2.1]; exact Hbw.out
          exact b1.trans ((KV.out.below (B := w.heap.size) (by omega) (fun _ e => e.elim)).trans ((k2.below (B := w.heap.size) (by omega) (fun _ e => e.elim)).trans (kr.below (B := w.heap.size) (by first | omega | (have hd : w2.drew.heap.size = w2.heap.size := rfl; omega)) (fun j e => by omega))))
        have hps : w.heap.size ≤ ps := by have := E.out; omega
        have hpv : w.heap.size ≤ pv := by have := E.out; omega
        have Hbl3 := Lib.hid hbl3
        clear k2 hbl3 kr
        rcases hr with ⟨sum, g, vs, n1, n2, n3, n4, n5⟩ | ⟨n1, n2, n3, n4⟩
        · have hB := And.intro n2 (And.intro n3 (And.intro fr1 fr2))
          have hgl := n4.lt
          have hd : w2.drew.heap.size = w2.heap.size := rfl
          have hg : g ≠ ps ∧ g ≠ pv := by omega
          have hfin : ∀ W, W = ((w3.setCell ⟨ps, 0, none⟩ (.int .i64 sum)).setCell ⟨pv, 0, none⟩ (.slice (some ⟨g, 0, none⟩) ss.length ss.length)).drew → MostAnswer ss.length fs gs ws (.returned (.tuple #[.int .i64 sum, .slice (some ⟨g, 0, none⟩) ss.length ss.length, .int .i64 0])) W ∧ Below w.heap.size w W := fun W hW => by
            subst hW
            have hb := (Hbl3.out.setCell (p := ⟨ps, 0, none⟩) hps (.int .i64 sum)).setCell (p := ⟨pv, 0, none⟩) hpv (.slice (some ⟨g, 0, none⟩) ss.length ss.length)
            exact ⟨.inl ⟨sum, g, vs, rfl, (((n4.low (Nat.zero_le _)).of_block (keep_other hg.1 _ _)).of_block (keep_other hg.2 _ _)).of_block rfl, n5⟩, hb.os, hb.tape, hb.output, hb.size, hb.block⟩
          have HB := Lib.hid hB; have Hfin := Lib.hid hfin
          clear hB hfin n4 n5 n2 n3 fr1 fr2 hgl hd
          go_wp2_with fail
          go_region_held3 (fun W => W.cell? ⟨ps, 0, none⟩ = some (.int .i64 sum) ∧ W.cell? ⟨pv, 0, none⟩ = some (.slice (some ⟨g, 0, none⟩) ss.length ss.length) ∧ W.frozen? ⟨ps, 0, none⟩ = false ∧ W.frozen? ⟨pv, 0, none⟩ = false)
            (repeat (first | exact HB.out | refine sp_v hne1 ?_ | refine sp_s hne1 ?_ | refine sp_drew ?_))
            (fail)
          have z := sp_drew (sp_v hne1 (sp_s hne1 HB.out))
          have Z := Lib.hid z
          have hf := Hfin.out _ rfl
          have Hf := Lib.hid hf
          clear z hf Hfin
          generalize ((w3.setCell ⟨ps, 0, none⟩ (.int .i64 sum)).setCell ⟨pv, 0, none⟩ (.slice (some ⟨g, 0, none⟩) ss.length ss.length)).drew = V at *
          obtain ⟨z1, z2, z3, z4⟩ := Z.out
          go_wp2_with fail
          refine bodyPost_ret (v := .tuple #[.int .i64 sum, .slice (some ⟨g, 0, none⟩) ss.length ss.length, .int .i64 0]) ?_ rfl Hf.out
          simp [results, Tryz.results31, go_sem, z1, z2]
        · have hfin : MostAnswer ss.length fs gs ws (.returned (.tuple #[.int .i64 0, .slice none 0 0, .int .i64 12])) ((w3.setCell ⟨ps, 0, none⟩ (.int .i64 0)).setCell ⟨pv, 0, none⟩ (.slice none 0 0)) ∧ Below w.heap.size w ((w3.setCell ⟨ps, 0, none⟩ (.int .i64 0)).setCell ⟨pv, 0, none⟩ (.slice none 0 0)) := ⟨.inr ⟨rfl, n4⟩, (Hbl3.out.setCell (p := ⟨ps, 0, none⟩) hps (.int .i64 0)).setCell (p := ⟨pv, 0, none⟩) hpv (.slice none 0 0)⟩
          have Hfin := Lib.hid hfin
          have z := sp_v (sum := .int .i64 0) (v := .slice none 0 0) hne1 (sp_s hne1 (And.intro n2 (And.intro n3 (And.intro fr1 fr2))))
          have Z := Lib.hid z
          clear z hfin n4
          go_wp2_with fail
          obtain ⟨z1, z2, z3, z4⟩ := Z.out
          refine bodyPost_ret (v := .tuple #[.int .i64 0, .slice none 0 0, .int .i64 12]) ?_ rfl Hfin.out
          generalize ((w3.setCell ⟨ps, 0, none⟩ (.int .i64 0)).setCell ⟨pv, 0, none⟩ (.slice none 0 0)) = V at *
          simp [results, Tryz.results31, go_sem, z1, z2]
end Go.Proofs.YtngjjmniigkeoaaGreatDoor
