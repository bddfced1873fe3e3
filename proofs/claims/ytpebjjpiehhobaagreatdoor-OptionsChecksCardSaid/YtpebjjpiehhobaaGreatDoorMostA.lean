/- Most's work. -/
import Derived.Test.YtpebjjpiehhobaaGreatDoorMost
import Derived.Test.YtpebjjpiehhobaaGreatDoorCountB
namespace Go.Proofs.YtpebjjpiehhobaaGreatDoor
open Go Go.RowKit Go.WideMaps Go.Maps
set_option linter.unusedSimpArgs false
set_option linter.unusedVariables false

theorem enters_most1 : Enters 52 := enter_of Tryz.func52 (by kernel_rfl) (by kernel_rfl)

set_option maxHeartbeats 1600000 in
theorem checkList_ok (ao ar al : Option Addr) (ca cr cl : Nat) (ss : List ByteArray) (fs l : List (List Int)) (w : World) (h : ModelAt w ao ar ss fs) (hl : FormsAt w al l) (hm : modelErr ss fs = 0) (hll : l.length ≤ 200) :
    Calls Tryz.prog 49 #[.agg #[.slice ao ss.length ca, .slice ar fs.length cr], .slice al l.length cl] w fun e w' => e = .returned (.int .i64 (formsErr l ss.length)) ∧ Below w.heap.size w w' := by
  have hl1 := h.strs.len
  unfold maxLen at hl1
  have hM : ∀ o, ModelAt (w.alloc o) ao ar ss fs := fun o => h.kept (below_alloc w o) (Nat.le_refl _)
  have hL : ∀ o, FormsAt (w.alloc o) al l := fun o => hl.kept (below_alloc w o) (Nat.le_refl _)
  have HM := Lib.hid hM; have HL := Lib.hid hL; have Hm := Lib.hid hm
  clear hm h hM hl hL
  go_enter Tryz.func49, Tryz.ntmps49
  go_wp2_with fail
  refine (checkModel_any _ _ _ _ _ _ _ (HM.out _)).mono ?_
  rintro e w1 ⟨rfl, hb1⟩
  rw [Hm.out]
  have hc0 := cell_kept (box0 w (.slice ao ss.length ca) (.slice ar fs.length cr) 25) hb1 (Nat.le_refl _)
  have hgt : ¬ (200 : Int) < (l.length : Int) := by omega
  have hdec : decide ((200 : Int) < (l.length : Int)) = false := decide_eq_false hgt
  go_wp2_with fail
  refine (checkFormulas_any _ _ _ _ _ ((HL.out _).kept hb1 (Nat.le_refl _)) (by omega)).mono ?_
  rintro e w2 ⟨rfl, rfl⟩
  go_wp2_with fail
  go_ret
  exact ⟨rfl, ((below_alloc w _).trans (hb1.mono (by simp)))⟩

theorem Lv.side {w w' : World} {h : DH} {s : DS} {ls : List Nat} {p : Nat} {b : Bool} {t : TypeId} (l : Lv w h s ls) (k : Keeps (fun j => j = p) w w') (hp : w.heap[p]? = some (.cells #[.bool b] t (0, 0))) : Lv w' h s ls := by
  obtain ⟨ao, cap, e, o⟩ := l.ex
  have hne : ∀ b' off, 0 < (ls.map (fun (x : Nat) => (x : Int))).length → ao = some ⟨b', off, none⟩ → b' ≠ p := by
    intro b' off h0 ea e'
    subst e'
    obtain ⟨b2, off2, e2, hc⟩ := o.ints.cells h0
    rw [ea] at e2; cases e2
    have h1 := hc 0 h0
    rw [cell_of_row w _ _ _ _ (0, 0) hp] at h1
    rcases off with _ | off
    · simp at h1
    · simp at h1
  refine ⟨⟨ao, cap, e, ⟨o.ints.len, fun h0 => ?_, o.ints.fits⟩, fun b' off h0 ea => ⟨Nat.lt_of_lt_of_le (o.out b' off h0 ea).lt k.size, (o.out b' off h0 ea).no⟩⟩, l.len, l.bd⟩
  obtain ⟨b2, off2, e2, hc⟩ := o.ints.cells h0
  exact ⟨b2, off2, e2, fun j hj => k.cell (hc j hj) (hne b2 off2 h0 e2)⟩

theorem outInts_of {w w1 : World} {h : DH} {s : DS} {al : Option Addr} {c : Nat} {f : List Int} (hf : IntsAt w al c f) (hb : Below w.heap.size w w1) (ho : ∀ j, own h s j → w.heap.size ≤ j) : OutInts w1 h s al c f := by
  refine ⟨hf.kept hb (Nat.le_refl _), fun b off h0 e => ?_⟩
  obtain ⟨b2, off2, e2, hc⟩ := hf.cells h0
  rw [e] at e2; cases e2
  have hl : b < w.heap.size := World.block_lt_of_cell? w _ (hc 0 h0)
  exact ⟨Nat.lt_of_lt_of_le hl hb.size, fun hk => by have := ho _ hk; omega⟩

theorem keep_other {g p : Nat} (h : g ≠ p) (w : World) (v : Value) : (w.setCell ⟨p, 0, none⟩ v).heap[g]? = w.heap[g]? := Below.heap_setCell w ⟨p, 0, none⟩ v g h

/-- Where Most's variables lie. -/
structure MBoxes (w W : World) (pm pn pl pw ps pv : Nat) (ar al wo : Option Addr) (cr cl wc : Nat) (fs gs : List (List Int)) (ws : List Int) : Prop where
  below : Below w.heap.size w W
  m : W.cell? ⟨pm, 1, none⟩ = some (.slice ar fs.length cr)
  l : W.cell? ⟨pl, 0, none⟩ = some (.slice al gs.length cl)
  wt : W.cell? ⟨pw, 0, none⟩ = some (.slice wo ws.length wc)
  no : W.heap[pn]? = some (.cells #[.bool false] 4 (0, 0))
  sum : W.cell? ⟨ps, 0, none⟩ = some (.int .i64 0)
  v : W.cell? ⟨pv, 0, none⟩ = some (.slice none 0 0)
  fs' : W.frozen? ⟨ps, 0, none⟩ = false
  fv : W.frozen? ⟨pv, 0, none⟩ = false
  ne : pn ≠ pm ∧ pn ≠ pl ∧ pn ≠ pw ∧ pn ≠ ps ∧ pn ≠ pv ∧ ps ≠ pv
  lo : w.heap.size ≤ pn ∧ w.heap.size ≤ ps ∧ w.heap.size ≤ pv

def allF (n : Nat) (fs : List (List Int)) (σ : Nat → Bool) : Bool := fs.all (fun f => evalF (byLev (List.range n) σ) f)
def MostR (W : World) (n : Nat) (fs gs : List (List Int)) (ws : List Int) (pn ps pv : Nat) (w' : World) : Prop :=
  Keeps (fun b => b = pn ∨ b = ps ∨ b = pv) W w' ∧ w'.frozen? ⟨ps, 0, none⟩ = false ∧ w'.frozen? ⟨pv, 0, none⟩ = false ∧ ((∃ sum g vs, w'.cell? ⟨pn, 0, none⟩ = some (.bool false) ∧ w'.cell? ⟨ps, 0, none⟩ = some (.int .i64 sum) ∧ w'.cell? ⟨pv, 0, none⟩ = some (.slice (some ⟨g, 0, none⟩) n n) ∧ BRow w' W.heap.size g n n vs ∧ Best (allF n fs) (fun σ => sumF (byLev (List.range n) σ) gs ws) sum vs) ∨
  (w'.cell? ⟨pn, 0, none⟩ = some (.bool true) ∧ w'.cell? ⟨ps, 0, none⟩ = some (.int .i64 0) ∧ w'.cell? ⟨pv, 0, none⟩ = some (.slice none 0 0) ∧ ∀ σ, allF n fs σ = false))

set_option maxRecDepth 100000 in
set_option maxHeartbeats 3200000 in
theorem most1_any (n : Nat) (fs gs : List (List Int)) (ws : List Int) (w W : World) (pm pn pl pw ps pv : Nat) (ar al wo : Option Addr) (cr cl wc : Nat) (hn : n ≤ 40) (mb : MBoxes w W pm pn pl pw ps pv ar al wo cr cl wc fs gs ws) (hf : FormsAt w ar fs) (hg : FormsAt w al gs) (hws : IntsAt w wo wc ws) (tab : Tab w.heap.size w)
    (hfl : fs.length < 20) (hgl : gs.length ≤ 12) (hwl : ws.length = gs.length) (hvf : ∀ k, k < fs.length → validB (fs.getD k []) n = true) (hvg : ∀ k, k < gs.length → validB (gs.getD k []) n = true) (hbd : ∀ x ∈ ws, -1000000 ≤ x ∧ x ≤ 1000000) (hst : fs.length * (101 * 2 ^ n) + costM n gs.length ≤ 524288) :
    ∀ w0, Below W.heap.size W w0 → Works w0 n 524288 52 #[.pointer (some ⟨pm, 0, none⟩), .pointer (some ⟨pn, 0, none⟩), .pointer (some ⟨pl, 0, none⟩), .pointer (some ⟨pw, 0, none⟩), .pointer (some ⟨ps, 0, none⟩), .pointer (some ⟨pv, 0, none⟩)] (MostR W n fs gs ws pn ps pv) := by
  intro w0 hb0 h s w1 hfr
  obtain rfl : n = h.n := hfr.hn.symm
  have hb1 : Below W.heap.size W w1 := hb0.trans (hfr.below.mono hb0.size)
  have hown : ∀ j, own h s j → W.heap.size ≤ j := fun j hj => Nat.le_trans hb0.size (hfr.own j hj)
  have hwW := mb.below.size
  have hbw : Below w.heap.size w w1 := mb.below.trans (hb1.mono hwW)
  have hownw : ∀ j, own h s j → w.heap.size ≤ j := fun j hj => Nat.le_trans hwW (hown j hj)
  have hP : 0 < 2 ^ h.n := Nat.two_pow_pos _
  have hall := all_any h (by omega) s (List.range h.n) ar cr fs w1 hfr.dia hfr.lv (outForms_of hf hbw hownw) hvf hfl (by rw [hfr.steps]; omega) (by rw [hfr.steps]; omega) (by rw [hfr.cnt]; omega)
  have c1 : w1.cell? ⟨pm, 1, none⟩ = some (.slice ar fs.length cr) := cell_kept mb.m hb1 (Nat.le_refl _)
  have lpm := World.block_lt_of_cell? W _ mb.m
  have Hall := Lib.hid hall; have Hfr := Lib.hid hfr; have Hb1 := Lib.hid hb1; have Hown := Lib.hid hown; have Mb := Lib.hid mb
  clear hall hfr hb1 hown mb
  go_enter Tryz.func52, Tryz.ntmps52
  go_wp2_with fail
  refine Hall.out.mono ?_
  rintro e w2 ⟨s1, k, rfl, p⟩
  have u := p.upd
  have hkW : Keeps (fun _ => False) W w2 := ⟨u.keeps.os.trans Hb1.out.os, u.keeps.tape.trans Hb1.out.tape, u.keeps.output.trans Hb1.out.output, Nat.le_trans Hb1.out.size u.keeps.size, fun j hj _ => (u.keeps.block j (Nat.lt_of_lt_of_le hj Hb1.out.size) (fun ho => by have := Hown.out j ho; omega)).trans (Hb1.out.block j hj)⟩
  have hown1 : ∀ j, own h s1 j → W.heap.size ≤ j := fun j hj => by
    rcases u.own j hj with h1 | h1
    · exact Hown.out j h1
    · exact Nat.le_trans Hb1.out.size h1
  have lpn : pn < W.heap.size := (Array.getElem?_eq_some_iff.1 Mb.out.no).1
  have lps := World.block_lt_of_cell? W _ Mb.out.sum
  have lpv := World.block_lt_of_cell? W _ Mb.out.v
  have hno2 := (hkW.block pn lpn (fun e => e)).trans Mb.out.no
  have hn2 : w2.cell? ⟨pn, 0, none⟩ = some (.bool false) := (cell_of_row w2 pn 0 _ _ (0, 0) hno2).trans rfl
  have hnf : w2.frozen? ⟨pn, 0, none⟩ = false := by simp [World.frozen?, hno2]
  obtain ⟨e1, e2, e3, e4, e5, e6⟩ := Mb.out.ne
  obtain ⟨o1, o2, o3⟩ := Mb.out.lo
  have hset : ∀ b (q : Nat) (v : Value), pn ≠ q → w2.cell? ⟨q, 0, none⟩ = some v → (w2.setCell ⟨pn, 0, none⟩ b).cell? ⟨q, 0, none⟩ = some v := fun b q v hq hc => by
    rw [World.cell?_setCell_other (h := fun e => hq (congrArg Addr.block e))]; exact hc
  have z4a := fun b => hset b ps _ e4 (hkW.cell Mb.out.sum (fun e => e))
  have z5a := fun b => hset b pv _ e5 (hkW.cell Mb.out.v (fun e => e))
  have z6a : ∀ b, (w2.setCell ⟨pn, 0, none⟩ b).frozen? ⟨ps, 0, none⟩ = false := fun b => by rw [World.frozen?_setCell, hkW.frozen lps (fun e => e)]; exact Mb.out.fs'
  have z7a : ∀ b, (w2.setCell ⟨pn, 0, none⟩ b).frozen? ⟨pv, 0, none⟩ = false := fun b => by rw [World.frozen?_setCell, hkW.frozen lpv (fun e => e)]; exact Mb.out.fv
  by_cases hk0 : k = 0
  · subst hk0
    have hfin : MostR W h.n fs gs ws pn ps pv (w2.setCell ⟨pn, 0, none⟩ (.bool true)) := ⟨(hkW.mono (fun _ e => e.elim)).setCell (p := ⟨pn, 0, none⟩) (Or.inl (Or.inl rfl)) _, z6a _, z7a _, .inr ⟨World.cell?_setCell_same _ _ _ hn2, z4a _, z5a _, fun σ => by have := p.mean σ; rw [sem_no] at this; exact this.symm⟩⟩
    have z1 := World.cell?_setCell_same w2 ⟨pn, 0, none⟩ (.bool true) hn2
    have hq : ((0 : Int) == 0) = true := by decide
    have Hfin := Lib.hid hfin
    clear hfin hset p u hkW hown1 z4a z5a z6a z7a
    go_wp2_with fail
    refine bodyPost_end (results_none rfl _ _ _) rfl ?_
    exact ⟨rfl, Hfin.out⟩
  · have hq : ((k : Int) == 0) = false := beq_eq_false_iff_ne.2 (by omega)
    have hkp : Keeps (fun j => j = pn) w2 (w2.setCell ⟨pn, 0, none⟩ (.bool false)) := Keeps.setCell (S := fun j => j = pn) (p := ⟨pn, 0, none⟩) (Keeps.refl _ w2) (Or.inl rfl) _
    have hnn : ¬ own h s1 pn := fun e => by have := hown1 _ e; omega
    have hbw3 : Below w.heap.size w (w2.setCell ⟨pn, 0, none⟩ (.bool false)) := (Mb.out.below.trans (hkW.below (by omega) (fun j e => e.elim))).trans (hkp.below (by have := hkW.size; omega) (fun j e => by omega))
    have hlow : ∀ j, own h s1 j → w.heap.size ≤ j := fun j hj => Nat.le_trans hwW (hown1 j hj)
    have hlv := (Hfr.out.lv.upd u).side hkp hno2
    have hfu : FUpd (fun j => j = pn) w2 (w2.setCell ⟨pn, 0, none⟩ (.bool false)) h s1 s1 := (FUpd.refl u.dia).side hkp (fun b e => Or.inl e) (fun b e => by subst e; exact hnn)
    have q1 := p.steps; have q2 := p.le; have q3 := p.cnt; have q4 := Hfr.out.steps; have q5 := Hfr.out.cnt
    have hmost := most_any w.heap.size h hn s1 k al cl gs wo wc ws (w2.setCell ⟨pn, 0, none⟩ (.bool false)) hfu.dia hgl hwl hlv Hfr.out.ord (outForms_of hg hbw3 hlow) (outInts_of hws hbw3 hlow) hvg hbd p.hk hk0 hlow hbw3.size (tab.on hbw3) (by omega) (by omega) (by omega)
    rw [hwl] at hmost
    have z1 := World.cell?_setCell_same w2 ⟨pn, 0, none⟩ (.bool false) hn2
    have z2 := hset (.bool false) pl _ e2 (hkW.cell Mb.out.l (fun e => e))
    have z3 := hset (.bool false) pw _ e3 (hkW.cell Mb.out.wt (fun e => e))
    have z4 := z4a (.bool false)
    have z5 := z5a (.bool false)
    have z6 := z6a (.bool false)
    have z7 := z7a (.bool false)
    have hsz3 : (w2.setCell ⟨pn, 0, none⟩ (.bool false)).heap.size = w2.heap.size := by simp [World.setCell]
    have hs2 := hkW.size
    have hKK : Keeps (fun b => b = pn ∨ b = ps ∨ b = pv) W (w2.setCell ⟨pn, 0, none⟩ (.bool false)) := (hkW.mono (fun _ e => e.elim)).setCell (p := ⟨pn, 0, none⟩) (Or.inl (Or.inl rfl)) _
    have HKK := Lib.hid hKK
    clear hKK
    have Hmost := Lib.hid hmost; have P := Lib.hid p; have Hown1 := Lib.hid hown1
    clear z4a z5a z6a z7a hmost hset p u hkW hown1 hfu hlv hlow hbw3 hkp q1 q2 q3 q4 q5
    go_wp2_with fail
    refine Hmost.out.mono ?_
    rintro e w4 ⟨g, vs, s2, sum, rfl, hrow, hbest, hfu⟩
    have hkw : ∀ q, q < W.heap.size → w4.heap[q]? = (w2.setCell ⟨pn, 0, none⟩ (.bool false)).heap[q]? := fun q hq => hfu.block (by rw [hsz3]; omega) (fun e => by have := Hown1.out _ e; omega) (fun e => e)
    have y1 : w4.cell? ⟨pn, 0, none⟩ = some (.bool false) := (World.cell?_of_block (a := ⟨pn, 0, none⟩) (hkw pn lpn)).trans z1
    have y4 : w4.cell? ⟨ps, 0, none⟩ = some (.int .i64 0) := (World.cell?_of_block (a := ⟨ps, 0, none⟩) (hkw ps lps)).trans z4
    have y5 : w4.cell? ⟨pv, 0, none⟩ = some (.slice none 0 0) := (World.cell?_of_block (a := ⟨pv, 0, none⟩) (hkw pv lpv)).trans z5
    have y6 : w4.frozen? ⟨ps, 0, none⟩ = false := (World.frozen?_of_block (hkw ps lps)).trans z6
    have y7 : w4.frozen? ⟨pv, 0, none⟩ = false := (World.frozen?_of_block (hkw pv lpv)).trans z7
    have hgg := hrow.lt
    have hK4 := HKK.out.trans hfu.keeps (fun j hj => hj.elim (fun h1 => Or.inr (Hown1.out j h1)) (fun e => e.elim))
    have hfin : MostR W h.n fs gs ws pn ps pv ((w4.setCell ⟨ps, 0, none⟩ (.int .i64 sum)).setCell ⟨pv, 0, none⟩ (.slice (some ⟨g, 0, none⟩) h.n h.n)) := by
      refine ⟨(hK4.setCell (p := ⟨ps, 0, none⟩) (Or.inl (Or.inr (Or.inl rfl))) _).setCell (p := ⟨pv, 0, none⟩) (Or.inl (Or.inr (Or.inr rfl))) _, by rw [World.frozen?_setCell, World.frozen?_setCell]; exact y6, by rw [World.frozen?_setCell, World.frozen?_setCell]; exact y7, .inl ⟨sum, g, vs, ?_, ?_, ?_, ?_, ?_⟩⟩
      · rw [World.cell?_setCell_other (h := fun e => e5 (congrArg Addr.block e).symm), World.cell?_setCell_other (h := fun e => e4 (congrArg Addr.block e).symm)]; exact y1
      · rw [World.cell?_setCell_other (h := fun e => e6 (congrArg Addr.block e).symm)]; exact World.cell?_setCell_same _ _ _ y4
      · exact World.cell?_setCell_same _ _ _ (show _ = some (.slice none 0 0) by rw [World.cell?_setCell_other (h := fun e => e6 (congrArg Addr.block e))]; exact y5)
      · exact ((hrow.low (base' := W.heap.size) (by omega)).of_block (keep_other (p := ps) (by omega) w4 _)).of_block (keep_other (p := pv) (by omega) _ _)
      · have hA : sem s1.nodes k = allF h.n fs := funext P.out.mean
        rw [hA] at hbest
        exact hbest
    have Hfin := Lib.hid hfin
    clear hfin hrow hbest hfu hkw hK4
    go_wp2_with fail
    refine bodyPost_end (results_none rfl _ _ _) rfl ?_
    exact ⟨rfl, Hfin.out⟩
end Go.Proofs.YtpebjjpiehhobaaGreatDoor
