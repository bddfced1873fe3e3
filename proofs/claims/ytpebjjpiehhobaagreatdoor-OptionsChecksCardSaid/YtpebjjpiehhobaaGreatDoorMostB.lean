/- options.Most, where nothing is wrong and the first attempt suffices. -/
import Derived.Test.YtpebjjpiehhobaaGreatDoorMostA
namespace Go.Proofs.YtpebjjpiehhobaaGreatDoor
open Go Go.RowKit Go.WideMaps Go.Maps
set_option linter.unusedSimpArgs false
set_option linter.unusedVariables false

def MostAnswer (n : Nat) (fs gs : List (List Int)) (ws : List Int) (e : Ending) (w' : World) : Prop :=
  (∃ sum g vs, e = .returned (.tuple #[.int .i64 sum, .slice (some ⟨g, 0, none⟩) n n, .int .i64 0]) ∧ BRow w' 0 g n n vs ∧ Best (allF n fs) (fun σ => sumF (byLev (List.range n) σ) gs ws) sum vs) ∨
  (e = .returned (.tuple #[.int .i64 0, .slice none 0 0, .int .i64 12]) ∧ ∀ σ, allF n fs σ = false)

theorem sp_drew {W : World} {ps pv : Nat} {sum v : Value} (h : W.cell? ⟨ps, 0, none⟩ = some sum ∧ W.cell? ⟨pv, 0, none⟩ = some v ∧ W.frozen? ⟨ps, 0, none⟩ = false ∧ W.frozen? ⟨pv, 0, none⟩ = false) : W.drew.cell? ⟨ps, 0, none⟩ = some sum ∧ W.drew.cell? ⟨pv, 0, none⟩ = some v ∧ W.drew.frozen? ⟨ps, 0, none⟩ = false ∧ W.drew.frozen? ⟨pv, 0, none⟩ = false := h
theorem sp_s {W : World} {ps pv : Nat} {sum v : Value} (hne : ps ≠ pv) (h : W.cell? ⟨ps, 0, none⟩ = some sum ∧ W.cell? ⟨pv, 0, none⟩ = some v ∧ W.frozen? ⟨ps, 0, none⟩ = false ∧ W.frozen? ⟨pv, 0, none⟩ = false) : (W.setCell ⟨ps, 0, none⟩ sum).cell? ⟨ps, 0, none⟩ = some sum ∧ (W.setCell ⟨ps, 0, none⟩ sum).cell? ⟨pv, 0, none⟩ = some v ∧ (W.setCell ⟨ps, 0, none⟩ sum).frozen? ⟨ps, 0, none⟩ = false ∧ (W.setCell ⟨ps, 0, none⟩ sum).frozen? ⟨pv, 0, none⟩ = false :=
  ⟨World.cell?_setCell_same _ _ _ h.1, by rw [World.cell?_setCell_other (h := fun e => hne (congrArg Addr.block e))]; exact h.2.1, by rw [World.frozen?_setCell]; exact h.2.2.1, by rw [World.frozen?_setCell]; exact h.2.2.2⟩
theorem sp_v {W : World} {ps pv : Nat} {sum v : Value} (hne : ps ≠ pv) (h : W.cell? ⟨ps, 0, none⟩ = some sum ∧ W.cell? ⟨pv, 0, none⟩ = some v ∧ W.frozen? ⟨ps, 0, none⟩ = false ∧ W.frozen? ⟨pv, 0, none⟩ = false) : (W.setCell ⟨pv, 0, none⟩ v).cell? ⟨ps, 0, none⟩ = some sum ∧ (W.setCell ⟨pv, 0, none⟩ v).cell? ⟨pv, 0, none⟩ = some v ∧ (W.setCell ⟨pv, 0, none⟩ v).frozen? ⟨ps, 0, none⟩ = false ∧ (W.setCell ⟨pv, 0, none⟩ v).frozen? ⟨pv, 0, none⟩ = false :=
  ⟨by rw [World.cell?_setCell_other (h := fun e => hne (congrArg Addr.block e).symm)]; exact h.1, World.cell?_setCell_same _ _ _ h.2.1, by rw [World.frozen?_setCell]; exact h.2.2.1, by rw [World.frozen?_setCell]; exact h.2.2.2⟩
theorem boxes5 (w : World) (o0 o1 o2 o3 o4 : Obj) : (((((w.alloc o0).alloc o1).alloc o2).alloc o3).alloc o4).heap[w.heap.size]? = some o0 ∧ (((((w.alloc o0).alloc o1).alloc o2).alloc o3).alloc o4).heap[w.heap.size + 1]? = some o1 ∧ (((((w.alloc o0).alloc o1).alloc o2).alloc o3).alloc o4).heap[w.heap.size + 2]? = some o2 ∧
    (((((w.alloc o0).alloc o1).alloc o2).alloc o3).alloc o4).heap[w.heap.size + 3]? = some o3 ∧ (((((w.alloc o0).alloc o1).alloc o2).alloc o3).alloc o4).heap[w.heap.size + 4]? = some o4 ∧ (((((w.alloc o0).alloc o1).alloc o2).alloc o3).alloc o4).heap.size = w.heap.size + 5 ∧ Below w.heap.size w (((((w.alloc o0).alloc o1).alloc o2).alloc o3).alloc o4) := by
  have up : ∀ (W : World) (o o' : Obj) (j : Nat), W.heap[j]? = some o → (W.alloc o').heap[j]? = some o := fun W o o' j hj => (Below.heap_alloc _ _ _ (Array.getElem?_eq_some_iff.1 hj).1).trans hj
  have nw : ∀ (W : World) (o : Obj) (j : Nat), W.heap.size = j → (W.alloc o).heap[j]? = some o := fun W o j hj => by subst hj; exact heap_alloc_new _ _
  refine ⟨up _ _ _ _ (up _ _ _ _ (up _ _ _ _ (up _ _ _ _ (nw _ _ _ rfl)))), up _ _ _ _ (up _ _ _ _ (up _ _ _ _ (nw _ _ _ (by simp)))), up _ _ _ _ (up _ _ _ _ (nw _ _ _ (by simp))), up _ _ _ _ (nw _ _ _ (by simp)), nw _ _ _ (by simp), by simp, ?_⟩
  exact ((((below_alloc _ _).alloc (by simp) _).alloc (by simp; omega) _).alloc (by simp; omega) _).alloc (by simp; omega) _

set_option maxRecDepth 100000 in
set_option maxHeartbeats 6400000 in
theorem most_all (ao ar al wo : Option Addr) (ca cr cl wc : Nat) (ss : List ByteArray) (fs gs : List (List Int)) (ws : List Int) (w : World) (h : ModelAt w ao ar ss fs) (hcr : ar = none → cr = 0) (hcl : al = none → cl = 0) (hg : FormsAt w al gs) (hws : IntsAt w wo wc ws) (tab : Tab w.heap.size w)
    (hm : modelErr ss fs = 0) (hn : ss.length ≤ 40) (hfl : fs.length < 20) (hgl : gs.length ≤ 12) (hwl : ws.length = gs.length) (hvf : ∀ k, k < fs.length → validB (fs.getD k []) ss.length = true) (hvg : ∀ k, k < gs.length → validB (gs.getD k []) ss.length = true) (hbd : ∀ x ∈ ws, -1000000 ≤ x ∧ x ≤ 1000000)
    (hst : fs.length * (101 * 2 ^ ss.length) + costM ss.length gs.length ≤ 524288) :
    Calls Tryz.prog 31 #[.agg #[.slice ao ss.length ca, .slice ar fs.length cr], .slice al gs.length cl, .slice wo ws.length wc] w (fun e w' => MostAnswer ss.length fs gs ws e w' ∧ Below w.heap.size w w') := by
  have hmf : ∀ (fn : Fn) (first cap : Array Value) (w : World), (Instr.makeFunc fn first cap).run Tryz.prog w = .ok (.func fn first cap) w := fun _ _ _ _ => rfl
  have hck := fun (W : World) (hb : Below w.heap.size w W) => checkList_ok ao ar al ca cr cl ss fs gs W (h.kept hb (Nat.le_refl _)) (hg.kept hb (Nat.le_refl _)) hm (by omega)
  rw [formsErr_all gs ss.length hvg] at hck
  have Hck := Lib.hid hck; have Hh := Lib.hid h; have Hg := Lib.hid hg; have Hws := Lib.hid hws; have Htab := Lib.hid tab; have Hvf := Lib.hid hvf; have Hvg := Lib.hid hvg; have Hbd := Lib.hid hbd; have Hst := Lib.hid hst
  clear hck h hg hws tab hvf hvg hbd hst
  go_enter Tryz.func31, Tryz.ntmps31
  go_wp2_with fail
  have hbx := boxes5 w (.cells #[.slice ao ss.length ca, .slice ar fs.length cr] 25) (.cells #[.slice al gs.length cl] 23) (.cells #[.slice wo ws.length wc] 26) (.cells #[.int .i64 0] 3) (.cells #[.slice none 0 0] 39)
  rw [hwl] at hbx
  obtain ⟨x0, x1, x2, x3, x4, x5, x6⟩ := hbx
  have X0 := Lib.hid x0; have X1 := Lib.hid x1; have X2 := Lib.hid x2; have X3 := Lib.hid x3; have X4 := Lib.hid x4; have X5 := Lib.hid x5; have X6 := Lib.hid x6
  clear x0 x1 x2 x3 x4 x5 x6
  refine (Hck.out _ X6.out).mono ?_
  rintro e w1 ⟨rfl, hb1⟩
  have K1 := Keeps.of_below (S := fun _ => False) hb1 (Nat.le_refl _)
  have y0 := (K1.block w.heap.size (Array.getElem?_eq_some_iff.1 X0.out).1 (fun e => e)).trans X0.out
  have y1 := (K1.block (w.heap.size + 1) (Array.getElem?_eq_some_iff.1 X1.out).1 (fun e => e)).trans X1.out
  have y2 := (K1.block (w.heap.size + 2) (Array.getElem?_eq_some_iff.1 X2.out).1 (fun e => e)).trans X2.out
  have y3 := (K1.block (w.heap.size + 3) (Array.getElem?_eq_some_iff.1 X3.out).1 (fun e => e)).trans X3.out
  have y4 := (K1.block (w.heap.size + 4) (Array.getElem?_eq_some_iff.1 X4.out).1 (fun e => e)).trans X4.out
  have hbw := X6.out.trans (hb1.mono (by rw [X5.out]; omega))
  have hs1 : w.heap.size + 5 ≤ w1.heap.size := by have := hb1.size; rw [X5.out] at this; exact this
  clear K1 hb1 X0 X1 X2 X3 X4 X5 X6 Hck hmf
  generalize epv : w.heap.size + 1 + 1 + 1 + 1 = pv at *
  generalize eps : w.heap.size + 1 + 1 + 1 = ps at *
  generalize epw : w.heap.size + 1 + 1 = pw at *
  generalize epl : w.heap.size + 1 = pl at *
  have ePV : pv = w.heap.size + 4 := by omega
  have ePS : ps = w.heap.size + 3 := by omega
  have ePW : pw = w.heap.size + 2 := by omega
  have ePL : pl = w.heap.size + 1 := by omega
  generalize ePM : w.heap.size = pm at *
  have E := Lib.hid (And.intro ePV (And.intro ePS (And.intro ePW (And.intro ePL (And.intro ePM hs1)))))
  have c0 : w1.cell? ⟨pm, 0, none⟩ = some (.slice ao ss.length ca) := (cell_of_row w1 pm 0 _ _ (0, 0) y0).trans rfl
  have c1 : w1.cell? ⟨pm, 1, none⟩ = some (.slice ar fs.length cr) := (cell_of_row w1 pm 1 _ _ (0, 0) y0).trans rfl
  have c2 : w1.cell? ⟨pl, 0, none⟩ = some (.slice al gs.length cl) := (cell_of_row w1 pl 0 _ _ (0, 0) y1).trans rfl
  have c3 : w1.cell? ⟨pw, 0, none⟩ = some (.slice wo gs.length wc) := (cell_of_row w1 pw 0 _ _ (0, 0) y2).trans rfl
  have Y := Lib.hid (And.intro y0 (And.intro y1 (And.intro y2 (And.intro y3 y4))))
  have Hbw := Lib.hid hbw
  clear epv eps epw epl ePV ePS ePW ePL ePM hs1 y0 y1 y2 y3 y4 hbw
  go_wp2_with fail
  go_loopw [26] (fun i wr => ∃ (k : Nat), k ≤ gs.length ∧ i = .int .i64 k ∧ wr = w1) (fun i _ => gs.length - (intOf i).toNat)
  case atStart => exact ⟨0, Nat.zero_le _, rfl, rfl⟩
  case round =>
    obtain ⟨k, hk, rfl, rfl⟩ := hrel
    by_cases hlt : k < gs.length
    · have hwi := Hws.out.kept Hbw.out (by have := E.out; omega)
      obtain ⟨wb, wof, rfl, hwc⟩ := hwi.cells (by omega)
      have hck := hwc k (by omega)
      have hb := Hbd.out (ws.getD k 0) (by simp [List.getD, show k < ws.length by omega])
      have i1 : (k : Int) < (gs.length : Int) := by omega
      clear hwi hwc
      generalize ws.getD k 0 = x at *
      have d1 : decide (x < -1000000) = false := decide_eq_false (by omega)
      have d2 : decide ((1000000 : Int) < x) = false := decide_eq_false (by omega)
      go_wp2_with fail
      go_roundw
      case rel => exact ⟨k + 1, by omega, by go_num, trivial⟩
      case measure => simp [intOf]; omega
    · obtain rfl : k = gs.length := by omega
      go_wp2_with fail
      obtain ⟨y0, y1, y2, y3, y4⟩ := Y.out
      obtain ⟨ePV, ePS, ePW, ePL, ePM, hs1⟩ := E.out
      have hnb := heap_alloc_new wr (Obj.cells #[.bool false] 4)
      have kV : Keeps (fun _ => False) wr (wr.alloc (Obj.cells #[.bool false] 4)) := (Keeps.refl _ _).alloc _
      have hVs : (wr.alloc (Obj.cells #[.bool false] 4)).heap.size = wr.heap.size + 1 := by simp
      have hMB : ∀ W, Keeps (fun _ => False) (wr.alloc (Obj.cells #[.bool false] 4)) W → MBoxes w W pm wr.heap.size pl pw ps pv ar al wo cr cl wc fs gs ws := fun W k => by
        have kw := kV.trans k (fun _ e => e.elim)
        have z1 := (kw.block pm (by omega) (fun e => e)).trans y0
        have z2 := (kw.block pl (by omega) (fun e => e)).trans y1
        have z3 := (kw.block pw (by omega) (fun e => e)).trans y2
        have z4 := (kw.block ps (by omega) (fun e => e)).trans y3
        have z5 := (kw.block pv (by omega) (fun e => e)).trans y4
        have z6 := (k.block wr.heap.size (by omega) (fun e => e)).trans hnb
        refine ⟨?_, (cell_of_row W pm 1 _ _ (0, 0) z1).trans rfl, (cell_of_row W pl 0 _ _ (0, 0) z2).trans rfl, ?_, z6, (cell_of_row W ps 0 _ _ (0, 0) z4).trans rfl, (cell_of_row W pv 0 _ _ (0, 0) z5).trans rfl, by simp [World.frozen?, z4], by simp [World.frozen?, z5], by omega, by omega⟩
        · have := Hbw.out
          rw [← ePM] at this
          exact this.trans (kw.below (by omega) (fun _ e => e.elim))
        · rw [hwl]; exact (cell_of_row W pw 0 _ _ (0, 0) z3).trans rfl
      have hj : joined [(ar, cr, fs), (al, cl, gs)] = fs ++ gs := by simp [joined]
      have hHC : ∀ W, Keeps (fun _ => False) (wr.alloc (Obj.cells #[.bool false] 4)) W → ∀ pb, W.cell? ⟨pb, 0, none⟩ = some (.slice ar fs.length cr) → W.cell? ⟨pb, 1, none⟩ = some (.slice al gs.length cl) → Calls Tryz.prog 51 #[.slice (some ⟨pb, 0, none⟩) 2 2] W (fun e w' => ∃ a c, e = .returned (.slice a (fs ++ gs).length c) ∧ Keeps (fun _ => False) (wr.alloc (Obj.cells #[.bool false] 4)) w') := by
        intro W k pb z0 z1
        have hbW := (hMB W k).below
        have := concat_any pb 2 [(ar, cr, fs), (al, cl, gs)] W (fun k hk => by
          have : k = 0 ∨ k = 1 := by simp at hk; omega
          rcases this with rfl | rfl
          · exact ⟨ar, cr, fs, rfl, z0, Hh.out.forms.kept hbW (Nat.le_refl _), hcr⟩
          · exact ⟨al, cl, gs, rfl, z1, Hg.out.kept hbW (Nat.le_refl _), hcl⟩) (by simp) (by rw [hj]; simp; omega)
        rw [hj] at this
        refine this.mono ?_
        rintro e w2 ⟨a, c, he, _, _, hb⟩
        exact ⟨a, c, he, k.trans (Keeps.of_below (S := fun _ => False) hb (Nat.le_refl _)) (fun _ e => e.elim)⟩
      have hHS : ∀ W, Keeps (fun _ => False) (wr.alloc (Obj.cells #[.bool false] 4)) W → ∀ a c, Calls Tryz.prog 50 #[.int .i64 ss.length, .slice a (fs.length + gs.length) c, .func (Fn.func 52) #[] #[.pointer (some ⟨pm, 0, none⟩), .pointer (some ⟨wr.heap.size, 0, none⟩), .pointer (some ⟨pl, 0, none⟩), .pointer (some ⟨pw, 0, none⟩), .pointer (some ⟨ps, 0, none⟩), .pointer (some ⟨pv, 0, none⟩)]] W (fun e w' => e = .returned (.tuple #[]) ∧ MostR W ss.length fs gs ws wr.heap.size ps pv w') := fun W k a c =>
        solve_any ss.length a (fs.length + gs.length) c _ _ _ W hn enters_most1 (most1_any ss.length fs gs ws w W pm wr.heap.size pl pw ps pv ar al wo cr cl wc hn (hMB W k) Hh.out.forms Hg.out Hws.out (by have := Htab.out; rw [← ePM] at this; exact this) hfl hgl hwl Hvf.out Hvg.out Hbd.out Hst.out)
      have hST : ∀ W w', Keeps (fun _ => False) (wr.alloc (Obj.cells #[.bool false] 4)) W → MostR W ss.length fs gs ws wr.heap.size ps pv w' → w'.cell? ⟨pm, 0, none⟩ = some (.slice ao ss.length ca) ∧ w'.cell? ⟨pm, 1, none⟩ = some (.slice ar fs.length cr) ∧ w'.cell? ⟨pl, 0, none⟩ = some (.slice al gs.length cl) := fun W w' k r => by
        have kw := kV.trans k (fun _ e => e.elim)
        exact ⟨r.1.cell (kw.cell c0 (fun e => e)) (by omega), r.1.cell (kw.cell c1 (fun e => e)) (by omega), r.1.cell (kw.cell c2 (fun e => e)) (by omega)⟩
      have hSS : ∀ W, Keeps (fun _ => False) (wr.alloc (Obj.cells #[.bool false] 4)) W → W.cell? ⟨pm, 0, none⟩ = some (.slice ao ss.length ca) ∧ W.cell? ⟨pm, 1, none⟩ = some (.slice ar fs.length cr) ∧ W.cell? ⟨pl, 0, none⟩ = some (.slice al gs.length cl) := fun W k =>
        ⟨(kV.trans k (fun _ e => e.elim)).cell c0 (fun e => e), (kV.trans k (fun _ e => e.elim)).cell c1 (fun e => e), (kV.trans k (fun _ e => e.elim)).cell c2 (fun e => e)⟩
      have hHC2 : ∀ W, (W = (wr.alloc (Obj.cells #[.bool false] 4)).alloc (.cells #[.slice ar fs.length cr, .slice al gs.length cl] 23) ∨ W = ((wr.alloc (Obj.cells #[.bool false] 4)).alloc (.cells #[.slice ar fs.length cr, .slice al gs.length cl] 23)).drew) → Calls Tryz.prog 51 #[.slice (some ⟨wr.heap.size + 1, 0, none⟩) 2 2] W (fun e w' => ∃ a c, e = .returned (.slice a (fs ++ gs).length c) ∧ Keeps (fun _ => False) (wr.alloc (Obj.cells #[.bool false] 4)) w') := by
        intro W hW
        rcases hW with rfl | rfl
        · exact hHC _ ((Keeps.refl _ _).alloc _) _ (box_at0 hVs) (box_at1 hVs)
        · exact hHC _ ((Keeps.refl _ _).alloc _).drew _ (show (World.alloc _ _).cell? _ = _ from box_at0 hVs) (show (World.alloc _ _).cell? _ = _ from box_at1 hVs)
      have HC := Lib.hid hHC2; have HSo := Lib.hid hHS; have HSS := Lib.hid hSS; have HST := Lib.hid hST; have KV := Lib.hid kV
      have hmf : ∀ (fn : Fn) (first cap : Array Value) (w : World), (Instr.makeFunc fn first cap).run Tryz.prog w = .ok (.func fn first cap) w := fun _ _ _ _ => rfl
      clear hHC hHC2 hHS hSS hST hMB y0 y1 y2 y3 y4 ePV ePS ePW ePL ePM hnb kV c0 c1 c2 c3 hj
      generalize (wr.alloc (Obj.cells #[.bool false] 4)) = V at *
      go_region_held3 (fun W => W.cell? ⟨pm, 0, none⟩ = some (.slice ao ss.length ca) ∧ W.cell? ⟨pm, 1, none⟩ = some (.slice ar fs.length cr) ∧ W.cell? ⟨pl, 0, none⟩ = some (.slice al gs.length cl))
        (first | exact HSS.out _ (Keeps.refl _ _) | exact HSS.out _ (Keeps.refl _ _).drew | exact HSS.out _ ((Keeps.refl _ _).alloc _) | exact HSS.out _ ((Keeps.refl _ _).drew.alloc _) | exact HSS.out _ ((Keeps.refl _ _).alloc _).drew | exact HST.out _ _ (by assumption) (by assumption) | exact HSS.out _ (by assumption) | exact HSS.out _ (Keeps.drew (by assumption)))
        (first
          | (go_at_call 51; (with_reducible refine (HC.out _ (by first | exact Or.inl rfl | exact Or.inr rfl)).mono ?_); rintro e w2 ⟨a, c, rfl, k2⟩)
          | (go_at_call 50; (with_reducible refine (HSo.out _ (by first | exact k2 | exact k2.drew) _ _).mono ?_); rintro e w3 ⟨rfl, hr3⟩))
      all_goals
        have hk2 := k2.size
        have hVsz := hVs
        have hne1 : ps ≠ pv := by have := E.out; omega
        have hne2 : pv ≠ ps := fun e => hne1 e.symm
        have hlps : ps < w2.heap.size := by have := E.out; omega
        have hlpv : pv < w2.heap.size := by have := E.out; omega
        obtain ⟨kr, fr1, fr2, hr⟩ := hr3
        have hbl3 : Below w.heap.size w w3 := by
          have e0 := E.out
          have hV := hVs
          have b1 : Below w.heap.size w wr := by rw [e0.2.2.2.2.1]; exact Hbw.out
          exact b1.trans ((KV.out.below (B := w.heap.size) (by omega) (fun _ e => e.elim)).trans ((k2.below (B := w.heap.size) (by omega) (fun _ e => e.elim)).trans (kr.below (B := w.heap.size) (by first | omega | (have hd : w2.drew.heap.size = w2.heap.size := rfl; omega)) (fun j e => by omega))))
        have hps : w.heap.size ≤ ps := by have := E.out; omega
        have hpv : w.heap.size ≤ pv := by have := E.out; omega
        have Hbl3 := Lib.hid hbl3
        clear k2 hbl3 kr
        rcases hr with ⟨sum, g, vs, n1, n2, n3, n4, n5⟩ | ⟨n1, n2, n3, n4⟩
        · have hB := And.intro n2 (And.intro n3 (And.intro fr1 fr2))
          have hgl := n4.lt
          have hd : w2.drew.heap.size = w2.heap.size := rfl
          have hg : g ≠ ps ∧ g ≠ pv := by omega
          have hfin : ∀ W, W = ((w3.setCell ⟨ps, 0, none⟩ (.int .i64 sum)).setCell ⟨pv, 0, none⟩ (.slice (some ⟨g, 0, none⟩) ss.length ss.length)).drew → MostAnswer ss.length fs gs ws (.returned (.tuple #[.int .i64 sum, .slice (some ⟨g, 0, none⟩) ss.length ss.length, .int .i64 0])) W ∧ Below w.heap.size w W := fun W hW => by
            subst hW
            have hb := (Hbl3.out.setCell (p := ⟨ps, 0, none⟩) hps (.int .i64 sum)).setCell (p := ⟨pv, 0, none⟩) hpv (.slice (some ⟨g, 0, none⟩) ss.length ss.length)
            exact ⟨.inl ⟨sum, g, vs, rfl, (((n4.low (Nat.zero_le _)).of_block (keep_other hg.1 _ _)).of_block (keep_other hg.2 _ _)).of_block rfl, n5⟩, hb.os, hb.tape, hb.output, hb.size, hb.block⟩
          have HB := Lib.hid hB; have Hfin := Lib.hid hfin
          clear hB hfin n4 n5 n2 n3 fr1 fr2 hgl hd
          go_wp2_with fail
          go_region_held3 (fun W => W.cell? ⟨ps, 0, none⟩ = some (.int .i64 sum) ∧ W.cell? ⟨pv, 0, none⟩ = some (.slice (some ⟨g, 0, none⟩) ss.length ss.length) ∧ W.frozen? ⟨ps, 0, none⟩ = false ∧ W.frozen? ⟨pv, 0, none⟩ = false)
            (repeat (first | exact HB.out | refine sp_v hne1 ?_ | refine sp_s hne1 ?_ | refine sp_drew ?_))
            (fail)
          have z := sp_drew (sp_v hne1 (sp_s hne1 HB.out))
          have Z := Lib.hid z
          have hf := Hfin.out _ rfl
          have Hf := Lib.hid hf
          clear z hf Hfin
          generalize ((w3.setCell ⟨ps, 0, none⟩ (.int .i64 sum)).setCell ⟨pv, 0, none⟩ (.slice (some ⟨g, 0, none⟩) ss.length ss.length)).drew = V at *
          obtain ⟨z1, z2, z3, z4⟩ := Z.out
          go_wp2_with fail
          refine bodyPost_ret (v := .tuple #[.int .i64 sum, .slice (some ⟨g, 0, none⟩) ss.length ss.length, .int .i64 0]) ?_ rfl Hf.out
          simp [results, Tryz.results31, go_sem, z1, z2]
        · have hfin : MostAnswer ss.length fs gs ws (.returned (.tuple #[.int .i64 0, .slice none 0 0, .int .i64 12])) ((w3.setCell ⟨ps, 0, none⟩ (.int .i64 0)).setCell ⟨pv, 0, none⟩ (.slice none 0 0)) ∧ Below w.heap.size w ((w3.setCell ⟨ps, 0, none⟩ (.int .i64 0)).setCell ⟨pv, 0, none⟩ (.slice none 0 0)) := ⟨.inr ⟨rfl, n4⟩, (Hbl3.out.setCell (p := ⟨ps, 0, none⟩) hps (.int .i64 0)).setCell (p := ⟨pv, 0, none⟩) hpv (.slice none 0 0)⟩
          have Hfin := Lib.hid hfin
          have z := sp_v (sum := .int .i64 0) (v := .slice none 0 0) hne1 (sp_s hne1 (And.intro n2 (And.intro n3 (And.intro fr1 fr2))))
          have Z := Lib.hid z
          clear z hfin n4
          go_wp2_with fail
          obtain ⟨z1, z2, z3, z4⟩ := Z.out
          refine bodyPost_ret (v := .tuple #[.int .i64 0, .slice none 0 0, .int .i64 12]) ?_ rfl Hfin.out
          generalize ((w3.setCell ⟨ps, 0, none⟩ (.int .i64 0)).setCell ⟨pv, 0, none⟩ (.slice none 0 0)) = V at *
          simp [results, Tryz.results31, go_sem, z1, z2]
end Go.Proofs.YtpebjjpiehhobaaGreatDoor
