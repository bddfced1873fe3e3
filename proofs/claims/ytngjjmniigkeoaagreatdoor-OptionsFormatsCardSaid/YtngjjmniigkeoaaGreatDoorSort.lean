/- of; the sort of the knots, as far as it is needed: what is there stays there. -/
import Derived.Test.YtngjjmniigkeoaaGreatDoorFoldB
namespace Go.Proofs.YtngjjmniigkeoaaGreatDoor
open Go Go.RowKit Go.WideMaps Go.Maps
set_option linter.unusedSimpArgs false
set_option linter.unusedVariables false

set_option maxHeartbeats 1600000 in
theorem of_any (h : DH) (hn : h.n < 2 ^ 31) (s : DS) (ls : List Nat) (af : Option Addr) (cf : Nat) (f : List Int) (w : World) (d : Dia w h s) (hl : Lv w h s ls) (hf : OutInts w h s af cf f) (hv : validB f h.n = true)
    (hst : ((100 * 2 ^ h.n : Nat) : Int) ≤ s.steps) (hst2 : s.steps ≤ 4611686018427387904) (hcnt : s.cnt + 2 * (100 * 2 ^ h.n) < 2 ^ 30) :
    Calls Tryz.prog 73 #[.pointer (some ⟨h.b, 0, none⟩), .slice af f.length cf] w (OfEnd w h s (fun σ => evalF (byLev ls σ) f) (100 * 2 ^ h.n)) := by
  unfold validB at hv
  simp at hv
  obtain ⟨hlf, hlk⟩ := hv
  have hmf : ∀ (fn : Fn) (first cap : Array Value) (w : World), (Instr.makeFunc fn first cap).run Tryz.prog w = .ok (.func fn first cap) w := fun _ _ _ _ => rfl
  have hmul : f.length * 2 ^ h.n ≤ 100 * 2 ^ h.n := Nat.mul_le_mul_right _ hlf
  have u1 : ∀ o, Upd w (w.alloc o) h s s := fun o => (Upd.refl d).alloc o
  have hlt := d.lt
  have ho : ∀ t, Out (w.alloc (.cells #[.pointer (some ⟨h.b, 0, none⟩)] t)) h s w.heap.size := fun t => ⟨by simp, fun hk => by have := hlt _ hk; omega⟩
  have hfold := fun t => foldKnot_any h hn s ls w.heap.size af cf f (w.alloc (.cells #[.pointer (some ⟨h.b, 0, none⟩)] t)) (d.alloc _) (hl.upd (u1 _)) (by simp) (ho t) (hf.upd (u1 _)) hlk hlf (by omega) hst2 (by omega)
  have hfin : ∀ t e w', OfEnd (w.alloc (.cells #[.pointer (some ⟨h.b, 0, none⟩)] t)) h s (fun σ => evalF (byLev ls σ) f) (f.length * 2 ^ h.n) e w' → OfEnd w h s (fun σ => evalF (byLev ls σ) f) (100 * 2 ^ h.n) e w' := by
    rintro t e w' ⟨s', k, he, p⟩
    exact ⟨s', k, he, (u1 _).trans p.upd, p.hk, p.mean, by have := p.steps; omega, p.le, by have := p.cnt; omega⟩
  have Hf := Lib.hid hfold; have Hfin := Lib.hid hfin
  clear hfold hfin ho u1 hl hf d hlk
  go_enter Tryz.func73, Tryz.ntmps73
  go_wp2_with fail
  refine (Hf.out _).mono ?_
  rintro e w1 he
  have he2 := Hfin.out _ _ _ he
  obtain ⟨s1, k, rfl, p1⟩ := he2
  clear he
  go_wp2_with fail
  go_ret
  exact ⟨s1, k, rfl, p1⟩

def encK (x : Nat) : Value := .int .i32 x

/-- A slice of knots of the call's own. -/
structure KRow (w : World) (base g n cap : Nat) (xs : List Nat) : Prop where
  row : w.ownsRow base 82 1 (.slice (some ⟨g, 0, none⟩) n cap) n (xs.map encK)
theorem KRow.len {w : World} {base g n cap : Nat} {xs : List Nat} (h : KRow w base g n cap xs) : xs.length = n := by have := h.row.1; simpa using this
theorem KRow.cell {w : World} {base g n cap : Nat} {xs : List Nat} (h : KRow w base g n cap xs) {j : Nat} (hj : j < n) : w.cell? ⟨g, j, none⟩ = some (.int .i32 (xs.getD j 0)) := by
  have hl := h.len
  rw [h.row.cellAt j (by omega)]
  simp [encK, List.getD, show j < xs.length by omega]
theorem KRow.frozen {w : World} {base g n cap : Nat} {xs : List Nat} (h : KRow w base g n cap xs) (j : Nat) : w.frozen? ⟨g, j, none⟩ = false := h.row.frozenAt j
theorem KRow.set {w : World} {base g n cap : Nat} {xs : List Nat} (h : KRow w base g n cap xs) (j x : Nat) : KRow (w.setCell ⟨g, j, none⟩ (.int .i32 x)) base g n cap (xs.set j x) :=
  ⟨by rw [List.map_set]; exact (h.row.stored j (.int .i32 x)).1⟩
theorem KRow.of_block {w w' : World} {base g n cap : Nat} {xs : List Nat} (h : KRow w base g n cap xs) (hk : w'.heap[g]? = w.heap[g]?) : KRow w' base g n cap xs :=
  ⟨ownsRow_of_block h.row (fun k e => by simp [Value.ownBlock] at e; subst e; exact hk)⟩
theorem KRow.drewN {w : World} {base g n cap : Nat} {xs : List Nat} (h : KRow w base g n cap xs) (q : Nat) : KRow (w.drewN q) base g n cap xs := h.of_block rfl
theorem KRow.lt {w : World} {base g n cap : Nat} {xs : List Nat} (h : KRow w base g n cap xs) : base ≤ g ∧ g < w.heap.size := h.row.lt g rfl

/-- The same elements. -/
def Same (xs ys : List Nat) : Prop := ∀ x, x ∈ xs ↔ x ∈ ys
theorem Same.refl (xs : List Nat) : Same xs xs := fun _ => Iff.rfl
theorem Same.trans {a b c : List Nat} (h : Same a b) (g : Same b c) : Same a c := fun x => (h x).trans (g x)

theorem same_swap {xs : List Nat} {i j : Nat} (hi : i < xs.length) (hj : j < xs.length) : Same ((xs.set i (xs.getD j 0)).set j (xs.getD i 0)) xs := by
  have ei : xs.getD i 0 = xs[i] := by simp [List.getD, hi]
  have ej : xs.getD j 0 = xs[j] := by simp [List.getD, hj]
  rw [ei, ej]
  intro x
  rw [List.mem_iff_getElem, List.mem_iff_getElem]
  constructor
  · rintro ⟨k, hk, rfl⟩
    simp only [List.length_set] at hk
    by_cases h1 : j = k
    · subst h1; exact ⟨i, hi, by simp⟩
    · by_cases h2 : i = k
      · subst h2; exact ⟨j, hj, by simp [List.getElem_set, h1]⟩
      · exact ⟨k, hk, by simp [List.getElem_set, h1, h2]⟩
  · rintro ⟨k, hk, rfl⟩
    by_cases h1 : i = k
    · subst h1; exact ⟨j, by simpa using hj, by simp⟩
    · by_cases h2 : j = k
      · subst h2
        refine ⟨i, by simpa using hi, ?_⟩
        simp [List.getElem_set]
        intro e; exact absurd e.symm h1
      · exact ⟨k, by simpa using hk, by simp [List.getElem_set, h1, h2]⟩

def CmpEnd (s : DS) (a b : Nat) (e : Ending) : Prop := e = .returned (.int .i64 (((ndAt s.nodes b).lev : Int) - (ndAt s.nodes a).lev))

set_option maxHeartbeats 1600000 in
theorem cmp_any (h : DH) (s : DS) (tb a b : Nat) (w : World) (d : Dia w h s) (hb : w.cell? ⟨tb, 0, none⟩ = some (.pointer (some ⟨h.b, 0, none⟩))) (ha : a < s.nodes.length) (hbk : b < s.nodes.length) (hn : h.n < 2 ^ 31) :
    Calls Tryz.prog 75 #[.int .i32 a, .int .i32 b, .pointer (some ⟨tb, 0, none⟩)] w fun e w' => e = .returned (.int .i64 (((ndAt s.nodes b).lev : Int) - (ndAt s.nodes a).lev)) ∧ ∃ q, w' = w.drewN q := by
  obtain ⟨d0, d1, d2, d3, d4, d5⟩ := d.cells
  obtain ⟨g, cap, eg, hcs, hg, hgb⟩ := d.node
  obtain ⟨na0, na1, na2⟩ := hcs a ha
  obtain ⟨nb0, nb1, nb2⟩ := hcs b hbk
  rw [eg] at d2
  have i1 : (a : Int) < (s.nodes.length : Int) := by omega
  have i2 : (b : Int) < (s.nodes.length : Int) := by omega
  have la := d.inv.wf.lev_le ha
  have lb := d.inv.wf.lev_le hbk
  generalize (ndAt s.nodes a).lev = A at *
  generalize (ndAt s.nodes b).lev = B at *
  have hw : IntKind.i64.wrap ((B : Int) - (A : Int)) = (B : Int) - (A : Int) := IntWalk.i64_in _ (by omega)
  clear eg hcs d
  go_enter Tryz.func75, Tryz.ntmps75
  go_wp2_with fail
  go_quiet (fail)
  go_wp2_with fail
  go_ret
  exact ⟨rfl, _, rfl⟩

/-- Behind some exchanges. -/
structure SortInv (w : World) (h : DH) (s : DS) (base g n cap : Nat) (xs : List Nat) (wr : World) (ys : List Nat) : Prop where
  keeps : Keeps (fun b => b = g) w wr
  row : KRow wr base g n cap ys
  same : Same ys xs

theorem SortInv.dia {w wr : World} {h : DH} {s : DS} {base g n cap : Nat} {xs ys : List Nat} (i : SortInv w h s base g n cap xs wr ys) (d : Dia w h s) (hg : ¬ own h s g) : Dia wr h s :=
  d.kept (fun k hk => i.keeps.block k (d.lt k hk) (fun e => hg (e ▸ hk)))

set_option maxRecDepth 100000 in
set_option maxHeartbeats 6400000 in
theorem insert_any (h : DH) (hn : h.n < 2 ^ 31) (s : DS) (tb base g n cap a b : Nat) (xs : List Nat) (w : World) (d : Dia w h s) (hbox : w.cell? ⟨tb, 0, none⟩ = some (.pointer (some ⟨h.b, 0, none⟩))) (htg : tb ≠ g) (hg : ¬ own h s g)
    (hr : KRow w base g n cap xs) (hx : ∀ x ∈ xs, x < s.nodes.length) (hab : a ≤ b) (hbn : b ≤ n) (hnn : n ≤ 1000) :
    Calls Tryz.prog 116 #[.slice (some ⟨g, 0, none⟩) n cap, .int .i64 a, .int .i64 b, .func (Fn.func 75) #[] #[.pointer (some ⟨tb, 0, none⟩)]] w
      fun e w' => e = .returned (.tuple #[]) ∧ ∃ ys, SortInv w h s base g n cap xs w' ys := by
  have hlen := hr.len
  have hstart : SortInv w h s base g n cap xs w xs := ⟨Keeps.refl _ _, hr, Same.refl _⟩
  have Hd := Lib.hid d
  clear d hr hlen
  go_enter Tryz.func116, Tryz.ntmps116
  go_wp2_with fail
  go_loopw [8] (fun i wr => ∃ (k : Nat) (ys : List Nat), a < k ∧ k ≤ b + 1 ∧ i = .int .i64 k ∧ SortInv w h s base g n cap xs wr ys) (fun i _ => b + 1 - (intOf i).toNat)
  case atStart => exact ⟨a + 1, xs, by omega, by omega, by go_num, hstart⟩
  case round =>
    obtain ⟨k, ys, hk1, hk2, rfl, inv⟩ := hrel
    by_cases hlt : k < b
    · go_wp2_with fail
      obtain ⟨wo, rfl⟩ : ∃ wo : World, wo = wr := ⟨_, rfl⟩
      go_loopw [9] (fun j wr => ∃ (m : Nat) (ys : List Nat), a ≤ m ∧ m ≤ k ∧ j = .int .i64 m ∧ SortInv w h s base g n cap xs wr ys) (fun j _ => (intOf j).toNat)
      case atStart => exact ⟨k, ys, by omega, Nat.le_refl _, rfl, inv⟩
      case round =>
        clear inv
        obtain ⟨m, zs, hm1, hm2, rfl, inv⟩ := hrel
        by_cases hma : a < m
        · have hzl := inv.row.len
          have hc1 := inv.row.cell (j := m) (by omega)
          have hc2 := inv.row.cell (j := m - 1) (by omega)
          have hf1 := inv.row.frozen m
          have hf2 := inv.row.frozen (m - 1)
          have hbx := inv.keeps.cell hbox htg
          have hd2 := inv.dia Hd.out hg
          have hp := hx (zs.getD m 0) ((inv.same _).1 (by simp [List.getD, show m < zs.length by omega]))
          have hq := hx (zs.getD (m - 1) 0) ((inv.same _).1 (by simp [List.getD, show m - 1 < zs.length by omega]))
          have hswap := same_swap (xs := zs) (i := m) (j := m - 1) (by omega) (by omega)
          have hset := (inv.row.set m (zs.getD (m - 1) 0)).set (m - 1) (zs.getD m 0)
          have hfin : ∀ W : World, W.heap = ((wr.setCell ⟨g, m, none⟩ (.int .i32 (zs.getD (m - 1) 0 : Nat))).setCell ⟨g, m - 1, none⟩ (.int .i32 (zs.getD m 0 : Nat))).heap → W.os = wr.os → W.tape = wr.tape → W.output = wr.output → ∃ ys, SortInv w h s base g n cap xs W ys := by
            intro W e1 e2 e3 e4
            have K := (inv.keeps.setCell (p := ⟨g, m, none⟩) (Or.inl rfl) (.int .i32 (zs.getD (m - 1) 0 : Nat))).setCell (p := ⟨g, m - 1, none⟩) (Or.inl rfl) (.int .i32 (zs.getD m 0 : Nat))
            exact ⟨_, ⟨e2.trans K.os, e3.trans K.tape, e4.trans K.output, by rw [e1]; exact K.size, by rw [e1]; exact K.block⟩, hset.of_block (by rw [e1]), hswap.trans inv.same⟩
          have hcmp := fun q => cmp_any h s tb (zs.getD m 0) (zs.getD (m - 1) 0) (wr.drewN q) (hd2.drewN q) (by simpa using hbx) hp hq hn
          generalize zs.getD m 0 = p at *
          generalize zs.getD (m - 1) 0 = q at *
          have i1 : (m : Int) < (n : Int) := by omega
          have i2 : (a : Int) < (m : Int) := by omega
          have i3 : (0 : Int) ≤ (m : Int) - 1 := by omega
          have i4 : (m : Int) - 1 < (n : Int) := by omega
          have hw1 : IntKind.i64.wrap ((m : Int) - 1) = (m : Int) - 1 := IntWalk.i64_in _ (by omega)
          have hw2 : ((m : Int) - 1).toNat = m - 1 := by omega
          have hend : ∀ q, ∃ ys, SortInv w h s base g n cap xs (wr.drewN q) ys := fun q => ⟨zs, inv.keeps.drewN q, inv.row.drewN q, inv.same⟩
          have hend2 : ∀ q, SortInv w h s base g n cap xs (wr.drewN q) zs := fun q => ⟨inv.keeps.drewN q, inv.row.drewN q, inv.same⟩
          have Hcmp := Lib.hid hcmp; have Hfin := Lib.hid hfin; have Hend := Lib.hid hend2
          clear inv hcmp hswap hset hd2 hp hq hzl hfin hend hend2
          by_cases hBA : ((ndAt s.nodes q).lev : Int) - (ndAt s.nodes p).lev < 0
          · have hBA' : decide (((ndAt s.nodes q).lev : Int) - (ndAt s.nodes p).lev < 0) = true := decide_eq_true hBA
            have hBA2 : ((ndAt s.nodes q).lev : Int) < (ndAt s.nodes p).lev := by omega
            go_wp2_with fail
            go_quiet ((go_at_call 75; exact Calls.quiet_of (Hcmp.out _)))
            go_wp2_with fail
            go_region
            all_goals
              go_wp2_with fail
              obtain ⟨ys2, inv2⟩ := Hfin.out (((wr.drewN (nq + 1)).setCell ⟨g, m, none⟩ (.int .i32 q)).setCell ⟨g, m - 1, none⟩ (.int .i32 p)) rfl rfl rfl rfl
              go_roundw
              case rel => exact ⟨m - 1, ys2, by omega, by omega, by go_num, inv2⟩
              case measure => simp [intOf] <;> omega
          · have hBA' : decide (((ndAt s.nodes q).lev : Int) - (ndAt s.nodes p).lev < 0) = false := decide_eq_false hBA
            have hBA2 : ((ndAt s.nodes p).lev : Int) ≤ (ndAt s.nodes q).lev := by omega
            go_wp2_with fail
            go_quiet ((go_at_call 75; exact Calls.quiet_of (Hcmp.out _)))
            go_wp2_with fail
            have inv2 := Hend.out nq
            go_roundw
            case rel => exact ⟨k + 1, zs, by omega, by omega, by go_num, inv2⟩
            case measure => simp [intOf] <;> omega
        · obtain rfl : m = a := by omega
          have hd : decide ((m : Int) < (m : Int)) = false := decide_eq_false (by omega)
          have hend2 : ∀ q, SortInv w h s base g n cap xs (wr.drewN q) zs := fun q => ⟨inv.keeps.drewN q, inv.row.drewN q, inv.same⟩
          have Hend := Lib.hid hend2
          clear inv hend2
          go_wp2_with fail
          go_quiet (fail)
          go_wp2_with fail
          have inv2 := Hend.out nq
          go_roundw
          case rel => exact ⟨k + 1, zs, by omega, by omega, by go_num, inv2⟩
          case measure => simp [intOf] <;> omega
    · have Hi := Lib.hid inv
      clear inv
      go_wp2_with fail
      go_end0
      exact ⟨rfl, ys, Hi.out⟩
end Go.Proofs.YtngjjmniigkeoaaGreatDoor
