/- The walk of BusLonger. -/
import Derived.Test.YtcemgfogaaobiaaBvD
namespace Go.Proofs.Ytcemgfogaaobiaa
open Go Go.RowKit Go.WideMaps Go.Maps
set_option linter.unusedSimpArgs false
set_option linter.unusedVariables false

def frC (f : Fr) : Nat → Int
  | 0 => f.s
  | 1 => f.e
  | 2 => f.j
  | 3 => f.d
  | _ => f.r
/-- A row of frames of the call's own. -/
structure FrRow (w : World) (B g n : Nat) (ls : List Fr) : Prop where
  lt : B ≤ g ∧ g < w.heap.size
  nl : ls.length = n
  fz : ∀ j, w.frozen? ⟨g, j, none⟩ = false
  cells : ∀ k, k < n → ∀ o, o < 5 → w.cell? ⟨g, k * 5 + o, none⟩ = some (.int .i64 (frC (frAt ls k) o))
theorem FrRow.frames {w : World} {B g n : Nat} {ls : List Fr} (h : FrRow w B g n ls) (hl : n ≤ maxLen) : FramesAt w (some ⟨g, 0, none⟩) ls := by
  have hn := h.nl
  refine ⟨by omega, fun _ => ⟨g, 0, rfl, fun k hk => ?_⟩⟩
  rw [Nat.zero_add]
  exact ⟨h.cells k (by omega) 0 (by omega), h.cells k (by omega) 1 (by omega), h.cells k (by omega) 2 (by omega), h.cells k (by omega) 3 (by omega), h.cells k (by omega) 4 (by omega)⟩
theorem FrRow.kp {w w' : World} {B g n : Nat} {ls : List Fr} (h : FrRow w B g n ls) (k : Kp w w') : FrRow w' B g n ls :=
  ⟨⟨h.lt.1, Nat.lt_of_lt_of_le h.lt.2 k.size⟩, h.nl, fun j => (Keeps.frozen k h.lt.2 (fun e => e)).trans (h.fz j), fun i hi o ho => k.cell (h.cells i hi o ho)⟩
theorem FrRow.set {w : World} {B g n : Nat} {ls : List Fr} (h : FrRow w B g n ls) {i j : Nat} (hi : i < n) (x : Int) {f : Fr} (hf : ∀ o, o < 5 → frC f o = if o = j then x else frC (frAt ls i) o) (hj : j < 5) :
    FrRow (w.setCell ⟨g, i * 5 + j, none⟩ (.int .i64 x)) B g n (ls.set i f) := by
  have hn := h.nl
  have ks : Keeps (fun b => b = g) w (w.setCell ⟨g, i * 5 + j, none⟩ (.int .i64 x)) := (Keeps.refl (fun b => b = g) w).setCell (p := ⟨g, i * 5 + j, none⟩) (Or.inl rfl) _
  refine ⟨⟨h.lt.1, Nat.lt_of_lt_of_le h.lt.2 ks.size⟩, by simp [hn], fun o => by rw [World.frozen?_setCell]; exact h.fz o, fun k hk o ho => ?_⟩
  rw [frAt_set (by omega)]
  by_cases e : k = i
  · subst e
    rw [if_pos rfl, hf o ho]
    by_cases e2 : o = j
    · subst e2
      rw [if_pos rfl]
      exact World.cell?_setCell_same _ _ _ (h.cells k hk o ho)
    · rw [if_neg e2, World.cell?_setCell_other (h := fun e3 => by have := congrArg Addr.off e3; simp at this; omega)]
      exact h.cells k hk o ho
  · rw [if_neg e, World.cell?_setCell_other (h := fun e3 => by have := congrArg Addr.off e3; simp at this; omega)]
    exact h.cells k hk o ho
theorem frame_news {w : World} {b off : Nat} {ls : List Fr} (h : FramesAt w (some ⟨b, off, none⟩) ls) (h0 : 0 < ls.length) : ∀ k, k < ls.length → ∀ o, o < 5 → w.cell? ⟨b, off + (k * 5 + o), none⟩ = some (.int .i64 (frC (frAt ls k) o)) := by
  obtain ⟨b2, off2, e, hc⟩ := h.cells h0
  simp only [Option.some.injEq, Addr.mk.injEq] at e
  obtain ⟨rfl, rfl, -⟩ := e
  intro k hk o ho
  obtain ⟨h1, h2, h3, h4, h5⟩ := hc k hk
  have h6 : o = 0 ∨ o = 1 ∨ o = 2 ∨ o = 3 ∨ o = 4 := by omega
  rcases h6 with rfl | rfl | rfl | rfl | rfl
  · exact h1
  · rw [← Nat.add_assoc]; exact h2
  · rw [← Nat.add_assoc]; exact h3
  · rw [← Nat.add_assoc]; exact h4
  · rw [← Nat.add_assoc]; exact h5
theorem frame_list {w : World} {b off : Nat} {ls : List Fr} (h : FramesAt w (some ⟨b, off, none⟩) ls) (h0 : 0 < ls.length) :
    (∀ j u, (ls.flatMap frCells)[j]? = some u → w.cell? ((⟨b, off, none⟩ : Addr).add j) = some u) ∧ ∀ u ∈ ls.flatMap frCells, u.oneCell' = true := by
  have hn := frame_news h h0
  have hl := flat5_len ls
  have hat : ∀ j, j < ls.length * 5 → (ls.flatMap frCells)[j]? = some (.int .i64 (frC (frAt ls (j / 5)) (j % 5))) := fun j hj => by
    have h5 := flat5_at ls (j / 5) (by omega) (j % 5) (by omega)
    rw [show j / 5 * 5 + j % 5 = j by omega] at h5
    rw [h5]
    have h6 : j % 5 = 0 ∨ j % 5 = 1 ∨ j % 5 = 2 ∨ j % 5 = 3 ∨ j % 5 = 4 := by omega
    rcases h6 with h6 | h6 | h6 | h6 | h6 <;> rw [h6] <;> rfl
  refine ⟨fun j u hu => ?_, fun u hu => ?_⟩
  · have hj : j < ls.length * 5 := by
      rcases Nat.lt_or_ge j (ls.length * 5) with h' | h'
      · exact h'
      · rw [List.getElem?_eq_none (by omega)] at hu; cases hu
    rw [hat j hj] at hu
    simp only [Option.some.injEq] at hu
    subst hu
    rw [add_none]
    have := hn (j / 5) (by omega) (j % 5) (by omega)
    rw [show j / 5 * 5 + j % 5 = j by omega] at this
    exact this
  · obtain ⟨f, _, hf⟩ := List.mem_flatMap.1 hu
    simp [frCells] at hf
    rcases hf with rfl | rfl | rfl | rfl | rfl <;> rfl
theorem frrow_of {w' : World} {B g cap : Nat} {ls : List Fr} (hr : w'.ownsRow B 63 5 (.slice (some ⟨g, 0, none⟩) ls.length cap) ls.length (ls.flatMap frCells)) : FrRow w' B g ls.length ls := by
  have hl := flat5_len ls
  refine ⟨hr.lt g rfl, rfl, fun j => hr.frozenAt j, fun k hk o ho => ?_⟩
  rw [hr.cellAt (k * 5 + o) (by omega), flat5_at ls k hk o ho]
  have h6 : o = 0 ∨ o = 1 ∨ o = 2 ∨ o = 3 ∨ o = 4 := by omega
  rcases h6 with rfl | rfl | rfl | rfl | rfl <;> rfl
theorem cap_of {w' : World} {B g n cap : Nat} {e : TypeId} {xs : List Value} {sz : Nat} (hr : w'.ownsRow B e sz (.slice (some ⟨g, 0, none⟩) n cap) n xs) : n ≤ cap ∧ cap ≤ maxLen := by
  rcases hr.2 with ⟨e1, e2⟩ | ⟨g2, cap2, cur, e1, _, _, h1, h2, _⟩
  · cases e1
  · simp only [Value.slice.injEq] at e1
    obtain ⟨-, -, rfl⟩ := e1
    exact ⟨h1, h2⟩
theorem addend2 (x m : Int) (hm : 0 ≤ m) : ∃ n d, (if m < x then m else x) = n ∧ (if 0 < n then n else (0 : Int)) = d ∧ 0 ≤ d ∧ d ≤ m := by
  refine ⟨_, _, rfl, rfl, ?_, ?_⟩ <;> (repeat' split) <;> omega
theorem mod_facts2 (cn : Int) {n : Nat} (hn : 0 < n) : ∃ r, cn.tmod n = r ∧ -(n : Int) < r ∧ r < n ∧ ∃ ix : Nat, ix < n ∧ (r + n).tmod n = (ix : Int) := by
  have h1 : cn.tmod n < n := Int.tmod_lt_of_pos _ (by omega)
  have h2 : -(n : Int) < cn.tmod n := by
    by_cases h : 0 ≤ cn
    · have := Int.tmod_nonneg (n : Int) h; omega
    · have h3 := Int.tmod_lt_of_pos (-cn) (show (0 : Int) < n by omega)
      rw [Int.neg_tmod] at h3
      omega
  refine ⟨_, rfl, h2, h1, ((cn.tmod n + n).tmod n).toNat, ?_, ?_⟩
  · have := Int.tmod_lt_of_pos (cn.tmod n + n) (show (0 : Int) < n by omega); omega
  · have := Int.tmod_nonneg (n : Int) (show 0 ≤ cn.tmod n + n by omega); omega

set_option maxRecDepth 100000 in
set_option maxHeartbeats 6400000 in
theorem busLonger_any (la : Option Addr) (lc : Nat) (ls : List Fr) (cn ca cb cc : Int) (w : World) (h : FramesAt w la ls) (hlc : ls.length ≤ lc) (hlc2 : lc ≤ maxLen) :
    Calls Try.prog 11 #[.slice la ls.length lc, .agg #[.int .i64 cn, .int .i64 ca, .int .i64 cb, .int .i64 cc]] w fun e w' => e = .returned (.bool true) ∧ Kp w w' := by
  have hlm := h.len
  unfold maxLen at hlm
  have hk := kp_alloc w (.cells #[.int .i64 cn, .int .i64 ca, .int .i64 cb, .int .i64 cc] 67)
  have d0 : (w.alloc (.cells #[.int .i64 cn, .int .i64 ca, .int .i64 cb, .int .i64 cc] 67)).cell? ⟨w.heap.size, 0, none⟩ = some (.int .i64 cn) := by simp
  have d1 : (w.alloc (.cells #[.int .i64 cn, .int .i64 ca, .int .i64 cb, .int .i64 cc] 67)).cell? ⟨w.heap.size, 1, none⟩ = some (.int .i64 ca) := by simp
  have d2 : (w.alloc (.cells #[.int .i64 cn, .int .i64 ca, .int .i64 cb, .int .i64 cc] 67)).cell? ⟨w.heap.size, 2, none⟩ = some (.int .i64 cb) := by simp
  have d3 : (w.alloc (.cells #[.int .i64 cn, .int .i64 ca, .int .i64 cb, .int .i64 cc] 67)).cell? ⟨w.heap.size, 3, none⟩ = some (.int .i64 cc) := by simp
  have hwk : ∀ W, Kp w W → Calls Try.prog 15 #[] W fun e w' => e = .returned (.bool true) ∧ Kp w w' := fun W kW => (works_any W).mono (fun e w' hh => ⟨hh.1, kW.step hh.2⟩)
  have hhv := fun W (kW : Kp w W) => heavy_any la lc ls W (h.kp kW)
  have hrc := fun W (kW : Kp w W) => refCheck_any la lc ls W (h.kp kW)
  have hre := fun W (kW : Kp w W) => responses_any la lc ls W (h.kp kW) hlc hlc2
  have Hk := Lib.hid hk; have Hwk := Lib.hid hwk; have Hhv := Lib.hid hhv; have Hrc := Lib.hid hrc; have Hre := Lib.hid hre; have Hh := Lib.hid h
  clear hk hwk hhv hrc hre h
  unfold maxLen at hlc2
  by_cases hn0 : ls.length = 0
  · have q0 : ((ls.length : Int) == 0) = true := by rw [hn0]; rfl
    clear Hhv Hrc Hre Hh
    go_enter Try.func11, Try.ntmps11
    go_wp2_with fail
    refine (Hwk.out _ Hk.out).mono ?_
    rintro e w2 ⟨rfl, k2⟩
    go_wp2_with fail
    go_ret
    exact ⟨rfl, k2⟩
  have q0 : ((ls.length : Int) == 0) = false := beq_eq_false_iff_ne.2 (by omega)
  go_enter Try.func11, Try.ntmps11
  go_wp2_with fail
  generalize (w.alloc (.cells #[.int .i64 cn, .int .i64 ca, .int .i64 cb, .int .i64 cc] 67)) = V at *
  refine (Hrc.out _ Hk.out).mono ?_
  rintro e w1 ⟨rfl, kp1⟩
  by_cases h0 : frErr ls = 0
  case neg =>
    have hne : ((frErr ls) != 0) = true := by simpa using h0
    have K1 := Lib.hid (Hk.out.step kp1)
    clear kp1 h0
    generalize frErr ls = x at *
    go_wp2_with fail
    refine (Hwk.out _ K1.out).mono ?_
    rintro e w2 ⟨rfl, k2⟩
    go_wp2_with fail
    go_ret
    exact ⟨rfl, k2⟩
  rw [h0]
  have K1 := Lib.hid (Hk.out.step kp1)
  have e0 := kp1.cell d0; have e1 := kp1.cell d1; have e2 := kp1.cell d2; have e3 := kp1.cell d3
  go_wp2_with fail
  refine (Hhv.out _ K1.out).mono ?_
  rintro e w2 ⟨⟨hb, rfl⟩, kp2⟩
  have K2 := Lib.hid (K1.out.step kp2)
  have f0 := kp2.cell e0; have f1 := kp2.cell e1; have f2 := kp2.cell e2; have f3 := kp2.cell e3
  clear kp1 kp2 e0 e1 e2 e3 d0 d1 d2 d3
  cases hb
  case true =>
    go_wp2_with fail
    refine (Hwk.out _ K2.out).mono ?_
    rintro e w3 ⟨rfl, k3⟩
    go_wp2_with fail
    go_ret
    exact ⟨rfl, k3⟩
  have ok := frErr_ok h0
  have hn40 := ok.1
  have hfr := Hh.out.kp K2.out
  obtain ⟨lb, lo, efa, _⟩ := hfr.cells (by omega)
  subst efa
  obtain ⟨nc, n1c⟩ := frame_list hfr (by omega)
  have nl := flat5_len ls
  obtain ⟨i0, hi0, hz0, hz1, hz2⟩ := info_parts infoFrame
  obtain ⟨r, hr, hr1, hr2, ix, hix, hmod⟩ := mod_facts2 cn (n := ls.length) (by omega)
  obtain ⟨na, da, hna, hda, hda0, hda1⟩ := addend2 ca 5 (by omega)
  obtain ⟨nb, db, hnb, hdb, hdb0, hdb1⟩ := addend2 cb 20 (by omega)
  obtain ⟨nd, dc, hnd, hdc, hdc0, hdc1⟩ := addend2 cc 10 (by omega)
  have hmore := bumpF_more (ls := ls) hix hda0 hdb0 hdc0
  have fo := ok.2 ix hix
  have hs := fo.s; have he := fo.e; have hj := fo.j
  have hixn : (ix : Int) < (ls.length : Int) := by omega
  have bw : w.heap.size < w2.heap.size := World.block_lt_of_cell? w2 _ f0
  have Hmore := Lib.hid hmore; have Ok := Lib.hid ok; have H0 := Lib.hid h0; have Nc := Lib.hid nc; have N1 := Lib.hid n1c
  clear hmore ok h0 nc n1c fo hfr
  go_wp2_with (at_builtin; refine wpList_append_lies _ rfl (.const (.slice none 0 0)) (.tmp 25) 22 rfl w2.heap.size 63 i0 (.agg #[.int .i64 0, .int .i64 0, .int .i64 0, .int .i64 0, .int .i64 0]) 5 40 Try.underlying22 hi0 hz0 hz1 hz2 rfl (by decide) (.slice none 0 0) 0 [] (by rfl) (World.ownsRow_nil _ _ _ _) ⟨lb, lo, none⟩ ls.length lc (ls.flatMap frCells) (by rfl) nl Nc.out N1.out (by omega) (by unfold maxLen; omega) (by omega) (Nat.le_refl _) _ rfl ?_; intro g2 cap2 w3 hown hgrow hat hlt3; have hk3 : Kp w2 w3 := (Kp.refl w2).grown hgrow (fun k e => by simp [Value.ownBlock] at e); have f0' := hk3.cell f0; have f1' := hk3.cell f1; have f2' := hk3.cell f2; have f3' := hk3.cell f3; have Hk3 := Lib.hid hk3; have hcap := cap_of (show w3.ownsRow w2.heap.size 63 5 (.slice (some ⟨g2, 0, none⟩) ls.length cap2) ls.length (ls.flatMap frCells) from by simpa using hown); have hrow : FrRow w3 w2.heap.size g2 ls.length ls := frrow_of (by simpa using hown); have Hrow := Lib.hid hrow; clear hgrow hat hown hk3 hrow)
  have x0 : w3.cell? ⟨g2, ix * 5, none⟩ = some (.int .i64 (frAt ls ix).s) := Hrow.out.cells ix hix 0 (by decide)
  have z0 : w3.frozen? ⟨g2, ix * 5, none⟩ = false := Hrow.out.fz _
  have bl1 : g2 < w3.heap.size := Hrow.out.lt.2
  have bl2 : w.heap.size < w3.heap.size := World.block_lt_of_cell? w3 _ f1'
  have hg2 : w2.heap.size ≤ g2 := Hrow.out.lt.1
  have hwa : wrap64 ((frAt ls ix).s + da) = (frAt ls ix).s + da := wrap_in (by omega) (by omega)
  have row4 : FrRow ((w3.setCell ⟨g2, ix * 5, none⟩ (.int .i64 ((frAt ls ix).s + da))).drew) w2.heap.size g2 ls.length (ls.set ix ⟨(frAt ls ix).s + da, (frAt ls ix).e, (frAt ls ix).j, (frAt ls ix).d, (frAt ls ix).r⟩) :=
    (Hrow.out.set (j := 0) hix ((frAt ls ix).s + da) (f := ⟨(frAt ls ix).s + da, (frAt ls ix).e, (frAt ls ix).j, (frAt ls ix).d, (frAt ls ix).r⟩) (fun o ho => by
      have h6 : o = 0 ∨ o = 1 ∨ o = 2 ∨ o = 3 ∨ o = 4 := by omega
      rcases h6 with rfl | rfl | rfl | rfl | rfl <;> rfl) (by decide)).kp (Keeps.drew (Kp.refl _))
  have ks4 : Keeps (fun b => b = g2) w3 (w3.setCell ⟨g2, ix * 5, none⟩ (.int .i64 ((frAt ls ix).s + da))).drew := Keeps.drew ((Keeps.refl (fun b => b = g2) w3).setCell (p := ⟨g2, ix * 5, none⟩) (Or.inl rfl) _)
  have Row4 := Lib.hid row4; have Ks4 := Lib.hid ks4
  clear row4 ks4
  go_region
  generalize (w3.setCell ⟨g2, ix * 5, none⟩ (.int .i64 ((frAt ls ix).s + da))).drew = W4 at *
  have x2 : W4.cell? ⟨g2, ix * 5 + 2, none⟩ = some (.int .i64 (frAt ls ix).j) := by
    have := Row4.out.cells ix hix 2 (by decide)
    rw [frAt_set hix, if_pos rfl] at this
    exact this
  have z2 : W4.frozen? ⟨g2, ix * 5 + 2, none⟩ = false := Row4.out.fz _
  have g2' : W4.cell? ⟨w.heap.size, 2, none⟩ = some (.int .i64 cb) := Ks4.out.cell f2' (by omega)
  have bl3 : g2 < W4.heap.size := Row4.out.lt.2
  have bl4 : w.heap.size < W4.heap.size := World.block_lt_of_cell? W4 _ g2'
  have hwb : wrap64 ((frAt ls ix).j + db) = (frAt ls ix).j + db := wrap_in (by omega) (by omega)
  have row5 : FrRow ((W4.setCell ⟨g2, ix * 5 + 2, none⟩ (.int .i64 ((frAt ls ix).j + db))).drew) w2.heap.size g2 ls.length (ls.set ix ⟨(frAt ls ix).s + da, (frAt ls ix).e, (frAt ls ix).j + db, (frAt ls ix).d, (frAt ls ix).r⟩) := by
    have h5 := (Row4.out.set (j := 2) hix ((frAt ls ix).j + db) (f := ⟨(frAt ls ix).s + da, (frAt ls ix).e, (frAt ls ix).j + db, (frAt ls ix).d, (frAt ls ix).r⟩) (fun o ho => by
      rw [frAt_set hix, if_pos rfl]
      have h6 : o = 0 ∨ o = 1 ∨ o = 2 ∨ o = 3 ∨ o = 4 := by omega
      rcases h6 with rfl | rfl | rfl | rfl | rfl <;> rfl) (by decide)).kp (Keeps.drew (Kp.refl _))
    rw [List.set_set] at h5
    exact h5
  have ks5 : Keeps (fun b => b = g2) w3 (W4.setCell ⟨g2, ix * 5 + 2, none⟩ (.int .i64 ((frAt ls ix).j + db))).drew := Keeps.drew (Ks4.out.setCell (p := ⟨g2, ix * 5 + 2, none⟩) (Or.inl rfl) _)
  have Row5 := Lib.hid row5; have Ks5 := Lib.hid ks5
  clear row5 ks5 x0 z0 bl1 bl2 hwa Row4 Ks4
  go_wp2_with fail
  go_region
  generalize (W4.setCell ⟨g2, ix * 5 + 2, none⟩ (.int .i64 ((frAt ls ix).j + db))).drew = W5 at *
  have x1 : W5.cell? ⟨g2, ix * 5 + 1, none⟩ = some (.int .i64 (frAt ls ix).e) := by
    have := Row5.out.cells ix hix 1 (by decide)
    rw [frAt_set hix, if_pos rfl] at this
    exact this
  have z1 : W5.frozen? ⟨g2, ix * 5 + 1, none⟩ = false := Row5.out.fz _
  have g3' : W5.cell? ⟨w.heap.size, 3, none⟩ = some (.int .i64 cc) := Ks5.out.cell f3' (by omega)
  have bl5 : g2 < W5.heap.size := Row5.out.lt.2
  have bl6 : w.heap.size < W5.heap.size := World.block_lt_of_cell? W5 _ g3'
  have hwc : wrap64 ((frAt ls ix).e - dc) = (frAt ls ix).e - dc := wrap_in (by omega) (by omega)
  have row6 : FrRow ((W5.setCell ⟨g2, ix * 5 + 1, none⟩ (.int .i64 ((frAt ls ix).e - dc))).drew) w2.heap.size g2 ls.length (bumpF ls ix da db dc) := by
    have h5 := (Row5.out.set (j := 1) hix ((frAt ls ix).e - dc) (f := ⟨(frAt ls ix).s + da, (frAt ls ix).e - dc, (frAt ls ix).j + db, (frAt ls ix).d, (frAt ls ix).r⟩) (fun o ho => by
      rw [frAt_set hix, if_pos rfl]
      have h6 : o = 0 ∨ o = 1 ∨ o = 2 ∨ o = 3 ∨ o = 4 := by omega
      rcases h6 with rfl | rfl | rfl | rfl | rfl <;> rfl) (by decide)).kp (Keeps.drew (Kp.refl _))
    rw [List.set_set] at h5
    exact h5
  have ks6 : Keeps (fun b => b = g2) w3 (W5.setCell ⟨g2, ix * 5 + 1, none⟩ (.int .i64 ((frAt ls ix).e - dc))).drew := Keeps.drew (Ks5.out.setCell (p := ⟨g2, ix * 5 + 1, none⟩) (Or.inl rfl) _)
  have Row6 := Lib.hid row6; have Ks6 := Lib.hid ks6
  clear row6 ks6 x2 z2 bl3 bl4 hwb Row5 Ks5 g2'
  go_wp2_with fail
  go_region
  generalize (W5.setCell ⟨g2, ix * 5 + 1, none⟩ (.int .i64 ((frAt ls ix).e - dc))).drew = W6 at *
  have kp6 : Kp w2 W6 := Hk3.out.trans Ks6.out (fun j e => Or.inr (by omega))
  have hlb : (bumpF ls ix da db dc).length = ls.length := Hmore.out.len
  have hfr6 : FramesAt W6 (some ⟨g2, 0, none⟩) (bumpF ls ix da db dc) := Row6.out.frames (by unfold maxLen; omega)
  have hrc2 := fun W (kW : Kp W6 W) => refCheck_any (some ⟨g2, 0, none⟩) cap2 (bumpF ls ix da db dc) W (hfr6.kp kW)
  have hhv2 := fun W (kW : Kp W6 W) => heavy_any (some ⟨g2, 0, none⟩) cap2 (bumpF ls ix da db dc) W (hfr6.kp kW)
  have hre2 := fun W (kW : Kp W6 W) => responses_any (some ⟨g2, 0, none⟩) cap2 (bumpF ls ix da db dc) W (hfr6.kp kW) (by omega) (by omega)
  rw [hlb] at hrc2 hhv2 hre2
  have hri : frErr (bumpF ls ix da db dc) = 0 → ∀ k, k < ls.length → 0 ≤ (respL (bumpF ls ix da db dc) ls.length).getD k 0 → 0 ≤ (respL ls ls.length).getD k 0 ∧ (respL ls ls.length).getD k 0 ≤ (respL (bumpF ls ix da db dc) ls.length).getD k 0 := fun e k hk => by
    rw [respL_at _ hk, respL_at _ hk]
    exact respI_le Hmore.out Ok.out (frErr_ok e) hk
  have K6 := Lib.hid (K2.out.step kp6); have Kp6 := Lib.hid kp6; have Hrc2 := Lib.hid hrc2; have Hhv2 := Lib.hid hhv2; have Hre2 := Lib.hid hre2; have Hri := Lib.hid hri
  clear kp6 hfr6 hrc2 hhv2 hre2 hri Row6 Ks6 x1 z1 bl5 bl6 hwc g3' Hmore Ok f0 f1 f2 f3 f0' f1' f2' f3' hna hda hnb hdb hnd hdc Hrow Hk3
  generalize bumpF ls ix da db dc = ls2 at *
  go_wp2_with fail
  refine (Hrc2.out _ (Kp.refl _)).mono ?_
  rintro e w7 ⟨rfl, kp7⟩
  by_cases h02 : frErr ls2 = 0
  case neg =>
    have hne : ((frErr ls2) != 0) = true := by simpa using h02
    have K7 := Lib.hid (K6.out.step kp7)
    clear kp7 h02
    generalize frErr ls2 = x at *
    go_wp2_with fail
    refine (Hwk.out _ K7.out).mono ?_
    rintro e w8 ⟨rfl, k8⟩
    go_wp2_with fail
    go_ret
    exact ⟨rfl, k8⟩
  rw [h02]
  go_wp2_with fail
  refine (Hhv2.out _ kp7).mono ?_
  rintro e w8 ⟨⟨hb, rfl⟩, kp8⟩
  have K8 := Lib.hid (K6.out.step (kp7.step kp8))
  have Kq8 := Lib.hid (kp7.step kp8)
  clear kp7 kp8
  cases hb
  case true =>
    go_wp2_with fail
    refine (Hwk.out _ K8.out).mono ?_
    rintro e w9 ⟨rfl, k9⟩
    go_wp2_with fail
    go_ret
    exact ⟨rfl, k9⟩
  go_wp2_with fail
  refine (Hre.out _ K8.out).mono ?_
  intro e w9 hd
  unfold RespEnd at hd
  rw [if_pos H0.out] at hd
  obtain ⟨⟨ga, gc, rfl, i1⟩, kp9⟩ := hd
  have Kq9 := Lib.hid (Kq8.out.step kp9)
  have I1 := Lib.hid i1
  clear kp9 i1
  go_wp2_with fail
  refine (Hre2.out _ Kq9.out).mono ?_
  intro e w10 hd
  unfold RespEnd at hd
  rw [if_pos h02] at hd
  rw [hlb] at hd
  obtain ⟨⟨gb, gc2, rfl, i2⟩, kp10⟩ := hd
  have K10 := Lib.hid (K6.out.step (Kq9.out.step kp10))
  have I2 := Lib.hid i2
  have J1 := Lib.hid (I1.out.kp kp10)
  have Hri' := Lib.hid (Hri.out h02)
  have ll1 : (respL ls ls.length).length = ls.length := by unfold respL; simp
  have ll2 : (respL ls2 ls.length).length = ls.length := by unfold respL; simp
  clear kp10 i2 h02 Hri I1
  have qe : ((ls.length : Int) != (ls.length : Int)) = false := by simp
  go_wp2_with fail
  go_loopw [11] (fun i wq => ∃ (k : Nat), k ≤ ls.length ∧ i = .int .i64 k ∧ Kp w10 wq) (fun i _ => ls.length - (intOf i).toNat)
  case atStart => exact ⟨0, Nat.zero_le _, rfl, Kp.refl _⟩
  case round =>
    obtain ⟨k, hk, rfl, kp⟩ := hrel
    by_cases hlt : k < ls.length
    · obtain ⟨b1, o1, e1, h1⟩ := (J1.out.kp kp).cells (by omega)
      obtain ⟨b2, o2, e2, h2⟩ := (I2.out.kp kp).cells (by omega)
      subst e1
      subst e2
      have p1 := h1 k (by omega)
      have p2 := h2 k (by omega)
      have hle := Hri'.out k hlt
      have i1 : (k : Int) < (ls.length : Int) := by omega
      have Kq := Lib.hid kp
      clear h1 h2 kp
      generalize (respL ls2 ls.length).getD k 0 = y at *
      generalize (respL ls ls.length).getD k 0 = x at *
      by_cases hy : 0 ≤ y
      · obtain ⟨hx, hxy⟩ := hle hy
        have t1 : decide (x < 0) = false := decide_eq_false (by omega)
        have t2 : decide (y ≥ 0) = true := decide_eq_true hy
        have t3 : decide (y < x) = false := decide_eq_false (by omega)
        go_wp2_with fail
        go_quiet (fail)
        go_wp2_with fail
        go_roundw
        case rel => exact ⟨k + 1, by omega, by go_num, Keeps.drewN Kq.out _⟩
        case measure => simp [intOf]; omega
      · have t2 : decide (y ≥ 0) = false := decide_eq_false hy
        by_cases hx : x < 0
        · have t1 : decide (x < 0) = true := decide_eq_true hx
          go_wp2_with fail
          go_quiet (fail)
          go_wp2_with fail
          go_roundw
          case rel => exact ⟨k + 1, by omega, by go_num, Keeps.drewN Kq.out _⟩
          case measure => simp [intOf]; omega
        · have t1 : decide (x < 0) = false := decide_eq_false hx
          go_wp2_with fail
          go_quiet (fail)
          go_wp2_with fail
          go_roundw
          case rel => exact ⟨k + 1, by omega, by go_num, Keeps.drewN Kq.out _⟩
          case measure => simp [intOf]; omega
    · obtain rfl : k = ls.length := by omega
      have Kr := Lib.hid (K10.out.step kp)
      clear kp
      go_wp2_with fail
      refine (Hwk.out _ Kr.out).mono ?_
      rintro e w6 ⟨rfl, k6⟩
      go_wp2_with fail
      go_ret
      exact ⟨rfl, k6⟩
end Go.Proofs.Ytcemgfogaaobiaa
