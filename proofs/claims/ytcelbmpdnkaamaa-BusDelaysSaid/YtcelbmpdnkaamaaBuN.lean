/- When frames are valid. -/
import Derived.Test.YtcelbmpdnkaamaaBuJ
namespace Go.Proofs.Ytcelbmpdnkaamaa
open Go Go.RowKit Go.WideMaps Go.Maps
set_option linter.unusedSimpArgs false
set_option linter.unusedVariables false

def frB (f : Fr) : Bool := (((fromB 1 f.s 1000 && fromB 1 f.e 100000) && fromB 1 f.d 100000) && fromB 0 f.j 100000) && fromB 0 f.r 1000

set_option maxRecDepth 100000 in
set_option maxHeartbeats 1600000 in
theorem isFrame_any (f : Fr) (w : World) : Calls Try.prog 92 #[frV f] w fun e w' => e = .returned (.bool (frB f)) ∧ Kp w w' := by
  obtain ⟨s, e, j, d, r⟩ := f
  unfold frV
  dsimp only
  have hk := kp_alloc w (.cells #[.int .i64 s, .int .i64 e, .int .i64 j, .int .i64 d, .int .i64 r] 56)
  have hfb : frB ⟨s, e, j, d, r⟩ = ((((fromB 1 s 1000 && fromB 1 e 100000) && fromB 1 d 100000) && fromB 0 j 100000) && fromB 0 r 1000) := rfl
  have f1 := isFrom_any 1 s 1000
  have f2 := isFrom_any 1 e 100000
  have f3 := isFrom_any 1 d 100000
  have f4 := isFrom_any 0 j 100000
  have f5 := isFrom_any 0 r 1000
  have F1 := Lib.hid f1; have F2 := Lib.hid f2; have F3 := Lib.hid f3; have F4 := Lib.hid f4; have F5 := Lib.hid f5; have Hk := Lib.hid hk; have Hf := Lib.hid hfb
  clear f1 f2 f3 f4 f5 hk hfb
  go_enter Try.func92, Try.ntmps92
  go_wp2_with fail
  refine (F1.out _).mono ?_
  rintro e1 w1 ⟨rfl, rfl⟩
  generalize fromB 1 s 1000 = b1 at *
  cases b1
  · go_wp2_with fail
    go_ret
    exact ⟨by rw [Hf.out]; rfl, Hk.out⟩
  go_wp2_with fail
  refine (F2.out _).mono ?_
  rintro e1 w1 ⟨rfl, rfl⟩
  generalize fromB 1 e 100000 = b1 at *
  cases b1
  · go_wp2_with fail
    go_ret
    exact ⟨by rw [Hf.out]; rfl, Hk.out⟩
  go_wp2_with fail
  refine (F3.out _).mono ?_
  rintro e1 w1 ⟨rfl, rfl⟩
  generalize fromB 1 d 100000 = b1 at *
  cases b1
  · go_wp2_with fail
    go_ret
    exact ⟨by rw [Hf.out]; rfl, Hk.out⟩
  go_wp2_with fail
  refine (F4.out _).mono ?_
  rintro e1 w1 ⟨rfl, rfl⟩
  generalize fromB 0 j 100000 = b1 at *
  cases b1
  · go_wp2_with fail
    go_ret
    exact ⟨by rw [Hf.out]; rfl, Hk.out⟩
  go_wp2_with fail
  refine (F5.out _).mono ?_
  rintro e1 w1 ⟨rfl, rfl⟩
  generalize fromB 0 r 1000 = b1 at *
  cases b1
  all_goals
    go_wp2_with fail
    go_ret
    exact ⟨by rw [Hf.out]; rfl, Hk.out⟩

theorem sameRank_any (o : Fr) (r : Int) (fb : Nat) (w : World) (hc : w.cell? ⟨fb, 4, none⟩ = some (.int .i64 r)) :
    Calls Try.prog 91 #[frV o, .pointer (some ⟨fb, 0, none⟩)] w fun e w' => e = .returned (.bool (o.r == r)) ∧ Kp w w' := by
  obtain ⟨s, e, j, d, x⟩ := o
  unfold frV
  dsimp only
  have hl : fb < w.heap.size := World.block_lt_of_cell? w _ hc
  have hk := kp_alloc w (.cells #[.int .i64 s, .int .i64 e, .int .i64 j, .int .i64 d, .int .i64 x] 56)
  have Hk := Lib.hid hk
  clear hk
  cases hx : (x == r)
  all_goals
    go_enter Try.func91, Try.ntmps91
    go_wp2_with fail
    go_ret
    exact ⟨by simp [hx], Hk.out⟩

set_option maxHeartbeats 1600000 in
theorem indexFrames_any (la : Option Addr) (lc fb : Nat) (r : Int) (ls : List Fr) (w : World) (h : FramesAt w la ls) (hc : w.cell? ⟨fb, 4, none⟩ = some (.int .i64 r)) :
    Calls Try.prog 101 #[.slice la ls.length lc, .func (Fn.func 91) #[] #[.pointer (some ⟨fb, 0, none⟩)]] w fun e w' => IdxEnd ls.length (fun k => !((frAt ls k).r == r)) e ∧ Kp w w' := by
  have hl1 := h.len
  unfold maxLen at hl1
  have Hx := Lib.hid h
  clear h
  go_enter Try.func101, Try.ntmps101
  go_wp2_with fail
  go_loopw [8] (fun i wr => ∃ (k : Nat), k ≤ ls.length ∧ i = .int .i64 k ∧ Kp w wr ∧ ∀ j, j < k → (!((frAt ls j).r == r)) = true) (fun i _ => ls.length - (intOf i).toNat)
  case atStart => exact ⟨0, Nat.zero_le _, rfl, Kp.refl _, fun j hj => by omega⟩
  case round =>
    obtain ⟨k, hk, rfl, kp, hno⟩ := hrel
    by_cases hlt : k < ls.length
    · obtain ⟨b1, o1, rfl, hc1⟩ := (Hx.out.kp kp).cells (by omega)
      obtain ⟨c0, c1, c2, c3, c4⟩ := hc1 k hlt
      have i1 : (k : Int) < (ls.length : Int) := by omega
      have hcl := sameRank_any (frAt ls k) r fb wr (kp.cell hc)
      have hbad : ((frAt ls k).r == r) = true → IdxEnd ls.length (fun k => !((frAt ls k).r == r)) (.returned (.int .i64 k)) := fun hh => by
        unfold IdxEnd
        rw [if_neg (by rw [allR_bad hlt (by simpa using hh)]; simp)]
        exact ⟨k, hlt, rfl⟩
      have hnext : ((frAt ls k).r == r) = false → ∀ j, j < k + 1 → (!((frAt ls j).r == r)) = true := fun hh j hj => by
        by_cases e : j = k
        · subst e; simpa using hh
        · exact hno j (by omega)
      have Hbad := Lib.hid hbad; have Hn := Lib.hid hnext; have Kq := Lib.hid kp; have Hcl := Lib.hid hcl
      clear hbad hnext kp hcl hno hc1
      generalize hx : ((frAt ls k).r == r) = x at *
      clear hx
      unfold frV at Hcl
      generalize frAt ls k = f at *
      go_wp2_with fail
      refine Hcl.out.mono ?_
      rintro e w1 ⟨rfl, kp1⟩
      have K2 := Lib.hid (Kq.out.step kp1)
      clear kp1
      cases x
      · have Hz := Lib.hid (Hn.out rfl)
        go_wp2_with fail
        go_roundw
        case rel => exact ⟨k + 1, by omega, by go_num, K2.out, Hz.out⟩
        case measure => simp [intOf]; omega
      · have Hz := Lib.hid (Hbad.out rfl)
        go_wp2_with fail
        go_ret
        exact ⟨Hz.out, K2.out⟩
    · obtain rfl : k = ls.length := by omega
      have Hz : Hid (IdxEnd ls.length (fun k => !((frAt ls k).r == r)) (.returned (.int .i64 (-1)))) := Lib.hid (by
        unfold IdxEnd
        rw [if_pos (allR_good hno)])
      clear hno
      go_wp2_with fail
      go_ret
      exact ⟨Hz.out, kp⟩

theorem containsFrames_any (la : Option Addr) (lc fb : Nat) (r : Int) (ls : List Fr) (w : World) (h : FramesAt w la ls) (hc : w.cell? ⟨fb, 4, none⟩ = some (.int .i64 r)) :
    Calls Try.prog 93 #[.slice la ls.length lc, .func (Fn.func 91) #[] #[.pointer (some ⟨fb, 0, none⟩)]] w fun e w' => e = .returned (.bool (!allR ls.length (fun k => !((frAt ls k).r == r)))) ∧ Kp w w' := by
  have hi := indexFrames_any la lc fb r ls w h hc
  have Hi := Lib.hid hi
  clear hi h
  go_enter Try.func93, Try.ntmps93
  go_wp2_with fail
  refine Hi.out.mono ?_
  rintro e w1 ⟨he, kp⟩
  unfold IdxEnd at he
  cases hb : allR ls.length (fun k => !((frAt ls k).r == r))
  · rw [if_neg (by rw [hb]; simp)] at he
    obtain ⟨k, hk, rfl⟩ := he
    go_wp2_with fail
    go_ret
    exact ⟨by rw [hb]; rfl, kp⟩
  · rw [if_pos hb] at he
    subst he
    go_wp2_with fail
    go_ret
    exact ⟨by rw [hb]; rfl, kp⟩

def frAtB (ls : List Fr) (i : Nat) : Bool := frB (frAt ls i) && allR i (fun k => !((frAt ls k).r == (frAt ls i).r))
def framesB (ls : List Fr) : Bool := decide (ls.length ≤ 40) && allR ls.length (frAtB ls)
def frErr (ls : List Fr) : Int := if framesB ls = true then 0 else 40

set_option maxHeartbeats 3200000 in
theorem areFrames_any (la : Option Addr) (lc : Nat) (ls : List Fr) (w : World) (h : FramesAt w la ls) (hlc : ls.length ≤ lc) (hlc2 : lc ≤ maxLen) :
    Calls Try.prog 63 #[.slice la ls.length lc] w fun e w' => e = .returned (.bool (framesB ls)) ∧ Kp w w' := by
  unfold maxLen at hlc2
  by_cases h1 : ls.length ≤ 40
  case neg =>
    have He : Hid (framesB ls = false) := Lib.hid (by unfold framesB; simp [h1])
    have q1 : decide ((40 : Int) < ls.length) = true := decide_eq_true (by omega)
    go_enter Try.func63, Try.ntmps63
    go_wp2_with fail
    go_ret
    exact ⟨by rw [He.out]; rfl, Kp.refl _⟩
  have q1 : decide ((40 : Int) < ls.length) = false := decide_eq_false (by omega)
  have hbad : ∀ k, k < ls.length → frAtB ls k = false → framesB ls = false := fun k hk hh => by
    unfold framesB; rw [allR_bad hk hh]; simp
  have hgood : (∀ j, j < ls.length → frAtB ls j = true) → framesB ls = true := fun hh => by
    unfold framesB; rw [allR_good hh]; simp [h1]
  have Hbad := Lib.hid hbad; have Hgood := Lib.hid hgood; have Hh := Lib.hid h
  clear hbad hgood h
  go_enter Try.func63, Try.ntmps63
  go_wp2_with fail
  go_loopw [11] (fun i wq => ∃ (k : Nat), k ≤ ls.length ∧ i = .int .i64 k ∧ Kp w wq ∧ ∀ j, j < k → frAtB ls j = true) (fun i _ => ls.length - (intOf i).toNat)
  case atStart => exact ⟨0, Nat.zero_le _, rfl, Kp.refl _, fun j hj => by omega⟩
  case round =>
    obtain ⟨k, hk, rfl, kp, hok⟩ := hrel
    by_cases hlt : k < ls.length
    · have hfr := Hh.out.kp kp
      obtain ⟨b1, o1, rfl, hc1⟩ := hfr.cells (by omega)
      obtain ⟨c0, c1, c2, c3, c4⟩ := hc1 k hlt
      have i1 : (k : Int) < (ls.length : Int) := by omega
      have hbk := Hbad.out k hlt
      have hnext : frAtB ls k = true → ∀ j, j < k + 1 → frAtB ls j = true := fun hh j hj => by
        by_cases e : j = k
        · subst e; exact hh
        · exact hok j (by omega)
      have hfa : frAtB ls k = (frB (frAt ls k) && allR k (fun m => !((frAt ls m).r == (frAt ls k).r))) := rfl
      have ka := kp_alloc wr (.cells #[.int .i64 (frAt ls k).s, .int .i64 (frAt ls k).e, .int .i64 (frAt ls k).j, .int .i64 (frAt ls k).d, .int .i64 (frAt ls k).r] 56)
      have hbx : (wr.alloc (.cells #[.int .i64 (frAt ls k).s, .int .i64 (frAt ls k).e, .int .i64 (frAt ls k).j, .int .i64 (frAt ls k).d, .int .i64 (frAt ls k).r] 56)).cell? ⟨wr.heap.size, 4, none⟩ = some (.int .i64 (frAt ls k).r) := by simp
      have hif := isFrame_any (frAt ls k)
      have hcf : ∀ W, Kp (wr.alloc (.cells #[.int .i64 (frAt ls k).s, .int .i64 (frAt ls k).e, .int .i64 (frAt ls k).j, .int .i64 (frAt ls k).d, .int .i64 (frAt ls k).r] 56)) W → Calls Try.prog 93 #[.slice (some ⟨b1, o1, none⟩) k lc, .func (Fn.func 91) #[] #[.pointer (some ⟨wr.heap.size, 0, none⟩)]] W fun e w' => e = .returned (.bool (!allR k (fun m => !((frAt ls m).r == (frAt ls k).r)))) ∧ Kp W w' := fun W kW => by
        have := containsFrames_any (some ⟨b1, o1, none⟩) lc wr.heap.size (frAt ls k).r (ls.take k) W (((hfr.kp ka).kp kW).take k) (kW.cell hbx)
        rw [show (ls.take k).length = k by simp; omega] at this
        have e : allR k (fun m => !((frAt (ls.take k) m).r == (frAt ls k).r)) = allR k (fun m => !((frAt ls m).r == (frAt ls k).r)) := by
          have hh : ∀ m, m < k → frAt (ls.take k) m = frAt ls m := fun m hm => by simp [frAt, List.getD, List.getElem?_take, hm]
          unfold allR
          rw [Bool.eq_iff_iff, List.all_eq_true, List.all_eq_true]
          exact ⟨fun h x hx => by have := h x hx; rwa [hh x (List.mem_range.1 hx)] at this, fun h x hx => by have := h x hx; rwa [hh x (List.mem_range.1 hx)]⟩
        rwa [e] at this
      unfold frV at hif
      generalize allR k (fun m => !((frAt ls m).r == (frAt ls k).r)) = y at *
      generalize frAtB ls k = z at *
      generalize frAt ls k = f at *
      have Hbk := Lib.hid hbk; have Hn := Lib.hid hnext; have Hfa := Lib.hid hfa; have Hif := Lib.hid hif; have Hcf := Lib.hid hcf; have Kq := Lib.hid (kp.step ka)
      clear hbk hnext hfa hif hcf kp ka hc1 hok hfr hbx
      go_wp2_with fail
      refine (Hif.out _).mono ?_
      rintro e w1 ⟨rfl, kp1⟩
      have K1 := Lib.hid (Kq.out.step kp1); have Kp1 := Lib.hid kp1
      clear kp1
      generalize frB f = x at *
      cases x
      · have Hz := Lib.hid (Hbk.out (by rw [Hfa.out]; rfl))
        go_wp2_with fail
        go_ret
        exact ⟨by rw [Hz.out]; rfl, K1.out⟩
      · go_wp2_with fail
        refine (Hcf.out _ Kp1.out).mono ?_
        rintro e w2 ⟨rfl, kp2⟩
        have K2 := Lib.hid (K1.out.step kp2)
        clear kp2
        cases y
        · have Hz := Lib.hid (Hbk.out (by rw [Hfa.out]; rfl))
          go_wp2_with fail
          go_ret
          exact ⟨by rw [Hz.out]; rfl, K2.out⟩
        · have Hz := Lib.hid (Hn.out (by rw [Hfa.out]; rfl))
          go_wp2_with fail
          go_roundw
          case rel => exact ⟨k + 1, by omega, by go_num, K2.out, Hz.out⟩
          case measure => simp [intOf]; omega
    · obtain rfl : k = ls.length := by omega
      have Hz := Lib.hid (Hgood.out hok)
      clear hok
      go_wp2_with fail
      go_ret
      exact ⟨by rw [Hz.out]; rfl, kp⟩

theorem check_any (la : Option Addr) (lc : Nat) (ls : List Fr) (w : World) (h : FramesAt w la ls) (hlc : ls.length ≤ lc) (hlc2 : lc ≤ maxLen) :
    Calls Try.prog 37 #[.slice la ls.length lc] w fun e w' => e = .returned (.int .i64 (frErr ls)) ∧ Kp w w' := by
  have ha := areFrames_any la lc ls w h hlc hlc2
  have hfe : frErr ls = if framesB ls = true then 0 else 40 := rfl
  have Ha := Lib.hid ha; have Hf := Lib.hid hfe
  clear ha hfe h
  go_enter Try.func37, Try.ntmps37
  go_wp2_with fail
  refine Ha.out.mono ?_
  rintro e w1 ⟨rfl, kp1⟩
  cases hx : framesB ls
  all_goals
    go_wp2_with fail
    go_ret
    exact ⟨by rw [Hf.out, hx]; rfl, kp1⟩
end Go.Proofs.Ytcelbmpdnkaamaa
