/- Which frames can be late: with a limit, makeLate, the reference's late, the reference's Response. -/
import Derived.Test.YtcelbmpdnkaamaaBwF
namespace Go.Proofs.Ytcelbmpdnkaamaa
open Go Go.RowKit Go.WideMaps Go.Maps
set_option linter.unusedSimpArgs false
set_option linter.unusedVariables false

theorem respTo_lim {f : Fr} {ab : List Fr} {rest lim : Int} (h : RivOk f ab rest) (h0 : 0 ≤ lim) : ∀ q, respTo rest ab f lim q = (respTo rest ab f huge q).bind (fun mb => if lim < mb.1 then none else some mb)
  | 0 => by simp [respTo]; omega
  | q + 1 => by
    show (respTo rest ab f lim q).bind _ = ((respTo rest ab f huge q).bind _).bind _
    rw [respTo_lim h h0 q]
    cases e : respTo rest ab f huge q with
    | none => rfl
    | some mb =>
      obtain ⟨m, b⟩ := mb
      have bo := respTo_ok h q m b e
      have m1 := bo.m1
      have hs := h.fo.s; have hj := h.fo.j
      have he : 0 ≤ (q : Int) * f.e := Int.mul_nonneg (by omega) (by have := h.fo.e.1; omega)
      simp only [Option.bind_some]
      cases e1 : lfp (waitG rest q ab f) b with
      | none =>
        by_cases hm : lim < m
        · rw [if_pos hm]; rfl
        · rw [if_neg hm]; simp [e1]
      | some w =>
        obtain ⟨w1, w2, w3⟩ := lfp_some bo.up e1
        have hh : ¬ (huge < max m (w + f.s + f.j - q * f.e)) := by unfold huge; omega
        by_cases hm : lim < m
        · rw [if_pos hm]
          simp only [Option.bind_some, Option.bind_none]
          rw [if_neg hh]
          simp only [Option.bind_some]
          rw [if_pos (by omega)]
        · rw [if_neg hm]
          simp only [Option.bind_some]
          rw [e1, if_neg hh]
          simp only [Option.bind_some]
def lateB (ls : List Fr) (i : Nat) : Bool := decide (respI ls i < 0) || decide ((frAt ls i).d < respI ls i)
theorem late_eq {ls : List Fr} (ok : FrsOk ls) {i : Nat} (hi : i < ls.length) : (respOf (rsI ls i) (abI ls i) (frAt ls i) (frAt ls i).d).isSome = !(lateB ls i) := by
  have hr := rivOk_of ok (ok.2 i hi)
  have hd := (ok.2 i hi).d
  unfold respOf lateB
  cases e : lfp (busyG (rsI ls i) (abI ls i) (frAt ls i)) 1 with
  | none => rw [respI_late e]; rfl
  | some t =>
    simp only [Option.bind_some]
    rw [respTo_lim hr (by omega)]
    cases e2 : respTo (rsI ls i) (abI ls i) (frAt ls i) huge (qsOf (frAt ls i) t) with
    | none =>
      rw [respI_none e e2]
      unfold qsOf at e2
      rw [e2]; rfl
    | some mb =>
      obtain ⟨m, b⟩ := mb
      have h1 := (respTo_ok hr _ m b e2).m0
      rw [respI_some e e2]
      unfold qsOf at e2
      rw [e2]
      simp only [Option.bind_some]
      by_cases hm : (frAt ls i).d < m
      · rw [if_pos hm, decide_eq_true hm]; simp
      · rw [if_neg hm, decide_eq_false hm, decide_eq_false (by omega)]; rfl

set_option maxRecDepth 100000 in
set_option maxHeartbeats 1600000 in
theorem makeLate_any (aa : Option Addr) (ac : Nat) (ab : List Fr) (rest : Int) (f : Fr) (w : World) (h : FramesAt w aa ab) (ok : RivOk f ab rest) :
    Calls Try.prog 43 #[.agg #[.slice aa ab.length ac, .int .i64 rest], frV f] w fun e w' => e = .returned (.bool (!(respOf rest ab f f.d).isSome)) ∧ Kp w w' := by
  have hbx := rivBox_of (ac := ac) (rest := rest) (f := f) h
  have kp2 : Kp w ((w.alloc (.cells #[.slice aa ab.length ac, .int .i64 rest] 65)).alloc (.cells #[.int .i64 f.s, .int .i64 f.e, .int .i64 f.j, .int .i64 f.d, .int .i64 f.r] 56)) := (kp_alloc _ _).step (kp_alloc _ _)
  have hre := fun W (kW : Kp w W) => response_any aa ac ab rest f f.d W (h.kp kW) ok
  have Hre := Lib.hid hre; have Kp2 := Lib.hid kp2
  clear hre kp2 hbx h ok
  unfold frV at *
  generalize respOf rest ab f f.d = R at *
  go_enter Try.func43, Try.ntmps43
  go_wp2_with fail
  refine (Hre.out _ Kp2.out).mono ?_
  rintro e w1 ⟨rfl, kp1⟩
  unfold optV
  cases R
  all_goals
    go_wp2_with fail
    go_ret
    exact ⟨rfl, Kp2.out.step kp1⟩

set_option maxRecDepth 100000 in
set_option maxHeartbeats 1600000 in
theorem late_any (la : Option Addr) (lc : Nat) (ls : List Fr) (i : Nat) (w : World) (h : FramesAt w la ls) (ok : FrsOk ls) (rk : RankAt ls i) (hi : i < ls.length) :
    Calls Try.prog 44 #[.slice la ls.length lc, .int .i64 i] w fun e w' => e = .returned (.bool (lateB ls i)) ∧ Kp w w' := by
  have hn := ok.1
  obtain ⟨b1, o1, rfl, hc0⟩ := h.cells (by omega)
  have hre := refResponse1_any (some ⟨b1, o1, none⟩) lc ls i w h ok rk hi
  have hl : lateB ls i = (decide (respI ls i < 0) || decide ((frAt ls i).d < respI ls i)) := rfl
  have c3 := (hc0 i hi).2.2.2.1
  have iI : (i : Int) < (ls.length : Int) := by omega
  have Hre := Lib.hid hre; have Hl := Lib.hid hl
  clear hre hl hc0 h ok rk
  generalize respI ls i = r at *
  generalize (frAt ls i).d = d at *
  generalize lateB ls i = L at *
  go_enter Try.func44, Try.ntmps44
  go_wp2_with fail
  refine Hre.out.mono ?_
  rintro e w1 ⟨rfl, kp1⟩
  have c3' := kp1.cell c3
  have Kq := Lib.hid kp1
  clear c3 kp1
  by_cases h0 : r < 0
  · have q0 : decide (r < 0) = true := decide_eq_true h0
    go_wp2_with fail
    go_ret
    exact ⟨by rw [Hl.out, q0]; rfl, Kq.out⟩
  · have q0 : decide (r < 0) = false := decide_eq_false h0
    by_cases h1 : d < r
    · have q1 : decide (d < r) = true := decide_eq_true h1
      go_wp2_with fail
      go_ret
      exact ⟨by rw [Hl.out, q0, q1]; rfl, Kq.out⟩
    · have q1 : decide (d < r) = false := decide_eq_false h1
      go_wp2_with fail
      go_ret
      exact ⟨by rw [Hl.out, q0, q1]; rfl, Kq.out⟩

/-- What Response answers. -/
def RespV (ls : List Fr) (i : Int) : Value :=
  if frErr ls = 0 then (if fromB 0 i ((ls.length : Int) - 1) = true then (if respI ls i.toNat < 0 then .tuple #[.int .i64 0, .int .i64 41] else .tuple #[.int .i64 (respI ls i.toNat), .int .i64 0]) else .tuple #[.int .i64 0, .int .i64 1])
  else .tuple #[.int .i64 0, .int .i64 (frErr ls)]
theorem frErr_okW {ls : List Fr} (h : frErr ls = 0) : FrsOk ls := by
  unfold frErr at h
  split at h
  · rename_i hb; exact framesB_ok hb
  · cases h

set_option maxRecDepth 100000 in
set_option maxHeartbeats 1600000 in
theorem refResponse_any (la : Option Addr) (lc : Nat) (ls : List Fr) (i : Int) (w : World) (h : FramesAt w la ls) (hlc : ls.length ≤ lc) (hlc2 : lc ≤ maxLen) :
    Calls Try.prog 13 #[.slice la ls.length lc, .int .i64 i] w fun e w' => e = .returned (RespV ls i) ∧ Kp w w' := by
  have hl := h.len
  have hch := refCheck_any la lc ls w h
  have hwi := fun W => within_any 0 i ((ls.length : Int) - 1) W
  have hv : RespV ls i = if frErr ls = 0 then (if fromB 0 i ((ls.length : Int) - 1) = true then (if respI ls i.toNat < 0 then .tuple #[.int .i64 0, .int .i64 41] else .tuple #[.int .i64 (respI ls i.toNat), .int .i64 0]) else .tuple #[.int .i64 0, .int .i64 1]) else .tuple #[.int .i64 0, .int .i64 (frErr ls)] := rfl
  have hre : ∀ W, Kp w W → frErr ls = 0 → fromB 0 i ((ls.length : Int) - 1) = true → Calls Try.prog 42 #[.slice la ls.length lc, .int .i64 i] W fun e w' => e = .returned (.int .i64 (respI ls i.toNat)) ∧ Kp W w' := fun W kW h0 hb => by
    unfold fromB at hb
    simp only [Bool.and_eq_true, decide_eq_true_eq] at hb
    obtain ⟨n, rfl⟩ : ∃ n : Nat, i = n := ⟨i.toNat, by omega⟩
    exact refResponse1_any la lc ls n W (h.kp kW) (frErr_okW h0) ((rank_ok h0).at (by omega)) (by omega)
  have Hch := Lib.hid hch; have Hwi := Lib.hid hwi; have Hv := Lib.hid hv; have Hre := Lib.hid hre
  unfold maxLen at hl
  clear hch hwi hv hre h
  generalize RespV ls i = RV at *
  generalize respI ls i.toNat = r at *
  by_cases h0 : frErr ls = 0
  · rw [h0] at Hch Hv
    go_enter Try.func13, Try.ntmps13
    go_wp2_with fail
    refine Hch.out.mono ?_
    rintro e w1 ⟨rfl, kp1⟩
    go_wp2_with fail
    refine (Hwi.out _).mono ?_
    rintro e w2 ⟨rfl, rfl⟩
    cases hb : fromB 0 i ((ls.length : Int) - 1)
    · go_wp2_with fail
      go_ret2
      exact ⟨by rw [Hv.out, hb]; rfl, kp1⟩
    · go_wp2_with fail
      refine (Hre.out _ kp1 h0 hb).mono ?_
      rintro e w3 ⟨rfl, kp3⟩
      by_cases hr : r < 0
      all_goals
        go_wp2_with fail
        go_ret2
        exact ⟨by rw [Hv.out, hb]; simp [hr], kp1.step kp3⟩
  · have hne : ((frErr ls) != 0) = true := by simpa using h0
    have Hz : Hid (RV = .tuple #[.int .i64 0, .int .i64 (frErr ls)]) := Lib.hid (by rw [Hv.out, if_neg h0])
    clear h0
    generalize frErr ls = x at *
    go_enter Try.func13, Try.ntmps13
    go_wp2_with fail
    refine Hch.out.mono ?_
    rintro e w1 ⟨rfl, kp1⟩
    go_wp2_with fail
    go_ret2
    exact ⟨by rw [Hz.out]; rfl, kp1⟩
end Go.Proofs.Ytcelbmpdnkaamaa
