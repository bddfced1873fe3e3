/- The reference's Check of frames; Heavy. -/
import Derived.Test.YtcelbmpdnkaamaaBuT
namespace Go.Proofs.Ytcelbmpdnkaamaa
open Go Go.RowKit Go.WideMaps Go.Maps
set_option linter.unusedSimpArgs false
set_option linter.unusedVariables false

theorem frErr_good {ls : List Fr} (h1 : ls.length ≤ 40) (h : ∀ j, j < ls.length → frAtB ls j = true) : frErr ls = 0 := by
  have : framesB ls = true := by unfold framesB; rw [allR_good h]; simp [h1]
  unfold frErr; rw [if_pos this]
theorem frErr_bad {ls : List Fr} {k : Nat} (hk : k < ls.length) (h : frAtB ls k = false) : frErr ls = 40 := by
  have : framesB ls = false := by unfold framesB; rw [allR_bad hk h]; simp
  unfold frErr; rw [if_neg (by rw [this]; simp)]
theorem frErr_long {ls : List Fr} (h1 : 40 < ls.length) : frErr ls = 40 := by
  have : framesB ls = false := by unfold framesB; simp; omega
  unfold frErr; rw [if_neg (by rw [this]; simp)]
theorem frB_ref (f : Fr) : frB f = (fromB 1 f.s 1000 && (fromB 1 f.e 100000 && (fromB 0 f.j 100000 && (fromB 1 f.d 100000 && fromB 0 f.r 1000)))) := by
  unfold frB
  cases fromB 1 f.s 1000 <;> cases fromB 1 f.e 100000 <;> cases fromB 1 f.d 100000 <;> cases fromB 0 f.j 100000 <;> cases fromB 0 f.r 1000 <;> rfl

set_option maxRecDepth 100000 in
set_option maxHeartbeats 3200000 in
theorem refCheck_any (la : Option Addr) (lc : Nat) (ls : List Fr) (w : World) (h : FramesAt w la ls) :
    Calls Try.prog 33 #[.slice la ls.length lc] w fun e w' => e = .returned (.int .i64 (frErr ls)) ∧ Kp w w' := by
  have hlm := h.len
  unfold maxLen at hlm
  by_cases h1 : ls.length ≤ 40
  case neg =>
    have He := Lib.hid (frErr_long (ls := ls) (by omega))
    have q1 : decide ((40 : Int) < ls.length) = true := decide_eq_true (by omega)
    clear h
    go_enter Try.func33, Try.ntmps33
    go_wp2_with fail
    go_ret
    exact ⟨by rw [He.out]; rfl, Kp.refl _⟩
  have q1 : decide ((40 : Int) < ls.length) = false := decide_eq_false (by omega)
  have hbad := fun k hk hb => frErr_bad (ls := ls) (k := k) hk hb
  have hgood := frErr_good h1
  have Hbad := Lib.hid hbad; have Hgood := Lib.hid hgood; have Hh := Lib.hid h
  clear hbad hgood h
  go_enter Try.func33, Try.ntmps33
  go_wp2_with fail
  go_loopw [3] (fun i wq => ∃ (k : Nat), k ≤ ls.length ∧ i = .int .i64 k ∧ Kp w wq ∧ ∀ j, j < k → frAtB ls j = true) (fun i _ => ls.length - (intOf i).toNat)
  case atStart => exact ⟨0, Nat.zero_le _, rfl, Kp.refl _, fun j hj => by omega⟩
  case round =>
    obtain ⟨w3, rfl⟩ : ∃ w3, w3 = wr := ⟨wr, rfl⟩
    obtain ⟨k, hk, rfl, kp, hok⟩ := hrel
    by_cases hlt : k < ls.length
    · have hfr := Hh.out.kp kp
      obtain ⟨b1, o1, rfl, hc1⟩ := hfr.cells (by omega)
      obtain ⟨c0, c1, c2, c3, c4⟩ := hc1 k hlt
      have i1 : (k : Int) < (ls.length : Int) := by omega
      have hbk := Hbad.out k hlt
      have hnext : frAtB ls k = true → ∀ j, j < k + 1 → frAtB ls j = true := fun hh j hj => by
        by_cases e : j = k
        · subst e; exact hh
        · exact hok j (by omega)
      have hfa : frAtB ls k = (frB (frAt ls k) && allR k (fun m => !((frAt ls m).r == (frAt ls k).r))) := rfl
      have hfb := frB_ref (frAt ls k)
      have ka := kp_alloc w3 (.cells #[.int .i64 (frAt ls k).s, .int .i64 (frAt ls k).e, .int .i64 (frAt ls k).j, .int .i64 (frAt ls k).d, .int .i64 (frAt ls k).r] 56)
      have hbx : (w3.alloc (.cells #[.int .i64 (frAt ls k).s, .int .i64 (frAt ls k).e, .int .i64 (frAt ls k).j, .int .i64 (frAt ls k).d, .int .i64 (frAt ls k).r] 56)).cell? ⟨w3.heap.size, 4, none⟩ = some (.int .i64 (frAt ls k).r) := by simp
      have F1 := Lib.hid (within_any 1 (frAt ls k).s 1000)
      have F2 := Lib.hid (within_any 1 (frAt ls k).e 100000)
      have F3 := Lib.hid (within_any 0 (frAt ls k).j 100000)
      have F4 := Lib.hid (within_any 1 (frAt ls k).d 100000)
      have F5 := Lib.hid (within_any 0 (frAt ls k).r 1000)
      have hdup : ∀ m, m < k → (frAt ls m).r = (frAt ls k).r → frAtB ls k = false := fun m hm e => by
        rw [hfa, allR_bad hm (by simp [e]), Bool.and_false]
      have huniq : frB (frAt ls k) = true → (∀ m, m < k → ((frAt ls m).r == (frAt ls k).r) = false) → frAtB ls k = true := fun hb hu => by
        rw [hfa, hb, allR_good (fun m hm => by rw [hu m hm]; rfl)]; rfl
      have hbadB : frB (frAt ls k) = false → frAtB ls k = false := fun hb => by rw [hfa, hb]; rfl
      have Hdup := Lib.hid hdup; have Huniq := Lib.hid huniq; have HbadB := Lib.hid hbadB; have Hbk := Lib.hid hbk; have Hn := Lib.hid hnext; have Kq := Lib.hid (kp.step ka); have Hla := Lib.hid (hfr.kp ka); have Hfb := Lib.hid hfb
      clear hdup huniq hbadB hbk hnext kp ka hfr hc1 hok hfa hfb
      generalize hfk : frAt ls k = f at *
      have Hfk := Lib.hid hfk
      clear hfk
      go_wp2_with fail
      refine (F1.out _).mono ?_
      rintro e w1 ⟨rfl, rfl⟩
      generalize fromB 1 f.s 1000 = b1' at *
      cases b1'
      · have Hz := Lib.hid (Hbk.out (HbadB.out (by rw [Hfb.out]; rfl)))
        go_wp2_with fail
        go_ret
        exact ⟨by rw [Hz.out]; rfl, Kq.out⟩
      go_wp2_with fail
      refine (F2.out _).mono ?_
      rintro e w1 ⟨rfl, rfl⟩
      generalize fromB 1 f.e 100000 = b1' at *
      cases b1'
      · have Hz := Lib.hid (Hbk.out (HbadB.out (by rw [Hfb.out]; rfl)))
        go_wp2_with fail
        go_ret
        exact ⟨by rw [Hz.out]; rfl, Kq.out⟩
      go_wp2_with fail
      refine (F3.out _).mono ?_
      rintro e w1 ⟨rfl, rfl⟩
      generalize fromB 0 f.j 100000 = b1' at *
      cases b1'
      · have Hz := Lib.hid (Hbk.out (HbadB.out (by rw [Hfb.out]; rfl)))
        go_wp2_with fail
        go_ret
        exact ⟨by rw [Hz.out]; rfl, Kq.out⟩
      go_wp2_with fail
      refine (F4.out _).mono ?_
      rintro e w1 ⟨rfl, rfl⟩
      generalize fromB 1 f.d 100000 = b1' at *
      cases b1'
      · have Hz := Lib.hid (Hbk.out (HbadB.out (by rw [Hfb.out]; rfl)))
        go_wp2_with fail
        go_ret
        exact ⟨by rw [Hz.out]; rfl, Kq.out⟩
      go_wp2_with fail
      refine (F5.out _).mono ?_
      rintro e w1 ⟨rfl, rfl⟩
      generalize fromB 0 f.r 1000 = b1' at *
      cases b1'
      · have Hz := Lib.hid (Hbk.out (HbadB.out (by rw [Hfb.out]; rfl)))
        go_wp2_with fail
        go_ret
        exact ⟨by rw [Hz.out]; rfl, Kq.out⟩
      have Hgo := Lib.hid (Huniq.out (by rw [Hfb.out]; rfl))
      clear Hfb F1 F2 F3 F4 F5 HbadB Huniq
      go_wp2_with fail
      generalize (w3.alloc (.cells #[.int .i64 f.s, .int .i64 f.e, .int .i64 f.j, .int .i64 f.d, .int .i64 f.r] 56)) = W at *
      go_loopw [5] (fun i wq => ∃ (m : Nat), m ≤ k ∧ i = .int .i64 m ∧ Kp W wq ∧ ∀ j, j < m → ((frAt ls j).r == f.r) = false) (fun i _ => k - (intOf i).toNat)
      case atStart => exact ⟨0, Nat.zero_le _, rfl, Kp.refl _, fun j hj => by omega⟩
      case round =>
        obtain ⟨m, hm, rfl, kp, hno⟩ := hrel
        by_cases hlt2 : m < k
        · obtain ⟨b2, o2, e2, hc2⟩ := (Hla.out.kp kp).cells (by omega)
          simp only [Option.some.injEq, Addr.mk.injEq] at e2
          obtain ⟨rfl, rfl, -⟩ := e2
          have d4 := (hc2 m (by omega)).2.2.2.2
          have e4 := kp.cell hbx
          have i2 : (m : Int) < (ls.length : Int) := by omega
          have i3 : (m : Int) < (k : Int) := by omega
          have hdm := Hdup.out m hlt2
          have K2 := Lib.hid (Kq.out.step kp); have Kp2 := Lib.hid kp
          by_cases hx : (frAt ls m).r = f.r
          · have Hz := Lib.hid (Hbk.out (hdm hx))
            have q2 : (f.r == f.r) = true := by simp
            rw [hx] at d4
            clear hc2 hdm hno kp hx
            go_wp2_with fail
            go_quiet (fail)
            go_wp2_with fail
            go_ret
            exact ⟨by rw [Hz.out]; rfl, Keeps.drewN K2.out _⟩
          · have hn2 : ∀ j, j < m + 1 → ((frAt ls j).r == f.r) = false := fun j hj => by
              by_cases e : j = m
              · subst e; exact beq_eq_false_iff_ne.2 hx
              · exact hno j (by omega)
            have q2 : ((frAt ls m).r == f.r) = false := beq_eq_false_iff_ne.2 hx
            have Hn2 := Lib.hid hn2
            clear hc2 hdm hno kp hx hn2
            generalize (frAt ls m).r = rm at *
            go_wp2_with fail
            go_quiet (fail)
            go_wp2_with fail
            go_roundw
            case rel => exact ⟨m + 1, by omega, by go_num, Keeps.drewN Kp2.out _, Hn2.out⟩
            case measure => simp [intOf]; omega
        · obtain rfl : m = k := by omega
          have Hz := Lib.hid (Hn.out (Hgo.out hno))
          have K2 := Lib.hid (Kq.out.step kp)
          clear hno kp
          go_wp2_with fail
          go_roundw
          case rel => exact ⟨m + 1, by omega, by go_num, K2.out, Hz.out⟩
          case measure => simp [intOf]; omega
    · obtain rfl : k = ls.length := by omega
      have Hz := Lib.hid (Hgood.out hok)
      clear hok
      go_wp2_with fail
      go_ret
      exact ⟨by rw [Hz.out]; rfl, kp⟩
end Go.Proofs.Ytcelbmpdnkaamaa
