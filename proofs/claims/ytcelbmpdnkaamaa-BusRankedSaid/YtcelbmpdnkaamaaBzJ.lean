/- BusRanked: the walk. -/
import Derived.Test.YtcelbmpdnkaamaaBzB
import Derived.Test.YtcelbmpdnkaamaaByE
import Derived.Test.YtcelbmpdnkaamaaBwJ
namespace Go.Proofs.Ytcelbmpdnkaamaa
open Go Go.RowKit Go.WideMaps Go.Maps
set_option linter.unusedSimpArgs false
set_option linter.unusedVariables false

theorem mod_1000 (x : Int) : ∃ r, x.tmod 1000 = r ∧ -1000 < r ∧ r < 1000 ∧ ∃ y, (r + 1000).tmod 1000 = y := by
  have h1 := Int.tmod_lt_of_pos x (show (0 : Int) < 1000 by omega)
  have h2 : -1000 < x.tmod 1000 := by
    have h3 := Int.lt_tmod_of_pos x (show (0 : Int) < 1000 by omega)
    omega
  exact ⟨_, rfl, h2, h1, _, rfl⟩
theorem OwnF.cap {w : World} {B : Nat} {a : Option Addr} {c : Nat} {ls : List Fr} (h : OwnF w B a c ls) : ls.length ≤ c ∧ c ≤ maxLen := by
  have h0 : w.ownsRow B 56 5 (.slice a ls.length c) ls.length (ls.flatMap frCells) := h
  rcases h0.2 with ⟨e1, e2⟩ | ⟨g, cap, cur, e1, _, _, h1, h2, _⟩
  · simp only [Value.slice.injEq] at e1
    obtain ⟨-, h1, rfl⟩ := e1
    exact ⟨by omega, Nat.zero_le _⟩
  · simp only [Value.slice.injEq] at e1
    obtain ⟨-, -, rfl⟩ := e1
    exact ⟨h1, h2⟩

set_option maxRecDepth 100000 in
set_option maxHeartbeats 6400000 in
theorem busRanked_any (la : Option Addr) (lc : Nat) (ls : List Fr) (oa : Option Addr) (oc : Nat) (os : List Int) (w : World) (h : FramesAt w la ls) (hlc : ls.length ≤ lc) (hlc2 : lc ≤ maxLen) (ho : IntsAt w oa os) :
    Calls Try.prog 8 #[.slice la ls.length lc, .slice oa os.length oc] w fun e w' => e = .returned (.bool true) ∧ Kp w w' := by
  have hlm := h.len
  have hom := ho.len
  unfold maxLen at hlm hom
  have hwk : ∀ W, Kp w W → Calls Try.prog 11 #[] W fun e w' => e = .returned (.bool true) ∧ Kp w w' := fun W kW => (works_any W).mono (fun e w' hh => ⟨hh.1, kW.step hh.2⟩)
  have hhv := fun W (kW : Kp w W) => heavy_any la lc ls W (h.kp kW)
  have hrc := fun W (kW : Kp w W) => refCheck_any la lc ls W (h.kp kW)
  have h1 := fun W (kW : Kp w W) => (busRank_any la lc ls W (h.kp kW) hlc hlc2).mono (fun e w' hh => endL_any hh)
  have hrd := fun W ra rk c (kW : Kp w W) (hr : IntsAt W ra rk) (hrl : rk.length = ls.length) (hl40 : ls.length ≤ 40) => ranked_any la ra lc c ls rk W (h.kp kW) hr hrl hl40
  have hlt : ∀ W a c B (r : List Int), OwnF W B a c (rankedL ls r ls.length) → Calls Try.prog 17 #[.slice a ls.length c] W fun e w' => ∃ a2 c2, e = .returned (.tuple #[.slice a2 (listOf (frErr (rankedL ls r ls.length)) (lateL (rankedL ls r ls.length))).length c2, .int .i64 (frErr (rankedL ls r ls.length))]) ∧ Kp W w' := fun W a c B r hO => by
    have hc := hO.cap
    have hl := rankedL_len ls r ls.length
    have h2 := busLate_any a c (rankedL ls r ls.length) W (hO.frames (by rw [hl]; unfold maxLen; omega)) hc.1 hc.2
    rw [hl] at h2
    exact h2.mono (fun e w' hh => by obtain ⟨a2, c2, e1, _, k⟩ := endL_any hh; exact ⟨a2, c2, e1, k⟩)
  obtain ⟨i0, hi0, hz0, hz1, hz2⟩ := info_parts infoInt
  have Hwk := Lib.hid hwk; have Hhv := Lib.hid hhv; have Hrc := Lib.hid hrc; have H1 := Lib.hid h1; have Hrd := Lib.hid hrd; have Hlt := Lib.hid hlt; have Ho := Lib.hid ho
  clear hwk hhv hrc h1 hrd hlt h ho
  go_enter Try.func8, Try.ntmps8
  go_wp2_with fail
  refine (Hhv.out _ (Kp.refl _)).mono ?_
  rintro e w1 ⟨⟨hb, rfl⟩, kp1⟩
  have K1 := Lib.hid kp1
  clear kp1
  cases hb
  case true =>
    go_wp2_with fail
    refine (Hwk.out _ K1.out).mono ?_
    rintro e w3 ⟨rfl, k3⟩
    go_wp2_with fail
    go_ret
    exact ⟨rfl, k3⟩
  by_cases h8 : (8 : Int) < (ls.length : Int)
  case pos =>
    go_wp2_with fail
    refine (Hwk.out _ K1.out).mono ?_
    rintro e w3 ⟨rfl, k3⟩
    go_wp2_with fail
    go_ret
    exact ⟨rfl, k3⟩
  go_wp2_with fail
  refine (Hrc.out _ K1.out).mono ?_
  rintro e w2 ⟨rfl, kp2⟩
  have K2 := Lib.hid (K1.out.step kp2)
  clear kp2
  by_cases h0 : frErr ls = 0
  case neg =>
    have hne : ((frErr ls) != 0) = true := by simpa using h0
    clear h0 H1
    generalize frErr ls = x at *
    go_wp2_with fail
    refine (Hwk.out _ K2.out).mono ?_
    rintro e w3 ⟨rfl, k3⟩
    go_wp2_with fail
    go_ret
    exact ⟨rfl, k3⟩
  case pos =>
    have hgv := fun r => rank_given h0 (r := r)
    have hno := rank_none h0
    have hre : rankErr ls = if (rankOf ls).isSome = true then 0 else 42 := by unfold rankErr; rw [if_pos h0]
    have hrl : rankL ls = (rankOf ls).getD [] := rfl
    rw [h0]
    cases hR : rankOf ls with
    | some r =>
      obtain ⟨g1, g2, g3⟩ := hgv r hR
      rw [hR] at hre hrl
      simp only [Option.isSome_some, if_true] at hre
      simp only [Option.getD_some] at hrl
      rw [hre, hrl] at H1
      have e0 : listOf 0 r = r := rfl
      rw [e0] at H1
      have e1 : listOf 0 (lateL (rankedL ls r ls.length)) = lateL (rankedL ls r ls.length) := rfl
      have hlt2 := fun W a c B hO => Hlt.out W a c B r hO
      rw [g2, e1, g3] at hlt2
      have Hlt2 := Lib.hid hlt2
      have hrd2 := fun W ra c (kW : Kp w W) (hr : IntsAt W ra r) => Hrd.out W ra r c kW hr g1 (by omega)
      have Hrd2 := Lib.hid hrd2
      rw [g1] at H1
      have q1 : ((ls.length : Int) != (ls.length : Int)) = false := by simp
      clear hlt2 hgv hno hre hrl e0 e1 hR h0 hrd2
      go_wp2_with fail
      refine (H1.out _ K2.out).mono ?_
      rintro e w4 ⟨a1, c1, rfl, hi1, kp4⟩
      have K4 := Lib.hid (K2.out.step kp4); have I1 := Lib.hid hi1
      clear kp4 hi1
      go_wp2_with fail
      refine (Hrd2.out _ _ _ K4.out I1.out).mono ?_
      rintro e w5 ⟨a2, c2, rfl, hO, kp5⟩
      have K5 := Lib.hid (K4.out.step kp5); have HO := Lib.hid hO
      clear kp5 hO
      go_wp2_with fail
      refine (Hlt2.out _ _ _ _ HO.out).mono ?_
      rintro e w6 ⟨a3, c3, rfl, kp6⟩
      have K6 := Lib.hid (K5.out.step kp6)
      clear kp6
      go_wp2_with fail
      refine (Hwk.out _ K6.out).mono ?_
      rintro e w10 ⟨rfl, k10⟩
      go_wp2_with fail
      go_ret
      exact ⟨rfl, k10⟩
    | none =>
      have hno2 := fun own => hno hR own
      rw [hR] at hre hrl
      simp only [Option.isSome_none, Bool.false_eq_true, if_false] at hre
      rw [hre] at H1
      have Hno := Lib.hid hno2
      clear hgv hno hno2 hre hrl hR h0
      generalize listOf 42 (rankL ls) = L0 at *
      go_wp2_with fail
      refine (H1.out _ K2.out).mono ?_
      rintro e w4 ⟨a1, c1, rfl, hi1, kp4⟩
      have K4 := Lib.hid (K2.out.step kp4)
      clear kp4 hi1
      go_wp2_with fail
      go_loopw [9, 10] (fun l i wq => ∃ (k : Nat) (a : Option Addr) (c : Nat) (L : List Int), k ≤ ls.length ∧ i = .int .i64 k ∧ l = .slice a k c ∧ L.length = k ∧ OwnI wq w.heap.size a c L ∧ Kp w wq) (fun _ i _ => ls.length - (intOf i).toNat)
      case atStart => exact ⟨0, none, 0, [], Nat.zero_le _, rfl, rfl, rfl, OwnI.nil _ _, K4.out⟩
      case round =>
        clear K4
        obtain ⟨w5, rfl⟩ : ∃ w5, w5 = wr := ⟨wr, rfl⟩
        obtain ⟨k, a, c, L, hk, rfl, rfl, hLl, hown, kp⟩ := hrel
        by_cases hlt : k < ls.length
        case pos =>
          have i1 : (k : Int) < (ls.length : Int) := by omega
          have hsz := kp.size
          have hk8 : k ≤ 8 := by omega
          have Hown7 : Hid (∀ X, Kp w5 X → X.ownsRow w.heap.size 3 1 (.slice a k c) k (L.map encI)) := Lib.hid (fun X kX => by have := hown.kp kX; unfold OwnI at this; rw [hLl] at this; exact this)
          have Hown := Lib.hid hown; have Kq := Lib.hid kp
          clear hown kp
          by_cases hik : k < os.length
          case pos =>
            obtain ⟨b2, o2, rfl, hc2⟩ := (Ho.out.kp Kq.out).cells (by omega)
            have e0 := hc2 k hik
            have i2 : (k : Int) < (os.length : Int) := by omega
            obtain ⟨r, hr, hr1, hr2, y, hy⟩ := mod_1000 (os.getD k 0)
            have hw1 : wrap64 (r + 1000) = r + 1000 := wrap_in (by omega) (by omega)
            clear hc2
            generalize os.getD k 0 = x at *
            go_wp2_with (at_builtin; refine wpList_append_lies _ rfl (.tmp 74) (.tmp 76) 28 rfl w.heap.size 3 i0 (.int .i64 0) 1 8 Try.underlying28 hi0 hz0 hz1 hz2 rfl (by decide) (.slice a k c) k (L.map encI) (by rfl) (Hown7.out _ (kp_alloc _ _)) ⟨w5.heap.size, 0, none⟩ 1 1 [.int .i64 y] (by rfl) rfl (World.news_of_block (cs := #[.int .i64 y]) (t := 3) (fr := (0, 0)) (heap_alloc_new w5 _)) (by intro u hu; simp at hu; subst hu; rfl) (by omega) (by unfold maxLen; omega) (by omega) (by simp; omega) _ rfl ?_; intro g2 cap2 w7 hown7 hgrow hat hlt7)
            rw [← hLl] at hown7 hgrow
            obtain ⟨hown8, hk8'⟩ := own_push (a := a) (c := c) hown7 hgrow
            have kp8 : Kp w w7 := Kq.out.trans hk8' (fun j e => Or.inr (Hown.out.lt e).1)
            have Hown8 := Lib.hid hown8; have Kp8 := Lib.hid kp8
            clear hown7 hgrow hat hown8 hk8' kp8
            go_wp2_with fail
            go_roundw
            case rel => exact ⟨k + 1, some ⟨g2, 0, none⟩, cap2, L ++ [y], by omega, by go_num, rfl, by simp [hLl], Hown8.out, Kp8.out⟩
            case measure => simp [intOf]; omega
          case neg =>
            have i2 : decide ((k : Int) < (os.length : Int)) = false := decide_eq_false (by omega)
            go_wp2_with (at_builtin; refine wpList_append_lies _ rfl (.tmp 74) (.tmp 76) 28 rfl w.heap.size 3 i0 (.int .i64 0) 1 8 Try.underlying28 hi0 hz0 hz1 hz2 rfl (by decide) (.slice a k c) k (L.map encI) (by rfl) (Hown7.out _ (kp_alloc _ _)) ⟨w5.heap.size, 0, none⟩ 1 1 [.int .i64 (k : Int)] (by rfl) rfl (World.news_of_block (cs := #[.int .i64 (k : Int)]) (t := 3) (fr := (0, 0)) (heap_alloc_new w5 _)) (by intro u hu; simp at hu; subst hu; rfl) (by omega) (by unfold maxLen; omega) (by omega) (by simp; omega) _ rfl ?_; intro g2 cap2 w7 hown7 hgrow hat hlt7)
            rw [← hLl] at hown7 hgrow
            obtain ⟨hown8, hk8'⟩ := own_push (a := a) (c := c) hown7 hgrow
            have kp8 : Kp w w7 := Kq.out.trans hk8' (fun j e => Or.inr (Hown.out.lt e).1)
            have Hown8 := Lib.hid hown8; have Kp8 := Lib.hid kp8
            clear hown7 hgrow hat hown8 hk8' kp8
            go_wp2_with fail
            go_roundw
            case rel => exact ⟨k + 1, some ⟨g2, 0, none⟩, cap2, L ++ [(L.length : Int)], by omega, by go_num, rfl, by simp [hLl], Hown8.out, Kp8.out⟩
            case measure => simp [intOf]; omega
        case neg =>
          obtain rfl : k = ls.length := by omega
          have hcall := Hrd.out w5 a L c kp (hown.ints (by unfold maxLen; omega)) hLl (by omega)
          have hno := Hno.out L
          have Hcall := Lib.hid hcall; have K5 := Lib.hid kp; have Hno2 := Lib.hid hno
          have hlt2 := fun W a c B hO => Hlt.out W a c B L hO
          have Hlt2 := Lib.hid hlt2
          clear hcall kp hown hno hlt2
          generalize frErr (rankedL ls L ls.length) = err at *
          by_cases he : err = 0
          case pos =>
            subst he
            have hp := Hno2.out rfl
            have e1 : listOf 0 (lateL (rankedL ls L ls.length)) = lateL (rankedL ls L ls.length) := rfl
            rw [e1] at Hlt2
            generalize hLn : (lateL (rankedL ls L ls.length)).length = ln at *
            have q1 : decide ((0 : Int) < (ln : Int)) = true := decide_eq_true (by omega)
            clear hLn e1
            go_wp2_with fail
            refine Hcall.out.mono ?_
            rintro e w6 ⟨a2, c2, rfl, hO, kp6⟩
            have K6 := Lib.hid (K5.out.step kp6); have HO := Lib.hid hO
            clear kp6 hO
            go_wp2_with fail
            refine (Hlt2.out _ _ _ _ HO.out).mono ?_
            rintro e w7 ⟨a3, c3, rfl, kp7⟩
            have K7 := Lib.hid (K6.out.step kp7)
            clear kp7
            go_wp2_with fail
            refine (Hwk.out _ K7.out).mono ?_
            rintro e w10 ⟨rfl, k10⟩
            go_wp2_with fail
            go_ret
            exact ⟨rfl, k10⟩
          case neg =>
            have q1 : (err != 0) = true := by simpa using he
            clear he Hno2
            generalize (listOf err (lateL (rankedL ls L ls.length))).length = ln at *
            go_wp2_with fail
            refine Hcall.out.mono ?_
            rintro e w6 ⟨a2, c2, rfl, hO, kp6⟩
            have K6 := Lib.hid (K5.out.step kp6); have HO := Lib.hid hO
            clear kp6 hO
            go_wp2_with fail
            refine (Hlt2.out _ _ _ _ HO.out).mono ?_
            rintro e w7 ⟨a3, c3, rfl, kp7⟩
            have K7 := Lib.hid (K6.out.step kp7)
            clear kp7
            go_wp2_with fail
            refine (Hwk.out _ K7.out).mono ?_
            rintro e w10 ⟨rfl, k10⟩
            go_wp2_with fail
            go_ret
            exact ⟨rfl, k10⟩
end Go.Proofs.Ytcelbmpdnkaamaa
