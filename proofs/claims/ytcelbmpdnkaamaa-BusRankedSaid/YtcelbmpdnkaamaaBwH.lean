/- Late, both; the reference's Responses. -/
import Derived.Test.YtcelbmpdnkaamaaBwG
namespace Go.Proofs.Ytcelbmpdnkaamaa
open Go Go.RowKit Go.WideMaps Go.Maps
set_option linter.unusedSimpArgs false
set_option linter.unusedVariables false

def EndL (w : World) (err : Int) (L : List Int) (e : Ending) (w' : World) : Prop :=
  if err = 0 then (∃ a c, e = .returned (.tuple #[.slice a L.length c, .int .i64 0]) ∧ IntsAt w' a L) ∧ Kp w w'
  else e = .returned (.tuple #[.slice none 0 0, .int .i64 err]) ∧ Kp w w'
def lateL (ls : List Fr) : List Int := pick (lateB ls) ls.length

set_option maxRecDepth 100000 in
set_option maxHeartbeats 6400000 in
theorem busLate_any (la : Option Addr) (lc : Nat) (ls : List Fr) (w : World) (h : FramesAt w la ls) (hlc : ls.length ≤ lc) (hlc2 : lc ≤ maxLen) :
    Calls Try.prog 17 #[.slice la ls.length lc] w (EndL w (frErr ls) (lateL ls)) := by
  have hch := check_any la lc ls w h hlc hlc2
  by_cases h0 : frErr ls = 0
  case neg =>
    have hfin : ∀ w', Kp w w' → EndL w (frErr ls) (lateL ls) (.returned (.tuple #[.slice none 0 0, .int .i64 (frErr ls)])) w' := fun w' k => by
      unfold EndL; rw [if_neg h0]; exact ⟨rfl, k⟩
    have hne : ((frErr ls) != 0) = true := by simpa using h0
    have Hf := Lib.hid hfin; have Hch := Lib.hid hch
    clear hfin h0 hch h
    generalize frErr ls = x at *
    go_enter Try.func17, Try.ntmps17
    go_wp2_with fail
    refine Hch.out.mono ?_
    rintro e w1 ⟨rfl, kp1⟩
    go_wp2_with fail
    go_ret2
    exact Hf.out _ kp1
  have ok := frErr_okW h0
  have hfin : ∀ a c w', IntsAt w' a (lateL ls) → Kp w w' → EndL w (frErr ls) (lateL ls) (.returned (.tuple #[.slice a (pick (lateB ls) ls.length).length c, .int .i64 0])) w' := fun a c w' i k => by
    unfold EndL; rw [if_pos h0]; exact ⟨⟨a, c, rfl, i⟩, k⟩
  have hl40 := ok.1
  obtain ⟨i0, hi0, hz0, hz1, hz2⟩ := info_parts infoInt
  have Hf := Lib.hid hfin; have Hch := Lib.hid hch; have H0 := Lib.hid h0; have Hok := Lib.hid ok; have Hh := Lib.hid h
  clear hfin h0 hch h ok
  go_enter Try.func17, Try.ntmps17
  go_wp2_with fail
  refine Hch.out.mono ?_
  rintro e w1 ⟨rfl, kp1⟩
  rw [H0.out]
  have K1 := Lib.hid kp1
  clear kp1
  go_wp2_with fail
  go_loopw [5, 15] (fun l i wq => ∃ (k : Nat) (a : Option Addr) (c : Nat), k ≤ ls.length ∧ i = .int .i64 k ∧ l = .slice a (pick (lateB ls) k).length c ∧ OwnI wq w.heap.size a c (pick (lateB ls) k) ∧ Kp w wq) (fun _ i _ => ls.length - (intOf i).toNat)
  case atStart => exact ⟨0, none, 0, Nat.zero_le _, rfl, rfl, OwnI.nil _ _, K1.out⟩
  case round =>
    clear K1
    obtain ⟨w3, rfl⟩ : ∃ w3, w3 = wr := ⟨wr, rfl⟩
    obtain ⟨k, a, c, hk, rfl, rfl, hown, kp⟩ := hrel
    by_cases hlt : k < ls.length
    · obtain ⟨b1, o1, rfl, hc1⟩ := (Hh.out.kp kp).cells (by omega)
      obtain ⟨c0, c1, c2, c3, c4⟩ := hc1 k hlt
      have i1 : (k : Int) < (ls.length : Int) := by omega
      have ka := kp_alloc w3 (.cells #[.int .i64 (frAt ls k).s, .int .i64 (frAt ls k).e, .int .i64 (frAt ls k).j, .int .i64 (frAt ls k).d, .int .i64 (frAt ls k).r] 56)
      have kwa := kp.step ka
      have d0 : (w3.alloc (.cells #[.int .i64 (frAt ls k).s, .int .i64 (frAt ls k).e, .int .i64 (frAt ls k).j, .int .i64 (frAt ls k).d, .int .i64 (frAt ls k).r] 56)).cell? ⟨w3.heap.size, 0, none⟩ = some (.int .i64 (frAt ls k).s) := by simp
      have d1 : (w3.alloc (.cells #[.int .i64 (frAt ls k).s, .int .i64 (frAt ls k).e, .int .i64 (frAt ls k).j, .int .i64 (frAt ls k).d, .int .i64 (frAt ls k).r] 56)).cell? ⟨w3.heap.size, 1, none⟩ = some (.int .i64 (frAt ls k).e) := by simp
      have d2 : (w3.alloc (.cells #[.int .i64 (frAt ls k).s, .int .i64 (frAt ls k).e, .int .i64 (frAt ls k).j, .int .i64 (frAt ls k).d, .int .i64 (frAt ls k).r] 56)).cell? ⟨w3.heap.size, 2, none⟩ = some (.int .i64 (frAt ls k).j) := by simp
      have d3 : (w3.alloc (.cells #[.int .i64 (frAt ls k).s, .int .i64 (frAt ls k).e, .int .i64 (frAt ls k).j, .int .i64 (frAt ls k).d, .int .i64 (frAt ls k).r] 56)).cell? ⟨w3.heap.size, 3, none⟩ = some (.int .i64 (frAt ls k).d) := by simp
      have d4 : (w3.alloc (.cells #[.int .i64 (frAt ls k).s, .int .i64 (frAt ls k).e, .int .i64 (frAt ls k).j, .int .i64 (frAt ls k).d, .int .i64 (frAt ls k).r] 56)).cell? ⟨w3.heap.size, 4, none⟩ = some (.int .i64 (frAt ls k).r) := by simp
      have fo := Hok.out.2 k hlt
      have rok := rivOk_of Hok.out fo
      have hri := fun W (kW : Kp w W) => rivalsOf_any (some ⟨b1, o1, none⟩) lc ls (frAt ls k) W (Hh.out.kp kW) Hok.out
      have hre := fun W a c (hA : FramesAt W a (abTo ls (frAt ls k).r ls.length)) => makeLate_any a c (abTo ls (frAt ls k).r ls.length) (restTo ls (frAt ls k).r ls.length) (frAt ls k) W hA rok
      have hle := late_eq Hok.out hlt
      unfold rsI abI at hle
      have hpl := pick_len (lateB ls) k
      have hyes := pick_yes (f := lateB ls) (k := k)
      have hnoo := pick_no (f := lateB ls) (k := k)
      have hsz := kp.size
      unfold frV at hri hre
      simp only [hle, Bool.not_not] at hre
      generalize abTo ls (frAt ls k).r ls.length = A at *
      generalize restTo ls (frAt ls k).r ls.length = R at *
      generalize lateB ls k = Y at *
      generalize pick (lateB ls) k = L at *
      generalize frAt ls k = f at *
      have Hri := Lib.hid hri; have Hre := Lib.hid hre; have Hyes := Lib.hid hyes; have Hnoo := Lib.hid hnoo; have Hown := Lib.hid (hown.kp ka); have Kq := Lib.hid kwa
      clear hri hre hyes hnoo hown kwa ka hc1 kp fo rok hle
      cases Y
      · have Hz := Lib.hid (Hnoo.out rfl)
        go_wp2_with fail
        generalize (w3.alloc (.cells #[.int .i64 f.s, .int .i64 f.e, .int .i64 f.j, .int .i64 f.d, .int .i64 f.r] 56)) = W at *
        have hbl : w3.heap.size < W.heap.size := World.block_lt_of_cell? W _ d0
        go_region_law (first
          | (go_simp; go_at_call 39; refine (Hri.out _ (by first | exact Kq.out | exact Keeps.drew Kq.out)).mono ?_; rintro e w5 ⟨a5, c5, rfl, hA5, kp5⟩; have d0 := kp5.cell (show W.drew.cell? _ = _ from d0); have d1 := kp5.cell (show W.drew.cell? _ = _ from d1); have d2 := kp5.cell (show W.drew.cell? _ = _ from d2); have d3 := kp5.cell (show W.drew.cell? _ = _ from d3); have d4 := kp5.cell (show W.drew.cell? _ = _ from d4))
          | (go_simp; go_at_call 43; refine (Hre.out _ a5 c5 hA5).mono ?_; rintro e w6 ⟨rfl, kp6⟩))
        all_goals
         have kW6 : Kp W w6 := ⟨(kp5.step kp6).os, (kp5.step kp6).tape, (kp5.step kp6).output, (kp5.step kp6).size, (kp5.step kp6).block⟩
         have K6 := Lib.hid (Kq.out.step kW6); have Hown6 := Lib.hid (Hown.out.kp kW6)
         clear kp5 kp6 kW6 hA5 d0 d1 d2 d3 d4
         go_simp
         go_wp2_with fail
         go_roundw
         case rel => exact ⟨k + 1, a, c, by omega, by go_num, by rw [Hz.out], by rw [Hz.out]; exact Hown6.out, K6.out⟩
         case measure => simp [intOf]; omega
      · have Hz := Lib.hid (Hyes.out rfl)
        go_wp2_with fail
        generalize (w3.alloc (.cells #[.int .i64 f.s, .int .i64 f.e, .int .i64 f.j, .int .i64 f.d, .int .i64 f.r] 56)) = W at *
        have hbl : w3.heap.size < W.heap.size := World.block_lt_of_cell? W _ d0
        go_region_law (first
          | (go_simp; go_at_call 39; refine (Hri.out _ (by first | exact Kq.out | exact Keeps.drew Kq.out)).mono ?_; rintro e w5 ⟨a5, c5, rfl, hA5, kp5⟩; have d0 := kp5.cell (show W.drew.cell? _ = _ from d0); have d1 := kp5.cell (show W.drew.cell? _ = _ from d1); have d2 := kp5.cell (show W.drew.cell? _ = _ from d2); have d3 := kp5.cell (show W.drew.cell? _ = _ from d3); have d4 := kp5.cell (show W.drew.cell? _ = _ from d4))
          | (go_simp; go_at_call 43; refine (Hre.out _ a5 c5 hA5).mono ?_; rintro e w6 ⟨rfl, kp6⟩))
        all_goals
         have kW6 : Kp W w6 := ⟨(kp5.step kp6).os, (kp5.step kp6).tape, (kp5.step kp6).output, (kp5.step kp6).size, (kp5.step kp6).block⟩
         have K6 := Lib.hid (Kq.out.step kW6); have Hown6 := Lib.hid (Hown.out.kp kW6)
         have hsz6 := K6.out.size
         clear kp5 kp6 kW6 hA5 d0 d1 d2 d3 d4
         have Hown7 : Hid (∀ X, Kp w6 X → X.ownsRow w.heap.size 3 1 (.slice a L.length c) L.length (L.map encI)) := Lib.hid (fun X kX => Hown6.out.kp kX)
         go_simp
         go_wp2_with (at_builtin; refine wpList_append_lies _ rfl (.tmp 25) (.tmp 27) 28 rfl w.heap.size 3 i0 (.int .i64 0) 1 8 Try.underlying28 hi0 hz0 hz1 hz2 rfl (by decide) (.slice a L.length c) L.length (L.map encI) (by rfl) (Hown7.out _ (kp_alloc _ _)) ⟨w6.heap.size, 0, none⟩ 1 1 [.int .i64 (k : Int)] (by rfl) rfl (World.news_of_block (cs := #[.int .i64 (k : Int)]) (t := 3) (fr := (0, 0)) (heap_alloc_new w6 _)) (by intro u hu; simp at hu; subst hu; rfl) (by omega) (by unfold maxLen; omega) (by omega) (by simp; omega) _ rfl ?_; intro g2 cap2 w7 hown7 hgrow hat hlt7)
         obtain ⟨hown8, hk8⟩ := own_push (a := a) (c := c) hown7 hgrow
         have kp8 : Kp w w7 := K6.out.trans hk8 (fun j e => Or.inr (Hown6.out.lt e).1)
         have Hown8 := Lib.hid hown8; have Kp8 := Lib.hid kp8
         clear hown7 hgrow hat hown8 hk8 kp8
         go_wp2_with fail
         go_roundw
         case rel => exact ⟨k + 1, some ⟨g2, 0, none⟩, cap2, by omega, by go_num, by rw [Hz.out]; simp, by rw [Hz.out]; exact Hown8.out, Kp8.out⟩
         case measure => simp [intOf]; omega
    · obtain rfl : k = ls.length := by omega
      have hpl := pick_len (lateB ls) ls.length
      have hi := hown.ints (by unfold maxLen; omega)
      go_wp2_with fail
      go_ret2
      exact Hf.out _ _ _ hi kp

set_option maxRecDepth 100000 in
set_option maxHeartbeats 6400000 in
theorem refLate_any (la : Option Addr) (lc : Nat) (ls : List Fr) (w : World) (h : FramesAt w la ls) :
    Calls Try.prog 18 #[.slice la ls.length lc] w (EndL w (frErr ls) (lateL ls)) := by
  have hch := refCheck_any la lc ls w h
  by_cases h0 : frErr ls = 0
  case neg =>
    have hfin : ∀ w', Kp w w' → EndL w (frErr ls) (lateL ls) (.returned (.tuple #[.slice none 0 0, .int .i64 (frErr ls)])) w' := fun w' k => by
      unfold EndL; rw [if_neg h0]; exact ⟨rfl, k⟩
    have hne : ((frErr ls) != 0) = true := by simpa using h0
    have Hf := Lib.hid hfin; have Hch := Lib.hid hch
    clear hfin h0 hch h
    generalize frErr ls = x at *
    go_enter Try.func18, Try.ntmps18
    go_wp2_with fail
    refine Hch.out.mono ?_
    rintro e w1 ⟨rfl, kp1⟩
    go_wp2_with fail
    go_ret2
    exact Hf.out _ kp1
  have ok := frErr_okW h0
  have rk := rank_ok h0
  have hfin : ∀ a c w', IntsAt w' a (lateL ls) → Kp w w' → EndL w (frErr ls) (lateL ls) (.returned (.tuple #[.slice a (pick (lateB ls) ls.length).length c, .int .i64 0])) w' := fun a c w' i k => by
    unfold EndL; rw [if_pos h0]; exact ⟨⟨a, c, rfl, i⟩, k⟩
  have hl40 := ok.1
  have hlt0 := fun W k (kW : Kp w W) hk => late_any la lc ls k W (h.kp kW) ok (rk.at hk) hk
  obtain ⟨i0, hi0, hz0, hz1, hz2⟩ := info_parts infoInt
  have Hf := Lib.hid hfin; have Hch := Lib.hid hch; have H0 := Lib.hid h0; have Hlt := Lib.hid hlt0
  clear hfin h0 hch h ok rk hlt0
  go_enter Try.func18, Try.ntmps18
  go_wp2_with fail
  refine Hch.out.mono ?_
  rintro e w1 ⟨rfl, kp1⟩
  rw [H0.out]
  have K1 := Lib.hid kp1
  clear kp1
  go_wp2_with fail
  go_loopw [5, 6] (fun l i wq => ∃ (k : Nat) (a : Option Addr) (c : Nat), k ≤ ls.length ∧ i = .int .i64 k ∧ l = .slice a (pick (lateB ls) k).length c ∧ OwnI wq w.heap.size a c (pick (lateB ls) k) ∧ Kp w wq) (fun _ i _ => ls.length - (intOf i).toNat)
  case atStart => exact ⟨0, none, 0, Nat.zero_le _, rfl, rfl, OwnI.nil _ _, K1.out⟩
  case round =>
    clear K1
    obtain ⟨w3, rfl⟩ : ∃ w3, w3 = wr := ⟨wr, rfl⟩
    obtain ⟨k, a, c, hk, rfl, rfl, hown, kp⟩ := hrel
    by_cases hlt : k < ls.length
    · have i1 : (k : Int) < (ls.length : Int) := by omega
      have hcall := Hlt.out w3 k kp hlt
      have hpl := pick_len (lateB ls) k
      have hyes := pick_yes (f := lateB ls) (k := k)
      have hnoo := pick_no (f := lateB ls) (k := k)
      have hsz := kp.size
      generalize lateB ls k = Y at *
      generalize pick (lateB ls) k = L at *
      have Hcall := Lib.hid hcall; have Hyes := Lib.hid hyes; have Hnoo := Lib.hid hnoo; have Hown := Lib.hid hown; have Kq := Lib.hid kp
      clear hcall hyes hnoo hown kp
      cases Y
      · have Hz := Lib.hid (Hnoo.out rfl)
        go_wp2_with fail
        refine Hcall.out.mono ?_
        rintro e w6 ⟨rfl, kp6⟩
        have K6 := Lib.hid (Kq.out.step kp6); have Hown6 := Lib.hid (Hown.out.kp kp6)
        clear kp6
        go_wp2_with fail
        go_roundw
        case rel => exact ⟨k + 1, a, c, by omega, by go_num, by rw [Hz.out], by rw [Hz.out]; exact Hown6.out, K6.out⟩
        case measure => simp [intOf]; omega
      · have Hz := Lib.hid (Hyes.out rfl)
        go_wp2_with fail
        refine Hcall.out.mono ?_
        rintro e w6 ⟨rfl, kp6⟩
        have K6 := Lib.hid (Kq.out.step kp6); have Hown6 := Lib.hid (Hown.out.kp kp6)
        have hsz6 := K6.out.size
        clear kp6
        have Hown7 : Hid (∀ X, Kp w6 X → X.ownsRow w.heap.size 3 1 (.slice a L.length c) L.length (L.map encI)) := Lib.hid (fun X kX => Hown6.out.kp kX)
        go_wp2_with (at_builtin; refine wpList_append_lies _ rfl (.tmp 21) (.tmp 23) 28 rfl w.heap.size 3 i0 (.int .i64 0) 1 8 Try.underlying28 hi0 hz0 hz1 hz2 rfl (by decide) (.slice a L.length c) L.length (L.map encI) (by rfl) (Hown7.out _ (kp_alloc _ _)) ⟨w6.heap.size, 0, none⟩ 1 1 [.int .i64 (k : Int)] (by rfl) rfl (World.news_of_block (cs := #[.int .i64 (k : Int)]) (t := 3) (fr := (0, 0)) (heap_alloc_new w6 _)) (by intro u hu; simp at hu; subst hu; rfl) (by omega) (by unfold maxLen; omega) (by omega) (by simp; omega) _ rfl ?_; intro g2 cap2 w7 hown7 hgrow hat hlt7)
        obtain ⟨hown8, hk8⟩ := own_push (a := a) (c := c) hown7 hgrow
        have kp8 : Kp w w7 := K6.out.trans hk8 (fun j e => Or.inr (Hown6.out.lt e).1)
        have Hown8 := Lib.hid hown8; have Kp8 := Lib.hid kp8
        clear hown7 hgrow hat hown8 hk8 kp8
        go_wp2_with fail
        go_roundw
        case rel => exact ⟨k + 1, some ⟨g2, 0, none⟩, cap2, by omega, by go_num, by rw [Hz.out]; simp, by rw [Hz.out]; exact Hown8.out, Kp8.out⟩
        case measure => simp [intOf]; omega
    · obtain rfl : k = ls.length := by omega
      have hpl := pick_len (lateB ls) ls.length
      have hi := hown.ints (by unfold maxLen; omega)
      go_wp2_with fail
      go_ret2
      exact Hf.out _ _ _ hi kp

set_option maxRecDepth 100000 in
set_option maxHeartbeats 6400000 in
theorem refResponses_any (la : Option Addr) (lc : Nat) (ls : List Fr) (w : World) (h : FramesAt w la ls) :
    Calls Try.prog 15 #[.slice la ls.length lc] w (RespEnd w ls) := by
  have hch := refCheck_any la lc ls w h
  by_cases h0 : frErr ls = 0
  case neg =>
    have hfin : ∀ w', Kp w w' → RespEnd w ls (.returned (.tuple #[.slice none 0 0, .int .i64 (frErr ls)])) w' := fun w' k => by
      unfold RespEnd; rw [if_neg h0]; exact ⟨rfl, k⟩
    have hne : ((frErr ls) != 0) = true := by simpa using h0
    have Hf := Lib.hid hfin; have Hch := Lib.hid hch
    clear hfin h0 hch h
    generalize frErr ls = x at *
    go_enter Try.func15, Try.ntmps15
    go_wp2_with fail
    refine Hch.out.mono ?_
    rintro e w1 ⟨rfl, kp1⟩
    go_wp2_with fail
    go_ret2
    exact Hf.out _ kp1
  have ok := frErr_okW h0
  have rk := rank_ok h0
  have hfin : ∀ a c w', IntsAt w' a (respL ls ls.length) → Kp w w' → RespEnd w ls (.returned (.tuple #[.slice a ls.length c, .int .i64 0])) w' := fun a c w' i k => by
    unfold RespEnd; rw [if_pos h0]; exact ⟨⟨a, c, rfl, i⟩, k⟩
  have hl40 := ok.1
  have hlt0 := fun W k (kW : Kp w W) hk => refResponse1_any la lc ls k W (h.kp kW) ok (rk.at hk) hk
  obtain ⟨i0, hi0, hz0, hz1, hz2⟩ := info_parts infoInt
  have Hf := Lib.hid hfin; have Hch := Lib.hid hch; have H0 := Lib.hid h0; have Hlt := Lib.hid hlt0
  clear hfin h0 hch h ok rk hlt0
  go_enter Try.func15, Try.ntmps15
  go_wp2_with fail
  refine Hch.out.mono ?_
  rintro e w1 ⟨rfl, kp1⟩
  rw [H0.out]
  have K1 := Lib.hid kp1
  clear kp1
  go_wp2_with fail
  go_loopw [5, 6] (fun l i wq => ∃ (k : Nat) (a : Option Addr) (c : Nat), k ≤ ls.length ∧ i = .int .i64 k ∧ l = .slice a k c ∧ OwnI wq w.heap.size a c (respL ls k) ∧ Kp w wq) (fun _ i _ => ls.length - (intOf i).toNat)
  case atStart => exact ⟨0, none, 0, Nat.zero_le _, rfl, rfl, OwnI.nil _ _, K1.out⟩
  case round =>
    clear K1
    obtain ⟨w3, rfl⟩ : ∃ w3, w3 = wr := ⟨wr, rfl⟩
    obtain ⟨k, a, c, hk, rfl, rfl, hown, kp⟩ := hrel
    by_cases hlt : k < ls.length
    · have i1 : (k : Int) < (ls.length : Int) := by omega
      have hcall := Hlt.out w3 k kp hlt
      have hrs := respL_succ ls k
      have hLl : (respL ls k).length = k := respL_len ls k
      have hsz := kp.size
      generalize respI ls k = I at *
      generalize respL ls k = L at *
      have Hcall := Lib.hid hcall; have Hrs := Lib.hid hrs; have Hown := Lib.hid hown; have Kq := Lib.hid kp
      clear hcall hrs hown kp
      go_wp2_with fail
      refine Hcall.out.mono ?_
      rintro e w6 ⟨rfl, kp6⟩
      all_goals
       have K6 := Lib.hid (Kq.out.step kp6); have Hown6 := Lib.hid (Hown.out.kp kp6)
       have hsz6 := K6.out.size
       clear kp6
       have Hown7 : Hid (∀ X, Kp w6 X → X.ownsRow w.heap.size 3 1 (.slice a k c) k (L.map encI)) := Lib.hid (fun X kX => by have := Hown6.out.kp kX; unfold OwnI at this; rw [hLl] at this; exact this)
       go_wp2_with (at_builtin; refine wpList_append_lies _ rfl (.tmp 18) (.tmp 22) 28 rfl w.heap.size 3 i0 (.int .i64 0) 1 8 Try.underlying28 hi0 hz0 hz1 hz2 rfl (by decide) (.slice a k c) k (L.map encI) (by rfl) (Hown7.out _ (kp_alloc _ _)) ⟨w6.heap.size, 0, none⟩ 1 1 [.int .i64 I] (by rfl) rfl (World.news_of_block (cs := #[.int .i64 I]) (t := 3) (fr := (0, 0)) (heap_alloc_new w6 _)) (by intro u hu; simp at hu; subst hu; rfl) (by omega) (by unfold maxLen; omega) (by omega) (by simp; omega) _ rfl ?_; intro g2 cap2 w7 hown7 hgrow hat hlt7)
       rw [← hLl] at hown7 hgrow
       obtain ⟨hown8, hk8⟩ := own_push (a := a) (c := c) hown7 hgrow
       have kp8 : Kp w w7 := K6.out.trans hk8 (fun j e => Or.inr (Hown6.out.lt e).1)
       have Hown8 := Lib.hid hown8; have Kp8 := Lib.hid kp8
       clear hown7 hgrow hat hown8 hk8 kp8
       go_wp2_with fail
       go_roundw
       case rel => exact ⟨k + 1, some ⟨g2, 0, none⟩, cap2, by omega, by go_num, rfl, by rw [Hrs.out]; exact Hown8.out, Kp8.out⟩
       case measure => simp [intOf]; omega
    · obtain rfl : k = ls.length := by omega
      have hrl := respL_len ls ls.length
      have hi := hown.ints (by unfold maxLen; omega)
      go_wp2_with fail
      go_ret2
      exact Hf.out _ _ _ hi kp
end Go.Proofs.Ytcelbmpdnkaamaa
