/- The reference's Rank. -/
import Derived.Test.YtcelbmpdnkaamaaByD
namespace Go.Proofs.Ytcelbmpdnkaamaa
open Go Go.RowKit Go.WideMaps Go.Maps
set_option linter.unusedSimpArgs false
set_option linter.unusedVariables false

theorem IRow.late {w w' : World} {base g n cap : Nat} {xs : List Int} (h : IRow w base g n cap xs) (k : Keeps (fun j => w.heap.size ≤ j) w w') : IRow w' base g n cap xs :=
  h.of_block (k.block g h.lt.2 (fun e => by have := h.lt.2; omega))
theorem encI_one (xs : List Int) : ∀ u ∈ xs.map encI, u.oneCell' = true := by
  intro u hu
  simp only [List.mem_map] at hu
  obtain ⟨x, _, rfl⟩ := hu
  rfl
theorem IRow.news {w : World} {base g n cap : Nat} {xs : List Int} (h : IRow w base g n cap xs) : ∀ j u, (xs.map encI)[j]? = some u → w.cell? ((⟨g, 0, none⟩ : Addr).add j) = some u := fun j u hu => by
  have hl := h.len
  have hj : j < xs.length := by
    have := (List.getElem?_eq_some_iff.1 hu).1
    simpa using this
  rw [add_none, Nat.zero_add, h.cell (by omega)]
  rw [List.getElem?_map, List.getElem?_eq_getElem hj] at hu
  simp at hu
  rw [← hu]
  simp [encI, List.getD, hj]

set_option maxRecDepth 100000 in
set_option maxHeartbeats 6400000 in
theorem refRank_any (la : Option Addr) (lc : Nat) (ls : List Fr) (w : World) (h : FramesAt w la ls) :
    Calls Try.prog 20 #[.slice la ls.length lc] w (EndL w (rankErr ls) (rankL ls)) := by
  have hch := refCheck_any la lc ls w h
  by_cases h0 : frErr ls = 0
  case neg =>
    have hre : rankErr ls = frErr ls := by unfold rankErr; rw [if_neg h0]
    have hfin : ∀ w', Kp w w' → EndL w (rankErr ls) (rankL ls) (.returned (.tuple #[.slice none 0 0, .int .i64 (frErr ls)])) w' := fun w' k => by
      unfold EndL; rw [hre, if_neg h0]; exact ⟨rfl, k⟩
    have hne : ((frErr ls) != 0) = true := by simpa using h0
    have Hf := Lib.hid hfin; have Hch := Lib.hid hch
    clear hfin h0 hch h hre
    generalize frErr ls = x at *
    go_enter Try.func20, Try.ntmps20
    go_wp2_with fail
    refine Hch.out.mono ?_
    rintro e w1 ⟨rfl, kp1⟩
    go_wp2_with fail
    go_ret2
    exact Hf.out _ kp1
  have ok := frErr_okW h0
  have hl40 := ok.1
  rw [h0] at hch
  obtain ⟨i0, hi0, hz0, hz1, hz2⟩ := info_parts infoInt
  have hnone : rankOf ls = none → ∀ w', Kp w w' → EndL w (rankErr ls) (rankL ls) (.returned (.tuple #[.slice none 0 0, .int .i64 42])) w' := fun hR w' k => by
    unfold EndL rankErr; rw [if_pos h0, hR]; exact ⟨rfl, k⟩
  have hsome : ∀ r, rankOf ls = some r → ∀ a c w', IntsAt w' a r → Kp w w' → EndL w (rankErr ls) (rankL ls) (.returned (.tuple #[.slice a ls.length c, .int .i64 0])) w' := fun r hR a c w' i k => by
    have hlen := rankTo_len ls _ _ _ hR
    have hl2 : r.length = ls.length := by simpa using hlen
    unfold EndL rankErr rankL; rw [if_pos h0, hR]; exact ⟨⟨a, c, by simp [hl2], i⟩, k⟩
  have hra := fun W ra rk c (kW : Kp w W) (hr : IntsAt W ra rk) (hrl : rk.length = ls.length) => ranked_any la ra lc c ls rk W (h.kp kW) hr hrl hl40
  have hla := fun W a c i (rk : List Int) (m : Nat) (hF : FramesAt W a (rankedL ls (rk.set i (m : Int)) ls.length)) (hrk : RkOk ls (m + 1) rk) (hi : i < ls.length) => by
    have h1 := late_any a c (rankedL ls (rk.set i (m : Int)) ls.length) i W hF (rankedL_ok ok _) (trial_rank hrk hi) (by rw [rankedL_len]; exact hi)
    rw [trial_late ok hrk hi, rankedL_len] at h1
    exact h1
  have hro : rankTo ls ls.length (fillT ls.length ls.length) = rankOf ls := by rw [fillT_all]; rfl
  have hst : RkOk ls ls.length (fillT ls.length ls.length) := by rw [fillT_all]; exact RkOk.start ls
  have Hch := Lib.hid hch; have Hnone := Lib.hid hnone; have Hsome := Lib.hid hsome; have Hra := Lib.hid hra; have Hla := Lib.hid hla; have Hro := Lib.hid hro; have Hst := Lib.hid hst
  clear hch hnone hsome hra hla hro hst h ok h0
  generalize hR : rankOf ls = R at *
  clear hR
  go_enter Try.func20, Try.ntmps20
  go_wp2_with fail
  refine Hch.out.mono ?_
  rintro e w1 ⟨rfl, kp1⟩
  have hs1 := kp1.size
  go_wp2_with (first | (at_make; refine wpList_make_full _ rfl _ _ 28 rfl w1.heap.size 3 i0 (.int .i64 0) 1 Try.underlying28 hi0 hz0 hz1 .i64 .i64 _ _ ls.length rfl rfl rfl rfl (by rw [hz2]; omega) (by unfold maxLen; omega) (by simp) ?_; intro w2 hown hgrow) | fail)
  have k2 : Kp w w2 := kp1.step ((Keeps.refl _ _).grown hgrow (fun k e => by cases e))
  have hrow0 : IRow w2 w1.heap.size w1.heap.size ls.length ls.length (fillT ls.length 0) := irow_made hown
  clear hown hgrow kp1
  go_loopw [6] (fun i wq => ∃ (k : Nat), k ≤ ls.length ∧ i = .int .i64 k ∧ Kp w wq ∧ IRow wq w1.heap.size w1.heap.size ls.length ls.length (fillT ls.length k)) (fun i _ => ls.length - (intOf i).toNat)
  case atStart => exact ⟨0, Nat.zero_le _, rfl, k2, hrow0⟩
  case round =>
    clear k2 hrow0
    obtain ⟨w3, rfl⟩ : ∃ w3, w3 = wr := ⟨wr, rfl⟩
    obtain ⟨k, hk, rfl, kp, row⟩ := hrel
    by_cases hlt : k < ls.length
    case pos =>
      have i1 : (k : Int) < (ls.length : Int) := by omega
      have d1 := row.cell hlt
      have fz := row.frozen k
      have row2 := row.set k (-1)
      have kp2 : Kp w (w3.setCell ⟨w1.heap.size, k, none⟩ (.int .i64 (-1))) := kp.setCell (Or.inr hs1) _
      have Row2 : Hid (IRow (w3.setCell ⟨w1.heap.size, k, none⟩ (.int .i64 (-1))) w1.heap.size w1.heap.size ls.length ls.length (fillT ls.length (k + 1))) := Lib.hid row2
      have Kp2 := Lib.hid kp2
      clear row2 kp2 row kp
      generalize (fillT ls.length k).getD k 0 = x at *
      go_wp2_with fail
      go_roundw
      case rel => exact ⟨k + 1, by omega, by go_num, Kp2.out, Row2.out⟩
      case measure => simp [intOf]; omega
    case neg =>
      obtain rfl : k = ls.length := by omega
      have Row := Lib.hid row; have Kq := Lib.hid kp
      clear row kp
      go_wp2_with fail
      go_loopw [7] (fun i wq => ∃ (m : Nat) (rk : List Int), m ≤ ls.length ∧ i = .int .i64 ((m : Int) - 1) ∧ Kp w wq ∧ IRow wq w1.heap.size w1.heap.size ls.length ls.length rk ∧ Hid (rankTo ls m rk = R) ∧ Hid (RkOk ls m rk)) (fun i _ => (intOf i + 1).toNat)
      case atStart => exact ⟨ls.length, _, Nat.le_refl _, by go_num, Kq.out, Row.out, Hro, Hst⟩
      case round =>
        clear Row Kq Hro Hst
        obtain ⟨w4, rfl⟩ : ∃ w4, w4 = wr := ⟨wr, rfl⟩
        obtain ⟨m, rk, hm, rfl, kp, row, hR, hrk⟩ := hrel
        cases m with
        | zero =>
          have hR2 := hR.out
          unfold rankTo at hR2
          have q1 : decide ((0 : Int) ≤ ((0 : Nat) : Int) - 1) = false := by simp
          have hi := row.ints (by unfold maxLen; omega)
          have Hi := Lib.hid hi; have Kq := Lib.hid kp; have HR2 := Lib.hid hR2
          clear hi kp hR2 hR row
          go_wp2_with fail
          go_ret2
          exact Hsome.out rk HR2.out.symm _ _ _ Hi.out Kq.out
        | succ m =>
          have hR2 : (match firstO ls rk with | some i => rankTo ls m (rk.set i (m : Int)) | none => none) = R := hR.out
          have q1 : decide ((0 : Int) ≤ ((m + 1 : Nat) : Int) - 1) = true := decide_eq_true (by omega)
          have em : ((m + 1 : Nat) : Int) - 1 = (m : Int) := by omega
          rw [em] at q1 ⊢
          clear em
          have hat := fun k => first_at (ls := ls) (rk := rk) (k := k)
          have hno := first_none (ls := ls) (rk := rk)
          have HR2 := Lib.hid hR2; have Hat := Lib.hid hat; have Hno := Lib.hid hno; have Row := Lib.hid row; have Kq := Lib.hid kp
          clear hR2 hat hno hR row kp
          go_wp2_with fail
          -- the search: found or not
          go_loopw [8, 9] (fun f i wq => (∃ (k : Nat), k ≤ ls.length ∧ f = .bool false ∧ i = .int .i64 k ∧ Kp w wq ∧ IRow wq w1.heap.size w1.heap.size ls.length ls.length rk ∧ Hid (∀ j, j < k → okF ls rk j = false)) ∨ (∃ (k j : Nat), k ≤ ls.length ∧ f = .bool true ∧ i = .int .i64 k ∧ Kp w wq ∧ j < ls.length ∧ Hid (firstO ls rk = some j) ∧ IRow wq w1.heap.size w1.heap.size ls.length ls.length (rk.set j (m : Int)))) (fun f i _ => ls.length - (intOf i).toNat)
          case atStart => exact Or.inl ⟨0, Nat.zero_le _, rfl, rfl, Kq.out, Row.out, Lib.hid (fun j hj => by omega)⟩
          case round =>
            clear Kq Row
            obtain ⟨w5, rfl⟩ : ∃ w5, w5 = wr := ⟨wr, rfl⟩
            rcases hrel with ⟨k, hk, rfl, rfl, kp, row, hnk⟩ | ⟨k, j, hk, rfl, rfl, kp, hj, hfj, row⟩
            case inr =>
              have HR3 : Hid (rankTo ls m (rk.set j (m : Int)) = R) := Lib.hid (by have := HR2.out; rw [hfj.out] at this; exact this)
              have Hrk3 := Lib.hid (hrk.out.set hj)
              have Row := Lib.hid row; have Kq := Lib.hid kp
              clear row kp hfj
              by_cases hlk : (k : Int) < (ls.length : Int)
              all_goals
                go_wp2_with fail
                go_roundw
                case rel => exact ⟨m, _, by omega, by go_num, Kq.out, Row.out, HR3, Hrk3⟩
                case measure => simp [intOf]
            case inl =>
              by_cases hlt : k < ls.length
              case neg =>
                obtain rfl : k = ls.length := by omega
                have hRn : R = none := by have := HR2.out; rw [Hno.out hnk.out] at this; exact this.symm
                have Hz := Lib.hid (Hnone.out hRn)
                have Kq := Lib.hid kp
                clear hRn kp row hnk
                go_wp2_with fail
                go_ret2
                exact Hz.out _ Kq.out
              case pos =>
                have i1 : (k : Int) < (ls.length : Int) := by omega
                have d1 := row.cell hlt
                have fz := row.frozen k
                have hdic := hrk.out.2 k hlt
                have hof : okF ls rk k = ((rk.getD k 0 == -1) && !(lateF ls rk k)) := rfl
                have hnx : okF ls rk k = false → ∀ j, j < k + 1 → okF ls rk j = false := fun e j hj => by
                  by_cases e2 : j = k
                  · subst e2; exact e
                  · exact hnk.out j (by omega)
                have Hof := Lib.hid hof; have Hnx := Lib.hid hnx
                clear hof hnx
                by_cases hr : 0 ≤ rk.getD k 0
                case pos =>
                  have q2 : decide ((0 : Int) ≤ rk.getD k 0) = true := decide_eq_true hr
                  have Hz := Lib.hid (Hnx.out (by rw [Hof.out, show (rk.getD k 0 == -1) = false from beq_eq_false_iff_ne.2 (by omega)]; rfl))
                  have Row := Lib.hid row; have Kq := Lib.hid kp
                  clear row kp Hof Hnx hdic
                  generalize rk.getD k 0 = x at *
                  go_wp2_with fail
                  go_roundw
                  case rel => exact Or.inl ⟨k + 1, by omega, rfl, by go_num, Kq.out, Row.out, Hz⟩
                  case measure => simp [intOf]; omega
                case neg =>
                  have hx : rk.getD k 0 = -1 := by omega
                  rw [hx] at d1 Hof
                  have hlen := row.len
                  have Row := Lib.hid row; have Kq := Lib.hid kp
                  have hnews := row.news
                  have hone := encI_one rk
                  have hlm : (rk.map encI).length = ls.length := by simp [hlen]
                  have hsz := kp.size
                  clear row kp hdic hr
                  go_wp2_with (at_builtin; refine wpList_append_lies _ rfl (.const (.slice none 0 0)) (.tmp 50) 28 rfl w5.heap.size 3 i0 (.int .i64 0) 1 8 Try.underlying28 hi0 hz0 hz1 hz2 rfl (by decide) (.slice none 0 0) 0 [] (by rfl) (World.ownsRow_nil _ _ _ _) ⟨w1.heap.size, 0, none⟩ ls.length ls.length (rk.map encI) (by rfl) (by rw [hlm]; omega) hnews hone (by omega) (by unfold maxLen; omega) (by omega) (Nat.le_refl _) _ rfl ?_; intro g2 cap2 w7 hown7 hgrow hat7 hlt7; have hrow7 : IRow w7 w5.heap.size g2 ls.length cap2 rk := ⟨by simpa using hown7⟩; have x1 := hrow7.cell hlt; have z1 := hrow7.frozen k)
                  have k7 : Keeps (fun j => w5.heap.size ≤ j) w5 (w7.setCell ⟨g2, k, none⟩ (.int .i64 (m : Int))) := ((Keeps.refl (fun j => w5.heap.size ≤ j) w5).grown hgrow (fun j e => by simp [Value.ownBlock] at e)).setCell (p := ⟨g2, k, none⟩) (Or.inl hrow7.lt.1) _
                  have row8 := hrow7.set k (m : Int)
                  have kp8 : Kp w (w7.setCell ⟨g2, k, none⟩ (.int .i64 (m : Int))) := Kq.out.trans k7 (fun j e => Or.inr (by have := Kq.out.size; omega))
                  have rowR := Row.out.late k7
                  have hlen8 := row8.len
                  have hcall := Hra.out _ (some ⟨g2, 0, none⟩) (rk.set k (m : Int)) cap2 kp8 (row8.ints (by unfold maxLen; omega)) hlen8
                  have Hcall := Lib.hid hcall; have Kp8 := Lib.hid kp8; have RowR := Lib.hid rowR
                  clear hcall kp8 rowR row8 k7 hrow7 hown7 hgrow hat7 hnews hone x1 z1
                  refine Hcall.out.mono ?_
                  rintro e w9 ⟨a9, c9, rfl, hown9, kp9⟩
                  have hfr9 := hown9.frames (by rw [rankedL_len]; unfold maxLen; omega)
                  have hcall2 := Hla.out w9 a9 c9 k rk m hfr9 hrk.out hlt
                  have Hcall2 := Lib.hid hcall2; have K9 := Lib.hid (Kp8.out.step kp9); have Row9 := Lib.hid (RowR.out.kp kp9)
                  clear hcall2 kp9 hown9 hfr9 Hcall Kp8 RowR Row Kq
                  cases hlf : lateF ls rk k
                  · rw [hlf] at Hcall2 Hof
                    have hfo := Lib.hid (Hat.out k hlt (by rw [Hof.out]; rfl) hnk.out)
                    clear hlf
                    go_wp2_with fail
                    refine Hcall2.out.mono ?_
                    rintro e w10 ⟨rfl, kp10⟩
                    have row10 := Row9.out.kp kp10
                    have kw10 := K9.out.step kp10
                    have x1 := row10.cell hlt
                    have z1 := row10.frozen k
                    have Row11 : Hid (IRow (w10.setCell ⟨w1.heap.size, k, none⟩ (.int .i64 (m : Int))) w1.heap.size w1.heap.size ls.length ls.length (rk.set k (m : Int))) := Lib.hid (row10.set k (m : Int))
                    have K11 : Hid (Kp w (w10.setCell ⟨w1.heap.size, k, none⟩ (.int .i64 (m : Int)))) := Lib.hid (kw10.setCell (Or.inr hs1) _)
                    clear row10 kw10 kp10
                    go_wp2_with fail
                    go_roundw
                    case rel =>
                      exact Or.inr ⟨k + 1, k, by omega, rfl, by go_num, K11.out, hlt, hfo, Row11.out⟩
                    case measure => simp [intOf]; omega
                  · rw [hlf] at Hcall2 Hof
                    have Hz := Lib.hid (Hnx.out (by rw [Hof.out]; rfl))
                    clear hlf
                    go_wp2_with fail
                    refine Hcall2.out.mono ?_
                    rintro e w10 ⟨rfl, kp10⟩
                    have Row10 := Lib.hid (Row9.out.kp kp10)
                    have K10 := Lib.hid (K9.out.step kp10)
                    clear kp10
                    go_wp2_with fail
                    go_roundw
                    case rel => exact Or.inl ⟨k + 1, by omega, rfl, by go_num, K10.out, Row10.out, Hz⟩
                    case measure => simp [intOf]; omega
end Go.Proofs.Ytcelbmpdnkaamaa
