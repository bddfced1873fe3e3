/- The reference's order. -/
import Derived.Test.YtcelbmpdnkaamaaBxF
namespace Go.Proofs.Ytcelbmpdnkaamaa
open Go Go.RowKit Go.WideMaps Go.Maps
set_option linter.unusedSimpArgs false
set_option linter.unusedVariables false

theorem allR_zero (f : Nat → Bool) : allR 0 f = true := rfl
theorem allR_step (f : Nat → Bool) (k : Nat) : allR (k + 1) f = (allR k f && f k) := by
  unfold allR; rw [List.range_succ, List.all_append]; simp
theorem refOrd_none {ng : Nat} {fs : List Fl} {k : Nat} (h : refOrd ng fs k = none) : ∀ d, refOrd ng fs (k + d) = none
  | 0 => h
  | d + 1 => by
    show (refOrd ng fs (k + d)).bind _ = none
    rw [refOrd_none h d]; rfl
theorem refOrd_stop {ng : Nat} {fs : List Fl} {k : Nat} {o : List Int} (h : refOrd ng fs k = some o) (hn : nextO ng fs o = none) (hk : k < ng) : refOrd ng fs ng = none := by
  have h1 : refOrd ng fs (k + 1) = none := by
    show (refOrd ng fs k).bind _ = none
    rw [h]; simp [hn]
  have := refOrd_none h1 (ng - (k + 1))
  rwa [show k + 1 + (ng - (k + 1)) = ng by omega] at this
theorem refOrd_more {ng : Nat} {fs : List Fl} {k g : Nat} {o : List Int} (h : refOrd ng fs k = some o) (hn : nextO ng fs o = some g) : refOrd ng fs (k + 1) = some (o ++ [(g : Int)]) := by
  show (refOrd ng fs k).bind _ = _
  rw [h]; simp [hn]
def OrdEnd (w : World) (ng : Nat) (fs : List Fl) (e : Ending) (w' : World) : Prop :=
  (match refOrd ng fs ng with
    | some o => ∃ a c, e = .returned (.tuple #[.slice a o.length c, .bool true]) ∧ OwnI w' w.heap.size a c o
    | none => e = .returned (.tuple #[.slice none 0 0, .bool false])) ∧ Kp w w'
/-- As far as the search for the next gate has come. -/
def Seek (ng : Nat) (fs : List Fl) (o : List Int) (k : Nat) (n : Int) : Prop := (n = -1 ∧ ∀ j, j < k → readyB fs o j = false) ∨ ∃ g : Nat, n = g ∧ nextO ng fs o = some g
theorem readyB_eq (fs : List Fl) (o : List Int) (g : Nat) : readyB fs o g = (!hasI o g && allR fs.length (flowOk fs o g)) := rfl
theorem flowOk_eq (fs : List Fl) (o : List Int) (g : Int) (i : Nat) : flowOk fs o g i = allR ((flAt fs i).p.length - 1) (fun m => !((flAt fs i).p.getD (m + 1) 0 == g) || hasI o ((flAt fs i).p.getD m 0)) := rfl

set_option maxRecDepth 100000 in
set_option maxHeartbeats 3200000 in
theorem refOrder_any (ga fa : Option Addr) (ng gc fc : Nat) (fs : List Fl) (w : World) (hf : FlowsAt w fa fs) (hl : fs.length ≤ 40) (hng : ng ≤ 30) :
    Calls Try.prog 59 #[.agg #[.slice ga ng gc, .slice fa fs.length fc]] w (OrdEnd w ng fs) := by
  have hk := kp_alloc w (.cells #[.slice ga ng gc, .slice fa fs.length fc] 47)
  have hbx := box0 w (.slice ga ng gc) (.slice fa fs.length fc) 47
  have hbx1 := box1 w (.slice ga ng gc) (.slice fa fs.length fc) 47
  obtain ⟨i0, hi0, hz0, hz1, hz2⟩ := info_parts infoInt
  have hfa := fun W k => hf.kp (w' := W) (hk.step k)
  have hfin : ∀ e w', ((∃ o a c, refOrd ng fs ng = some o ∧ e = .returned (.tuple #[.slice a o.length c, .bool true]) ∧ OwnI w' w.heap.size a c o) ∨ (refOrd ng fs ng = none ∧ e = .returned (.tuple #[.slice none 0 0, .bool false]))) → Kp w w' → OrdEnd w ng fs e w' := by
    rintro e w' (⟨o, a, c, h1, h2, h3⟩ | ⟨h1, h2⟩) k
    · unfold OrdEnd; rw [h1]; exact ⟨⟨a, c, h2, h3⟩, k⟩
    · unfold OrdEnd; rw [h1]; exact ⟨h2, k⟩
  have Hk := Lib.hid hk; have Hfa := Lib.hid hfa; have Hfin := Lib.hid hfin
  clear hk hfa hf hfin
  go_enter Try.func59, Try.ntmps59
  go_wp2_with fail
  have hVs : (w.alloc (.cells #[.slice ga ng gc, .slice fa fs.length fc] 47)).heap.size = w.heap.size + 1 := by simp
  generalize hV : (w.alloc (.cells #[.slice ga ng gc, .slice fa fs.length fc] 47)) = V at *
  clear hV
  go_loopw [4] (fun l wr => ∃ (o : List Int) (a : Option Addr) (c : Nat), o.length ≤ ng ∧ l = .slice a o.length c ∧ OwnI wr (w.heap.size + 1) a c o ∧ Kp V wr ∧ Hid (refOrd ng fs o.length = some o)) (fun l _ => ng - (match l with | .slice _ n _ => n | _ => 0))
  case atStart => exact ⟨[], none, 0, Nat.zero_le _, rfl, OwnI.nil _ _, Kp.refl _, Lib.hid rfl⟩
  case round =>
    obtain ⟨w3, rfl⟩ : ∃ w3, w3 = wr := ⟨wr, rfl⟩
    obtain ⟨o, a, c, hol, rfl, hown, kp, hro⟩ := hrel
    have d0 := kp.cell hbx
    have d1 := kp.cell hbx1
    have hsz := kp.size
    have hio := hown.ints (by unfold maxLen; omega)
    have hhas := fun v W (kW : Kp w3 W) => refHas_any a c o v W (hio.kp kW)
    have Hown := Lib.hid hown; have Kq := Lib.hid kp; have Hhas := Lib.hid hhas
    clear hown kp hio hhas
    by_cases hlt : o.length < ng
    case neg =>
      have q1 : decide ((o.length : Int) < (ng : Int)) = false := decide_eq_false (by omega)
      have q2 : (ng : Int) ≤ (o.length : Int) := by omega
      have hro2 : refOrd ng fs ng = some o := by have := hro.out; rwa [show o.length = ng by omega] at this
      have Hro2 := Lib.hid hro2
      clear hro2 hro
      go_wp2_with fail
      go_ret2
      exact Hfin.out _ _ (.inl ⟨o, a, c, Hro2.out, rfl, Hown.out.mono (by omega)⟩) (Hk.out.step Kq.out)
    case pos =>
      have q1 : decide ((o.length : Int) < (ng : Int)) = true := decide_eq_true (by omega)
      have q2 : (o.length : Int) < (ng : Int) := by omega
      go_wp2_with fail
      go_loopw [5, 6] (fun n i wr => ∃ (k : Nat) (x : Int), k ≤ ng ∧ n = .int .i64 x ∧ i = .int .i64 k ∧ Kp w3 wr ∧ Hid (Seek ng fs o k x)) (fun _ i _ => ng - (intOf i).toNat)
      case atStart => exact ⟨0, -1, Nat.zero_le _, rfl, rfl, Kp.refl _, Lib.hid (.inl ⟨rfl, fun j hj => by omega⟩)⟩
      case round =>
        obtain ⟨w4, rfl⟩ : ∃ w4, w4 = wr := ⟨wr, rfl⟩
        obtain ⟨k, x, hk, rfl, rfl, kp, hsk⟩ := hrel
        clear d0 d1
        have d0 := (Kq.out.step kp).cell hbx
        have d1 := (Kq.out.step kp).cell hbx1
        have K4 := Lib.hid kp
        have Kv4 := Lib.hid (Kq.out.step kp)
        clear kp
        by_cases hx : x < 0
        case neg =>
          have hn : ∃ g : Nat, x = g ∧ nextO ng fs o = some g := by
            rcases hsk.out with ⟨h1, _⟩ | h1
            · omega
            · exact h1
          obtain ⟨g, rfl, hg⟩ := hn
          have hgn := (next_some hg).1
          have hmore := refOrd_more hro.out hg
          have Hmore := Lib.hid hmore
          have q3 : decide ((g : Int) < 0) = false := decide_eq_false (by omega)
          have Hown1 := Lib.hid (Hown.out.kp K4.out)
          have hsz4 := Kv4.out.size
          clear hg hmore hsk hx hro
          by_cases hkn : (k : Int) < (ng : Int)
          all_goals
            go_wp2_with (at_builtin; refine wpList_append_lies _ rfl (.tmp 73) (.tmp 75) 28 rfl (w.heap.size + 1) 3 i0 (.int .i64 0) 1 8 Try.underlying28 hi0 hz0 hz1 hz2 rfl (by decide) (.slice a o.length c) o.length (o.map encI) (by rfl) (Hown1.out.kp (kp_alloc _ _)) ⟨w4.heap.size, 0, none⟩ 1 1 [.int .i64 (g : Int)] (by rfl) rfl (World.news_of_block (cs := #[.int .i64 (g : Int)]) (t := 3) (fr := (0, 0)) (heap_alloc_new w4 _)) (by intro u hu; simp at hu; subst hu; rfl) (by omega) (by unfold maxLen; omega) (by omega) (by simp; omega) _ rfl ?_; intro g2 cap2 w5 hown3 hgrow hat hlt2)
            have hk5 : Kp V w5 := by
              have hb : ∀ j, (Value.slice a o.length c).ownBlock = some j → V.heap.size ≤ j := fun j e => by
                have := (Hown1.out.lt e).1; omega
              exact (Kv4.out.step (kp_alloc _ _)).trans (S' := fun j => (Value.slice a o.length c).ownBlock = some j) ((Keeps.refl _ _).grown hgrow (fun j e => Or.inl e)) (fun j e => Or.inr (hb j e))
            have hown4 : OwnI w5 (w.heap.size + 1) (some ⟨g2, 0, none⟩) cap2 (o ++ [(g : Int)]) := by
              unfold OwnI
              have e1 : (o ++ [(g : Int)]).length = o.length + 1 := by simp
              rw [e1, List.map_append]
              exact hown3
            have Hk5 := Lib.hid hk5; have Hown4 := Lib.hid hown4
            clear hk5 hown4 hown3 hgrow hat
            go_wp2_with fail
            go_roundw
            case rel => exact ⟨o ++ [(g : Int)], some ⟨g2, 0, none⟩, cap2, by simp; omega, by simp, Hown4.out, Hk5.out, Lib.hid (by rw [List.length_append]; exact Hmore.out)⟩
            case measure => simp; omega
        case pos =>
          have hno : ∀ j, j < k → readyB fs o j = false := by
            rcases hsk.out with ⟨h1, h2⟩ | ⟨g, h1, _⟩
            · exact h2
            · omega
          have hxe : x = -1 := by
            rcases hsk.out with ⟨h1, h2⟩ | ⟨g, h1, _⟩
            · exact h1
            · omega
          subst hxe
          by_cases hkn : k < ng
          case neg =>
            have hz := refOrd_stop hro.out (next_none (ng := ng) (fun j hj => hno j (by omega))) hlt
            have Hz := Lib.hid hz
            have i1 : (ng : Int) ≤ (k : Int) := by omega
            clear hno hz hsk hro
            go_wp2_with fail
            go_ret2
            exact Hfin.out _ _ (.inr ⟨Hz.out, rfl⟩) (Hk.out.step Kv4.out)
          case pos =>
            have i1 : (k : Int) < (ng : Int) := by omega
            have Hno := Lib.hid hno
            have hre := readyB_eq fs o k
            have Hre := Lib.hid hre
            clear hno hsk hre
            go_wp2_with fail
            refine (Hhas.out k _ K4.out).mono ?_
            rintro e w5 ⟨rfl, k5⟩
            have K5 := Lib.hid (K4.out.step k5)
            clear k5 d0 d1
            generalize hr0 : hasI o (k : Int) = r0 at *
            go_wp2_with fail
            go_loopw [7, 8] (fun r i wr => ∃ (m : Nat), m ≤ fs.length ∧ r = .bool (!r0 && allR m (flowOk fs o k)) ∧ i = .int .i64 m ∧ Kp w3 wr) (fun _ i _ => fs.length - (intOf i).toNat)
            case atStart => exact ⟨0, Nat.zero_le _, by rw [allR_zero]; simp, rfl, K5.out⟩
            case round =>
              obtain ⟨w6, rfl⟩ : ∃ w6, w6 = wr := ⟨wr, rfl⟩
              obtain ⟨m, hm, rfl, rfl, kp⟩ := hrel
              have d0 := (Kq.out.step kp).cell hbx
              have d1 := (Kq.out.step kp).cell hbx1
              have K6 := Lib.hid kp
              by_cases hmn : m < fs.length
              case neg =>
                obtain rfl : m = fs.length := by omega
                have hre2 : (!r0 && allR fs.length (flowOk fs o k)) = readyB fs o k := by rw [Hre.out]
                rw [hre2]
                clear hre2 kp Hhas
                cases hb : readyB fs o k
                · have hsk : Seek ng fs o (k + 1) (-1) := .inl ⟨rfl, fun j hj => by
                    by_cases e : j = k
                    · subst e; exact hb
                    · exact Hno.out j (by omega)⟩
                  have Hsk := Lib.hid hsk
                  clear hsk hb
                  go_wp2_with fail
                  go_roundw
                  case rel => exact ⟨k + 1, -1, by omega, rfl, by go_num, K6.out, Hsk⟩
                  case measure => simp [intOf]; omega
                · have hsk : Seek ng fs o (k + 1) (k : Int) := .inr ⟨k, rfl, next_at hkn hb Hno.out⟩
                  have Hsk := Lib.hid hsk
                  clear hsk hb
                  go_wp2_with fail
                  go_roundw
                  case rel => exact ⟨k + 1, k, by omega, rfl, by go_num, K6.out, Hsk⟩
                  case measure => simp [intOf]; omega
              case pos =>
                obtain ⟨b1, o1, rfl, hc1⟩ := (Hfa.out _ (Kq.out.step kp)).cells (by omega)
                obtain ⟨c0, c1, pa, pc, c2, c3, c4, c5⟩ := hc1 m hmn
                have i2 : (m : Int) < (fs.length : Int) := by omega
                have hst := allR_step (flowOk fs o k) m
                have hfe := flowOk_eq fs o k m
                generalize flowOk fs o k m = fo at *
                generalize allR m (flowOk fs o k) = rm at *
                generalize flAt fs m = f at *
                obtain ⟨fb, fr, p⟩ := f
                dsimp only at *
                have hpi := fun W (kW : Kp w6 W) => c3.kp kW
                have Hpi := Lib.hid hpi; have Hst := Lib.hid hst; have Hfe := Lib.hid hfe
                unfold maxLen at c5
                clear hpi hst hfe hc1 c3 kp
                go_wp2_with fail
                go_loopw [7, 10] (fun r i wr => ∃ (j : Nat), 1 ≤ j ∧ j ≤ max 1 p.length ∧ r = .bool (!r0 && rm && allR (j - 1) (fun m => !(p.getD (m + 1) 0 == (k : Int)) || hasI o (p.getD m 0))) ∧ i = .int .i64 j ∧ Kp w6 wr) (fun _ i _ => max 1 p.length - (intOf i).toNat)
                case atStart => exact ⟨1, Nat.le_refl _, by omega, by rw [show 1 - 1 = 0 by omega, allR_zero]; simp, rfl, Kp.refl _⟩
                case round =>
                  obtain ⟨w7, rfl⟩ : ∃ w7, w7 = wr := ⟨wr, rfl⟩
                  obtain ⟨j, hj1, hj, rfl, rfl, kp⟩ := hrel
                  have K7 := Lib.hid (K6.out.step kp)
                  by_cases hjp : j < p.length
                  case neg =>
                    have hj3 : j - 1 = p.length - 1 := by omega
                    have i3 : (p.length : Int) ≤ (j : Int) := by omega
                    rw [hj3, ← Hfe.out]
                    clear kp hj3
                    go_wp2_with fail
                    go_roundw
                    case rel => exact ⟨m + 1, by omega, by rw [Hst.out, Bool.and_assoc], by go_num, K7.out⟩
                    case measure => simp [intOf]; omega
                  case pos =>
                    obtain ⟨n, rfl⟩ : ∃ n, j = n + 1 := ⟨j - 1, by omega⟩
                    obtain ⟨b2, o2, rfl, hc2⟩ := (Hpi.out _ kp).cells (by omega)
                    have x1 := hc2 (n + 1) hjp
                    have x2 := hc2 n (by omega)
                    have hap := allR_step (fun m => !(p.getD (m + 1) 0 == (k : Int)) || hasI o (p.getD m 0)) n
                    rw [show n + 1 - 1 = n by omega]
                    have i3 : (n : Int) + 1 < (p.length : Int) := by omega
                    have i4 : (0 : Int) ≤ (n : Int) + 1 := by omega
                    have i5 : ((n : Int) + 1).toNat = n + 1 := by omega
                    have hcl := Hhas.out (p.getD n 0) w7 K7.out
                    have Kp7 := Lib.hid kp; have Hcl := Lib.hid hcl; have Hap := Lib.hid hap
                    clear kp hcl hap hc2 hj
                    have hrel2 : ∀ b, b = (!(p.getD (n + 1) 0 == (k : Int)) || hasI o (p.getD n 0)) → ((!r0 && rm && allR n (fun m => !(p.getD (m + 1) 0 == (k : Int)) || hasI o (p.getD m 0))) && b) = (!r0 && rm && allR (n + 1) (fun m => !(p.getD (m + 1) 0 == (k : Int)) || hasI o (p.getD m 0))) := fun b hb => by rw [Hap.out, hb, Bool.and_assoc]
                    have Hrel := Lib.hid hrel2
                    clear hrel2 Hap
                    generalize p.getD (n + 1) 0 = y1 at *
                    generalize p.getD n 0 = y2 at *
                    generalize (!r0 && rm && allR n (fun m => !(p.getD (m + 1) 0 == (k : Int)) || hasI o (p.getD m 0))) = rr at *
                    cases rr
                    · have hz := Hrel.out _ rfl
                      rw [Bool.false_and] at hz
                      have Hz := Lib.hid hz
                      clear hz Hrel
                      go_wp2_with fail
                      go_roundw
                      case rel => exact ⟨n + 2, by omega, by omega, by rw [show n + 2 - 1 = n + 1 by omega, ← Hz.out], by go_num, Kp7.out⟩
                      case measure => simp [intOf]; omega
                    · by_cases hy : y1 = k
                      · have qy : (y1 != (k : Int)) = false := by rw [bne_eq_false_iff_eq]; exact hy
                        have hz := Hrel.out (hasI o y2) (by rw [hy]; simp)
                        rw [Bool.true_and] at hz
                        have Hz := Lib.hid hz
                        clear hz Hrel hy
                        go_wp2_with fail
                        refine Hcl.out.mono ?_
                        rintro e w8 ⟨rfl, k8⟩
                        have K8 := Lib.hid (Kp7.out.step k8)
                        clear k8
                        generalize hasI o y2 = y3 at *
                        go_wp2_with fail
                        go_roundw
                        case rel => exact ⟨n + 2, by omega, by omega, by rw [show n + 2 - 1 = n + 1 by omega, ← Hz.out], by go_num, K8.out⟩
                        case measure => simp [intOf]; omega
                      · have qy : (y1 != (k : Int)) = true := by rw [bne_iff_ne]; exact hy
                        have hz := Hrel.out true (by have : (y1 == (k : Int)) = false := by simpa using hy
                                                     rw [this]; simp)
                        rw [Bool.true_and] at hz
                        have Hz := Lib.hid hz
                        clear hz Hrel hy
                        go_wp2_with fail
                        go_roundw
                        case rel => exact ⟨n + 2, by omega, by omega, by rw [show n + 2 - 1 = n + 1 by omega, ← Hz.out], by go_num, Kp7.out⟩
                        case measure => simp [intOf]; omega
end Go.Proofs.Ytcelbmpdnkaamaa
