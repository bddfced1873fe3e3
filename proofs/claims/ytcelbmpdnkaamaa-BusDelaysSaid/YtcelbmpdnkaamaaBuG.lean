/- The gates behind one; whether too much goes through a gate. -/
import Derived.Test.YtcelbmpdnkaamaaBuF
namespace Go.Proofs.Ytcelbmpdnkaamaa
open Go Go.RowKit Go.WideMaps Go.Maps
set_option linter.unusedSimpArgs false
set_option linter.unusedVariables false

def bhF (f : Fl) (g : Int) : Option Int := if 0 ≤ idxI f.p g ∧ idxI f.p g + 1 < f.p.length then some (f.p.getD ((idxI f.p g).toNat + 1) 0) else none
def bhTo (fs : List Fl) (g : Int) (k : Nat) : List Int := (List.range k).filterMap (fun i => bhF (flAt fs i) g)
theorem bh_yes {fs : List Fl} {g x : Int} {k : Nat} (h : bhF (flAt fs k) g = some x) : bhTo fs g (k + 1) = bhTo fs g k ++ [x] := by
  unfold bhTo; rw [List.range_succ, List.filterMap_append]; simp [h]
theorem bh_no {fs : List Fl} {g : Int} {k : Nat} (h : bhF (flAt fs k) g = none) : bhTo fs g (k + 1) = bhTo fs g k := by
  unfold bhTo; rw [List.range_succ, List.filterMap_append]; simp [h]
theorem bh_len (fs : List Fl) (g : Int) (k : Nat) : (bhTo fs g k).length ≤ k := by
  unfold bhTo; exact Nat.le_trans (List.length_filterMap_le _ _) (by simp)

set_option maxRecDepth 100000 in
set_option maxHeartbeats 1600000 in
theorem behind_any (ga fa : Option Addr) (ng gc fc : Nat) (fs : List Fl) (g : Int) (w : World) (hf : FlowsAt w fa fs) (hl : fs.length ≤ 40) :
    Calls Try.prog 88 #[.agg #[.slice ga ng gc, .slice fa fs.length fc], .int .i64 g] w (ListEnd w (bhTo fs g fs.length)) := by
  have hk := kp_alloc w (.cells #[.slice ga ng gc, .slice fa fs.length fc] 47)
  have hbx := box0 w (.slice ga ng gc) (.slice fa fs.length fc) 47
  have hbx1 := box1 w (.slice ga ng gc) (.slice fa fs.length fc) 47
  obtain ⟨i0, hi0, hz0, hz1, hz2⟩ := info_parts infoInt
  have hga := fun W k => hf.kp (w' := W) (hk.step k)
  have Hk := Lib.hid hk; have Hga := Lib.hid hga
  clear hk hga hf
  go_enter Try.func88, Try.ntmps88
  go_wp2_with fail
  have hVs : (w.alloc (.cells #[.slice ga ng gc, .slice fa fs.length fc] 47)).heap.size = w.heap.size + 1 := by simp
  generalize hV : (w.alloc (.cells #[.slice ga ng gc, .slice fa fs.length fc] 47)) = V at *
  clear hV
  go_loopw [5, 12] (fun l i wr => ∃ (k : Nat) (a : Option Addr) (c : Nat), k ≤ fs.length ∧ i = .int .i64 k ∧ l = .slice a (bhTo fs g k).length c ∧ OwnI wr (w.heap.size + 1) a c (bhTo fs g k) ∧ Kp V wr) (fun _ i _ => fs.length - (intOf i).toNat)
  case atStart => exact ⟨0, none, 0, Nat.zero_le _, rfl, rfl, OwnI.nil _ _, Kp.refl _⟩
  case round =>
    obtain ⟨k, a, c, hk, rfl, rfl, hown, kp⟩ := hrel
    by_cases hlt : k < fs.length
    · obtain ⟨b1, o1, rfl, hc1⟩ := (Hga.out _ kp).cells (by omega)
      obtain ⟨c0, c1, pa, pc, c2, c3, c4, c5⟩ := hc1 k hlt
      have i1 : (k : Int) < (fs.length : Int) := by omega
      have hbf : bhF (flAt fs k) g = if 0 ≤ idxI (flAt fs k).p g ∧ idxI (flAt fs k).p g + 1 < (flAt fs k).p.length then some ((flAt fs k).p.getD ((idxI (flAt fs k).p g).toNat + 1) 0) else none := rfl
      have hpl := bh_len fs g k
      have hyes := fun x => bh_yes (fs := fs) (g := g) (k := k) (x := x)
      have hnoo := bh_no (fs := fs) (g := g) (k := k)
      generalize bhF (flAt fs k) g = y at *
      generalize flAt fs k = f at *
      obtain ⟨fb, fr, p⟩ := f
      dsimp only at *
      have hpl2 := c3.len
      unfold maxLen at hpl2
      have hcon : ∀ W, Kp wr W → Calls Try.prog 100 #[.slice pa p.length pc, .int .i64 g] W fun e w' => e = .returned (.int .i64 (idxI p g)) ∧ Kp W w' := fun W kW => index_any pa pc p g W (c3.kp kW)
      have ka := kp_alloc wr (.cells #[.int .i64 fb, .int .i64 fr, .slice pa p.length pc] 61)
      have hsz := kp.size
      have Hcon := Lib.hid hcon; have Kq := Lib.hid kp; have Hown := Lib.hid hown; have Ka := Lib.hid ka; have Hyes := Lib.hid hyes; have Hno := Lib.hid hnoo; have Hbf := Lib.hid hbf; have Hp := Lib.hid c3
      clear hcon kp hown ka hyes hnoo hc1 c3 c4 c5 hbf
      generalize bhTo fs g k = L at *
      go_wp2_with fail
      refine (Hcon.out _ (by first | exact Ka.out | exact Kp.refl _)).mono ?_
      rintro e w1 ⟨rfl, kp1⟩
      have K1 := Lib.hid (Ka.out.step kp1)
      have hsz1 := K1.out.size
      have hfb2 : w1.cell? ⟨wr.heap.size, 2, none⟩ = some (.slice pa p.length pc) := kp1.cell (by simp)
      clear kp1
      by_cases hx : hasI p g = true
      · obtain ⟨m, hm⟩ : ∃ m : Nat, idxI p g = m := ⟨_, by unfold idxI; rw [if_pos hx]⟩
        by_cases hlt2 : m + 1 < p.length
        · obtain ⟨b2, o2, rfl, hc2⟩ := (Hp.out.kp K1.out).cells (by omega)
          have d0 := hc2 (m + 1) hlt2
          have Hz := Lib.hid (Hyes.out (p.getD (m + 1) 0) (by rw [Hbf.out, if_pos (by rw [hm]; omega), hm]; rfl))
          have Hown1 := Lib.hid (Hown.out.kp K1.out)
          have i2 : (m : Int) + 1 < (p.length : Int) := by omega
          rw [hm]
          generalize p.getD (m + 1) 0 = x at *
          clear hx hm hc2
          have hm1 : p.length ≤ 9223372036854775807 := by omega
          go_wp2_with (at_builtin; refine wpList_append_lies _ rfl (.tmp 30) (.tmp 37) 28 rfl (w.heap.size + 1) 3 i0 (.int .i64 0) 1 8 Try.underlying28 hi0 hz0 hz1 hz2 rfl (by decide) (.slice a L.length c) L.length (L.map encI) (by rfl) (Hown1.out.kp (kp_alloc _ _)) ⟨w1.heap.size, 0, none⟩ 1 1 [.int .i64 x] (by rfl) rfl (World.news_of_block (cs := #[.int .i64 x]) (t := 3) (fr := (0, 0)) (heap_alloc_new w1 _)) (by intro u hu; simp at hu; subst hu; rfl) (by omega) (by unfold maxLen; omega) (by omega) (by simp; omega) _ rfl ?_; intro g2 cap2 w3 hown3 hgrow hat hlt2)
          have hk3 : Kp V w3 := by
            have hb : ∀ j, (Value.slice a L.length c).ownBlock = some j → V.heap.size ≤ j := fun j e => by
              have := (Hown1.out.lt j e).1; omega
            exact ((Kq.out.step K1.out).step (kp_alloc _ _)).trans (S' := fun j => (Value.slice a L.length c).ownBlock = some j) ((Keeps.refl _ _).grown hgrow (fun j e => Or.inl e)) (fun j e => Or.inr (hb j e))
          have hown4 : OwnI w3 (w.heap.size + 1) (some ⟨g2, 0, none⟩) cap2 (L ++ [x]) := by
            unfold OwnI
            have e1 : (L ++ [x]).length = L.length + 1 := by simp
            rw [e1, List.map_append]
            exact hown3
          have Hk3 := Lib.hid hk3; have Hown4 := Lib.hid hown4
          clear hk3 hown4 hown3 hgrow hat
          go_wp2_with fail
          go_roundw
          case rel => exact ⟨k + 1, some ⟨g2, 0, none⟩, cap2, by omega, by go_num, by rw [Hz.out]; simp, by rw [Hz.out]; exact Hown4.out, Hk3.out⟩
          case measure => simp [intOf]; omega
        · have Hz := Lib.hid (Hno.out (by rw [Hbf.out, if_neg (by rw [hm]; omega)]))
          have q1 : decide ((m : Int) + 1 < (p.length : Int)) = false := decide_eq_false (by omega)
          have hm2 : m < 9223372036854775807 := by
            have : idxI p g < p.length := by
              unfold idxI; rw [if_pos hx]
              have := List.findIdx_le_length (p := (· == g)) (xs := p)
              have h3 : p.findIdx (· == g) < p.length := by
                rw [List.findIdx_lt_length]
                unfold hasI at hx
                rw [List.any_eq_true] at hx
                exact hx
              omega
            omega
          have hm1 : p.length ≤ 9223372036854775807 := by omega
          rw [hm]
          clear hx hm
          go_wp2_with fail
          go_roundw
          case rel => exact ⟨k + 1, a, c, by omega, by go_num, by rw [Hz.out], by rw [Hz.out]; exact Hown.out.kp K1.out, Kq.out.step K1.out⟩
          case measure => simp [intOf]; omega
      · have hm : idxI p g = -1 := by unfold idxI; rw [if_neg hx]
        have Hz := Lib.hid (Hno.out (by rw [Hbf.out, if_neg (by rw [hm]; omega)]))
        rw [hm]
        clear hx hm
        go_wp2_with fail
        go_roundw
        case rel => exact ⟨k + 1, a, c, by omega, by go_num, by rw [Hz.out], by rw [Hz.out]; exact Hown.out.kp K1.out, Kq.out.step K1.out⟩
        case measure => simp [intOf]; omega
    · obtain rfl : k = fs.length := by omega
      have hpl := bh_len fs g fs.length
      go_wp2_with fail
      go_ret
      exact ⟨a, c, rfl, hown.mono (by omega), Hk.out.step kp⟩

end Go.Proofs.Ytcelbmpdnkaamaa
