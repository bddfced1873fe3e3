/- When paths and nets are valid. -/
import Derived.Test.YtcelbmpdnkaamaaBuC
namespace Go.Proofs.Ytcelbmpdnkaamaa
open Go Go.RowKit Go.WideMaps Go.Maps
set_option linter.unusedSimpArgs false
set_option linter.unusedVariables false

def pathAt (ng : Nat) (p : List Int) (i : Nat) : Bool := fromB 0 (p.getD i 0) ((ng : Int) - 1) && !hasI (p.take i) (p.getD i 0)
def pathB (ng : Nat) (p : List Int) : Bool := fromB 1 p.length 8 && (List.range p.length).all (pathAt ng p)
theorem pathB_bad {ng : Nat} {p : List Int} {k : Nat} (hk : k < p.length) (h : pathAt ng p k = false) : pathB ng p = false := by
  unfold pathB
  rw [Bool.and_eq_false_iff]; right
  rw [List.all_eq_false]
  exact ⟨k, List.mem_range.2 hk, by simpa using h⟩
theorem pathB_good {ng : Nat} {p : List Int} (h0 : fromB 1 p.length 8 = true) (h : ∀ j, j < p.length → pathAt ng p j = true) : pathB ng p = true := by
  unfold pathB
  rw [h0, Bool.true_and, List.all_eq_true]
  intro j hj
  exact h j (List.mem_range.1 hj)

set_option maxHeartbeats 1600000 in
theorem isPath_any (ga fa pa : Option Addr) (ng gc nf fc pc : Nat) (p : List Int) (w : World) (h : IntsAt w pa p) (hc : p.length ≤ pc) (hc2 : pc ≤ maxLen) (hng : ng ≤ 1000) :
    Calls Try.prog 87 #[.agg #[.slice ga ng gc, .slice fa nf fc], .slice pa p.length pc] w fun e w' => e = .returned (.bool (pathB ng p)) ∧ Kp w w' := by
  have hk := kp_alloc w (.cells #[.slice ga ng gc, .slice fa nf fc] 47)
  have hbx := box0 w (.slice ga ng gc) (.slice fa nf fc) 47
  unfold maxLen at hc2
  have h1 := isFrom_any 1 p.length 8
  have H1 := Lib.hid h1; have Hk := Lib.hid hk; have Hh := Lib.hid h
  clear h1 hk h
  cases hb : fromB 1 p.length 8
  · have He : Hid (pathB ng p = false) := Lib.hid (by unfold pathB; rw [hb]; rfl)
    go_enter Try.func87, Try.ntmps87
    go_wp2_with fail
    refine (H1.out _).mono ?_
    rintro e w1 ⟨rfl, rfl⟩
    rw [hb]
    go_wp2_with fail
    go_ret
    exact ⟨by rw [He.out]; rfl, Hk.out⟩
  · have hl8 : p.length ≤ 8 := by unfold fromB at hb; simp at hb; omega
    have hgood := pathB_good (ng := ng) (p := p) hb
    have hbad := fun k hk => pathB_bad (ng := ng) (p := p) (k := k) hk
    have Hg := Lib.hid hgood; have Hb := Lib.hid hbad
    clear hgood hbad
    go_enter Try.func87, Try.ntmps87
    go_wp2_with fail
    refine (H1.out _).mono ?_
    rintro e w1 ⟨rfl, rfl⟩
    rw [hb]
    clear hb
    go_wp2_with fail
    generalize (w.alloc (.cells #[.slice ga ng gc, .slice fa nf fc] 47)) = V at *
    go_loopw [13] (fun i wr => ∃ (k : Nat), k ≤ p.length ∧ i = .int .i64 k ∧ Kp V wr ∧ ∀ j, j < k → pathAt ng p j = true) (fun i _ => p.length - (intOf i).toNat)
    case atStart => exact ⟨0, Nat.zero_le _, rfl, Kp.refl _, fun j hj => by omega⟩
    case round =>
      obtain ⟨k, hk, rfl, kp, hok⟩ := hrel
      by_cases hlt : k < p.length
      · have hp := Hh.out.kp (Hk.out.step kp)
        obtain ⟨b1, o1, rfl, hc1⟩ := hp.cells (by omega)
        have c1 := hc1 k hlt
        have cb := kp.cell hbx
        have i1 : (k : Int) < (p.length : Int) := by omega
        have hcon : ∀ W, Kp wr W → Calls Try.prog 99 #[.slice (some ⟨b1, o1, none⟩) k pc, .int .i64 (p.getD k 0)] W fun e w' => e = .returned (.bool (hasI (p.take k) (p.getD k 0))) ∧ Kp W w' := fun W kW => by
          have := contains_any (some ⟨b1, o1, none⟩) pc (p.take k) (p.getD k 0) W ((hp.kp kW).take k)
          rwa [show (p.take k).length = k by simp; omega] at this
        have hof := isOf_any (p.getD k 0) ng
        have hpa : pathAt ng p k = (fromB 0 (p.getD k 0) ((ng : Int) - 1) && !hasI (p.take k) (p.getD k 0)) := rfl
        have hnext : pathAt ng p k = true → ∀ j, j < k + 1 → pathAt ng p j = true := fun hh j hj => by
          by_cases e : j = k
          · subst e; exact hh
          · exact hok j (by omega)
        have hbk := Hb.out k hlt
        have Hc := Lib.hid hcon; have Hof := Lib.hid hof; have Hpa := Lib.hid hpa; have Hn := Lib.hid hnext; have Hbk := Lib.hid hbk; have Kq := Lib.hid kp
        generalize p.getD k 0 = x at *
        clear hcon hof hpa hnext hbk kp hok hc1 hp Hb
        go_wp2_with fail
        refine (Hof.out _).mono ?_
        rintro e w1 ⟨rfl, rfl⟩
        cases hx : fromB 0 x ((ng : Int) - 1)
        · have hz := Hbk.out (by rw [Hpa.out, hx]; rfl)
          have Hz := Lib.hid hz
          clear hz hx
          go_wp2_with fail
          go_ret
          exact ⟨by rw [Hz.out]; rfl, Hk.out.step Kq.out⟩
        · go_wp2_with fail
          refine (Hc.out _ (Kp.refl _)).mono ?_
          rintro e w2 ⟨rfl, kp2⟩
          cases hy : hasI (p.take k) x
          · have hz := Hn.out (by rw [Hpa.out, hx, hy]; rfl)
            have Hz := Lib.hid hz; have Kz := Lib.hid kp2
            clear hz hx hy kp2
            go_wp2_with fail
            go_roundw
            case rel => exact ⟨k + 1, by omega, by go_num, Kq.out.step Kz.out, Hz.out⟩
            case measure => simp [intOf]; omega
          · have hz := Hbk.out (by rw [Hpa.out, hx, hy]; rfl)
            have Hz := Lib.hid hz
            clear hz hx hy
            go_wp2_with fail
            go_ret
            exact ⟨by rw [Hz.out]; rfl, Hk.out.step (Kq.out.step kp2)⟩
      · obtain rfl : k = p.length := by omega
        have Hz := Lib.hid (Hg.out hok)
        clear hok
        go_wp2_with fail
        go_ret
        exact ⟨by rw [Hz.out]; rfl, Hk.out.step kp⟩
end Go.Proofs.Ytcelbmpdnkaamaa
