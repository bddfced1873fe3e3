/- Whether too much goes through a gate. -/
import Derived.Test.YtcelbmpdnkaamaaBuF
namespace Go.Proofs.Ytcelbmpdnkaamaa
open Go Go.RowKit Go.WideMaps Go.Maps
set_option linter.unusedSimpArgs false
set_option linter.unusedVariables false

/-! ### Too much -/
def sumN (f : Nat → Int) : Nat → Int
  | 0 => 0
  | j + 1 => sumN f j + f j
theorem sumN_le {f : Nat → Int} {b : Int} : ∀ {n : Nat}, (∀ j, j < n → 0 ≤ f j ∧ f j ≤ b) → 0 ≤ sumN f n ∧ sumN f n ≤ n * b
  | 0, h => by simp [sumN]
  | n + 1, h => by
    have h1 := sumN_le (n := n) (fun j hj => h j (by omega))
    have h2 := h n (by omega)
    have e : sumN f (n + 1) = sumN f n + f n := rfl
    have e2 : ((n + 1 : Nat) : Int) * b = n * b + b := by rw [Int.natCast_add, Int.add_mul]; simp
    omega
theorem pick_at {f : Nat → Bool} {n j : Nat} (hj : j < (pick f n).length) : ∃ i : Nat, (pick f n).getD j 0 = i ∧ i < n ∧ f i = true := by
  have h1 : (pick f n)[j] ∈ pick f n := List.getElem_mem hj
  obtain ⟨i, hi, e⟩ := List.mem_map.1 h1
  have h2 := List.mem_filter.1 hi
  refine ⟨i, by simp [List.getD, hj, e], List.mem_range.1 h2.1, h2.2⟩
def thr (fs : List Fl) (g : Int) : List Int := pick (thrF fs g) fs.length
def rateOf (fs : List Fl) (g : Int) : Int := sumN (fun j => (flAt fs ((thr fs g).getD j 0).toNat).r) (thr fs g).length
def overB (gs : List Ga) (fs : List Fl) : Bool := !allR gs.length (fun k => decide (rateOf fs k ≤ (gaAt gs k).1))
def RatesOk (fs : List Fl) : Prop := ∀ k, k < fs.length → 0 ≤ (flAt fs k).r ∧ (flAt fs k).r ≤ 10000

set_option maxHeartbeats 3200000 in
theorem isOver_any (ga fa : Option Addr) (gc fc : Nat) (gs : List Ga) (fs : List Fl) (w : World) (hg : GatesAt w ga gs) (hf : FlowsAt w fa fs) (hl : fs.length ≤ 40) (hl2 : gs.length ≤ 30) (hr : RatesOk fs) :
    Calls Try.prog 57 #[.agg #[.slice ga gs.length gc, .slice fa fs.length fc]] w fun e w' => e = .returned (.bool (overB gs fs)) ∧ Kp w w' := by
  have hk := kp_alloc w (.cells #[.slice ga gs.length gc, .slice fa fs.length fc] 47)
  have hbx := box0 w (.slice ga gs.length gc) (.slice fa fs.length fc) 47
  have hbx1 := box1 w (.slice ga gs.length gc) (.slice fa fs.length fc) 47
  have hga := fun W k => hg.kp (w' := W) (hk.step k)
  have hfa := fun W k => hf.kp (w' := W) (hk.step k)
  have hbad : ∀ k, k < gs.length → ¬ rateOf fs k ≤ (gaAt gs k).1 → overB gs fs = true := fun k hk hh => by
    unfold overB; rw [allR_bad hk (by simpa using hh)]; rfl
  have hgood : (∀ j, j < gs.length → rateOf fs j ≤ (gaAt gs j).1) → overB gs fs = false := fun hh => by
    unfold overB; rw [allR_good (fun j hj => by simpa using hh j hj)]; rfl
  have Hk := Lib.hid hk; have Hga := Lib.hid hga; have Hfa := Lib.hid hfa; have Hbad := Lib.hid hbad; have Hgood := Lib.hid hgood; have Hr := Lib.hid hr
  clear hk hga hf hg hfa hbad hgood hr
  go_enter Try.func57, Try.ntmps57
  go_wp2_with fail
  have hVs : (w.alloc (.cells #[.slice ga gs.length gc, .slice fa fs.length fc] 47)).heap.size = w.heap.size + 1 := by simp
  generalize hV : (w.alloc (.cells #[.slice ga gs.length gc, .slice fa fs.length fc] 47)) = V at *
  clear hV
  go_loopw [11] (fun i wr => ∃ (k : Nat), k ≤ gs.length ∧ i = .int .i64 k ∧ Kp V wr ∧ ∀ j, j < k → rateOf fs j ≤ (gaAt gs j).1) (fun i _ => gs.length - (intOf i).toNat)
  case atStart => exact ⟨0, Nat.zero_le _, rfl, Kp.refl _, fun j hj => by omega⟩
  case round =>
    obtain ⟨k, hk, rfl, kp, hok⟩ := hrel
    by_cases hlt : k < gs.length
    · obtain ⟨b1, o1, rfl, hc1⟩ := (Hga.out _ kp).cells (by omega)
      obtain ⟨c0, c1⟩ := hc1 k hlt
      have d0 := kp.cell hbx
      have d1 := kp.cell hbx1
      have hbl : w.heap.size < wr.heap.size := World.block_lt_of_cell? wr _ d0
      have i1 : (k : Int) < (gs.length : Int) := by omega
      have hbk := Hbad.out k hlt
      have hnext : rateOf fs k ≤ (gaAt gs k).1 → ∀ j, j < k + 1 → rateOf fs j ≤ (gaAt gs j).1 := fun hh j hj => by
        by_cases e : j = k
        · subst e; exact hh
        · exact hok j (by omega)
      have ka := kp_alloc wr (.cells #[.int .i64 (gaAt gs k).1, .int .i64 (gaAt gs k).2] 59)
      have hthr := fun W kW => through_any (some ⟨b1, o1, none⟩) fa gs.length gc fc fs (k : Int) W (Hfa.out W (kp.step (ka.step kW))) hl
      have Hbk := Lib.hid hbk; have Hn := Lib.hid hnext; have Kq := Lib.hid kp; have Ka := Lib.hid ka; have Ht := Lib.hid hthr
      have hg0 := box0 wr (.int .i64 (gaAt gs k).1) (.int .i64 (gaAt gs k).2) 59
      clear hbk hnext kp ka hthr hok hc1
      generalize gaAt gs k = g at *
      go_wp2_with fail
      refine (Ht.out _ (Kp.refl _)).mono ?_
      rintro e w1 ⟨a, c, rfl, hi0, kp1⟩
      have hi := hi0.ints (by have := pick_len (thrF fs k) fs.length; unfold maxLen; omega)
      clear hi0
      have hd0 := (Ka.out.step kp1).cell d0
      have hd1 := (Ka.out.step kp1).cell d1
      have hg1 := kp1.cell hg0
      have K1 := Lib.hid (Ka.out.step kp1)
      have hro : rateOf fs k = sumN (fun j => (flAt fs ((pick (thrF fs k) fs.length).getD j 0).toNat).r) (pick (thrF fs k) fs.length).length := rfl
      have hpl := pick_len (thrF fs k) fs.length
      have hpa : ∀ j, j < (pick (thrF fs k) fs.length).length → ∃ i : Nat, (pick (thrF fs k) fs.length).getD j 0 = i ∧ i < fs.length ∧ thrF fs k i = true := fun j hj => pick_at hj
      have Hi := Lib.hid hi; have Hro := Lib.hid hro; have Hpa := Lib.hid hpa
      clear hi hro hpa kp1 d0 d1 hg0 c0 c1
      generalize pick (thrF fs k) fs.length = L at *
      generalize hf0 : (fun j => (flAt fs (L.getD j 0).toNat).r) = fr at *
      have hfr : ∀ j, j < L.length → 0 ≤ fr j ∧ fr j ≤ 10000 := fun j hj => by
        obtain ⟨i, e1, e2, _⟩ := Hpa.out j hj
        subst hf0
        dsimp only
        rw [e1]
        exact Hr.out i e2
      have Hfr := Lib.hid hfr; have Hf0 := Lib.hid hf0
      clear hfr hf0
      go_wp2_with fail
      go_loopw [5, 20] (fun s i w2 => ∃ (m : Nat), m ≤ L.length ∧ i = .int .i64 m ∧ s = .int .i64 (sumN fr m) ∧ Kp w1 w2) (fun _ i _ => L.length - (intOf i).toNat)
      case atStart => exact ⟨0, Nat.zero_le _, rfl, rfl, Kp.refl _⟩
      case round =>
        obtain ⟨m, hm, rfl, rfl, kp2⟩ := hrel
        have hsum := sumN_le (n := m) (fun j hj => Hfr.out j (by omega))
        by_cases hlt2 : m < L.length
        · obtain ⟨b2, o2, rfl, hc2⟩ := (Hi.out.kp kp2).cells (by omega)
          have e0 := hc2 m hlt2
          obtain ⟨i, e1, e2, _⟩ := Hpa.out m hlt2
          rw [e1] at e0
          have i2 : (m : Int) < (L.length : Int) := by omega
          have i3 : (i : Int) < (fs.length : Int) := by omega
          obtain ⟨b3, o3, rfl, hc3⟩ := (Hfa.out _ (Kq.out.step (K1.out.step kp2))).cells (by omega)
          have f1 := (hc3 i e2).2.1
          have hd0' := kp2.cell hd0
          have hd1' := kp2.cell hd1
          have hfm : fr m = (flAt fs i).r := by rw [← Hf0.out]; dsimp only; rw [e1]; rfl
          have hfb := Hfr.out m hlt2
          rw [← hfm] at f1
          have hs2 : sumN fr (m + 1) = sumN fr m + fr m := rfl
          have Hs2 := Lib.hid hs2; have K2 := Lib.hid kp2
          generalize sumN fr m = S at *
          generalize fr m = x at *
          clear hc2 hc3 e1 hfm hs2 kp2
          go_wp2_with fail
          go_roundw
          case rel => exact ⟨m + 1, by omega, by go_num, by rw [Hs2.out], K2.out⟩
          case measure => simp [intOf]; omega
        · obtain rfl : m = L.length := by omega
          have hg2 := kp2.cell hg1
          have K3 := Lib.hid (Kq.out.step (K1.out.step kp2))
          rw [← Hro.out] at hsum ⊢
          clear kp2
          generalize rateOf fs k = R at *
          obtain ⟨g0, g1⟩ := g
          dsimp only at *
          by_cases hR : R ≤ g0
          · have Hz := Lib.hid (Hn.out hR)
            have q : decide (g0 < R) = false := decide_eq_false (by omega)
            clear hR
            go_wp2_with fail
            go_roundw
            case rel => exact ⟨k + 1, by omega, by go_num, K3.out, Hz.out⟩
            case measure => simp [intOf]; omega
          · have Hz := Lib.hid (Hbk.out (by omega))
            have q : decide (g0 < R) = true := decide_eq_true (by omega)
            clear hR
            go_wp2_with fail
            go_ret
            exact ⟨by rw [Hz.out]; rfl, Hk.out.step K3.out⟩
    · obtain rfl : k = gs.length := by omega
      have Hz := Lib.hid (Hgood.out hok)
      clear hok
      go_wp2_with fail
      go_ret
      exact ⟨by rw [Hz.out]; rfl, Hk.out.step kp⟩
end Go.Proofs.Ytcelbmpdnkaamaa
