/- When nets are valid. -/
import Derived.Test.YtcelbmpdnkaamaaBuD
namespace Go.Proofs.Ytcelbmpdnkaamaa
open Go Go.RowKit Go.WideMaps Go.Maps
set_option linter.unusedSimpArgs false
set_option linter.unusedVariables false

def allR (n : Nat) (f : Nat → Bool) : Bool := (List.range n).all f
theorem allR_bad {n : Nat} {f : Nat → Bool} {k : Nat} (hk : k < n) (h : f k = false) : allR n f = false := by
  unfold allR
  rw [List.all_eq_false]
  exact ⟨k, List.mem_range.2 hk, by simpa using h⟩
theorem allR_good {n : Nat} {f : Nat → Bool} (h : ∀ j, j < n → f j = true) : allR n f = true := by
  unfold allR
  rw [List.all_eq_true]
  intro j hj
  exact h j (List.mem_range.1 hj)
theorem allR_get {n : Nat} {f : Nat → Bool} (h : allR n f = true) {j : Nat} (hj : j < n) : f j = true := by
  unfold allR at h
  rw [List.all_eq_true] at h
  exact h j (List.mem_range.2 hj)

def flB (ng : Nat) (f : Fl) : Bool := limB f && pathB ng f.p
def gaB (g : Ga) : Bool := fromB 1 g.1 10000 && fromB 1 g.2 1000
def netB (gs : List Ga) (fs : List Fl) : Bool := (decide (gs.length ≤ 30) && decide (fs.length ≤ 40)) && (allR gs.length (fun k => gaB (gaAt gs k)) && allR fs.length (fun k => flB gs.length (flAt fs k)))

set_option maxHeartbeats 1600000 in
theorem isNet1_any (ga fa a : Option Addr) (ng gc nf fc c nb : Nat) (f : Fl) (w : World) (h : IntsAt w a f.p) (hc : f.p.length ≤ c) (hc2 : c ≤ maxLen) (hng : ng ≤ 1000)
    (hb0 : w.cell? ⟨nb, 0, none⟩ = some (.slice ga ng gc)) (hb1 : w.cell? ⟨nb, 1, none⟩ = some (.slice fa nf fc)) :
    Calls Try.prog 85 #[flV f a c, .pointer (some ⟨nb, 0, none⟩)] w fun e w' => e = .returned (.bool (!flB ng f)) ∧ Kp w w' := by
  have hpa : ∀ W, Kp w W → Calls Try.prog 87 #[.agg #[.slice ga ng gc, .slice fa nf fc], .slice a f.p.length c] W fun e w' => e = .returned (.bool (pathB ng f.p)) ∧ Kp W w' := fun W k => isPath_any ga fa a ng gc nf fc c f.p W (h.kp k) hc hc2 hng
  have hli := isLimited_any f a c
  have hnb : nb < w.heap.size := World.block_lt_of_cell? w _ hb0
  have hfl : flB ng f = (limB f && pathB ng f.p) := rfl
  generalize flB ng f = y at *
  generalize limB f = l at *
  obtain ⟨b, r, p⟩ := f
  unfold flV at hli ⊢
  dsimp only at *
  generalize pathB ng p = z at *
  have hk := kp_alloc w (.cells #[.int .i64 b, .int .i64 r, .slice a p.length c] 61)
  have d0 := hk.cell hb0
  have d1 := hk.cell hb1
  have Hpa := Lib.hid hpa; have Hli := Lib.hid hli; have Hk := Lib.hid hk
  clear hpa hli hk h
  go_enter Try.func85, Try.ntmps85
  go_wp2_with fail
  refine (Hli.out _).mono ?_
  rintro e w1 ⟨rfl, kp1⟩
  have Kq := Lib.hid (Hk.out.step kp1)
  have e0 := kp1.cell d0
  have e1 := kp1.cell d1
  have e2 : w1.cell? ⟨w.heap.size, 2, none⟩ = some (.slice a p.length c) := kp1.cell (by simp)
  clear kp1
  cases l
  · go_wp2_with fail
    go_ret
    exact ⟨by rw [hfl]; rfl, Kq.out⟩
  · go_wp2_with fail
    refine (Hpa.out _ Kq.out).mono ?_
    rintro e w2 ⟨rfl, kp2⟩
    cases z
    all_goals
      go_wp2_with fail
      go_ret
      exact ⟨by rw [hfl]; rfl, Kq.out.step kp2⟩

def IdxEnd (n : Nat) (f : Nat → Bool) (e : Ending) : Prop := if allR n f = true then e = .returned (.int .i64 (-1)) else ∃ k : Nat, k < n ∧ e = .returned (.int .i64 k)

set_option maxHeartbeats 1600000 in
theorem indexFlows_any (ga fa : Option Addr) (ng gc nf fc fc2 nb : Nat) (fs : List Fl) (w : World) (h : FlowsAt w fa fs) (hng : ng ≤ 1000)
    (hb0 : w.cell? ⟨nb, 0, none⟩ = some (.slice ga ng gc)) (hb1 : w.cell? ⟨nb, 1, none⟩ = some (.slice fa nf fc)) :
    Calls Try.prog 98 #[.slice fa fs.length fc2, .func (Fn.func 85) #[] #[.pointer (some ⟨nb, 0, none⟩)]] w fun e w' => IdxEnd fs.length (fun k => flB ng (flAt fs k)) e ∧ Kp w w' := by
  have hl1 := h.len
  unfold maxLen at hl1
  have Hx := Lib.hid h
  clear h
  go_enter Try.func98, Try.ntmps98
  go_wp2_with fail
  go_loopw [8] (fun i wr => ∃ (k : Nat), k ≤ fs.length ∧ i = .int .i64 k ∧ Kp w wr ∧ ∀ j, j < k → flB ng (flAt fs j) = true) (fun i _ => fs.length - (intOf i).toNat)
  case atStart => exact ⟨0, Nat.zero_le _, rfl, Kp.refl _, fun j hj => by omega⟩
  case round =>
    obtain ⟨k, hk, rfl, kp, hno⟩ := hrel
    by_cases hlt : k < fs.length
    · obtain ⟨b1, o1, rfl, hc1⟩ := (Hx.out.kp kp).cells (by omega)
      obtain ⟨c0, c1, a, c, c2, c3, c4, c5⟩ := hc1 k hlt
      have i1 : (k : Int) < (fs.length : Int) := by omega
      have hcl := isNet1_any ga (some ⟨b1, o1, none⟩) a ng gc nf fc c nb (flAt fs k) wr c3 c4 c5 hng (kp.cell hb0) (kp.cell hb1)
      have hbad : flB ng (flAt fs k) = false → IdxEnd fs.length (fun k => flB ng (flAt fs k)) (.returned (.int .i64 k)) := fun hh => by
        unfold IdxEnd
        rw [if_neg (by rw [allR_bad hlt hh]; simp)]
        exact ⟨k, hlt, rfl⟩
      have hnext : flB ng (flAt fs k) = true → ∀ j, j < k + 1 → flB ng (flAt fs j) = true := fun hh j hj => by
        by_cases e : j = k
        · subst e; exact hh
        · exact hno j (by omega)
      have Hbad := Lib.hid hbad; have Hn := Lib.hid hnext; have Kq := Lib.hid kp; have Hcl := Lib.hid hcl
      clear hbad hnext kp hcl hno hc1 c3 c4 c5
      unfold flV at Hcl
      generalize flB ng (flAt fs k) = x at *
      generalize flAt fs k = f at *
      go_wp2_with fail
      refine Hcl.out.mono ?_
      rintro e w1 ⟨rfl, kp1⟩
      have K2 := Lib.hid (Kq.out.step kp1)
      clear kp1
      cases x
      · have Hz := Lib.hid (Hbad.out rfl)
        go_wp2_with fail
        go_ret
        exact ⟨Hz.out, K2.out⟩
      · have Hz := Lib.hid (Hn.out rfl)
        go_wp2_with fail
        go_roundw
        case rel => exact ⟨k + 1, by omega, by go_num, K2.out, Hz.out⟩
        case measure => simp [intOf]; omega
    · obtain rfl : k = fs.length := by omega
      have Hz : Hid (IdxEnd fs.length (fun k => flB ng (flAt fs k)) (.returned (.int .i64 (-1)))) := Lib.hid (by
        unfold IdxEnd
        rw [if_pos (allR_good hno)])
      clear hno
      go_wp2_with fail
      go_ret
      exact ⟨Hz.out, kp⟩

theorem containsFlows_any (ga fa : Option Addr) (ng gc nf fc fc2 nb : Nat) (fs : List Fl) (w : World) (h : FlowsAt w fa fs) (hng : ng ≤ 1000)
    (hb0 : w.cell? ⟨nb, 0, none⟩ = some (.slice ga ng gc)) (hb1 : w.cell? ⟨nb, 1, none⟩ = some (.slice fa nf fc)) :
    Calls Try.prog 84 #[.slice fa fs.length fc2, .func (Fn.func 85) #[] #[.pointer (some ⟨nb, 0, none⟩)]] w fun e w' => e = .returned (.bool (!allR fs.length (fun k => flB ng (flAt fs k)))) ∧ Kp w w' := by
  have hi := indexFlows_any ga fa ng gc nf fc fc2 nb fs w h hng hb0 hb1
  have Hi := Lib.hid hi
  clear hi h
  go_enter Try.func84, Try.ntmps84
  go_wp2_with fail
  refine Hi.out.mono ?_
  rintro e w1 ⟨he, kp⟩
  unfold IdxEnd at he
  cases hb : allR fs.length (fun k => flB ng (flAt fs k))
  · rw [if_neg (by rw [hb]; simp)] at he
    obtain ⟨k, hk, rfl⟩ := he
    go_wp2_with fail
    go_ret
    exact ⟨by rw [hb]; rfl, kp⟩
  · rw [if_pos hb] at he
    subst he
    go_wp2_with fail
    go_ret
    exact ⟨by rw [hb]; rfl, kp⟩

set_option maxHeartbeats 1600000 in
theorem isNet_any (ga fa : Option Addr) (gc fc : Nat) (gs : List Ga) (fs : List Fl) (w : World) (hg : GatesAt w ga gs) (hf : FlowsAt w fa fs) :
    Calls Try.prog 55 #[.agg #[.slice ga gs.length gc, .slice fa fs.length fc]] w fun e w' => e = .returned (.bool (netB gs fs)) ∧ Kp w w' := by
  have hl1 := hg.len
  have hl2 := hf.len
  unfold maxLen at hl1 hl2
  have hk := kp_alloc w (.cells #[.slice ga gs.length gc, .slice fa fs.length fc] 47)
  have hbx := box0 w (.slice ga gs.length gc) (.slice fa fs.length fc) 47
  have hbx1 := box1 w (.slice ga gs.length gc) (.slice fa fs.length fc) 47
  by_cases h1 : gs.length ≤ 30
  case neg =>
    have He : Hid (netB gs fs = false) := Lib.hid (by unfold netB; simp [h1])
    have q1 : decide ((30 : Int) < gs.length) = true := decide_eq_true (by omega)
    have Hk := Lib.hid hk
    clear hk
    go_enter Try.func55, Try.ntmps55
    go_wp2_with fail
    go_ret
    exact ⟨by rw [He.out]; rfl, Hk.out⟩
  have q1 : decide ((30 : Int) < gs.length) = false := decide_eq_false (by omega)
  by_cases h2 : fs.length ≤ 40
  case neg =>
    have He : Hid (netB gs fs = false) := Lib.hid (by unfold netB; simp [h2])
    have q2 : decide ((40 : Int) < fs.length) = true := decide_eq_true (by omega)
    have Hk := Lib.hid hk
    clear hk
    go_enter Try.func55, Try.ntmps55
    go_wp2_with fail
    go_ret
    exact ⟨by rw [He.out]; rfl, Hk.out⟩
  have q2 : decide ((40 : Int) < fs.length) = false := decide_eq_false (by omega)
  have hbad : ∀ k, k < gs.length → gaB (gaAt gs k) = false → netB gs fs = false := fun k hk hh => by
    unfold netB
    rw [allR_bad hk hh]; simp
  have hend : (∀ j, j < gs.length → gaB (gaAt gs j) = true) → netB gs fs = allR fs.length (fun k => flB gs.length (flAt fs k)) := fun hh => by
    unfold netB
    rw [allR_good hh]; simp [h1, h2]
  have hcf : ∀ W, Kp (w.alloc (.cells #[.slice ga gs.length gc, .slice fa fs.length fc] 47)) W → Calls Try.prog 84 #[.slice fa fs.length fc, .func (Fn.func 85) #[] #[.pointer (some ⟨w.heap.size, 0, none⟩)]] W fun e w' => e = .returned (.bool (!allR fs.length (fun k => flB gs.length (flAt fs k)))) ∧ Kp W w' := fun W k =>
    containsFlows_any ga fa gs.length gc fs.length fc fc w.heap.size fs W (hf.kp (hk.step k)) (by omega) (k.cell hbx) (k.cell hbx1)
  have hga := fun W k => hg.kp (w' := W) (hk.step k)
  have Hbad := Lib.hid hbad; have Hend := Lib.hid hend; have Hcf := Lib.hid hcf; have Hga := Lib.hid hga; have Hk := Lib.hid hk
  clear hbad hend hcf hga hk hg hf
  go_enter Try.func55, Try.ntmps55
  go_wp2_with fail
  generalize hV : (w.alloc (.cells #[.slice ga gs.length gc, .slice fa fs.length fc] 47)) = V at *
  clear hV
  go_loopw [18] (fun i wr => ∃ (k : Nat), k ≤ gs.length ∧ i = .int .i64 k ∧ Kp V wr ∧ ∀ j, j < k → gaB (gaAt gs j) = true) (fun i _ => gs.length - (intOf i).toNat)
  case atStart => exact ⟨0, Nat.zero_le _, rfl, Kp.refl _, fun j hj => by omega⟩
  case round =>
    obtain ⟨k, hk, rfl, kp, hok⟩ := hrel
    by_cases hlt : k < gs.length
    · obtain ⟨b1, o1, rfl, hc1⟩ := (Hga.out _ kp).cells (by omega)
      obtain ⟨c0, c1⟩ := hc1 k hlt
      have i1 : (k : Int) < (gs.length : Int) := by omega
      have hgb : gaB (gaAt gs k) = (fromB 1 (gaAt gs k).1 10000 && fromB 1 (gaAt gs k).2 1000) := rfl
      have hbk := Hbad.out k hlt
      have hnext : gaB (gaAt gs k) = true → ∀ j, j < k + 1 → gaB (gaAt gs j) = true := fun hh j hj => by
        by_cases e : j = k
        · subst e; exact hh
        · exact hok j (by omega)
      have f1 := isFrom_any 1 (gaAt gs k).1 10000
      have f2 := isFrom_any 1 (gaAt gs k).2 1000
      generalize gaB (gaAt gs k) = z at *
      generalize (gaAt gs k).1 = x at *
      generalize (gaAt gs k).2 = y at *
      have Hbk := Lib.hid hbk; have Hn := Lib.hid hnext; have Kq := Lib.hid kp; have F1 := Lib.hid f1; have F2 := Lib.hid f2; have Hgb := Lib.hid hgb
      clear hbk hnext kp f1 f2 hgb hok hc1
      have ka : Kp V (wr.alloc (.cells #[.int .i64 x, .int .i64 y] 59)) := Kq.out.step (kp_alloc _ _)
      have Ka := Lib.hid ka
      clear ka
      go_wp2_with fail
      refine (F1.out _).mono ?_
      rintro e w1 ⟨rfl, rfl⟩
      cases hx : fromB 1 x 10000
      · have Hz := Lib.hid (Hbk.out (by rw [Hgb.out, hx]; rfl))
        clear hx
        go_wp2_with fail
        go_ret
        exact ⟨by rw [Hz.out]; rfl, Hk.out.step Ka.out⟩
      · go_wp2_with fail
        refine (F2.out _).mono ?_
        rintro e w1 ⟨rfl, rfl⟩
        cases hy : fromB 1 y 1000
        · have Hz := Lib.hid (Hbk.out (by rw [Hgb.out, hx, hy]; rfl))
          clear hx hy
          go_wp2_with fail
          go_ret
          exact ⟨by rw [Hz.out]; rfl, Hk.out.step Ka.out⟩
        · have Hz := Lib.hid (Hn.out (by rw [Hgb.out, hx, hy]; rfl))
          clear hx hy
          go_wp2_with fail
          go_roundw
          case rel => exact ⟨k + 1, by omega, by go_num, Ka.out, Hz.out⟩
          case measure => simp [intOf]; omega
    · obtain rfl : k = gs.length := by omega
      have d0 := kp.cell hbx
      have d1 := kp.cell hbx1
      have Hz := Lib.hid (Hend.out hok)
      have Kq := Lib.hid kp
      clear hok kp
      go_wp2_with fail
      refine (Hcf.out _ Kq.out).mono ?_
      rintro e w1 ⟨rfl, kp1⟩
      cases hb : allR fs.length (fun k => flB gs.length (flAt fs k))
      all_goals
        go_wp2_with fail
        go_ret
        exact ⟨by rw [Hz.out, hb]; rfl, Hk.out.step (Kq.out.step kp1)⟩
end Go.Proofs.Ytcelbmpdnkaamaa
