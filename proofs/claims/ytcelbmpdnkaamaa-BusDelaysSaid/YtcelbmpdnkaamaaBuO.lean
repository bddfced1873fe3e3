/- The least number that a function does not change: plain, and the walk; what a frame waits for (plain). -/
import Derived.Test.YtcelbmpdnkaamaaBuN
import Derived.Test.YtcelbmpdnkaamaaBuH
namespace Go.Proofs.Ytcelbmpdnkaamaa
open Go Go.RowKit Go.WideMaps Go.Maps
set_option linter.unusedSimpArgs false
set_option linter.unusedVariables false

def itF (g : Int → Int) : Nat → Int → Option Int
  | 0, _ => none
  | f + 1, n => if 1000000 < n then none else if g n = n then some n else itF g f (g n)
def fuelT (n : Int) : Nat := (1000001 - n).toNat + 1
def lfp (g : Int → Int) (n : Int) : Option Int := itF g (fuelT n) n
/-- A function that gives no less for more, from b on. -/
structure UpF (g : Int → Int) (b : Int) : Prop where
  mono : ∀ x y, b ≤ x → x ≤ y → y ≤ 1000000 → g x ≤ g y
  beg : b ≤ 1000000 → b ≤ g b
theorem itF_fuel {g : Int → Int} {b : Int} (h : UpF g b) : ∀ (f f' : Nat) (n : Int), b ≤ n → (n ≤ 1000000 → n ≤ g n) → fuelT n ≤ f → fuelT n ≤ f' → itF g f n = itF g f' n
  | 0, _, n, _, _, h1, _ => by unfold fuelT at h1; omega
  | f + 1, 0, n, _, _, _, h2 => by unfold fuelT at h2; omega
  | f + 1, f' + 1, n, hb, hn, h1, h2 => by
    unfold itF
    by_cases h3 : 1000000 < n
    · rw [if_pos h3, if_pos h3]
    · rw [if_neg h3, if_neg h3]
      by_cases h4 : g n = n
      · rw [if_pos h4, if_pos h4]
      · rw [if_neg h4, if_neg h4]
        have h5 := hn (by omega)
        unfold fuelT at h1 h2
        exact itF_fuel h f f' (g n) (by omega) (fun h6 => h.mono n (g n) hb h5 h6) (by unfold fuelT; omega) (by unfold fuelT; omega)
theorem lfp_over {g : Int → Int} {n : Int} (h : 1000000 < n) : lfp g n = none := by
  unfold lfp fuelT itF; rw [if_pos h]
theorem lfp_stop {g : Int → Int} {n : Int} (h : n ≤ 1000000) (h2 : g n = n) : lfp g n = some n := by
  unfold lfp fuelT itF; rw [if_neg (by omega), if_pos h2]
theorem lfp_step {g : Int → Int} {b n : Int} (hu : UpF g b) (hb : b ≤ n) (hn : n ≤ g n) (h : n ≤ 1000000) (h2 : g n ≠ n) : lfp g n = lfp g (g n) := by
  have e : lfp g n = itF g (1000001 - n).toNat (g n) := by
    unfold lfp fuelT
    conv => lhs; unfold itF
    rw [if_neg (by omega), if_neg h2]
  rw [e]
  exact itF_fuel hu _ _ (g n) (by omega) (fun h6 => hu.mono n (g n) hb hn h6) (by unfold fuelT; omega) (Nat.le_refl _)
theorem itF_some {g : Int → Int} {b : Int} (hu : UpF g b) : ∀ (f : Nat) (n r : Int), b ≤ n → (n ≤ 1000000 → n ≤ g n) → itF g f n = some r → n ≤ r ∧ r ≤ 1000000 ∧ g r = r
  | 0, n, r, _, _, e => by simp [itF] at e
  | f + 1, n, r, hb, hn, e => by
    unfold itF at e
    split at e
    · cases e
    · rename_i h3
      split at e
      · rename_i h4
        simp only [Option.some.injEq] at e
        subst e
        exact ⟨Int.le_refl _, by omega, h4⟩
      · have h5 := hn (by omega)
        have h6 := itF_some hu f (g n) r (by omega) (fun h6 => hu.mono n (g n) hb h5 h6) e
        exact ⟨by omega, h6.2⟩
theorem lfp_some {g : Int → Int} {b r : Int} (hu : UpF g b) (h : lfp g b = some r) : b ≤ r ∧ r ≤ 1000000 ∧ g r = r := itF_some hu _ _ _ (Int.le_refl _) hu.beg h

def lfpV (r : Option Int) : Value := .tuple #[.int .i64 (r.getD 0), .bool r.isSome]

set_option maxHeartbeats 1600000 in
theorem least_any (K : Nat) (caps : Array Value) (g : Int → Int) (b : Int) (w : World) (hK : Enters K) (hu : UpF g b) (hb : 0 ≤ b) (hb2 : b ≤ 1000000000000000)
    (hcl : ∀ W n, Kp w W → b ≤ n → n ≤ 1000000 → Calls Try.prog K (#[.int .i64 n] ++ caps) W fun e w' => e = .returned (.int .i64 (g n)) ∧ Kp W w') :
    Calls Try.prog 67 #[.int .i64 b, .func (Fn.func K) #[] caps] w fun e w' => e = .returned (lfpV (lfp g b)) ∧ Kp w w' := by
  unfold Enters at hK
  have hst := fun n h1 h2 h3 h4 => lfp_step (n := n) hu h1 h2 h3 h4
  have hmo := hu.mono
  have hbe := hu.beg
  have Hst := Lib.hid hst; have Hmo := Lib.hid hmo; have Hbe := Lib.hid hbe; have Hcl := Lib.hid hcl
  clear hst hmo hbe hcl hu
  generalize hR : lfp g b = R at *
  have HR := Lib.hid hR
  clear hR
  go_enter Try.func67, Try.ntmps67
  go_wp2_with fail
  go_loopw [6] (fun i wq => ∃ n : Int, i = .int .i64 n ∧ b ≤ n ∧ Hid (n ≤ 1000000 → n ≤ g n) ∧ Hid (lfp g n = R) ∧ Kp w wq) (fun i _ => (1000001 - intOf i).toNat)
  case atStart => exact ⟨b, rfl, Int.le_refl _, Hbe, HR, Kp.refl _⟩
  case round =>
    obtain ⟨n, rfl, hbn, hn, hl, kp⟩ := hrel
    by_cases h1 : n ≤ 1000000
    · have hcl := Hcl.out wr n kp hbn h1
      have hng := hn.out h1
      have hcl2 := Lib.hid hcl
      have Kq := Lib.hid kp
      clear hcl kp
      by_cases h2 : g n = n
      · have hfin := lfp_stop h1 h2
        rw [hl.out] at hfin
        have Hf := Lib.hid hfin
        clear hfin hng hn
        have q1 : (n == n) = true := by simp
        go_wp2_with fail
        refine hcl2.out.mono ?_
        rintro e w1 ⟨rfl, kp1⟩
        rw [h2]
        clear h2
        go_wp2_with fail
        go_ret2
        exact ⟨by rw [Hf.out]; rfl, Kq.out.step kp1⟩
      · have hs := Hst.out n hbn hng h1 h2
        have hm := Hmo.out n (g n) hbn hng
        have q1 : (g n == n) = false := beq_eq_false_iff_ne.2 h2
        rw [hl.out] at hs
        have Hs := Lib.hid hs.symm; have Hm := Lib.hid hm
        clear hs hm hl hn
        generalize hgn : g n = y at *
        have Hgn := Lib.hid hgn
        clear hgn
        go_wp2_with fail
        refine hcl2.out.mono ?_
        rintro e w1 ⟨rfl, kp1⟩
        have K1 := Lib.hid (Kq.out.step kp1)
        clear kp1
        go_wp2_with fail
        go_roundw
        case rel => exact ⟨y, rfl, by omega, Hm, Hs, K1.out⟩
        case measure => simp [intOf]; omega
    · have hfin := lfp_over (g := g) (n := n) (by omega)
      rw [hl.out] at hfin
      have Hf := Lib.hid hfin
      have q1 : decide (n ≤ 1000000) = false := decide_eq_false h1
      clear hfin hn hl
      go_wp2_with fail
      go_ret2
      exact ⟨by rw [Hf.out]; rfl, kp⟩

/-! ### What a frame waits for -/
structure FrOk (f : Fr) : Prop where
  s : 1 ≤ f.s ∧ f.s ≤ 1000
  e : 1 ≤ f.e ∧ f.e ≤ 100000
  j : 0 ≤ f.j ∧ f.j ≤ 100000
  d : 1 ≤ f.d ∧ f.d ≤ 100000
theorem frB_ok {f : Fr} (h : frB f = true) : FrOk f := by
  unfold frB fromB at h
  simp only [Bool.and_eq_true, decide_eq_true_eq] at h
  exact ⟨by omega, by omega, by omega, by omega⟩
structure RivOk (f : Fr) (ab : List Fr) (rest : Int) : Prop where
  fo : FrOk f
  abo : ∀ k, k < ab.length → FrOk (frAt ab k)
  n : ab.length ≤ 40
  ro : 0 ≤ rest ∧ rest ≤ 1000
def upT (f : Fr) (t : Int) : Int := upI (t + f.j) f.e * f.s
def wtT (f : Fr) (w : Int) : Int := ((w + f.j) / f.e + 1) * f.s
def busyG (rest : Int) (ab : List Fr) (f : Fr) (t : Int) : Int := rest + upT f t + sumN (fun k => upT (frAt ab k) t) ab.length
def waitG (rest q : Int) (ab : List Fr) (f : Fr) (w : Int) : Int := rest + q * f.s + sumN (fun k => wtT (frAt ab k) w) ab.length

theorem upI_nn {a b : Int} (h1 : 0 ≤ a) (h2 : 1 ≤ b) : 0 ≤ upI a b ∧ upI a b ≤ a := by
  unfold upI
  have e1 : 0 ≤ (a + b - 1) / b := Int.ediv_nonneg (by omega) (by omega)
  refine ⟨e1, ?_⟩
  have : (a + b - 1) / b < a + 1 := by
    rw [Int.ediv_lt_iff_lt_mul (by omega)]
    have := Int.mul_le_mul_of_nonneg_left (show (1 : Int) ≤ b from h2) h1
    have e : (a + 1) * b = a * b + b := by rw [Int.add_mul]; omega
    omega
  omega
theorem upI_mono {a a' b : Int} (h : a ≤ a') (hb : 1 ≤ b) : upI a b ≤ upI a' b := Int.ediv_le_ediv (by omega) (by omega)
theorem prod_bd {u s m : Int} (h1 : 0 ≤ u) (h2 : u ≤ m) (h3 : 1 ≤ s) (h4 : s ≤ 1000) : 0 ≤ u * s ∧ u * s ≤ m * 1000 := by
  refine ⟨Int.mul_nonneg h1 (by omega), ?_⟩
  exact Int.mul_le_mul h2 h4 (by omega) (by omega)
theorem upT_bd {f : Fr} (h : FrOk f) {t : Int} (h1 : 0 ≤ t) (h2 : t ≤ 1000000) : 0 ≤ upI (t + f.j) f.e ∧ upI (t + f.j) f.e ≤ 1100000 ∧ 0 ≤ upT f t ∧ upT f t ≤ 1100000000 := by
  have h3 := h.j; have h4 := h.s; have h5 := h.e
  have h6 := upI_nn (a := t + f.j) (b := f.e) (by omega) h5.1
  have h7 := prod_bd (m := 1100000) h6.1 (by omega) h4.1 h4.2
  unfold upT
  omega
theorem upT_mono {f : Fr} (h : FrOk f) {t t' : Int} (h1 : t ≤ t') : upT f t ≤ upT f t' := by
  unfold upT
  exact Int.mul_le_mul_of_nonneg_right (upI_mono (by omega) h.e.1) (by have := h.s.1; omega)
theorem wtT_bd {f : Fr} (h : FrOk f) {t : Int} (h1 : 0 ≤ t) (h2 : t ≤ 1000000) : 0 ≤ (t + f.j) / f.e ∧ (t + f.j) / f.e ≤ 1100000 ∧ 0 ≤ wtT f t ∧ wtT f t ≤ 1100001000 := by
  have h3 := h.j; have h4 := h.s; have h5 := h.e
  have h6 : 0 ≤ (t + f.j) / f.e := Int.ediv_nonneg (by omega) (by omega)
  have h7 : (t + f.j) / f.e ≤ t + f.j := Int.ediv_le_self _ (by omega)
  have h8 := prod_bd (u := (t + f.j) / f.e + 1) (m := 1100001) (by omega) (by omega) h4.1 h4.2
  unfold wtT
  omega
theorem wtT_mono {f : Fr} (h : FrOk f) {t t' : Int} (h1 : t ≤ t') : wtT f t ≤ wtT f t' := by
  unfold wtT
  have := Int.ediv_le_ediv (c := f.e) (by have := h.e.1; omega) (show t + f.j ≤ t' + f.j by omega)
  exact Int.mul_le_mul_of_nonneg_right (by omega) (by have := h.s.1; omega)
theorem sumN_mono {f g : Nat → Int} : ∀ {n : Nat}, (∀ j, j < n → f j ≤ g j) → sumN f n ≤ sumN g n
  | 0, _ => Int.le_refl _
  | n + 1, h => by
    have h1 := sumN_mono (n := n) (fun j hj => h j (by omega))
    have h2 := h n (by omega)
    show sumN f n + f n ≤ sumN g n + g n
    omega
theorem busy_up {f : Fr} {ab : List Fr} {rest : Int} (h : RivOk f ab rest) : UpF (busyG rest ab f) 1 := by
  refine ⟨fun x y h1 h2 h3 => ?_, fun _ => ?_⟩
  · have a1 := upT_mono h.fo h2
    have a2 := sumN_mono (f := fun k => upT (frAt ab k) x) (g := fun k => upT (frAt ab k) y) (n := ab.length) (fun j hj => upT_mono (h.abo j hj) h2)
    unfold busyG; omega
  · have a1 := upT_bd h.fo (t := 1) (by omega) (by omega)
    have a2 := sumN_le (f := fun k => upT (frAt ab k) 1) (n := ab.length) (b := 1100000000) (fun j hj => (upT_bd (h.abo j hj) (by omega) (by omega)).2.2)
    have a3 : 1 ≤ upI (1 + f.j) f.e := by
      unfold upI
      rw [Int.le_ediv_iff_mul_le (by have := h.fo.e.1; omega)]
      have := h.fo.j.1; omega
    have a4 := Int.mul_le_mul_of_nonneg_right a3 (show 0 ≤ f.s by have := h.fo.s.1; omega)
    have a5 := h.fo.s.1
    have a6 := h.ro.1
    unfold busyG upT
    unfold upT at a2
    omega
theorem wait_mono {f : Fr} {ab : List Fr} {rest q : Int} (h : RivOk f ab rest) {x y : Int} (h2 : x ≤ y) : waitG rest q ab f x ≤ waitG rest q ab f y := by
  have a2 := sumN_mono (f := fun k => wtT (frAt ab k) x) (g := fun k => wtT (frAt ab k) y) (n := ab.length) (fun j hj => wtT_mono (h.abo j hj) h2)
  unfold waitG; omega

/-- The greatest response of the first q, and where the next search begins. -/
def respTo (rest : Int) (ab : List Fr) (f : Fr) (lim : Int) : Nat → Option (Int × Int)
  | 0 => some (0, rest)
  | q + 1 => (respTo rest ab f lim q).bind (fun mb => (lfp (waitG rest q ab f) mb.2).bind (fun w => if lim < max mb.1 (w + f.s + f.j - q * f.e) then none else some (max mb.1 (w + f.s + f.j - q * f.e), w + f.s)))
def respOf (rest : Int) (ab : List Fr) (f : Fr) (lim : Int) : Option Int :=
  (lfp (busyG rest ab f) 1).bind (fun t => (respTo rest ab f lim (upI (t + f.j) f.e).toNat).map (fun mb => mb.1))
/-- What is known of where a search begins. -/
structure BegOk (rest : Int) (ab : List Fr) (f : Fr) (q : Nat) (m b : Int) : Prop where
  b0 : 0 ≤ b
  b1 : b ≤ 1001000
  m0 : 0 ≤ m
  m1 : m ≤ 1101000
  up : UpF (waitG rest q ab f) b
theorem wait_nn {f : Fr} {ab : List Fr} {rest q : Int} (h : RivOk f ab rest) {x : Int} (h1 : 0 ≤ x) (h2 : x ≤ 1000000) : rest + q * f.s ≤ waitG rest q ab f x := by
  have a2 := sumN_le (f := fun k => wtT (frAt ab k) x) (n := ab.length) (b := 1100001000) (fun j hj => (wtT_bd (h.abo j hj) h1 h2).2.2)
  unfold waitG; omega
theorem respTo_ok {f : Fr} {ab : List Fr} {rest lim : Int} (h : RivOk f ab rest) : ∀ q m b, respTo rest ab f lim q = some (m, b) → BegOk rest ab f q m b
  | 0, m, b, e => by
    simp only [respTo, Option.some.injEq, Prod.mk.injEq] at e
    obtain ⟨rfl, rfl⟩ := e
    have hr := h.ro
    refine ⟨hr.1, by omega, Int.le_refl _, by omega, ⟨fun x y _ h2 _ => wait_mono h h2, fun h1 => ?_⟩⟩
    have := wait_nn (q := ((0 : Nat) : Int)) h hr.1 h1
    simp at this ⊢
    omega
  | q + 1, m, b, e => by
    simp only [respTo] at e
    cases h1 : respTo rest ab f lim q with
    | none => rw [h1] at e; cases e
    | some mb =>
      obtain ⟨m0, b0⟩ := mb
      have ih := respTo_ok h q m0 b0 h1
      rw [h1] at e
      simp only [Option.bind_some] at e
      cases h2 : lfp (waitG rest q ab f) b0 with
      | none => rw [h2] at e; cases e
      | some w =>
        rw [h2] at e
        simp only [Option.bind_some] at e
        obtain ⟨w1, w2, w3⟩ := lfp_some ih.up h2
        have hs := h.fo.s
        have hj := h.fo.j
        have hq : 0 ≤ (q : Int) * f.e := Int.mul_nonneg (by omega) (by have := h.fo.e.1; omega)
        split at e
        · cases e
        · simp only [Option.some.injEq, Prod.mk.injEq] at e
          obtain ⟨rfl, rfl⟩ := e
          have i1 := ih.b0; have i2 := ih.m0; have i3 := ih.m1
          refine ⟨by omega, by omega, by omega, by omega, ⟨fun x y _ h5 _ => wait_mono h h5, fun h5 => ?_⟩⟩
          have e1 : waitG rest ((q + 1 : Nat) : Int) ab f (w + f.s) = waitG rest q ab f (w + f.s) + f.s := by
            unfold waitG
            have : ((q + 1 : Nat) : Int) * f.s = (q : Int) * f.s + f.s := by rw [Int.natCast_add, Int.add_mul]; simp
            omega
          have e2 := wait_mono (q := (q : Int)) h (show w ≤ w + f.s by omega)
          omega
end Go.Proofs.Ytcelbmpdnkaamaa
