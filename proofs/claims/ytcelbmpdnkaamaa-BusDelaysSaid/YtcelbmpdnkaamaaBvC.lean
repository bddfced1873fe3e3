/- More of a frame: no response becomes shorter (plain). -/
import Derived.Test.YtcelbmpdnkaamaaBuT
namespace Go.Proofs.Ytcelbmpdnkaamaa
open Go Go.RowKit
set_option linter.unusedSimpArgs false
set_option linter.unusedVariables false

/-- A frame that asks for no less. -/
structure FrLe (f f2 : Fr) : Prop where
  s : f.s ≤ f2.s
  e : f2.e ≤ f.e
  j : f.j ≤ f2.j
  r : f2.r = f.r
theorem FrLe.refl (f : Fr) : FrLe f f := ⟨Int.le_refl _, Int.le_refl _, Int.le_refl _, rfl⟩
theorem ediv_le2 {a a' b b' : Int} (ha : 0 ≤ a) (h : a ≤ a') (hb : b' ≤ b) (h1 : 1 ≤ b') : a / b ≤ a' / b' := by
  have h0 : 0 ≤ a / b := Int.ediv_nonneg ha (by omega)
  rw [Int.le_ediv_iff_mul_le (by omega)]
  have h2 : a / b * b' ≤ a / b * b := Int.mul_le_mul_of_nonneg_left hb h0
  have h3 : a / b * b ≤ a := Int.ediv_mul_le a (by omega)
  omega
theorem upI_le2 {a a' b b' : Int} (ha : 0 ≤ a) (h : a ≤ a') (hb : b' ≤ b) (h1 : 1 ≤ b') : upI a b ≤ upI a' b' := by
  have e1 : upI a b = (a - 1) / b + 1 := by
    unfold upI
    rw [show a + b - 1 = (a - 1) + 1 * b by omega, Int.add_mul_ediv_right _ _ (by omega)]
  have e2 : upI a' b' = (a' - 1) / b' + 1 := by
    unfold upI
    rw [show a' + b' - 1 = (a' - 1) + 1 * b' by omega, Int.add_mul_ediv_right _ _ (by omega)]
  by_cases h0 : a = 0
  · subst h0
    have h5 : upI 0 b = 0 := by
      unfold upI
      rw [show (0 : Int) + b - 1 = b - 1 by omega]
      exact Int.ediv_eq_zero_of_lt (by omega) (by omega)
    rw [h5]
    exact (upI_nn (by omega) h1).1
  · have := ediv_le2 (a := a - 1) (a' := a' - 1) (by omega) (by omega) hb h1
    omega
theorem upT_le2 {f f2 : Fr} (h : FrLe f f2) (ok : FrOk f) (ok2 : FrOk f2) {t t2 : Int} (h0 : 0 ≤ t) (ht : t ≤ t2) : upT f t ≤ upT f2 t2 := by
  have h1 := ok.j; have h2 := h.j; have h3 := ok2.e; have h4 := h.s; have h5 := ok.s
  have hu := upI_le2 (a := t + f.j) (a' := t2 + f2.j) (b := f.e) (b' := f2.e) (by omega) (by omega) h.e h3.1
  have hn := (upI_nn (a := t2 + f2.j) (b := f2.e) (by have := ok2.j; omega) h3.1).1
  unfold upT
  exact Int.mul_le_mul hu h4 (by omega) hn
theorem wtT_le2 {f f2 : Fr} (h : FrLe f f2) (ok : FrOk f) (ok2 : FrOk f2) {t t2 : Int} (h0 : 0 ≤ t) (ht : t ≤ t2) : wtT f t ≤ wtT f2 t2 := by
  have h1 := ok.j; have h2 := h.j; have h3 := ok2.e; have h4 := h.s; have h5 := ok.s
  have hu := ediv_le2 (a := t + f.j) (a' := t2 + f2.j) (b := f.e) (b' := f2.e) (by omega) (by omega) h.e h3.1
  have hn : 0 ≤ (t2 + f2.j) / f2.e := Int.ediv_nonneg (by have := ok2.j; omega) (by omega)
  unfold wtT
  exact Int.mul_le_mul (by omega) h4 (by omega) (by omega)
/-- Rivals that ask for no less. -/
structure RivLe (rest rest2 : Int) (ab ab2 : List Fr) (f f2 : Fr) : Prop where
  ok : RivOk f ab rest
  ok2 : RivOk f2 ab2 rest2
  rest : rest ≤ rest2
  f : FrLe f f2
  len : ab2.length = ab.length
  ab : ∀ k, k < ab.length → FrLe (frAt ab k) (frAt ab2 k)
theorem busy_le {rest rest2 : Int} {ab ab2 : List Fr} {f f2 : Fr} (h : RivLe rest rest2 ab ab2 f f2) {t t2 : Int} (h0 : 0 ≤ t) (ht : t ≤ t2) : busyG rest ab f t ≤ busyG rest2 ab2 f2 t2 := by
  have h1 := h.rest
  have h2 := upT_le2 h.f h.ok.fo h.ok2.fo h0 ht
  have hl := h.len
  have h3 := sumN_mono (f := fun k => upT (frAt ab k) t) (g := fun k => upT (frAt ab2 k) t2) (n := ab.length) (fun j hj => upT_le2 (h.ab j hj) (h.ok.abo j hj) (h.ok2.abo j (by omega)) h0 ht)
  unfold busyG
  rw [hl]
  omega
theorem wait_le {rest rest2 q : Int} {ab ab2 : List Fr} {f f2 : Fr} (h : RivLe rest rest2 ab ab2 f f2) (hq : 0 ≤ q) {t t2 : Int} (h0 : 0 ≤ t) (ht : t ≤ t2) : waitG rest q ab f t ≤ waitG rest2 q ab2 f2 t2 := by
  have h1 := h.rest
  have h2 : q * f.s ≤ q * f2.s := Int.mul_le_mul_of_nonneg_left h.f.s hq
  have hl := h.len
  have h3 := sumN_mono (f := fun k => wtT (frAt ab k) t) (g := fun k => wtT (frAt ab2 k) t2) (n := ab.length) (fun j hj => wtT_le2 (h.ab j hj) (h.ok.abo j hj) (h.ok2.abo j (by omega)) h0 ht)
  unfold waitG
  rw [hl]
  omega
theorem itF_le {g g2 : Int → Int} {b : Int} (hu : UpF g b) {r : Int} (hr : r ≤ 1000000) (hg : ∀ t, b ≤ t → t ≤ r → g t ≤ r) : ∀ (f : Nat) (n : Int), b ≤ n → n ≤ r → n ≤ g n → fuelT n ≤ f → ∃ x, itF g f n = some x ∧ x ≤ r
  | 0, n, _, _, _, h => by unfold fuelT at h; omega
  | f + 1, n, hb, hn, hgn, h => by
    unfold itF
    rw [if_neg (by omega)]
    by_cases h4 : g n = n
    · exact ⟨n, by rw [if_pos h4], hn⟩
    · rw [if_neg h4]
      have h5 := hg n hb hn
      unfold fuelT at h
      exact itF_le hu hr hg (g2 := g2) f (g n) (by omega) h5 (hu.mono n (g n) hb hgn (by omega)) (by unfold fuelT; omega)
theorem lfp_le {g g2 : Int → Int} {b b2 r2 : Int} (hu : UpF g b) (hu2 : UpF g2 b2) (hb : b ≤ b2) (hg : ∀ t t2, b ≤ t → t ≤ t2 → t2 ≤ 1000000 → g t ≤ g2 t2) (h : lfp g2 b2 = some r2) : ∃ r, lfp g b = some r ∧ r ≤ r2 := by
  obtain ⟨h1, h2, h3⟩ := lfp_some hu2 h
  exact itF_le (g2 := g2) hu h2 (fun t ht1 ht2 => by have := hg t r2 ht1 ht2 h2; omega) _ b (Int.le_refl _) (by omega) (hu.beg (by omega)) (Nat.le_refl _)
def LIM : Int := 9223372036854775807
theorem respTo_le {rest rest2 : Int} {ab ab2 : List Fr} {f f2 : Fr} (h : RivLe rest rest2 ab ab2 f f2) : ∀ q m2 b2, respTo rest2 ab2 f2 LIM q = some (m2, b2) → ∃ m b, respTo rest ab f LIM q = some (m, b) ∧ m ≤ m2 ∧ b ≤ b2
  | 0, m2, b2, e => by
    simp only [respTo, Option.some.injEq, Prod.mk.injEq] at e
    obtain ⟨rfl, rfl⟩ := e
    exact ⟨0, rest, rfl, Int.le_refl _, h.rest⟩
  | q + 1, m2, b2, e => by
    simp only [respTo] at e
    cases h1 : respTo rest2 ab2 f2 LIM q with
    | none => rw [h1] at e; cases e
    | some mb2 =>
      obtain ⟨m2', b2'⟩ := mb2
      rw [h1] at e
      simp only [Option.bind_some] at e
      obtain ⟨m', b', h3, h4, h5⟩ := respTo_le h q m2' b2' h1
      have bo := respTo_ok h.ok q m' b' h3
      have bo2 := respTo_ok h.ok2 q m2' b2' h1
      cases h2 : lfp (waitG rest2 q ab2 f2) b2' with
      | none => rw [h2] at e; cases e
      | some w2 =>
        rw [h2] at e
        simp only [Option.bind_some] at e
        obtain ⟨w, h6, h7⟩ := lfp_le bo.up bo2.up h5 (fun t t2 a1 a2 _ => wait_le h (by omega) (by have := bo.b0; omega) a2) h2
        split at e
        · cases e
        · simp only [Option.some.injEq, Prod.mk.injEq] at e
          obtain ⟨rfl, rfl⟩ := e
          obtain ⟨w1, w2', w3⟩ := lfp_some bo.up h6
          have hs := h.f.s; have hj := h.f.j
          have hs1 := h.ok.fo.s; have hj1 := h.ok.fo.j
          have hqe : (q : Int) * f2.e ≤ (q : Int) * f.e := Int.mul_le_mul_of_nonneg_left h.f.e (by omega)
          have hq0 : 0 ≤ (q : Int) * f.e := Int.mul_nonneg (by omega) (by have := h.ok.fo.e; omega)
          have hm1 := bo.m1
          have hb1 := bo.b1
          have e2 : respTo rest ab f LIM (q + 1) = some (max m' (w + f.s + f.j - q * f.e), w + f.s) := by
            simp only [respTo]
            rw [h3]
            simp only [Option.bind_some]
            rw [h6]
            simp only [Option.bind_some]
            rw [if_neg]
            unfold LIM
            omega
          exact ⟨_, _, e2, by omega, by omega⟩
theorem respTo_up {rest : Int} {ab : List Fr} {f : Fr} {lim : Int} : ∀ (d q : Nat) (m b : Int), respTo rest ab f lim (q + d) = some (m, b) → ∃ m0 b0, respTo rest ab f lim q = some (m0, b0) ∧ m0 ≤ m
  | 0, q, m, b, e => ⟨m, b, e, Int.le_refl _⟩
  | d + 1, q, m, b, e => by
    have e' : respTo rest ab f lim (q + (d + 1)) = (respTo rest ab f lim (q + d)).bind (fun mb => (lfp (waitG rest ((q + d : Nat) : Int) ab f) mb.2).bind (fun w => if lim < max mb.1 (w + f.s + f.j - ((q + d : Nat) : Int) * f.e) then none else some (max mb.1 (w + f.s + f.j - ((q + d : Nat) : Int) * f.e), w + f.s))) := rfl
    rw [e'] at e
    cases h1 : respTo rest ab f lim (q + d) with
    | none => rw [h1] at e; cases e
    | some mb =>
      obtain ⟨m1, b1⟩ := mb
      rw [h1] at e
      simp only [Option.bind_some] at e
      cases h2 : lfp (waitG rest ((q + d : Nat) : Int) ab f) b1 with
      | none => rw [h2] at e; cases e
      | some w =>
        rw [h2] at e
        simp only [Option.bind_some] at e
        split at e
        · cases e
        · simp only [Option.some.injEq, Prod.mk.injEq] at e
          obtain ⟨m0, b0, h3, h4⟩ := respTo_up d q m1 b1 h1
          exact ⟨m0, b0, h3, by omega⟩
theorem respOf_le {rest rest2 : Int} {ab ab2 : List Fr} {f f2 : Fr} (h : RivLe rest rest2 ab ab2 f f2) {r2 : Int} (e : respOf rest2 ab2 f2 LIM = some r2) : ∃ r, respOf rest ab f LIM = some r ∧ r ≤ r2 ∧ 0 ≤ r := by
  unfold respOf at e ⊢
  cases h1 : lfp (busyG rest2 ab2 f2) 1 with
  | none => rw [h1] at e; cases e
  | some t2 =>
    rw [h1] at e
    simp only [Option.bind_some] at e
    obtain ⟨t, h2, h3⟩ := lfp_le (busy_up h.ok) (busy_up h.ok2) (Int.le_refl _) (fun t t2 a1 a2 _ => busy_le h (by omega) a2) h1
    rw [h2]
    simp only [Option.bind_some]
    obtain ⟨t1, _, _⟩ := lfp_some (busy_up h.ok) h2
    have hj := h.ok.fo.j; have hj2 := h.f.j; have he2 := h.ok2.fo.e
    have hn := upI_le2 (a := t + f.j) (a' := t2 + f2.j) (b := f.e) (b' := f2.e) (by omega) (by omega) h.f.e he2.1
    have hn0 := (upI_nn (a := t + f.j) (b := f.e) (by omega) h.ok.fo.e.1).1
    cases h4 : respTo rest2 ab2 f2 LIM (upI (t2 + f2.j) f2.e).toNat with
    | none => rw [h4] at e; cases e
    | some mb2 =>
      obtain ⟨m2, b2⟩ := mb2
      rw [h4] at e
      simp only [Option.map_some, Option.some.injEq] at e
      subst e
      obtain ⟨d, hd⟩ : ∃ d, (upI (t2 + f2.j) f2.e).toNat = (upI (t + f.j) f.e).toNat + d := ⟨(upI (t2 + f2.j) f2.e).toNat - (upI (t + f.j) f.e).toNat, by omega⟩
      rw [hd] at h4
      obtain ⟨m1, b1, h5, h6⟩ := respTo_up d _ m2 b2 h4
      obtain ⟨m, b, h7, h8, _⟩ := respTo_le h _ m1 b1 h5
      have bo := respTo_ok h.ok _ m b h7
      rw [h7]
      exact ⟨m, rfl, by omega, bo.m0⟩
end Go.Proofs.Ytcelbmpdnkaamaa
