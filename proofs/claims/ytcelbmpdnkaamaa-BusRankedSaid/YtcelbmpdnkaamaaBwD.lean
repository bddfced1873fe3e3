/- A response's searches may begin anew. -/
import Derived.Test.YtcelbmpdnkaamaaBwC
namespace Go.Proofs.Ytcelbmpdnkaamaa
open Go Go.RowKit Go.WideMaps Go.Maps
set_option linter.unusedSimpArgs false
set_option linter.unusedVariables false

theorem lfp_post {g : Int → Int} {b r : Int} (hu : UpF g b) (hr : r ≤ 1000000) (hb : b ≤ r) (hg : g r ≤ r) : ∃ x, lfp g b = some x ∧ x ≤ r :=
  itF_le (g2 := g) hu hr (fun t h1 h2 => by have := hu.mono t r h1 h2 hr; omega) _ b (Int.le_refl _) hb (hu.beg (by omega)) (Nat.le_refl _)
theorem wait_up0 {f : Fr} {ab : List Fr} {rest : Int} (h : RivOk f ab rest) (q : Nat) : UpF (waitG rest q ab f) (rest + q * f.s) := by
  have h1 := h.ro
  have h2 := (prod_bd (u := (q : Int)) (m := (q : Int)) (by omega) (Int.le_refl _) h.fo.s.1 h.fo.s.2).1
  exact ⟨fun x y _ hxy _ => wait_mono h hxy, fun hb => wait_nn h (by omega) hb⟩
theorem respTo_from {f : Fr} {ab : List Fr} {rest lim : Int} (h : RivOk f ab rest) : ∀ (q : Nat) (m b : Int), respTo rest ab f lim q = some (m, b) → lfp (waitG rest q ab f) (rest + q * f.s) = lfp (waitG rest q ab f) b
  | 0, m, b, e => by
    simp [respTo] at e
    obtain ⟨_, rfl⟩ := e
    simp
  | q + 1, m, b, e => by
    have hbeg := respTo_ok h (q + 1) m b e
    unfold respTo at e
    cases e0 : respTo rest ab f lim q with
    | none => rw [e0] at e; cases e
    | some mb =>
      obtain ⟨m0, b0⟩ := mb
      rw [e0] at e
      simp only [Option.bind_some] at e
      have ih := respTo_from h q m0 b0 e0
      cases e1 : lfp (waitG rest q ab f) b0 with
      | none => rw [e1] at e; cases e
      | some w =>
        rw [e1] at e ih
        simp only [Option.bind_some] at e
        split at e
        · cases e
        · simp only [Option.some.injEq, Prod.mk.injEq] at e
          obtain ⟨_, rfl⟩ := e
          have hs := h.fo.s
          have hq := h.ro
          obtain ⟨k1, k2, k3⟩ := lfp_some (wait_up0 h q) ih
          have hp := (prod_bd (u := (q : Int)) (m := (q : Int)) (by omega) (Int.le_refl _) hs.1 hs.2).1
          have hmul : ((q + 1 : Nat) : Int) * f.s = q * f.s + f.s := by push_cast; rw [Int.add_mul, Int.one_mul]
          refine lfp_from (wait_up0 h (q + 1)) hbeg.up (by omega) (fun r hr1 hr2 hr3 => ?_)
          have g1 : waitG rest (q : Nat) ab f (r - f.s) ≤ r - f.s := by
            have g2 := wait_mono (q := ((q + 1 : Nat) : Int)) h (show r - f.s ≤ r by omega)
            have g3 : waitG rest ((q + 1 : Nat) : Int) ab f (r - f.s) = waitG rest (q : Nat) ab f (r - f.s) + f.s := by
              unfold waitG
              rw [hmul]
              omega
            omega
          obtain ⟨x, hx, hxr⟩ := lfp_post (wait_up0 h q) (by omega) (by omega) g1
          rw [ih] at hx
          cases hx
          omega
end Go.Proofs.Ytcelbmpdnkaamaa
