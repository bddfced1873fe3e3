/- The reference's free and CheckSlots. -/
import Derived.Test.YtcelbmpdnkaamaaBsC
import Derived.StillTailTactics
namespace Go.Proofs.Ytcelbmpdnkaamaa
open Go Go.RowKit Go.WideMaps Go.Maps
set_option linter.unusedSimpArgs false
set_option linter.unusedVariables false

/-- Numbers within their limits. -/
structure SlOk (ms ss : List Ga) : Prop where
  len : ss.length = ms.length
  m60 : ms.length ≤ 60
  ev : ∀ k, k < ms.length → 1 ≤ (gaAt ms k).2 ∧ (gaAt ms k).2 ≤ 64
  ba : ∀ k, k < ms.length → 0 ≤ (gaAt ss k).2 ∧ (gaAt ss k).2 ≤ 64

set_option maxRecDepth 100000 in
set_option maxHeartbeats 3200000 in
theorem refFree_any (ns nc : Int) (ma sa : Option Addr) (mc sc : Nat) (ms ss : List Ga) (n : Nat) (w : World) (h : GatesAt w ma ms) (hs : GatesAt w sa ss) (ok : SlOk ms ss) (hn : n < ms.length) :
    Calls Try.prog 54 #[.agg #[.int .i64 ns, .int .i64 nc, .slice ma ms.length mc], .slice sa (n + 1) sc] w fun e w' => e = .returned (.bool (freeR ms ss n)) ∧ Kp w w' := by
  have hl := ok.len
  have h60 := ok.m60
  have hk := kp_alloc w (.cells #[.int .i64 ns, .int .i64 nc, .slice ma ms.length mc] 35)
  have c2 : (w.alloc (.cells #[.int .i64 ns, .int .i64 nc, .slice ma ms.length mc] 35)).cell? ⟨w.heap.size, 2, none⟩ = some (.slice ma ms.length mc) := by simp
  have hcl := fun i (hi : i < n) W => refClash_any (gaAt ms i) (gaAt ms n) (gaAt ss i) (gaAt ss n) W (ok.ev i (by omega)) (ok.ev n hn) (ok.ba i (by omega)) (ok.ba n hn)
  have Hh := Lib.hid (h.kp hk); have Hs := Lib.hid (hs.kp hk); have Hk := Lib.hid hk; have Hcl := Lib.hid hcl
  clear hk h hs hcl ok
  have q0 : wrap64 ((n : Int) + 1 - 1) = (n : Int) := by rw [wrap_in (by omega) (by omega)]; omega
  go_enter Try.func54, Try.ntmps54
  go_wp2_with fail
  generalize (w.alloc (.cells #[.int .i64 ns, .int .i64 nc, .slice ma ms.length mc] 35)) = V at *
  go_loopw [6] (fun i wq => ∃ (k : Nat), k ≤ n ∧ i = .int .i64 k ∧ Kp V wq ∧ Hid (∀ j, j < k → freeAt ms ss n j = true)) (fun i _ => n - (intOf i).toNat)
  case atStart => exact ⟨0, Nat.zero_le _, rfl, Kp.refl _, Lib.hid (fun j hj => by omega)⟩
  case round =>
    obtain ⟨w3, rfl⟩ : ∃ w3, w3 = wr := ⟨wr, rfl⟩
    obtain ⟨k, hk, rfl, kp, hno⟩ := hrel
    have d2 := kp.cell c2
    have Kq := Lib.hid (Hk.out.step kp)
    by_cases hlt : k < n
    case neg =>
      obtain rfl : k = n := by omega
      have Hz : Hid (freeR ms ss k = true) := Lib.hid (by unfold freeR; exact allR_good hno.out)
      have i1 : decide ((k : Int) < (k : Int)) = false := by simp
      clear hno kp
      go_wp2_with fail
      go_ret
      exact ⟨by rw [Hz.out]; rfl, Kq.out⟩
    case pos =>
      obtain ⟨b1, o1, rfl, hc1⟩ := (Hh.out.kp kp).cells (by omega)
      obtain ⟨e0, e1⟩ := hc1 k (by omega)
      obtain ⟨f0, f1⟩ := hc1 n (by omega)
      obtain ⟨b2, o2, rfl, hc2⟩ := (Hs.out.kp kp).cells (by omega)
      obtain ⟨g0, g1⟩ := hc2 k (by omega)
      obtain ⟨j0, j1⟩ := hc2 n (by omega)
      have i1 : (k : Int) < (n : Int) := by omega
      have i2 : (k : Int) < (ms.length : Int) := by omega
      have i3 : (n : Int) < (ms.length : Int) := by omega
      have i4 : (k : Int) < (n : Int) + 1 := by omega
      have i5 : (n : Int) < (n : Int) + 1 := by omega
      have hbl : w.heap.size < w3.heap.size := World.block_lt_of_cell? w3 _ d2
      have hbad : freeAt ms ss n k = false → freeR ms ss n = false := fun hh => allR_bad hlt hh
      have hnext : freeAt ms ss n k = true → ∀ j, j < k + 1 → freeAt ms ss n j = true := fun hh j hj => by
        by_cases e : j = k
        · subst e; exact hh
        · exact hno.out j (by omega)
      have hfa : freeAt ms ss n k = !clR (gaAt ms k) (gaAt ms n) (gaAt ss k) (gaAt ss n) := rfl
      have hcl := Hcl.out k hlt
      have Hbad := Lib.hid hbad; have Hn := Lib.hid hnext; have Hfa := Lib.hid hfa; have Hc := Lib.hid hcl; have Kv := Lib.hid kp
      clear hbad hnext hno hc1 hc2 kp hfa hcl c2
      generalize clR (gaAt ms k) (gaAt ms n) (gaAt ss k) (gaAt ss n) = cl at *
      generalize freeAt ms ss n k = fk at *
      generalize gaAt ms k = x1 at *
      generalize gaAt ms n = x2 at *
      generalize gaAt ss k = x3 at *
      generalize gaAt ss n = x4 at *
      cases cl
      · have Hz := Lib.hid (Hn.out (by rw [Hfa.out]; rfl))
        go_wp2_with fail
        go_still_tail 18, (by kernel_rfl)
        change wpList _ _ _ _ _ w3.drew
        have kd : Kp w3 w3.drew := Keeps.drew (Kp.refl w3)
        generalize w3.drew = w4 at *
        go_wp2_with fail
        refine (Hc.out _).mono ?_
        rintro e w6 ⟨rfl, kx⟩
        all_goals
          have kw6 : Kp w3 w6 := kd.step kx
          have K6 := Lib.hid (Kv.out.step kw6)
          clear kx kw6
          go_simp
          go_wp2_with fail
          go_roundw
          case rel => exact ⟨k + 1, by omega, by go_num, K6.out, Hz⟩
          case measure => simp [intOf]; omega
      · have Hz := Lib.hid (Hbad.out (by rw [Hfa.out]; rfl))
        go_wp2_with fail
        go_still_tail 18, (by kernel_rfl)
        change wpList _ _ _ _ _ w3.drew
        have kd : Kp w3 w3.drew := Keeps.drew (Kp.refl w3)
        generalize w3.drew = w4 at *
        go_wp2_with fail
        refine (Hc.out _).mono ?_
        rintro e w6 ⟨rfl, kx⟩
        all_goals
          have kw6 : Kp w3 w6 := kd.step kx
          have K6 := Lib.hid (Kq.out.step kw6)
          clear kx kw6
          go_simp
          go_wp2_with fail
          go_ret
          exact ⟨by rw [Hz.out]; rfl, K6.out⟩
end Go.Proofs.Ytcelbmpdnkaamaa
