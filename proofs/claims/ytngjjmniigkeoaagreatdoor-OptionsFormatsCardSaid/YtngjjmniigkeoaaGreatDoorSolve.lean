/- attempt, solve: the first attempt comes to its end. -/
import Derived.Test.YtngjjmniigkeoaaGreatDoorNewB
import Derived.Defers
import Derived.Recover
namespace Go.Proofs.YtngjjmniigkeoaaGreatDoor
open Go Go.RowKit Go.WideMaps Go.Maps
set_option linter.unusedSimpArgs false
set_option linter.unusedVariables false

theorem recover_idle (w : World) :
    CallsD Tryz.prog 83 #[] .returning w fun e u' w' => e = .returned (.tuple #[]) ∧ u' = .returning ∧ w' = w := by
  refine callsD_of_wpS Tryz.func83 rfl fun c₀ cs hu => ?_
  apply wpS_seq
  apply wpS_region
  simp [wpOpsS, go_sem, recoverD, hu, Tryz.ntmps83, Exit.thenS]
  apply wpS_seq
  apply wpS_region
  simp [wpOpsS, go_sem, Exit.thenS]
  refine wpS_cond (t := false) (by simp [Act.eval, Array.replicate]) ?_
  simp only [Bool.false_eq_true, if_false]
  refine wpS_of_wp (wp_skip ?_)
  cases c₀
  simp_all [bodyPostS, results, Tryz.results83]

/-- What a piece of work does with fresh diagrams. -/
def Enters (K : Nat) : Prop := ∀ (args : Array Value) (w : World), (callFunc K args).run Tryz.prog w = .ok (.enter K args) w
def Works (w : World) (n : Nat) (steps : Int) (K : Nat) (caps : Array Value) (R : World → Prop) : Prop :=
  ∀ (h : DH) (s : DS) (w1 : World), Fresh w n steps w1 h s → Calls Tryz.prog K (#[.pointer (some ⟨h.b, 0, none⟩)] ++ caps) w1 fun e w2 => e = .returned (.tuple #[]) ∧ R w2

set_option maxRecDepth 100000 in
set_option maxHeartbeats 1600000 in
theorem attempt_any (n : Nat) (steps : Int) (og cap K : Nat) (caps : Array Value) (R : World → Prop) (w : World) (hn : n ≤ 40) (ho : IRow w 0 og n cap (upto n)) (hK : Enters K) (hw : Works w n steps K caps R) :
    Calls Tryz.prog 69 #[.slice (some ⟨og, 0, none⟩) n cap, .int .i64 steps, .func (Fn.func K) #[] caps] w fun e w' => e = .returned (.bool true) ∧ R w' := by
  have hnew := newDiagrams_any n steps og cap w hn ho
  have Hn := Lib.hid hnew; have Hw := Lib.hid hw
  clear hnew hw
  unfold Enters at hK
  go_enter_defers Tryz.func69, Tryz.ntmps69
  go_wp2_with fail
  refine Hn.out.mono ?_
  rintro e w1 ⟨h, s, rfl, hf⟩
  go_wp2_with fail
  refine (Hw.out h s w1 hf).mono ?_
  rintro e w2 ⟨rfl, hr⟩
  have Hr := Lib.hid hr
  clear hr hf
  go_wp2_with fail
  refine leaves_cons (f := 83) (args := #[]) (by simp) (by simp [go_sem]) ?_
  refine (recover_idle _).mono ?_
  rintro e u' w'' ⟨rfl, rfl, rfl⟩
  exact ⟨_, results_tmp rfl _ _ _, rfl, Hr.out⟩

set_option maxRecDepth 100000 in
set_option maxHeartbeats 1600000 in
theorem solve_any (n : Nat) (al : Option Addr) (ll cl K : Nat) (caps : Array Value) (R : World → Prop) (w : World) (hn : n ≤ 40) (hK : Enters K) (hw : ∀ w0, Below w.heap.size w w0 → Works w0 n 524288 K caps R) :
    Calls Tryz.prog 50 #[.int .i64 n, .slice al ll cl, .func (Fn.func K) #[] caps] w fun e w' => e = .returned (.tuple #[]) ∧ R w' := by
  have Hw := Lib.hid hw; have HK := Lib.hid hK
  clear hw hK
  go_enter Tryz.func50, Tryz.ntmps50
  go_wp2_with fail
  go_loopw [6] (fun b wr => b = .int .i64 524288 ∧ wr = w) (fun _ _ => 0)
  case atStart => exact ⟨rfl, rfl⟩
  case round =>
    obtain ⟨rfl, rfl⟩ := hrel
    go_wp2_with fail
    refine (own_any n _ hn).mono ?_
    rintro e w1 ⟨g, cap, rfl, hr, hb⟩
    have hat := attempt_any n 524288 g cap K caps R w1 hn ⟨by
      refine ⟨hr.row.1, ?_⟩
      rcases hr.row.2 with h | ⟨g', cap', cur, e, hb', rest⟩
      · exact .inl h
      · exact .inr ⟨g', cap', cur, e, Nat.zero_le _, rest⟩⟩ HK.out (Hw.out w1 hb)
    have Ha := Lib.hid hat
    clear hat hr hb
    go_wp2_with fail
    refine Ha.out.mono ?_
    rintro e w2 ⟨rfl, hr2⟩
    have Hr := Lib.hid hr2
    clear hr2
    go_wp2_with fail
    refine bodyPost_ret (results_none rfl _ _ _) rfl ?_
    exact ⟨rfl, Hr.out⟩
end Go.Proofs.YtngjjmniigkeoaaGreatDoor
