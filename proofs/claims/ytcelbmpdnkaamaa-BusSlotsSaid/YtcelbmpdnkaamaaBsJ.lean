/- BusSlots: the walk. -/
import Derived.Test.YtcelbmpdnkaamaaBsG
namespace Go.Proofs.Ytcelbmpdnkaamaa
open Go Go.RowKit Go.WideMaps Go.Maps
set_option linter.unusedSimpArgs false
set_option linter.unusedVariables false

set_option maxRecDepth 100000 in
set_option maxHeartbeats 3200000 in
theorem busSlots_any (ns nc : Int) (ma : Option Addr) (mc : Nat) (ms : List Ga) (sa : Option Addr) (sc : Nat) (ss : List Ga) (w : World) (h : GatesAt w ma ms) (hs : GatesAt w sa ss) (hsc : ss.length ≤ sc) (hsc2 : sc ≤ maxLen) :
    Calls Try.prog 6 #[.agg #[.int .i64 ns, .int .i64 nc, .slice ma ms.length mc], .slice sa ss.length sc] w fun e w' => e = .returned (.bool true) ∧ Kp w w' := by
  have hk := kp_alloc w (.cells #[.int .i64 ns, .int .i64 nc, .slice ma ms.length mc] 35)
  have c0 : (w.alloc (.cells #[.int .i64 ns, .int .i64 nc, .slice ma ms.length mc] 35)).cell? ⟨w.heap.size, 0, none⟩ = some (.int .i64 ns) := by simp
  have c1 : (w.alloc (.cells #[.int .i64 ns, .int .i64 nc, .slice ma ms.length mc] 35)).cell? ⟨w.heap.size, 1, none⟩ = some (.int .i64 nc) := by simp
  have c2 : (w.alloc (.cells #[.int .i64 ns, .int .i64 nc, .slice ma ms.length mc] 35)).cell? ⟨w.heap.size, 2, none⟩ = some (.slice ma ms.length mc) := by simp
  have h1 := fun W (kW : Kp w W) => (checkSlots_any ns nc ma sa mc sc ms ss W (h.kp kW) (hs.kp kW))
  have h2 := fun W (kW : Kp w W) => (refCheckSlots_any ns nc ma sa mc sc ms ss W (h.kp kW) (hs.kp kW) hsc hsc2)
  generalize hV : (w.alloc (.cells #[.int .i64 ns, .int .i64 nc, .slice ma ms.length mc] 35)) = V at *
  have h1' : ∀ W, Kp V W → Calls Try.prog 27 #[.agg #[.int .i64 ns, .int .i64 nc, .slice ma ms.length mc], .slice sa ss.length sc] W fun e w' => e = .returned (.int .i64 (chkV ns nc ms ss)) ∧ Kp V w' := fun W kW => (h1 W (hk.step kW)).mono fun e w' hh => ⟨hh.1, kW.step hh.2⟩
  have h2' : ∀ W, Kp V W → Calls Try.prog 28 #[.agg #[.int .i64 ns, .int .i64 nc, .slice ma ms.length mc], .slice sa ss.length sc] W fun e w' => e = .returned (.int .i64 (chkV ns nc ms ss)) ∧ Kp V w' := fun W kW => (h2 W (hk.step kW)).mono fun e w' hh => ⟨hh.1, kW.step hh.2⟩
  have h3' : ∀ W, Kp V W → Calls Try.prog 11 #[] W fun e w' => e = .returned (.bool true) ∧ Kp V w' := fun W kW => (works_any W).mono fun e w' hh => ⟨hh.1, kW.step hh.2⟩
  have hS : ∀ X, Kp V X → X.cell? ⟨w.heap.size, 0, none⟩ = some (.int .i64 ns) ∧ X.cell? ⟨w.heap.size, 1, none⟩ = some (.int .i64 nc) ∧ X.cell? ⟨w.heap.size, 2, none⟩ = some (.slice ma ms.length mc) := fun X kX => ⟨kX.cell c0, kX.cell c1, kX.cell c2⟩
  have hbl : w.heap.size < V.heap.size := World.block_lt_of_cell? V _ c0
  generalize chkV ns nc ms ss = x at *
  have q1 : ((x : Int) == x) = true := by simp
  have H1 := Lib.hid h1'; have H2 := Lib.hid h2'; have H3 := Lib.hid h3'; have HS := Lib.hid hS; have Hk := Lib.hid hk
  subst hV
  clear h1 h2 h1' h2' h3' hS hk h hs c0 c1 c2
  go_enter Try.func6, Try.ntmps6
  go_wp2_with fail
  generalize (w.alloc (.cells #[.int .i64 ns, .int .i64 nc, .slice ma ms.length mc] 35)) = V at *
  go_region_held3 (fun X => X.cell? ⟨w.heap.size, 0, none⟩ = some (.int .i64 ns) ∧ X.cell? ⟨w.heap.size, 1, none⟩ = some (.int .i64 nc) ∧ X.cell? ⟨w.heap.size, 2, none⟩ = some (.slice ma ms.length mc))
    (first | exact HS.out _ (Kp.refl _) | exact HS.out _ (Keeps.drew (Kp.refl _)) | exact HS.out _ (by assumption) | exact HS.out _ (Keeps.drew (by assumption)))
    (first
      | (go_at_call 27; (with_reducible refine (H1.out _ (by first | assumption | exact Kp.refl _ | exact Keeps.drew (Kp.refl _) | exact Keeps.drew (by assumption))).mono ?_); rintro e w1 ⟨rfl, k1⟩)
      | (go_at_call 28; (with_reducible refine (H2.out _ (by first | assumption | exact Kp.refl _ | exact Keeps.drew (Kp.refl _) | exact Keeps.drew (by assumption))).mono ?_); rintro e w2 ⟨rfl, k2⟩)
      | (go_at_call 11; (with_reducible refine (H3.out _ (by first | assumption | exact Keeps.drew (by assumption))).mono ?_); rintro e w3 ⟨rfl, k3⟩))
  all_goals
    go_wp2_with fail
    go_ret
    exact ⟨rfl, by first | exact Hk.out.step k3 | exact Hk.out.step (Keeps.drew k3)⟩
end Go.Proofs.Ytcelbmpdnkaamaa
