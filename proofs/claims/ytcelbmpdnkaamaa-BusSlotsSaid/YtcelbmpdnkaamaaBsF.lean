/- The program's clash: the walk. -/
import Derived.Test.YtcelbmpdnkaamaaBsE
import Derived.StillTailTactics
import Derived.Deep.RegionHeld3
import Derived.OwnWalk
namespace Go.Proofs.Ytcelbmpdnkaamaa
open Go Go.RowKit Go.WideMaps Go.Maps
set_option linter.unusedSimpArgs false
set_option linter.unusedVariables false

set_option maxRecDepth 100000 in
set_option maxHeartbeats 6400000 in
theorem clash_any (ns C : Nat) (ma sa : Option Addr) (mc sc : Nat) (ms ss : List Ga) (w : World) (h : GatesAt w ma ms) (hs : GatesAt w sa ss) (ok : SlV ns C ms ss) :
    Calls Try.prog 53 #[.agg #[.int .i64 (ns : Int), .int .i64 (C : Int), .slice ma ms.length mc], .slice sa ss.length sc] w fun e w' => e = .returned (.bool (!allR ms.length (okC ns C ms ss))) ∧ Kp w w' := by
  have hl := ok.len
  have h60 := ok.m60
  have h30 := ok.n30
  have hk := kp_alloc w (.cells #[.int .i64 (ns : Int), .int .i64 (C : Int), .slice ma ms.length mc] 35)
  have c0 : (w.alloc (.cells #[.int .i64 (ns : Int), .int .i64 (C : Int), .slice ma ms.length mc] 35)).cell? ⟨w.heap.size, 0, none⟩ = some (.int .i64 (ns : Int)) := by simp
  have c1 : (w.alloc (.cells #[.int .i64 (ns : Int), .int .i64 (C : Int), .slice ma ms.length mc] 35)).cell? ⟨w.heap.size, 1, none⟩ = some (.int .i64 (C : Int)) := by simp
  have c2 : (w.alloc (.cells #[.int .i64 (ns : Int), .int .i64 (C : Int), .slice ma ms.length mc] 35)).cell? ⟨w.heap.size, 2, none⟩ = some (.slice ma ms.length mc) := by simp
  have hV : (w.alloc (.cells #[.int .i64 (ns : Int), .int .i64 (C : Int), .slice ma ms.length mc] 35)).heap.size = w.heap.size + 1 := by simp
  obtain ⟨i0, hi0, hz0, hz1, hz2⟩ := info_parts infoRow
  have hcy : ∀ (k : Nat), k < ms.length → ∀ W, Calls Try.prog 80 #[.agg #[.int .i64 (ns : Int), .int .i64 (C : Int), .slice ma ms.length mc], .int .i64 (gaAt ms k).2, .int .i64 (gaAt ss k).2] W fun e w' => e = .returned (.int .u64 (mkT C ms ss k : Nat)) ∧ Kp W w' := fun k hk W => by
    obtain ⟨s, e, b, e0, h0, e1, h1, h2, e2, h3⟩ := ok.at' k hk
    have := cyclesOf_any (ns : Int) C e b ma ms.length mc W ok.c64 h1 (by have := ok.c64; omega) (by omega)
    have em : mkT C ms ss k = maskOf C e b := by unfold mkT; rw [e1, e2]; simp
    rw [← e1, ← e2, ← em] at this
    exact this
  have hif := fun (k : Nat) (hk : k < ms.length) W => isFree_any (srAt (rowsTo ns C ms ss k) (slT ss k)).1 (srAt (rowsTo ns C ms ss k) (slT ss k)).2 (mkT C ms ss k) (gaAt ms k).1 W (rowsTo_lt ok k (by omega) _) (mkT_lt ok hk)
  have hwi := fun (k : Nat) (hk : k < ms.length) W => with_any (srAt (rowsTo ns C ms ss k) (slT ss k)).1 (srAt (rowsTo ns C ms ss k) (slT ss k)).2 (mkT C ms ss k) (gaAt ms k).1 W (rowsTo_lt ok k (by omega) _) (mkT_lt ok hk)
  have hsl := fun (k : Nat) (hk : k < ms.length) => show (gaAt ss k).1 = (slT ss k : Nat) ∧ slT ss k < ns from by
    obtain ⟨s, e, b, e0, h0, _⟩ := ok.at' k hk
    unfold slT
    rw [e0]; exact ⟨by simp, by simpa using h0⟩
  have Hh := Lib.hid (h.kp hk); have Hs := Lib.hid (hs.kp hk); have Hk := Lib.hid hk; have Hcy := Lib.hid hcy; have Hif := Lib.hid hif; have Hwi := Lib.hid hwi; have Hsl := Lib.hid hsl
  clear hk h hs hcy hif hwi hsl ok
  go_enter Try.func53, Try.ntmps53
  go_wp2_with (first | (at_make; refine wpList_make_full _ rfl _ _ 98 rfl (w.heap.size + 1) 104 i0 (.agg #[.int .i64 0, .int .u64 0]) 2 Try.underlying98 hi0 hz0 hz1 .i64 .i64 _ _ ns rfl rfl rfl rfl (by rw [hz2]; omega) (by unfold maxLen; omega) (by simp) ?_; intro w2 hown hgrow; have k2 : Kp _ w2 := (Keeps.refl (fun _ => False) _).grown hgrow (fun k e => by cases e); have c0 := k2.cell c0; have c1 := k2.cell c1; have c2 := k2.cell c2) | fail)
  rw [hV] at hown
  have hrow0 : SRow w2 (w.heap.size + 1) (w.heap.size + 1) ns (rowsTo ns C ms ss 0) := srow_made hown
  have K2 := Lib.hid k2
  clear hown hgrow k2
  generalize (w.alloc (.cells #[.int .i64 (ns : Int), .int .i64 (C : Int), .slice ma ms.length mc] 35)) = V at *
  go_loopw [16] (fun i wq => ∃ (k : Nat), k ≤ ms.length ∧ i = .int .i64 k ∧ Kp V wq ∧ SRow wq (w.heap.size + 1) (w.heap.size + 1) ns (rowsTo ns C ms ss k) ∧ Hid (∀ j, j < k → okC ns C ms ss j = true)) (fun i _ => ms.length - (intOf i).toNat)
  case atStart => exact ⟨0, Nat.zero_le _, rfl, K2.out, hrow0, Lib.hid (fun j hj => by omega)⟩
  case round =>
    rename_i c00 c01 c02
    clear hrow0
    obtain ⟨w3, rfl⟩ : ∃ w3, w3 = wr := ⟨wr, rfl⟩
    obtain ⟨k, hk, rfl, kp, row, hno⟩ := hrel
    have d0 := kp.cell c0; have d1 := kp.cell c1; have d2 := kp.cell c2
    have Kq := Lib.hid (Hk.out.step kp)
    by_cases hlt : k < ms.length
    case neg =>
      obtain rfl : k = ms.length := by omega
      have Hz : Hid (allR ms.length (okC ns C ms ss) = true) := Lib.hid (allR_good hno.out)
      clear hno kp row
      go_wp2_with fail
      go_ret
      exact ⟨by rw [Hz.out]; rfl, Kq.out⟩
    case pos =>
      obtain ⟨b1, o1, rfl, hc1⟩ := (Hh.out.kp kp).cells (by omega)
      obtain ⟨e0, e1⟩ := hc1 k hlt
      obtain ⟨b2, o2, rfl, hc2⟩ := (Hs.out.kp kp).cells (by omega)
      obtain ⟨g0, g1⟩ := hc2 k (by omega)
      obtain ⟨hs1, hs2⟩ := Hsl.out k hlt
      have hcy := Hcy.out k hlt; have hif := Hif.out k hlt; have hwi := Hwi.out k hlt
      have hnx : rowsTo ns C ms ss (k + 1) = (rowsTo ns C ms ss k).set (slT ss k) ((gaAt ms k).1, (srAt (rowsTo ns C ms ss k) (slT ss k)).2 ||| mkT C ms ss k) := rfl
      have hok : okC ns C ms ss k = freeRow (srAt (rowsTo ns C ms ss k) (slT ss k)).1 (srAt (rowsTo ns C ms ss k) (slT ss k)).2 (gaAt ms k).1 (mkT C ms ss k) := rfl
      have hbad : okC ns C ms ss k = false → allR ms.length (okC ns C ms ss) = false := fun hh => allR_bad hlt hh
      have hnext : okC ns C ms ss k = true → ∀ j, j < k + 1 → okC ns C ms ss j = true := fun hh j hj => by
        by_cases e : j = k
        · subst e; exact hh
        · exact hno.out j (by omega)
      obtain ⟨r0, r1⟩ := row.cells _ hs2
      have rlt := row.lt
      have i1 : (k : Int) < (ms.length : Int) := by omega
      have i2 : (k : Int) < (ss.length : Int) := by omega
      have i3 : (slT ss k : Int) < (ns : Int) := by omega
      have hset := fun X (rX : SRow X (w.heap.size + 1) (w.heap.size + 1) ns (rowsTo ns C ms ss k)) => rX.set hs2 (gaAt ms k).1 ((srAt (rowsTo ns C ms ss k) (slT ss k)).2 ||| mkT C ms ss k)
      simp only [← hnx] at hset
      rw [hs1] at g0
      have ka := kp_alloc w3 (.cells #[.int .i64 (gaAt ms k).1, .int .i64 (gaAt ms k).2] 82)
      have row1 := row.kp ka
      have x0 := ka.cell d0; have x1 := ka.cell d1; have x2 := ka.cell d2; have y0 := ka.cell g0; have y1 := ka.cell g1
      have z0 : (w3.alloc (.cells #[.int .i64 (gaAt ms k).1, .int .i64 (gaAt ms k).2] 82)).cell? ⟨w3.heap.size, 0, none⟩ = some (.int .i64 (gaAt ms k).1) := by simp
      have z1 : (w3.alloc (.cells #[.int .i64 (gaAt ms k).1, .int .i64 (gaAt ms k).2] 82)).cell? ⟨w3.heap.size, 1, none⟩ = some (.int .i64 (gaAt ms k).2) := by simp
      have hbl : w.heap.size < w3.heap.size := World.block_lt_of_cell? w3 _ d0
      have Hcyk := Lib.hid hcy; have Hifk := Lib.hid hif; have Hwik := Lib.hid hwi; have Hbad := Lib.hid hbad; have Hn := Lib.hid hnext; have Hok := Lib.hid hok; have Hset := Lib.hid hset
      have Row1 := Lib.hid row1; have Kv := Lib.hid (kp.step ka)
      clear hcy hif hwi hbad hnext hok hset hnx row1 ka row kp hno hc1 hc2 d0 d1 d2 g0 g1 hs1 r0 r1
      generalize hq : srAt (rowsTo ns C ms ss k) (slT ss k) = q at *
      generalize mkT C ms ss k = mk at *
      generalize slT ss k = sl at *
      have HQ := Lib.hid hq
      clear hq
      generalize okC ns C ms ss k = okk at *
      generalize gaAt ms k = f at *
      generalize (gaAt ss k).2 = gb at *
      go_wp2_with fail
      generalize (w3.alloc (.cells #[.int .i64 f.1, .int .i64 f.2] 82)) = W at *
      have hb2 : w3.heap.size < W.heap.size := World.block_lt_of_cell? W _ z1
      have hb3 : w.heap.size < W.heap.size := by omega
      have hS : ∀ X, Kp W X → X.cell? ⟨w.heap.size, 0, none⟩ = some (.int .i64 (ns : Int)) ∧ X.cell? ⟨w.heap.size, 1, none⟩ = some (.int .i64 (C : Int)) ∧ X.cell? ⟨w.heap.size, 2, none⟩ = some (.slice (some ⟨b1, o1, none⟩) ms.length mc) ∧ X.cell? ⟨b2, o2 + k * 2, none⟩ = some (.int .i64 (sl : Int)) ∧ X.cell? ⟨b2, o2 + k * 2 + 1, none⟩ = some (.int .i64 gb) ∧ X.cell? ⟨w3.heap.size, 1, none⟩ = some (.int .i64 f.2) := fun X kX => ⟨kX.cell x0, kX.cell x1, kX.cell x2, kX.cell y0, kX.cell y1, kX.cell z1⟩
      have HS := Lib.hid hS
      have hcy2 : ∀ X, Kp W X → Calls Try.prog 80 #[.agg #[.int .i64 (ns : Int), .int .i64 (C : Int), .slice (some ⟨b1, o1, none⟩) ms.length mc], .int .i64 f.2, .int .i64 gb] X fun e w' => e = .returned (.int .u64 (mk : Int)) ∧ Kp W w' := fun X kX => (Hcyk.out X).mono fun e w' h => ⟨h.1, kX.step h.2⟩
      have Hcy2 := Lib.hid hcy2
      clear hcy2
      have Z0 := Lib.hid z0
      clear hS z0 z1 x0 x1 x2 y0 y1
      go_region_held3 (fun X => X.cell? ⟨w.heap.size, 0, none⟩ = some (.int .i64 (ns : Int)) ∧ X.cell? ⟨w.heap.size, 1, none⟩ = some (.int .i64 (C : Int)) ∧ X.cell? ⟨w.heap.size, 2, none⟩ = some (.slice (some ⟨b1, o1, none⟩) ms.length mc) ∧ X.cell? ⟨b2, o2 + k * 2, none⟩ = some (.int .i64 (sl : Int)) ∧ X.cell? ⟨b2, o2 + k * 2 + 1, none⟩ = some (.int .i64 gb) ∧ X.cell? ⟨w3.heap.size, 1, none⟩ = some (.int .i64 f.2))
        (first | exact HS.out _ (Kp.refl _) | exact HS.out _ (Keeps.drew (Kp.refl _)) | exact HS.out _ (by assumption) | exact HS.out _ (Keeps.drew (by assumption)))
        (first
          | (go_at_call 80; (with_reducible refine (Hcy2.out _ (by first | exact Kp.refl _ | exact Keeps.drew (Kp.refl _))).mono ?_); rintro e w6 ⟨rfl, k6⟩))
      all_goals
        have k7 : Kp W w6 := ⟨k6.os, k6.tape, k6.output, k6.size, k6.block⟩
        have z2 := k7.cell Z0.out
        have row6 := Row1.out.kp k7
        have K6 := Lib.hid (Kv.out.step k7)
        obtain ⟨r0, r1⟩ := row6.cells _ hs2
        rw [HQ.out] at r0 r1
        have Row6 := Lib.hid row6
        have hb4 : w3.heap.size < w6.heap.size := World.block_lt_of_cell? w6 _ z2
        have hb5 : w.heap.size + 1 < w6.heap.size := row6.lt.2
        clear k6 k7 row6
      all_goals
        go_wp2_with fail
        go_still_tail 6, (by kernel_rfl)
        change wpList _ _ _ _ _ w6.drew
        have kd : Kp w6 w6.drew := Keeps.drew (Kp.refl w6)
        have z3 := kd.cell z2
        have Row7 := Lib.hid (Row6.out.kp kd); have K7 := Lib.hid (K6.out.step kd)
        clear r0 r1 z2 kd Row6 K6
        generalize w6.drew = w7 at *
        go_wp2_with fail
        refine (Hifk.out _).mono ?_
        rintro e w8 ⟨rfl, k8⟩
        have z4 := k8.cell z3
        have row8 := Row7.out.kp k8
        have K8 := Lib.hid (K7.out.step k8)
        obtain ⟨r0, r1⟩ := row8.cells _ hs2
        rw [HQ.out] at r0 r1
        have fz := row8.fz
        have f0 := fz (sl * 2); have f1 := fz (sl * 2 + 1)
        have Row8 := Lib.hid row8
        have hb6 : w3.heap.size < w8.heap.size := World.block_lt_of_cell? w8 _ z4
        have hb7 : w.heap.size + 1 < w8.heap.size := row8.lt.2
        clear k8 row8 z3 Row7 K7 fz
        cases hfr : freeRow q.1 q.2 f.1 mk
        · have Hz := Lib.hid (Hbad.out (by rw [Hok.out, hfr]))
          go_wp2_with fail
          go_ret
          exact ⟨by rw [Hz.out]; rfl, Hk.out.step K8.out⟩
        · have Hz := Lib.hid (Hn.out (by rw [Hok.out, hfr]))
          clear hfr
          have hwi2 : ∀ X, Kp w8 X → Calls Try.prog 82 #[.agg #[.int .i64 q.1, .int .u64 (q.2 : Int)], .int .i64 f.1, .int .u64 (mk : Int)] X fun e w' => e = .returned (.agg #[.int .i64 f.1, .int .u64 ((q.2 ||| mk : Nat) : Int)]) ∧ (Kp w8 w' ∧ w'.cell? ⟨w.heap.size + 1, sl * 2, none⟩ = some (.int .i64 q.1) ∧ w'.cell? ⟨w.heap.size + 1, sl * 2 + 1, none⟩ = some (.int .u64 (q.2 : Int)) ∧ w'.frozen? ⟨w.heap.size + 1, sl * 2, none⟩ = false ∧ w'.frozen? ⟨w.heap.size + 1, sl * 2 + 1, none⟩ = false) := fun X kX => (Hwik.out X).mono fun e w' h => by
            have kk := kX.step h.2
            have rr := Row8.out.kp kk
            obtain ⟨a0, a1⟩ := rr.cells _ hs2
            rw [HQ.out] at a0 a1
            exact ⟨h.1, kk, a0, a1, rr.fz _, rr.fz _⟩
          have Hwi2 := Lib.hid hwi2
          clear hwi2
          go_wp2_with fail
          go_region_law (go_simp; go_at_call 82; (with_reducible refine (Hwi2.out _ (by first | exact Kp.refl _ | exact Keeps.drew (Kp.refl _))).mono ?_); rintro e w9 ⟨rfl, k9, s0, s1, t0, t1⟩)
          all_goals
            have row9 := Row8.out.kp k9
            have row10 := Hset.out _ row9
            have kp10 : Kp V ((w9.setCell ⟨w.heap.size + 1, sl * 2, none⟩ (.int .i64 f.1)).setCell ⟨w.heap.size + 1, sl * 2 + 1, none⟩ (.int .u64 ((q.2 ||| mk : Nat) : Int))) := ((K8.out.step k9).setCell (p := ⟨w.heap.size + 1, sl * 2, none⟩) (Or.inr (by rw [← hV]; exact Nat.le_refl _)) _).setCell (p := ⟨w.heap.size + 1, sl * 2 + 1, none⟩) (Or.inr (by rw [← hV]; exact Nat.le_refl _)) _
            have Row10 := Lib.hid row10; have Kp10 := Lib.hid kp10
            clear row9 row10 kp10 k9 s0 s1 t0 t1
            go_wp2_with fail
            go_roundw
            case rel => exact ⟨k + 1, by omega, by go_num, Kp10.out, Row10.out, Hz⟩
            case measure => simp [intOf]; omega
end Go.Proofs.Ytcelbmpdnkaamaa
