/- reach: the first variant of the greatest sum. -/
import Derived.Test.YtpebjjpiehhobaaGreatDoorReachP
namespace Go.Proofs.YtpebjjpiehhobaaGreatDoor
open Go Go.RowKit Go.WideMaps Go.Maps
set_option linter.unusedSimpArgs false
set_option linter.unusedVariables false

def ReachEnd (B : Nat) (w : World) (h : DH) (s : DS) (f : FH) (cb a : Nat) (ts : List (Nat × Int)) (sum : Int) (e : Ending) (w' : World) : Prop :=
  ∃ g vs s1 bf1 cb1, e = .returned (.slice (some ⟨g, 0, none⟩) h.n h.n) ∧ BRow w' w.heap.size g h.n h.n vs ∧ Reached s.nodes a ts sum vs ∧ Fin B w' h s1 f bf1 cb1 ∧ FUpd (fun b => b = f.bb) w w' h s s1

theorem grown_none {w a w2 : World} (k : Keeps (fun _ => False) w a) (hg : a.grownBy w2 none) : Keeps (fun _ => False) w w2 := k.grown hg (fun k e => by cases e)
theorem BRow.low {w : World} {base base' g n cap : Nat} {xs : List Bool} (h : BRow w base g n cap xs) (hb : base' ≤ base) : BRow w base' g n cap xs := by
  obtain ⟨h1, h2⟩ := h.row
  refine ⟨h1, ?_⟩
  rcases h2 with h2 | ⟨g', cap', cur, e, hg, hr⟩
  · exact Or.inl h2
  · exact Or.inr ⟨g', cap', cur, e, Nat.le_trans hb hg, hr⟩

set_option maxRecDepth 100000 in
set_option maxHeartbeats 12800000 in
theorem reach_any (B : Nat) (h : DH) (hn : h.n ≤ 40) (f : FH) (s : DS) (bf : Value → Option Value) (cb a : Nat) (g cap : Nat) (ts : List (Nat × Int)) (sum : Int) (w : World) (F : Fin B w h s f bf cb) (r : RestAt w h s f 0 a (some ⟨g, 0, none⟩) ts) (hl : LvAt w h s f) (ho : ∃ ao c, h.ov = .slice ao h.n c)
    (R : RInv s.nodes a ts sum s.nodes a ts sum []) (hs1 : -1099511627 ≤ sum) (hs2 : sum ≤ 1099511627) (hst : ((h.n * costR h.n : Nat) : Int) ≤ s.steps) (hst2 : s.steps ≤ 4611686018427387904) (hcnt : s.cnt + 2 * (h.n * costR h.n) < 2 ^ 30) (hcb : cb + h.n * 2 ^ h.n < 1099511627776) :
    Calls Tryz.prog 79 #[.pointer (some ⟨f.b, 0, none⟩), .agg #[.int .i32 a, .slice (some ⟨g, 0, none⟩) ts.length cap], .int .i64 sum] w (ReachEnd B w h s f cb a ts sum) := by
  obtain ⟨ao, oc, hov⟩ := ho
  obtain ⟨la, lc, hlv, hlc⟩ := hl.ex
  obtain ⟨f1, f2, f3⟩ := F.blk.cells
  obtain ⟨c0, c1, c2, c3, c4, c5⟩ := F.dia.cells
  have hhb : h.b < w.heap.size := F.dia.lt _ (Or.inl rfl)
  rw [hov] at c0
  rw [hlv] at c1
  have hb := box1_at (w := w) (x := .int .i32 a) (y := .slice (some ⟨g, 0, none⟩) ts.length cap) (t := 131)
  have hk1 : Keeps (fun _ => False) w (w.alloc (.cells #[.int .i32 a, .slice (some ⟨g, 0, none⟩) ts.length cap] 131)) := (Keeps.refl _ _).alloc _
  have hsz : (w.alloc (.cells #[.int .i32 a, .slice (some ⟨g, 0, none⟩) ts.length cap] 131)).heap.size = w.heap.size + 1 := by simp
  obtain ⟨i0, hi0, hz0, hz1, hz2⟩ := info_parts infoBool
  have HF := Lib.hid F; have Hr := Lib.hid r; have Hb := Lib.hid hb; have Hk1 := Lib.hid hk1; have HR := Lib.hid R
  clear F r hb hk1 R
  go_enter Tryz.func79, Tryz.ntmps79
  go_wp2_with (first | (at_make; refine wpList_make_full _ rfl _ _ 39 rfl (w.heap.size + 1) 4 i0 (.bool false) 1 Tryz.underlying39 hi0 hz0 hz1 .i64 .i64 _ _ h.n rfl rfl rfl rfl (by rw [hz2]; omega) (by unfold maxLen; omega) (by simp) ?_; intro w2 hown hgrow; have hcA := (grown_none Hk1.out hgrow).cell f1 (fun e => e); have hcB := (grown_none Hk1.out hgrow).cell c1 (fun e => e)) | fail)
  rw [hsz] at hown
  have k2 : Keeps (fun _ => False) w w2 := grown_none Hk1.out hgrow
  have hb2 : w2.heap[w.heap.size]? = some (.cells #[.int .i32 a, .slice (some ⟨g, 0, none⟩) ts.length cap] 131 (0, 0)) := ((grown_none (Keeps.refl _ _) hgrow).block _ (by omega) (fun e => e)).trans Hb.out
  have hrow0 : BRow w2 w.heap.size (w.heap.size + 1) h.n h.n (List.replicate h.n false) := (bools_made hown).low (by omega)
  have hrel0 := rch_start HF.out Hr.out HR.out hs1 hs2 k2 hb2 hrow0
  have Hrel := Lib.hid hrel0
  have hB : B ≤ w.heap.size := HF.out.size
  clear hrel0 hrow0 hb2 k2 hown hgrow hcA hcB
  go_loopw [2, 29] (fun sm i wr => ∃ (k : Nat) (x : Int), k ≤ h.n ∧ i = .int .i64 k ∧ sm = .int .i64 x ∧ RchRel B w h s f cb a ts sum k wr x) (fun _ i _ => h.n - (intOf i).toNat)
  case atStart => exact ⟨0, sum, Nat.zero_le _, rfl, rfl, Hrel.out⟩
  case round =>
    clear Hrel
    obtain ⟨k, x, hk, rfl, rfl, rel⟩ := hrel
    by_cases hkn : k < h.n
    · obtain ⟨s', bf', cb', a', gr, us, cap', vs, Rk, hv, rw, hx1, hx2⟩ := rel
      obtain ⟨lb, off, rfl, hl1, hl2, hl3, hl4⟩ := hlc (by omega)
      have hlev := rw.upd.keeps.cell (hl4 k hkn) (fun e => e.elim hl2 hl3)
      obtain ⟨b1, b2, b3, b4⟩ := at_two rw.box.at'
      have i1 : (k : Int) < (h.n : Int) := by omega
      have hmul : (k + 1) * costR h.n ≤ h.n * costR h.n := Nat.mul_le_mul_right _ (by omega)
      have hmul2 : (k + 1) * 2 ^ h.n ≤ h.n * 2 ^ h.n := Nat.mul_le_mul_right _ (by omega)
      rw [Nat.add_mul, Nat.one_mul] at hmul hmul2
      have hcR : costR h.n = 12 + 24 * 2 ^ h.n + costB h.n h.n := by unfold costR costK; omega
      have hcm := costB_mono h.n (m := h.n - (k + 1)) (m' := h.n) (by omega)
      have h2m : 2 ^ (h.n - (k + 1)) ≤ 2 ^ h.n := Nat.pow_le_pow_right (by omega) (by omega)
      have hm : us.length * 2 ^ h.n ≤ 12 * 2 ^ h.n := Nat.mul_le_mul_right _ rw.rest.len
      have q1 := rw.steps; have q2 := rw.le; have q3 := rw.cnt; have q4 := rw.cb
      have hwt := rw.rest.wt
      have hna := (narrow_any h (by omega) s' f a' gr cap' k 1 (Or.inl rfl) us wr rw.fin.dia rw.fin.blk rw.fin.nob hkn rw.rest.ha rw.rest.low rw.rest.inT rw.rest.terms rw.rest.len (by omega) (by omega) (by omega) (by omega)).mono (fun e w' hh => narrow_nr rw.fin.dia hkn hh)
      have Hna := Lib.hid hna; have Rk' := Lib.hid Rk; have Rw := Lib.hid rw; have Hm := Lib.hid hm; have Hmul := Lib.hid hmul; have Hmul2 := Lib.hid hmul2; have HcR := Lib.hid hcR; have Hcm := Lib.hid hcm; have H2m := Lib.hid h2m; have Hq := Lib.hid (And.intro q1 (And.intro q2 (And.intro q3 q4))); have Hv := Lib.hid hv; have Hst := Lib.hid hst; have Hcnt := Lib.hid hcnt; have Hcb := Lib.hid hcb
      clear hna Rk rw hm hmul hmul2 hcR hcm h2m q1 q2 q3 q4 hv hwt
      go_wp2_with fail
      refine Hna.out.mono ?_
      rintro e w1 ⟨s1, a1, ao1, us1, d, cap1, rfl, n1⟩
      obtain ⟨M, hd1, hd2⟩ := mid_start (cap1 := cap1) Rw.out n1 hB
      have hb10 := box1_at (w := w1) (x := .int .i32 a1) (y := .slice ao1 us1.length cap1) (t := 131)
      obtain ⟨z1, z2, z3, z4⟩ := at_two hb10
      have hs10 : w1.heap.size < (w1.alloc (.cells #[.int .i32 a1, .slice ao1 us1.length cap1] 131)).heap.size := by simp
      have hw1 : IntKind.i64.wrap (x - d) = x - d := IntWalk.i64_in _ (by omega)
      have hw2 : IntKind.i64.wrap (x - d - 1) = x - d - 1 := IntWalk.i64_in _ (by omega)
      have hbest := best_spec B h hn f (h.n - (k + 1)) (by omega) s1 bf' cb' a1 ao1 cap1 us1 (x - d - 1) (k + 1) (w1.alloc (.cells #[.int .i32 a1, .slice ao1 us1.length cap1] 131)) (by
        have o1 := Hmul.out; have o2 := Hmul2.out; have o3 := HcR.out; have o4 := Hcm.out; have o5 := H2m.out
        have m1 := M.rw.steps; have m2 := M.rw.le; have m3 := M.rw.cnt; have m4 := M.rw.cb
        exact M.rest.hyp M.rw.fin (by omega) (by unfold FB; omega) (by unfold FB; omega) (by omega) (by omega) (by omega) (by omega))
      have HM := Lib.hid M; have N1 := Lib.hid n1; have Hbest := Lib.hid hbest
      clear M n1 hbest hb10
      go_wp2_with fail
      refine Hbest.out.mono ?_
      rintro e w2' ⟨s2, bf2, cb2, res, rfl, p⟩
      have hres : -1099511627776 ≤ res ∧ res ≤ 1099511627776 := by
        by_cases h0 : a1 = 0
        · have := p.top.none (fun σ => by rw [h0, sem_no])
          unfold lowest at this; omega
        · have b := p.bd h0
          have hw := HM.out.rest.wt
          have h4 := hiT_nonneg us1; have h5 := loT_nonpos us1
          unfold Wt at hw; omega
      have hw3 : IntKind.i64.wrap (d + res) = d + res := IntWalk.i64_in _ (by omega)
      have p4 := p.cb
      have M2 := HM.out.on (C' := costB h.n (h.n - (k + 1))) (D' := 2 ^ (h.n - (k + 1))) p.upd (fun _ e => e) p.fin p.steps p.le p.cnt (by omega)
      have hs2' : w1.heap.size < w2'.heap.size := Nat.lt_of_lt_of_le hs10 p.upd.keeps.size
      clear p4 Hbest
      by_cases hlt : d + res < x
      · have hdec : decide (d + res < x) = true := decide_eq_true hlt
        have hrowc := M2.rw.row.cell (j := k) hkn
        have hrowf := M2.rw.row.frozen k
        have M3 := M2.setv k true f3 hB
        obtain ⟨y1, y2, y3, y4⟩ := at_two M3.rw.box.at'
        have o1 := Hmul.out; have o2 := Hmul2.out; have o3 := HcR.out; have o4 := Hcm.out; have o5 := H2m.out; have o6 := Hm.out
        have m1 := M3.rw.steps; have m2 := M3.rw.le; have m3 := M3.rw.cnt
        have hwt := M3.rw.rest.wt
        have hna2 := (narrow_any h (by omega) s2 f a' gr cap' k 2 (Or.inr rfl) us _ M3.rw.fin.dia M3.rw.fin.blk M3.rw.fin.nob hkn M3.rw.rest.ha M3.rw.rest.low M3.rw.rest.inT M3.rw.rest.terms M3.rw.rest.len (by omega) (by omega) (by omega) (by omega)).mono (fun e w' hh => narrow_nr M3.rw.fin.dia hkn hh)
        have Hna2 := Lib.hid hna2; have P := Lib.hid p
        clear hna2 p M2 M3 o1 o2 o3 o4 o5 o6 m1 m2 m3 hwt
        go_wp2_with fail
        refine Hna2.out.mono ?_
        rintro e w4 ⟨s3, a2, ao2, us2, d2, cap2, rfl, n2⟩
        obtain ⟨x1, x2, hd, hrel⟩ := rch_true (cap2 := cap2) Rk'.out Hv.out hkn Rw.out.fin.dia.inv.wf Rw.out.rest.ha (fun t ht => ⟨(Rw.out.rest.inT t ht).1, Nat.zero_le _⟩) N1.out HM.out (by omega) P.out f3 hB hlt hx1 hx2 hn n2
        obtain ⟨e1, e2, e3, e4⟩ := at_two x1.at'
        obtain ⟨g1, g2, g3, g4⟩ := at_two x2.at'
        have hnb := HM.out.n1
        have hsz4 : w1.heap.size < w4.heap.size := x1.lt
        have hsz5 : w.heap.size < w4.heap.size := x2.lt
        have hw4 : IntKind.i64.wrap (x - d2) = x - d2 := IntWalk.i64_in _ (by omega)
        have Hrel := Lib.hid hrel
        clear hrel x1 x2 n2 Hna2 P y1 y2 y3 y4 hrowc hrowf
        go_wp2_with fail
        go_roundw
        case rel => exact ⟨k + 1, x - d2, by omega, by go_num, rfl, Hrel.out⟩
        case measure => simp [intOf]; omega
      · have hdec : decide (d + res < x) = false := decide_eq_false hlt
        obtain ⟨y1, y2, y3, y4⟩ := at_two M2.rw.box.at'
        obtain ⟨e1, e2, e3, e4⟩ := at_two M2.box.at'
        have hnb := HM.out.n1
        have hrel := rch_false Rk'.out Hv.out hkn N1.out HM.out (by omega) p f3 hB (by omega) hd1 hd2 hx1 hx2 hn
        have Hrel := Lib.hid hrel
        clear hrel M2 p
        go_wp2_with fail
        go_roundw
        case rel => exact ⟨k + 1, x - d, by omega, by go_num, rfl, Hrel.out⟩
        case measure => simp [intOf]; omega
    · obtain rfl : k = h.n := by omega
      have hdone := rel.done
      have Hd := Lib.hid hdone
      clear hdone rel
      go_wp2_with fail
      go_ret
      obtain ⟨vs, s1, bf1, cb1, q1, q2, q3, q4⟩ := Hd.out
      exact ⟨_, vs, s1, bf1, cb1, rfl, q1, q2, q3, q4⟩
end Go.Proofs.YtpebjjpiehhobaaGreatDoor
