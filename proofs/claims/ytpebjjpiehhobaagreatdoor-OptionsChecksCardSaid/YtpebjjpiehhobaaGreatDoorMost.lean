/- most: the greatest sum and the first variant that has it. -/
import Derived.Test.YtpebjjpiehhobaaGreatDoorMostP
namespace Go.Proofs.YtpebjjpiehhobaaGreatDoor
open Go Go.RowKit Go.WideMaps Go.Maps
set_option linter.unusedSimpArgs false
set_option linter.unusedVariables false

theorem tbase {w : World} {base base' g n cap : Nat} {ts : List (Nat × Int)} (h : TRow w base g n cap ts) (hb : base' ≤ base) : TRow w base' g n cap ts := by
  obtain ⟨h1, h2⟩ := h.row
  refine ⟨h1, ?_⟩
  rcases h2 with h2 | ⟨g', cap', cur, e, hg, hr⟩
  · exact Or.inl h2
  · exact Or.inr ⟨g', cap', cur, e, Nat.le_trans hb hg, hr⟩

set_option maxRecDepth 100000 in
set_option maxHeartbeats 12800000 in
theorem most_any (B : Nat) (h : DH) (hn : h.n ≤ 40) (s : DS) (a : Nat) (al : Option Addr) (cl : Nat) (fs : List (List Int)) (wo : Option Addr) (wc : Nat) (ws : List Int) (w : World) (d : Dia w h s) (hfl : fs.length ≤ 12) (hwl : ws.length = fs.length) (hl : Lv w h s (List.range h.n)) (hov : ∃ ao c, h.ov = .slice ao h.n c) (hfo : OutForms w h s al fs) (hwo : OutInts w h s wo wc ws)
    (hv : ∀ k, k < fs.length → validB (fs.getD k []) h.n = true) (hbd : ∀ x ∈ ws, -1000000 ≤ x ∧ x ≤ 1000000) (ha : a < s.nodes.length) (h0 : a ≠ 0) (hlow : ∀ j, own h s j → B ≤ j) (hB : B ≤ w.heap.size) (tab : Tab B w)
    (hst : ((costM h.n fs.length : Nat) : Int) ≤ s.steps) (hst2 : s.steps ≤ 4611686018427387904) (hcnt : s.cnt + 2 * costM h.n fs.length < 2 ^ 30) :
    Calls Tryz.prog 54 #[.pointer (some ⟨h.b, 0, none⟩), .int .i32 a, .slice al fs.length cl, .slice wo ws.length wc] w (MostEnd w h s (List.range h.n) a fs ws) := by
  obtain ⟨i0, hi0, hz0, hz1, hz2⟩ := info_parts infoTerm
  have hmm := @run_makeMap Tryz.prog
  have hlt := d.lt
  have hf0 := heap_alloc_new (w.alloc (.map #[] 0)) (.cells #[.pointer (some ⟨h.b, 0, none⟩), .map (some w.heap.size)] 126)
  have hsz0 : (w.alloc (.map #[] 0)).heap.size = w.heap.size + 1 := by simp
  rw [hsz0] at hf0
  have hm0 : MapV ((w.alloc (.map #[] 0)).alloc (.cells #[.pointer (some ⟨h.b, 0, none⟩), .map (some w.heap.size)] 126)) Tryz.prog 9 w.heap.size 0 (fun _ => none) := (MapV.made w _ _).kept (Below.heap_alloc _ _ _ (by simp))
  have hk0 : Keeps (fun _ => False) w ((w.alloc (.map #[] 0)).alloc (.cells #[.pointer (some ⟨h.b, 0, none⟩), .map (some w.heap.size)] 126)) := ((Keeps.refl _ _).alloc _).alloc _
  have hsz : ((w.alloc (.map #[] 0)).alloc (.cells #[.pointer (some ⟨h.b, 0, none⟩), .map (some w.heap.size)] 126)).heap.size = w.heap.size + 2 := by simp
  have Hd := Lib.hid d; have Hl := Lib.hid hl; have Hfo := Lib.hid hfo; have Hwo := Lib.hid hwo; have Hv := Lib.hid hv; have Hbd := Lib.hid hbd; have Hlow := Lib.hid hlow; have Htab := Lib.hid tab; have Hf0 := Lib.hid hf0; have Hm0 := Lib.hid hm0; have Hk0 := Lib.hid hk0; have Hlt := Lib.hid hlt; have Hst := Lib.hid hst; have Hcnt := Lib.hid hcnt
  clear d hl hfo hwo hv hbd hlow tab hf0 hm0 hk0 hlt hst hcnt
  go_enter Tryz.func54, Tryz.ntmps54
  go_wp2_with (first | (at_make; refine wpList_make_full _ rfl _ _ 127 rfl (w.heap.size + 2) 129 i0 (.agg #[.int .i32 0, .int .i64 0]) 2 Tryz.underlying127 hi0 hz0 hz1 .i64 .i64 _ _ fs.length rfl rfl rfl rfl (by rw [hz2]; omega) (by unfold maxLen; omega) (by simp) ?_; intro w2 hown hgrow) | fail)
  have hk2 : Keeps (fun _ => False) w w2 := grown_none Hk0.out hgrow
  have hg0 : Keeps (fun _ => False) ((w.alloc (.map #[] 0)).alloc (.cells #[.pointer (some ⟨h.b, 0, none⟩), .map (some w.heap.size)] 126)) w2 := grown_none (Keeps.refl _ _) hgrow
  rw [hsz] at hown
  have hrow0 : TRow w2 w.heap.size (w.heap.size + 2) fs.length fs.length (List.replicate fs.length (0, 0)) := tbase (by rw [made_two] at hown; exact ⟨hown⟩) (by omega)
  have hf2 : FBlk w2 h ⟨w.heap.size + 1, w.heap.size⟩ := (hg0.block (w.heap.size + 1) (by omega) (fun e => e)).trans Hf0.out
  have hm2 : MapV w2 Tryz.prog 9 w.heap.size 0 (fun _ => none) := Hm0.out.kept (hg0.block w.heap.size (by omega) (fun e => e))
  have U2 : Upd w w2 h s s := (Upd.refl Hd.out).quiet hk2
  have hinv0 : MInv w w2 h s (List.range h.n) fs ws w.heap.size (w.heap.size + 2) 0 w2 s (List.replicate fs.length (0, 0)) :=
    ⟨U2, FUpd.refl U2.dia, hrow0, fun e => by have := Hlt.out _ e; omega, fun j hj => by omega, fun j hj => by omega, fun j hj => by omega, by omega, Int.le_refl _, by omega⟩
  have Hinv0 := Lib.hid hinv0; have Hf2 := Lib.hid hf2; have Hm2 := Lib.hid hm2
  clear hown hgrow hrow0 hf2 hm2 U2 hinv0 hk2 hg0
  go_loopw [24] (fun i wr => ∃ (k : Nat) (s' : DS) (ts : List (Nat × Int)), k ≤ fs.length ∧ i = .int .i64 k ∧ MInv w w2 h s (List.range h.n) fs ws w.heap.size (w.heap.size + 2) k wr s' ts) (fun i _ => fs.length - (intOf i).toNat)
  case atStart => exact ⟨0, s, _, Nat.zero_le _, rfl, Hinv0.out⟩
  case round =>
    clear Hinv0
    obtain ⟨k, s', ts, hk, rfl, inv⟩ := hrel
    by_cases hlt2 : k < fs.length
    · have hof := Hfo.out.upd inv.updW
      obtain ⟨fb, off, rfl, hfo, hfc⟩ := hof.cells (by omega)
      obtain ⟨fa, fc, hck, hints⟩ := hfc k hlt2
      have hwi := Hwo.out
      obtain ⟨wb, wof, rfl, hwc⟩ := hwi.ints.cells (by omega)
      have hwout := hwi.out wb wof (by omega) rfl
      have hvk := Hv.out k hlt2
      have hmul1 : (k + 1) * (100 * 2 ^ h.n) ≤ fs.length * (100 * 2 ^ h.n) := Nat.mul_le_mul_right _ (by omega : k + 1 ≤ fs.length)
      rw [Nat.add_mul] at hmul1
      have t1 := inv.steps; have t2 := inv.le; have t3 := inv.cnt
      have t4 := Hst.out; have t5 := Hcnt.out
      unfold costM at t4 t5
      have hofk : ∀ V, Keeps (fun _ => False) wr V → Calls Tryz.prog 73 #[.pointer (some ⟨h.b, 0, none⟩), .slice fa (fs.getD k []).length fc] V (fun e w1 => ∃ s1 kn, e = .returned (.int .i32 (kn : Nat)) ∧ Upd wr w1 h s' s1 ∧ OfPost wr h s' (fun σ => evalF (byLev (List.range h.n) σ) (fs.getD k [])) (100 * 2 ^ h.n) w1 s1 kn) := fun V kv => by
        have uq : Upd wr V h s' s' := (Upd.refl inv.updW.dia).quiet kv
        refine (of_any h (by omega) s' (List.range h.n) fa fc (fs.getD k []) V uq.dia ((Hl.out.upd inv.updW).upd uq) (hints.upd uq) hvk (by omega) (by omega) (by omega)).mono ?_
        rintro e w1 ⟨s1, kn, he, p⟩
        exact ⟨s1, kn, he, uq.trans p.upd, uq.trans p.upd, p.hk, p.mean, p.steps, p.le, p.cnt⟩
      have hstep := fun w1 s1 kn p => MInv.step (w1 := w1) (s1 := s1) (kn := kn) inv (by omega) hlt2 p
      have hS : ∀ V s1, Upd wr V h s' s1 → V.cell? ⟨wb, wof + k, none⟩ = some (.int .i64 (ws.getD k 0)) ∧ V.cell? ⟨w.heap.size + 2, k * 2, none⟩ = some (cellOr V ⟨w.heap.size + 2, k * 2, none⟩) ∧ V.cell? ⟨w.heap.size + 2, k * 2 + 1, none⟩ = some (cellOr V ⟨w.heap.size + 2, k * 2 + 1, none⟩) ∧ V.frozen? ⟨w.heap.size + 2, k * 2, none⟩ = false ∧ V.frozen? ⟨w.heap.size + 2, k * 2 + 1, none⟩ = false := fun V s1 u => by
        have hr := inv.row.of_block (u.keeps.block _ inv.row.lt.2 inv.no)
        exact ⟨hwout.cell (inv.updW.trans u) (hwc k (by omega)), cellOr_some (hr.cell hlt2).1, cellOr_some (hr.cell hlt2).2, hr.frozen _, hr.frozen _⟩
      have hwne : wb ≠ w.heap.size + 2 := by have := hwout.lt; omega
      have hT : ∀ V s1 (x y : Value), Upd wr V h s' s1 → ((V.setCell ⟨w.heap.size + 2, k * 2, none⟩ x).setCell ⟨w.heap.size + 2, k * 2 + 1, none⟩ y).cell? ⟨wb, wof + k, none⟩ = some (.int .i64 (ws.getD k 0)) ∧ ((V.setCell ⟨w.heap.size + 2, k * 2, none⟩ x).setCell ⟨w.heap.size + 2, k * 2 + 1, none⟩ y).cell? ⟨w.heap.size + 2, k * 2, none⟩ = some (cellOr ((V.setCell ⟨w.heap.size + 2, k * 2, none⟩ x).setCell ⟨w.heap.size + 2, k * 2 + 1, none⟩ y) ⟨w.heap.size + 2, k * 2, none⟩) ∧ ((V.setCell ⟨w.heap.size + 2, k * 2, none⟩ x).setCell ⟨w.heap.size + 2, k * 2 + 1, none⟩ y).cell? ⟨w.heap.size + 2, k * 2 + 1, none⟩ = some (cellOr ((V.setCell ⟨w.heap.size + 2, k * 2, none⟩ x).setCell ⟨w.heap.size + 2, k * 2 + 1, none⟩ y) ⟨w.heap.size + 2, k * 2 + 1, none⟩) ∧ ((V.setCell ⟨w.heap.size + 2, k * 2, none⟩ x).setCell ⟨w.heap.size + 2, k * 2 + 1, none⟩ y).frozen? ⟨w.heap.size + 2, k * 2, none⟩ = false ∧ ((V.setCell ⟨w.heap.size + 2, k * 2, none⟩ x).setCell ⟨w.heap.size + 2, k * 2 + 1, none⟩ y).frozen? ⟨w.heap.size + 2, k * 2 + 1, none⟩ = false := fun V s1 x y u => by
        obtain ⟨e1, e2, e3, e4, e5⟩ := hS V s1 u
        have e3' : (V.setCell ⟨w.heap.size + 2, k * 2, none⟩ x).cell? ⟨w.heap.size + 2, k * 2 + 1, none⟩ = some (cellOr V ⟨w.heap.size + 2, k * 2 + 1, none⟩) := by
          rw [World.cell?_setCell_other (h := by intro e; have := congrArg Addr.off e; simp at this)]; exact e3
        refine ⟨?_, cellOr_some (v := x) ?_, cellOr_some (World.cell?_setCell_same _ _ _ e3'), ?_, ?_⟩
        · rw [World.cell?_setCell_other (h := fun e => hwne (congrArg Addr.block e).symm), World.cell?_setCell_other (h := fun e => hwne (congrArg Addr.block e).symm)]; exact e1
        · rw [World.cell?_setCell_other (h := by intro e; have := congrArg Addr.off e; simp at this)]; exact World.cell?_setCell_same _ _ _ e2
        · rw [World.frozen?_setCell, World.frozen?_setCell]; exact e4
        · rw [World.frozen?_setCell, World.frozen?_setCell]; exact e5
      have i1 : (k : Int) < (fs.length : Int) := by omega
      have Hd1 := Lib.hid (Upd.refl inv.updW.dia)
      have Ho := Lib.hid hofk; have Hs := Lib.hid hstep; have HS := Lib.hid hS; have HT := Lib.hid hT
      clear hofk hstep hS hT inv hof hfc hints t1 t2 t3 t4 t5 hmul1 hvk hfo hwi hwc hwout
      generalize fs.getD k [] = f at *
      generalize ws.getD k 0 = wk at *
      go_wp2_with fail
      go_region_held3 (fun V => V.cell? ⟨wb, wof + k, none⟩ = some (.int .i64 wk) ∧ V.cell? ⟨w.heap.size + 2, k * 2, none⟩ = some (cellOr V ⟨w.heap.size + 2, k * 2, none⟩) ∧ V.cell? ⟨w.heap.size + 2, k * 2 + 1, none⟩ = some (cellOr V ⟨w.heap.size + 2, k * 2 + 1, none⟩) ∧ V.frozen? ⟨w.heap.size + 2, k * 2, none⟩ = false ∧ V.frozen? ⟨w.heap.size + 2, k * 2 + 1, none⟩ = false)
        (first | exact HS.out _ _ (by assumption) | exact HS.out _ _ (Upd.drew (by assumption)) | exact HS.out _ _ Hd1.out | exact HS.out _ _ Hd1.out.drew | exact HT.out _ _ _ _ (by assumption) | exact HT.out _ _ _ _ (Upd.drew (by assumption)))
        ((go_at_call 73; (with_reducible refine (Ho.out _ (by first | exact Keeps.refl _ _ | exact (Keeps.refl _ _).drew)).mono ?_); rintro e w1 ⟨s1, kn, rfl, u1, p1⟩))
      have hst1 := (Hs.out w1 s1 kn p1).2
      have Hi2 := Lib.hid hst1
      clear hst1 u1 p1
      go_wp2_with fail
      go_roundw
      case rel => exact ⟨k + 1, s1, _, by omega, by go_num, Hi2.out⟩
      case measure => simp [intOf]; omega
    · obtain rfl : k = fs.length := by omega
      obtain ⟨hl3, hwt3, hin3⟩ := inv.bd hwl Hbd.out hfl
      have hrw := inv.row
      rw [← hl3] at hrw
      have t1 := inv.steps; have t2 := inv.le; have t3 := inv.cnt
      have t4 := Hst.out; have t5 := Hcnt.out
      unfold costM at t4 t5
      have hm12 : ts.length * 2 ^ h.n ≤ 12 * 2 ^ h.n := Nat.mul_le_mul_right _ (by omega)
      have hno1 : ¬ own h s (w.heap.size + 1) := fun e => by have := Hlt.out _ e; omega
      have hfl2 : w.heap.size + 1 < w2.heap.size := Hf2.out.cells.2.2
      have hset := settle_any h (by omega) s' ⟨w.heap.size + 1, w.heap.size⟩ w.heap.size (w.heap.size + 2) ts.length 0 a ts wr inv.updW.dia ((inv.upd.block hfl2 hno1 (by omega)).trans Hf2.out) (inv.upd.no hfl2 hno1) (by (try dsimp only); omega) inv.no (by rw [hl3] at hrw ⊢; exact hrw) (by omega) hin3 (by omega) (by omega) (by omega) (by omega)
      rw [hl3] at hset
      (try dsimp only at hset)
      have Hset := Lib.hid hset; have Hinv := Lib.hid inv; have Hl3 := Lib.hid hl3; have Hm12 := Lib.hid hm12
      clear hset inv hl3 hwt3 hin3 hrw t1 t2 t3 t4 t5 hm12
      go_wp2_with fail
      refine Hset.out.mono ?_
      rintro e w3 ⟨s3, us, sum0, rfl, u3, row3, sm⟩
      obtain ⟨hF3, hr3, hU3, hq1, hq2, hwu⟩ := most_mid Hd.out Hlow.out hB Htab.out Hf2.out Hm2.out Hinv.out hwl Hbd.out hfl ha u3 row3 sm
      have hb12 := box1_at (w := w3) (x := .int .i32 a) (y := .slice (some ⟨w.heap.size + 2, 0, none⟩) us.length fs.length) (t := 131)
      have hR1 : Keeps (fun _ => False) w3 (w3.alloc (.cells #[.int .i32 a, .slice (some ⟨w.heap.size + 2, 0, none⟩) us.length fs.length] 131)) := (Keeps.refl _ _).alloc _
      have hs12 : w3.heap.size < (w3.alloc (.cells #[.int .i32 a, .slice (some ⟨w.heap.size + 2, 0, none⟩) us.length fs.length] 131)).heap.size := by simp
      have hF4 := hF3.quiet hR1
      have hr4 := hr3.on (G := fun _ => False) ((FUpd.refl hF3.dia).quiet hR1) (fun _ _ e => e)
      have hU4 := hU3.quiet hR1
      have hno3 : ¬ own h s3 w3.heap.size := fun e => by have := hF3.dia.lt _ e; omega
      have hws : w.heap.size ≤ w3.heap.size := hU3.keeps.size
      have hws2 : w.heap.size + 2 < w3.heap.size := row3.lt.2
      have t4 := Hst.out; have t5 := Hcnt.out
      unfold costM at t4 t5
      have m1 := sm.steps; have m2 := sm.le; have m3 := sm.cnt; have m4 := Hm12.out
      have i1 := Hinv.out.steps; have i2 := Hinv.out.le; have i3 := Hinv.out.cnt
      have hP : 0 < 2 ^ h.n := Nat.two_pow_pos _
      have hcR : costR h.n = 12 + 24 * 2 ^ h.n + costB h.n h.n := by unfold costR costK; omega
      have hnR : h.n * 2 ^ h.n ≤ h.n * costR h.n := Nat.mul_le_mul_left _ (by omega)
      have hbest := best_spec B h hn _ h.n hn s3 (fun _ => none) 0 a (some ⟨w.heap.size + 2, 0, none⟩) fs.length us lowest 0 _ (hr4.hyp hF4 (by omega) (by unfold FB lowest; omega) (by unfold FB lowest; omega) (by omega) (by omega) (by omega) (by omega))
      have hst4 : ((costB h.n h.n + h.n * costR h.n : Nat) : Int) ≤ s3.steps := by omega
      have hst5 : s3.steps ≤ 4611686018427387904 := by omega
      have hcn4 : s3.cnt + 2 * (costB h.n h.n + h.n * costR h.n) < 2 ^ 30 := by omega
      have hnP : 2 ^ h.n + h.n * 2 ^ h.n < 1099511627776 := by omega
      have Hbest := Lib.hid hbest; have Sm := Lib.hid sm; have HF3 := Lib.hid hF3; have HF4 := Lib.hid hF4; have Hr4 := Lib.hid hr4; have HU4 := Lib.hid hU4; have Hb12 := Lib.hid hb12; have Hst4 := Lib.hid hst4; have Hcn4 := Lib.hid hcn4; have HnP := Lib.hid hnP; have Hwu := Lib.hid hwu
      clear hbest sm hF3 hF4 hr3 hr4 hU3 hU4 hb12 hR1 u3 row3 t4 t5 m1 m2 m3 m4 i1 i2 i3 hP hcR hnR hst4 hcn4 hnP hwu
      go_wp2_with fail
      refine Hbest.out.mono ?_
      generalize (w3.alloc (.cells #[.int .i32 a, .slice (some ⟨w.heap.size + 2, 0, none⟩) us.length fs.length] 131)) = W3 at *
      rintro e w4 ⟨s4, bf4, cb4, res, rfl, p⟩
      have ha3 : a < s3.nodes.length := Hr4.out.ha
      obtain ⟨hR, hres1, hres2⟩ := rinv_start HF3.out.dia.inv.wf ha3 h0 Hr4.out.inT Hwu.out p
      have hr5 := Hr4.out.on p.upd (fun g e hg => (Hr4.out.out g e).2.2 hg)
      have hbx := (p.upd.block hs12 hno3 (by (try dsimp only); omega)).trans Hb12.out
      have hU5 : Upd w w4 h s s4 := (((HU4.out.toF (G := fun b => b = w.heap.size)).trans p.upd)).toUpd (fun b e => by omega)
      have hlv := lvAt_of (f := ⟨w.heap.size + 1, w.heap.size⟩) (Hl.out.upd hU5) (fun hpos ao cap b off e1 e2 => by
        obtain ⟨ao', cap', e3, o⟩ := Hl.out.ex
        have e4 := e1.symm.trans e3
        simp only [Value.slice.injEq] at e4
        have := (o.out b off (by simpa using hpos) (e4.1.symm.trans e2)).lt
        (try dsimp only)
        omega)
      have p1 := p.steps; have p2 := p.le; have p3 := p.cnt; have p4 := p.cb
      have t4 := Hst4.out; have t5 := Hcn4.out; have t6 := HnP.out
      have hreach := reach_any B h hn _ s4 bf4 cb4 a (w.heap.size + 2) fs.length us res w4 p.fin hr5 hlv hov hR (by omega) (by omega) (by omega) (by omega) (by omega) (by omega)
      obtain ⟨b1, b2, b3, b4⟩ := at_two hbx
      have hw1 : IntKind.i64.wrap (sum0 + res) = sum0 + res := IntWalk.i64_in _ (by omega)
      have hs4 : w.heap.size ≤ w4.heap.size := hU5.keeps.size
      have Hreach := Lib.hid hreach; have P := Lib.hid p; have HU5 := Lib.hid hU5
      clear hreach p hU5 hlv hR hr5 hbx p1 p2 p3 p4 t4 t5 t6 Hbest
      go_wp2_with fail
      refine Hreach.out.mono ?_
      rintro e w5 ⟨g, vs, s5, bf5, cb5, rfl, hrow5, hreached, hF5, hu5⟩
      have hfin : MostEnd w h s (List.range h.n) a fs ws (.returned (.tuple #[.int .i64 (sum0 + res), .slice (some ⟨g, 0, none⟩) h.n h.n])) w5 :=
        ⟨g, vs, s5, sum0 + res, rfl, hrow5.low hs4, best_all Hinv.out hwl Hd.out.inv.wf ha Sm.out HF3.out.dia.inv.wf P.out hreached, (((HU5.out.toF (G := fun b => b = w.heap.size)).trans hu5)).mono (fun b e => Or.inr (by omega))⟩
      have Hfin := Lib.hid hfin
      clear hfin hrow5 hreached hF5 hu5
      go_wp2_with fail
      refine bodyPost_ret (v := .tuple #[.int .i64 (sum0 + res), .slice (some ⟨g, 0, none⟩) h.n h.n]) ?_ rfl Hfin.out
      simp [results, Tryz.results54, go_sem]
end Go.Proofs.YtpebjjpiehhobaaGreatDoor
