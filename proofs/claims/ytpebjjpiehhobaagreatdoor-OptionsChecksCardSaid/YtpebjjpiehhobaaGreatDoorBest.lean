/- best. -/
import Derived.Test.YtpebjjpiehhobaaGreatDoorBestP
namespace Go.Proofs.YtpebjjpiehhobaaGreatDoor
open Go Go.RowKit Go.WideMaps Go.Maps
set_option linter.unusedSimpArgs false
set_option linter.unusedVariables false

theorem BestHyp.key {B m : Nat} {h : DH} {f : FH} {s : DS} {bf : Value → Option Value} {cb a L : Nat} {ao : Option Addr} {ts : List (Nat × Int)} {floor : Int} {w : World} (H : BestHyp B h f m s bf cb a ao ts floor L w) : KeyOk a ts ∧ (keyR a ts).length ≤ 1000 := by
  have hl := H.fin.dia.inv.cnt
  have hc := H.cnt
  have hw := H.wt
  have h4 := hiT_nonneg ts; have h5 := loT_nonpos ts
  unfold Wt at hw
  have hk : KeyOk a ts := ⟨by have := H.ha; omega, fun t ht => by have h1 := (H.inT t ht).1; have h2 := wt_mem t ht; omega⟩
  refine ⟨hk, ?_⟩
  have h1 := Lib.itoa_length_le (a : Int) (by omega) (by have := hk.1; omega)
  have h2 := keyT_len ts (fun t h => by have := hk.2 t h; omega)
  have h3 := H.len
  unfold keyR
  rw [List.length_append]
  omega

def SpEnd (V : World) (h : DH) (s : DS) (n : Nat) (e : Ending) (w' : World) : Prop := ∃ s1, e = .returned (.tuple #[]) ∧ Upd V w' h s s1 ∧ s1.nodes = s.nodes ∧ s1.steps = s.steps - n ∧ s1.cnt = s.cnt

set_option maxRecDepth 100000 in
set_option maxHeartbeats 12800000 in
theorem best_step (B : Nat) (h : DH) (hn : h.n ≤ 40) (f : FH) (m : Nat) (hm40 : m ≤ 40) (ih : BestSpec B h f m) (s : DS) (bf : Value → Option Value) (cb a : Nat) (ao : Option Addr) (cap : Nat) (ts : List (Nat × Int)) (floor : Int) (L : Nat) (w : World) (H : BestHyp B h f (m + 1) s bf cb a ao ts floor L w) (h0 : a ≠ 0) (hfl : floor < hiT ts) (hne : ts ≠ []) :
    Calls Tryz.prog 78 #[.pointer (some ⟨f.b, 0, none⟩), .agg #[.int .i32 a, .slice ao ts.length cap], .int .i64 floor] w (BestEnd B w h s f cb a ts floor (m + 1)) := by
  have h4 := hiT_nonneg ts; have h5 := loT_nonpos ts
  have hpos : 0 < ts.length := List.length_pos_iff.2 hne
  obtain ⟨hko, hkl⟩ := H.key
  obtain ⟨kl, hkey⟩ : ∃ kl, keyOf Tryz.prog 9 (keyV a ts) = some kl := ⟨_, keyOf_string_mk Tryz.underlying9 (by show (ByteArray.mk (keyR a ts).toArray).size ≤ _; simp [ByteArray.size]; unfold maxLen; omega)⟩
  have hlm : ∀ W, Keeps (fun _ => False) w W → Calls Tryz.prog 103 #[.agg #[.int .i32 a, .slice ao ts.length cap]] W fun e w' => e = .returned (.int .i64 (hiT ts)) ∧ Keeps (fun _ => False) W w' := fun W k =>
    limit_any a ao cap ts W (H.terms.keeps k (fun _ _ _ e => e)) (by have := H.wt; unfold Wt at this; omega)
  have hky : ∀ W, Keeps (fun _ => False) w W → Calls Tryz.prog 104 #[.agg #[.int .i32 a, .slice ao ts.length cap]] W fun e w' => e = .returned (keyV a ts) ∧ Keeps (fun _ => False) W w' := fun W k =>
    key_any a ao cap ts W (H.terms.keeps k (fun _ _ _ e => e)) hko ((H.fin.tab.on (k.below H.fin.size (fun _ e => e.elim))).up (Nat.le_trans H.fin.size k.size))
  have hlook : ∀ W, Keeps (fun _ => False) w W → (Instr.lookup 124 (.map (some f.bb)) (keyV a ts) true).run Tryz.prog W = .ok (.tuple #[(bf (keyV a ts)).getD (bndV 0 false), .bool (bf (keyV a ts)).isSome]) W := fun W k =>
    (H.fin.map.kept (k.block _ H.fin.map.lt (fun e => e))).look_ok strLaw Tryz.underlying124 (zeroBound _) hkey
  have hcase : (∃ sum ex, (bf (keyV a ts)).getD (bndV 0 false) = bndV sum ex ∧ (bf (keyV a ts)).isSome = true ∧ (ex = true ∨ ex = false ∧ sum ≤ floor) ∧ ∀ W, Keeps (fun _ => False) w W → BestEnd B w h s f cb a ts floor (m + 1) (.returned (.int .i64 sum)) W) ∨
      (∃ sum ex, (bf (keyV a ts)).getD (bndV 0 false) = bndV sum ex ∧ ((bf (keyV a ts)).isSome = false ∨ (bf (keyV a ts)).isSome = true ∧ ex = false ∧ floor < sum)) := by
    cases hb : bf (keyV a ts) with
    | none => exact .inr ⟨0, false, rfl, .inl rfl⟩
    | some v =>
      obtain ⟨a', ts', sum, ex, e1, e2, e3⟩ := H.fin.ok _ _ hb
      obtain ⟨rfl, rfl⟩ := keyV_inj e1
      have hends : (ex = true ∨ sum ≤ floor) → ∀ W, Keeps (fun _ => False) w W → BestEnd B w h s f cb a ts floor (m + 1) (.returned (.int .i64 sum)) W := fun hx W k =>
        best_self H.fin k (top_known H.fin.dia.inv.wf H.ha h0 e3 hx) (fun _ => ⟨e3.lo, e3.hi⟩)
      by_cases hx : ex = true
      · exact .inl ⟨sum, ex, by rw [e2]; rfl, rfl, .inl hx, hends (.inl hx)⟩
      · have hx2 : ex = false := by simpa using hx
        by_cases hs : sum ≤ floor
        · exact .inl ⟨sum, ex, by rw [e2]; rfl, rfl, .inr ⟨hx2, hs⟩, hends (.inr hs)⟩
        · exact .inr ⟨sum, ex, by rw [e2]; rfl, .inr ⟨rfl, hx2, by omega⟩⟩
  have hb := box1_at (w := w) (x := .int .i32 a) (y := .slice ao ts.length cap) (t := 131)
  have hk1 : Keeps (fun _ => False) w (w.alloc (.cells #[.int .i32 a, .slice ao ts.length cap] 131)) := (Keeps.refl _ _).alloc _
  have hsz : w.heap.size < (w.alloc (.cells #[.int .i32 a, .slice ao ts.length cap] 131)).heap.size := by simp
  have hz : ((a : Int) == 0) = false := beq_eq_false_iff_ne.2 (by omega)
  have hd : decide (hiT ts ≤ floor) = false := decide_eq_false (by omega)
  have hl0 : ((ts.length : Int) == 0) = false := beq_eq_false_iff_ne.2 (by omega)
  have Hl := Lib.hid hlm; have Hky := Lib.hid hky; have Hb := Lib.hid hb; have Hk1 := Lib.hid hk1; have HH := Lib.hid H; have Hih := Lib.hid ih; have Hkey := Lib.hid hkey; have Hlook := Lib.hid hlook; have Hcase := Lib.hid hcase; have Hne := Lib.hid hne
  clear hlm hky hb hk1 H ih hkey hko hkl hlook hcase hne
  go_enter Tryz.func78, Tryz.ntmps78
  go_wp2_with fail
  refine (Hl.out _ Hk1.out).mono ?_
  generalize (w.alloc (.cells #[.int .i32 a, .slice ao ts.length cap] 131)) = W1 at *
  have hT : ∀ W, Keeps (fun _ => False) W1 W → W.heap[w.heap.size]? = some (.cells #[.int .i32 a, .slice ao ts.length cap] 131 (0, 0)) := fun W k => (k.block _ hsz (fun e => e)).trans Hb.out
  have HT := Lib.hid hT
  clear hT
  rintro e w1 ⟨rfl, k1⟩
  obtain ⟨b1, b2, b3, b4⟩ := at_two (HT.out _ k1)
  have K1 := Lib.hid k1
  clear k1
  go_wp2_with fail
  refine (Hky.out _ (Hk1.out.trans K1.out (fun _ e => e.elim))).mono ?_
  rintro e w2 ⟨rfl, k2⟩
  have K2 := Lib.hid (K1.out.trans k2 (fun _ e => e.elim))
  have K2w := Lib.hid (Hk1.out.trans K2.out (fun _ e => e.elim))
  obtain ⟨b1, b2, b3, b4⟩ := at_two (HT.out _ K2.out)
  obtain ⟨f1, f2, f3⟩ := (HH.out.fin.blk.keeps K2w.out (fun e => e)).cells
  have hlk := Hlook.out _ K2w.out
  clear k2
  unfold keyV at hlk Hcase Hkey ⊢
  generalize hKB : (ByteArray.mk (keyR a ts).toArray) = KB at *
  have HKB := Lib.hid hKB
  clear hKB
  rcases Hcase.out with ⟨sum, ex, e1, e2, hx, hend⟩ | ⟨sum, ex, e1, hx⟩
  · rw [e1, e2] at hlk
    unfold bndV at hlk
    have He := Lib.hid hend
    clear hend e1 e2 Hcase
    rcases hx with rfl | ⟨rfl, hle⟩
    · go_wp2_with fail
      go_ret
      exact He.out _ ((K2w.out).alloc _)
    · have hled : decide (sum ≤ floor) = true := decide_eq_true hle
      go_wp2_with fail
      go_ret
      exact He.out _ ((K2w.out).alloc _)
  · rw [e1] at hlk
    unfold bndV at hlk
    clear e1 Hcase
    have kV := fun (o : Obj) => (K2w.out).alloc o
    have hbV := fun (o : Obj) => HT.out _ (K2.out.alloc o)
    have KV := Lib.hid kV; have HBV := Lib.hid hbV
    clear kV hbV
    rcases hx with hx | ⟨hx, rfl, hgt⟩
    all_goals
      rw [hx] at hlk
      clear hx
      go_wp2_with fail
      first
        | (have kV := KV.out (.cells #[.int .i64 sum, .bool ex] 163); have hbV := HBV.out (.cells #[.int .i64 sum, .bool ex] 163); clear hlk KV HBV; generalize (w2.alloc (.cells #[.int .i64 sum, .bool ex] 163)) = V at *)
        | (have kV := KV.out (.cells #[.int .i64 sum, .bool false] 163); have hbV := HBV.out (.cells #[.int .i64 sum, .bool false] 163); clear hlk KV HBV; generalize (w2.alloc (.cells #[.int .i64 sum, .bool false] 163)) = V at *)
      have H := HH.out
      have hfV := H.fin.quiet kV
      have hsV : w.heap.size < V.heap.size := (Array.getElem?_eq_some_iff.1 hbV).1
      have hnb : ¬ own h s w.heap.size := fun e => by have := H.fin.dia.lt _ e; omega
      have hcs := costB_succ h.n m
      have hck : costK h.n = 12 + 24 * 2 ^ h.n := by unfold costK; omega
      have hst := H.st
      have hst2 := H.st2
      have hct := H.cnt
      have h12 := H.len
      have hSp : ∀ W, Keeps (fun _ => False) V W → Calls Tryz.prog 96 #[.pointer (some ⟨h.b, 0, none⟩), .int .i64 (ts.length : Nat)] W (SpEnd V h s ts.length) := fun W k => by
        have uq : Upd V W h s s := (Upd.refl hfV.dia).quiet k
        refine (spend_any h s (ts.length : Nat) W uq.dia (by omega) (by omega) hst2).mono ?_
        rintro e w' ⟨he, u⟩
        exact ⟨_, he, uq.trans u, rfl, rfl, rfl⟩
      have hS : ∀ W s', Upd V W h s s' → W.cell? ⟨f.b, 0, none⟩ = some (.pointer (some ⟨h.b, 0, none⟩)) ∧ W.cell? ⟨w.heap.size, 1, none⟩ = some (.slice ao ts.length cap) := fun W s' u =>
        ⟨(hfV.blk.keeps u.keeps hfV.nob).cells.1, (at_two ((u.keeps.block _ hsV hnb).trans hbV)).2.1⟩
      have HSp := Lib.hid hSp; have HS := Lib.hid hS; have Hd1 := Lib.hid (Upd.refl hfV.dia); have HfV := Lib.hid hfV; have HbV := Lib.hid hbV; have KV := Lib.hid kV; have Hcs := Lib.hid hcs; have Hck := Lib.hid hck
      clear hSp hS hfV hbV kV H hcs hck b1 b2 b3 b4 f1 f2 f3
      go_region_held3 (fun W => W.cell? ⟨f.b, 0, none⟩ = some (.pointer (some ⟨h.b, 0, none⟩)) ∧ W.cell? ⟨w.heap.size, 1, none⟩ = some (.slice ao ts.length cap))
        (first | exact HS.out _ _ (by assumption) | exact HS.out _ _ (Upd.drew (by assumption)) | exact HS.out _ _ Hd1.out | exact HS.out _ _ Hd1.out.drew)
        ((go_at_call 96; (with_reducible refine (HSp.out _ (by first | exact Keeps.refl _ _ | exact (Keeps.refl _ _).drew)).mono ?_); rintro e w3 ⟨s1, rfl, u3, e1, e2, e3⟩))
      have H := HH.out
      have hb3 := (u3.keeps.block _ hsV hnb).trans HbV.out
      have hf3 : Fin B w3 h s1 f bf cb := HfV.out.on (G := fun _ => False) u3.toF (fun _ e => e.elim) (fun e => e) (fun e => e)
      have ht3 : TermsAt w3 ao ts := (H.terms.keeps KV.out (fun _ _ _ e => e)).keeps u3.keeps (fun g _ e => (H.out g e).2.1)
      have hnx := next_any h s1 f a ao cap ts w3 hf3.dia hf3.blk (by omega) (by rw [e1]; exact H.ha) (by rw [e1]; exact fun t ht => ⟨(H.inT t ht).1, Nat.zero_le _⟩) ht3
      rw [e1] at hnx
      have hlev := nextL_le s.nodes ts (ndAt s.nodes a).lev
      have hlev2 := nextL_ge s.nodes L ts (ndAt s.nodes a).lev H.low (fun t ht => (H.inT t ht).2)
      have hlev3 : nextL s.nodes a ts < h.n := by
        obtain ⟨t, ts', rfl⟩ : ∃ t ts', ts = t :: ts' := by cases ts with | nil => exact absurd rfl Hne.out | cons t ts' => exact ⟨t, ts', rfl⟩
        have h1 := hlev.2 t (List.mem_cons_self ..)
        have h2 := H.fin.dia.inv.wf.lev t.1 (H.two t (List.mem_cons_self ..)) (H.inT t (List.mem_cons_self ..)).1
        exact Nat.lt_of_le_of_lt h1 h2
      change (nextL s.nodes a ts ≤ (ndAt s.nodes a).lev ∧ ∀ t ∈ ts, nextL s.nodes a ts ≤ (ndAt s.nodes t.1).lev) at hlev
      change L ≤ nextL s.nodes a ts at hlev2
      obtain ⟨b1, b2, b3, b4⟩ := at_two hb3
      generalize nextL s.nodes a ts = lev at *
      have Hnx := Lib.hid hnx; have Hf3 := Lib.hid hf3; have Ht3 := Lib.hid ht3; have Hb3 := Lib.hid hb3; have U3 := Lib.hid u3; have Hlev := Lib.hid hlev; have E1 := Lib.hid e1; have E2 := Lib.hid e2; have E3 := Lib.hid e3
      have hs3 : V.heap.size ≤ w3.heap.size := u3.keeps.size
      clear hnx hf3 ht3 hb3 u3 hlev e1 e2 e3 H HSp HS Hd1
      go_wp2_with fail
      refine Hnx.out.mono ?_
      rintro e w4 ⟨rfl, k4⟩
      have H := HH.out
      have hf4 := Hf3.out.quiet k4
      have ht4 := Ht3.out.keeps k4 (fun _ _ _ e => e)
      obtain ⟨gr, rfl, _⟩ := H.terms.cells hpos
      have hs4 := k4.size
      have hb4 := (k4.block _ (by omega) (fun e => e)).trans Hb3.out
      have q1 := E1.out; have q2 := E2.out; have q3 := E3.out; have qc := Hcs.out; have qk := Hck.out
      have hp2 : 0 < 2 ^ h.n := Nat.two_pow_pos _
      have hmul : ts.length * 2 ^ h.n ≤ 12 * 2 ^ h.n := Nat.mul_le_mul_right _ h12
      have hna := (narrow_any h (by omega) s1 f a gr cap lev 1 (Or.inl rfl) ts w4 hf4.dia hf4.blk hf4.nob hlev3 (by rw [q1]; exact H.ha) (by rw [q1]; exact Hlev.out.1) (by rw [q1]; exact fun t ht => ⟨(H.inT t ht).1, Hlev.out.2 t ht⟩) ht4 h12 (by have := H.wt; omega) (by omega) (by omega) (by omega)).mono (fun e w' hh => narrow_nr hf4.dia hlev3 hh)
      obtain ⟨b1, b2, b3, b4⟩ := at_two hb4
      have Hna := Lib.hid hna; have Hf4 := Lib.hid hf4; have Ht4 := Lib.hid ht4; have Hb4 := Lib.hid hb4; have K4 := Lib.hid k4; have HG := Lib.hid (H.out gr rfl)
      clear hna hf4 ht4 hb4 k4 H q1 q2 q3 qc qk
      go_wp2_with fail
      refine Hna.out.mono ?_
      rintro e w5 ⟨s2, a1, ao1, us1, sum1, cap1, rfl, n1⟩
      have hb5 := (n1.upd.block (by omega) (U3.out.toF (G := fun _ => False) |>.no hsV hnb) (fun e => e)).trans Hb4.out
      have hs5 := n1.upd.keeps.size
      have hlt5 : w.heap.size < w5.heap.size := by omega
      have hr1 : Keeps (fun _ => False) w5 (w5.alloc (.cells #[.int .i32 a1, .slice ao1 us1.length cap1] 131)) := (Keeps.refl _ _).alloc _
      have hb12 := box1_at (w := w5) (x := .int .i32 a1) (y := .slice ao1 us1.length cap1) (t := 131)
      have hs12 : w5.heap.size < (w5.alloc (.cells #[.int .i32 a1, .slice ao1 us1.length cap1] 131)).heap.size := by simp
      obtain ⟨b1, b2, b3, b4⟩ := at_two hb5
      have N1 := Lib.hid n1; have Hb5 := Lib.hid hb5; have R1 := Lib.hid hr1; have Hb12 := Lib.hid hb12
      clear n1 hb5 hr1 hb12
      go_wp2_with fail
      generalize (w5.alloc (.cells #[.int .i32 a1, .slice ao1 us1.length cap1] 131)) = W5 at *
      have H := HH.out
      have n1 := N1.out
      have q1 := E1.out; have q2 := E2.out; have q3 := E3.out; have qc := Hcs.out; have qk := Hck.out
      have hf5 : Fin B W5 h s2 f bf cb := (Hf4.out.on n1.upd (fun _ e => e.elim) (fun e => e) (fun e => e)).quiet R1.out
      have hg1 : ¬ own h s1 gr := fun e => (HG.out.2.1) (by
        rcases U3.out.own gr e with e1 | e1
        · exact e1
        · exact absurd HG.out.1 (by have := KV.out.size; omega))
      have ht5 := (Ht4.out.keeps n1.upd.keeps (fun g _ e hh => by cases e; exact hh.elim hg1 (fun e => e))).keeps R1.out (fun _ _ _ e => e)
      have hext : Ext s.nodes s2.nodes := by have := n1.upd.ext; rw [q1] at this; exact this
      have c1 := n1.cnt; have c2 := n1.steps; have c3 := n1.le
      have hwt := H.wt
      have hna2 := (narrow_any h (by omega) s2 f a gr cap lev 2 (Or.inr rfl) ts W5 hf5.dia hf5.blk hf5.nob hlev3 (Nat.lt_of_lt_of_le H.ha hext.len) (by rw [hext.at H.ha]; exact Hlev.out.1) (fun t ht => ⟨Nat.lt_of_lt_of_le (H.inT t ht).1 hext.len, by rw [hext.at (H.inT t ht).1]; exact Hlev.out.2 t ht⟩) ht5 h12 (by omega) (by omega) (by omega) (by omega)).mono (fun e w' hh => narrow_nr hf5.dia hlev3 hh)
      have Hna2 := Lib.hid hna2; have Hf5 := Lib.hid hf5; have Hext := Lib.hid hext
      clear hna2 hf5 ht5 hext n1 H q1 q2 q3 qc qk
      refine Hna2.out.mono ?_
      rintro e w6 ⟨s3, a2, ao2, us2, sum2, cap2, rfl, n2⟩
      have hno12 : ¬ own h s2 w5.heap.size := fun e => by have := N1.out.upd.dia.lt _ e; omega
      have hb12 := (n2.upd.block hs12 hno12 (fun e => e)).trans Hb12.out
      have hs6 := n2.upd.keeps.size
      have hr2 : Keeps (fun _ => False) w6 (w6.alloc (.cells #[.int .i32 a2, .slice ao2 us2.length cap2] 131)) := (Keeps.refl _ _).alloc _
      have hb14 := box1_at (w := w6) (x := .int .i32 a2) (y := .slice ao2 us2.length cap2) (t := 131)
      have hs14 : w6.heap.size < (w6.alloc (.cells #[.int .i32 a2, .slice ao2 us2.length cap2] 131)).heap.size := by simp
      have N2 := Lib.hid n2; have Hb12' := Lib.hid hb12; have R2 := Lib.hid hr2; have Hb14 := Lib.hid hb14
      clear n2 hb12 hr2 hb14 b1 b2 b3 b4
      go_wp2_with fail
      generalize (w6.alloc (.cells #[.int .i32 a2, .slice ao2 us2.length cap2] 131)) = W6 at *
      have H := HH.out
      have n1 := N1.out
      have n2 := N2.out
      have q1 := E1.out; have q2 := E2.out; have q3 := E3.out; have qk := Hck.out
      have hin0 : InT s.nodes 0 ts := fun t ht => ⟨(H.inT t ht).1, Nat.zero_le _⟩
      have hbb4 := Hf4.out.map.lt
      have hbb5 := Hf5.out.map.lt
      have hs45 : w4.heap.size ≤ w5.heap.size := n1.upd.keeps.size
      have hs56 : W5.heap.size ≤ w6.heap.size := n2.upd.keeps.size
      have hw5 : w.heap.size ≤ w5.heap.size := by have := KV.out.size; omega
      have hno6 : ¬ own h s3 w6.heap.size := fun e => by have := n2.upd.dia.lt _ e; omega
      have hR : Ready B w W6 h s s3 f bf cb a ts lev w5.heap.size w6.heap.size a1 ao1 us1 cap1 sum1 ((1 : Int) == 2) a2 ao2 us2 cap2 sum2 ((2 : Int) == 2) := by
        refine ⟨?_, ?_, by decide, (Hf5.out.on n2.upd (fun _ e => e.elim) (fun e => e) (fun e => e)).quiet R2.out, ?_, ?_, Hb14.out, ⟨n2.upd.no hs12 hno12, by omega, hw5⟩, ⟨hno6, by omega, by omega⟩, by omega, fun g e => ?_, fun g e => ?_, H.fin.size, H.fin.blk.cells.2.2⟩
        · have p1 := pack_of (f := f) n1 H.fin.dia.inv.wf (by rw [q1]; exact Ext.refl _) H.ha hin0 h12 H.wt hbb4
          have u1 : FUpd (fun _ => False) w5 W5 h s2 s2 := (FUpd.refl n1.upd.dia).quiet R1.out
          have u2 : FUpd (fun _ => False) w6 W6 h s3 s3 := (FUpd.refl n2.upd.dia).quiet R2.out
          exact ((p1.on u1 (fun _ _ e => e)).on n2.upd (fun _ _ e => e)).on u2 (fun _ _ e => e)
        · have p2 := pack_of (f := f) n2 H.fin.dia.inv.wf Hext.out H.ha hin0 h12 H.wt hbb5
          have u2 : FUpd (fun _ => False) w6 W6 h s3 s3 := (FUpd.refl n2.upd.dia).quiet R2.out
          exact p2.on u2 (fun _ _ e => e)
        · exact (((((((FUpd.refl H.fin.dia).quiet KV.out).trans U3.out.toF).quiet K4.out).trans (n1.upd.mono (fun _ e => e.elim))).quiet R1.out).trans (n2.upd.mono (fun _ e => e.elim))).quiet R2.out
        · exact (R2.out.block _ (by omega) (fun e => e)).trans Hb12'.out
        · have := n1.out g e; omega
        · have := n2.out g e; omega
      have c1 := n1.cnt; have c2 := n1.steps; have c3 := n1.le; have c4 := n2.cnt; have c5 := n2.steps; have c6 := n2.le
      have t1 : s.steps ≤ s3.steps + (costK h.n : Nat) := by omega
      have t2 : s3.steps ≤ s.steps := by omega
      have t3 : s3.cnt ≤ s.cnt + 2 * costK h.n := by omega
      have hl1 : ∀ W, Keeps (fun _ => False) W6 W → Calls Tryz.prog 103 #[.agg #[.int .i32 a1, .slice ao1 us1.length cap1]] W fun e w' => e = .returned (.int .i64 (hiT us1)) ∧ Keeps (fun _ => False) W6 w' := fun W k =>
        (limit_any a1 ao1 cap1 us1 W (hR.P1.terms.keeps k (fun _ _ _ e => e)) (by have := hR.P1.wt; have := loT_nonpos us1; unfold Wt at *; omega)).mono (fun e w' hh => ⟨hh.1, k.trans hh.2 (fun _ e => e.elim)⟩)
      have hl2 : ∀ W, Keeps (fun _ => False) W6 W → Calls Tryz.prog 103 #[.agg #[.int .i32 a2, .slice ao2 us2.length cap2]] W fun e w' => e = .returned (.int .i64 (hiT us2)) ∧ Keeps (fun _ => False) W6 w' := fun W k =>
        (limit_any a2 ao2 cap2 us2 W (hR.P2.terms.keeps k (fun _ _ _ e => e)) (by have := hR.P2.wt; have := loT_nonpos us2; unfold Wt at *; omega)).mono (fun e w' hh => ⟨hh.1, k.trans hh.2 (fun _ e => e.elim)⟩)
      have hS : ∀ W, Keeps (fun _ => False) W6 W → W.cell? ⟨w5.heap.size, 0, none⟩ = some (.int .i32 a1) ∧ W.cell? ⟨w5.heap.size, 1, none⟩ = some (.slice ao1 us1.length cap1) ∧ W.cell? ⟨w6.heap.size, 0, none⟩ = some (.int .i32 a2) ∧ W.cell? ⟨w6.heap.size, 1, none⟩ = some (.slice ao2 us2.length cap2) := fun W k => by
        have h1 := at_two (hR.quiet k).c12
        have h2 := at_two (hR.quiet k).c14
        exact ⟨h1.1, h1.2.1, h2.1, h2.2.1⟩
      have hwt1 : 0 ≤ hiT us1 ∧ hiT us1 ≤ 1099511627 := by have := hR.P1.wt; have := loT_nonpos us1; have := hiT_nonneg us1; unfold Wt at *; omega
      have hwt2 : 0 ≤ hiT us2 ∧ hiT us2 ≤ 1099511627 := by have := hR.P2.wt; have := loT_nonpos us2; have := hiT_nonneg us2; unfold Wt at *; omega
      have hb1 := hR.P1.slo; have hb2 := hR.P1.shi; have hb3 := hR.P2.slo; have hb4 := hR.P2.shi
      generalize hiT us1 = x1 at *
      generalize hiT us2 = x2 at *
      have hw1 : IntKind.i64.wrap (sum1 + x1) = sum1 + x1 := IntWalk.i64_in _ (by omega)
      have hw2 : IntKind.i64.wrap (sum2 + x2) = sum2 + x2 := IntWalk.i64_in _ (by omega)
      have HR := Lib.hid hR; have HL1 := Lib.hid hl1; have HL2 := Lib.hid hl2; have HS := Lib.hid hS
      have T1 := Lib.hid t1; have T2 := Lib.hid t2; have T3 := Lib.hid t3
      clear hR hl1 hl2 hS n1 n2 H q1 q2 q3 qk c1 c2 c3 c4 c5 c6 t1 t2 t3 N1 N2 R1 R2 Hb12 Hb12' Hb14 Hna Hna2 Hf3 Hf4 Hf5 Hb3 Hb4 Hb5 Ht3 Ht4 Hnx K4 U3 KV HfV HbV hin0
      go_region_held3 (fun W => W.cell? ⟨w5.heap.size, 0, none⟩ = some (.int .i32 a1) ∧ W.cell? ⟨w5.heap.size, 1, none⟩ = some (.slice ao1 us1.length cap1) ∧ W.cell? ⟨w6.heap.size, 0, none⟩ = some (.int .i32 a2) ∧ W.cell? ⟨w6.heap.size, 1, none⟩ = some (.slice ao2 us2.length cap2))
        (first | exact HS.out _ (Keeps.refl _ _) | exact HS.out _ (Keeps.refl _ _).drew | exact HS.out _ (by assumption) | exact HS.out _ (Keeps.drew (by assumption)))
        (first
          | (go_at_call 103; (with_reducible refine (HL2.out _ (by first | exact Keeps.refl _ _ | exact (Keeps.refl _ _).drew)).mono ?_); rintro e w7 ⟨rfl, k7⟩)
          | (go_at_call 103; (with_reducible refine (HL1.out _ (by first | exact k7 | exact k7.drew)).mono ?_); rintro e w8 ⟨rfl, k8⟩))
      have R8 := HR.out.quiet k8
      obtain ⟨z1, z2, z3, z4⟩ := at_two R8.c12
      obtain ⟨y1, y2, y3, y4⟩ := at_two R8.c14
      have hne8 := R8.ne
      have RS := Lib.hid R8.swap
      have R8' := Lib.hid R8
      clear R8 k7 k8 HS HL1 HL2 HR
      by_cases hsw : sum1 + x1 < sum2 + x2
      · have hdec : decide (sum1 + x1 < sum2 + x2) = true := decide_eq_true hsw
        obtain ⟨hc1, hw3⟩ := RS.out.one HH.out hm40 Hih.out hlev2 T1.out T2.out T3.out
        have HC1 := Lib.hid hc1
        clear hc1
        go_wp2_with fail
        refine HC1.out.mono ?_
        rintro e w9 ⟨s4, bf4, cb4, r1, rfl, p4⟩
        obtain ⟨F2, hF2⟩ : ∃ F2 : Int, F2 = max floor (sum2 + r1) := ⟨_, rfl⟩
        have hm1 : max floor (sum2 + r1) = F2 := hF2.symm
        have k2 := RS.out.two HH.out hm40 Hih.out hlev2 T1.out T2.out T3.out p4 hF2
        have hw4 := k2.w1
        have hw5 := k2.w2
        obtain ⟨y1, y2, y3, y4⟩ := at_two k2.c14
        have HC2 := Lib.hid k2.call; have Hyb := Lib.hid k2.ybd; have P4 := Lib.hid p4
        clear k2 p4 hF2
        go_wp2_with fail
        refine HC2.out.mono ?_
        rintro e w10 ⟨s5, bf5, cb5, r2, rfl, p5⟩
        have hw6 := Hyb.out _ _ _ _ _ p5
        obtain ⟨bst, hb⟩ : ∃ bst : Int, bst = max (sum2 + r1) (sum1 + r2) := ⟨_, rfl⟩
        have hm2 : max (sum2 + r1) (sum1 + r2) = bst := hb.symm
        obtain ⟨f1, f2, f3⟩ := p5.fin.blk.cells
        have hmap := p5.fin.map
        have hcb5 : cb5 < 4611686018427387904 := by
          have := HH.out.cb; have := P4.out.cb; have := p5.cb
          have h2m : 2 ^ (m + 1) = 2 * 2 ^ m := by rw [Nat.pow_succ]; omega
          omega
        have hfin : ∀ w11, MapV w11 Tryz.prog 9 f.bb (cb5 + 1) (putV bf5 (.string KB) (.agg #[.int .i64 bst, .bool (decide (floor < bst))])) → w10.grownBy w11 (some f.bb) → BestEnd B w h s f cb a ts floor (m + 1) (.returned (.int .i64 bst)) w11 := by
          intro w11 hm11 hg11
          have e : keyV a ts = .string KB := by unfold keyV; rw [HKB.out]
          subst hb
          exact best_fin HH.out h0 RS.out.upd T1.out T2.out T3.out RS.out.P1 RS.out.P2 RS.out.hxy P4.out p5 (by rw [e]; exact hm11) hg11
        have Hfin := Lib.hid hfin
        clear hfin p5 hb Hyb HC2
        go_wp2_with (at_mapUpdate; refine wpList_mapUpdate_V _ rfl _ _ _ 124 rfl 9 163 strLaw Tryz.underlying124 _ _ _ rfl hmap (by unfold maxLen; omega) _ _ rfl rfl _ Hkey.out ?_; intro w11 hm11 hg11)
        have hend := Hfin.out _ hm11 hg11
        have Hend := Lib.hid hend
        clear hend hm11 hg11
        go_ret
        exact Hend.out
      · have hdec : decide (sum1 + x1 < sum2 + x2) = false := decide_eq_false hsw
        obtain ⟨hc1, hw3⟩ := R8'.out.one HH.out hm40 Hih.out hlev2 T1.out T2.out T3.out
        have HC1 := Lib.hid hc1
        clear hc1
        go_wp2_with fail
        refine HC1.out.mono ?_
        rintro e w9 ⟨s4, bf4, cb4, r1, rfl, p4⟩
        obtain ⟨F2, hF2⟩ : ∃ F2 : Int, F2 = max floor (sum1 + r1) := ⟨_, rfl⟩
        have hm1 : max floor (sum1 + r1) = F2 := hF2.symm
        have k2 := R8'.out.two HH.out hm40 Hih.out hlev2 T1.out T2.out T3.out p4 hF2
        have hw4 := k2.w1
        have hw5 := k2.w2
        obtain ⟨y1, y2, y3, y4⟩ := at_two k2.c14
        have HC2 := Lib.hid k2.call; have Hyb := Lib.hid k2.ybd; have P4 := Lib.hid p4
        clear k2 p4 hF2
        go_wp2_with fail
        refine HC2.out.mono ?_
        rintro e w10 ⟨s5, bf5, cb5, r2, rfl, p5⟩
        have hw6 := Hyb.out _ _ _ _ _ p5
        obtain ⟨bst, hb⟩ : ∃ bst : Int, bst = max (sum1 + r1) (sum2 + r2) := ⟨_, rfl⟩
        have hm2 : max (sum1 + r1) (sum2 + r2) = bst := hb.symm
        obtain ⟨f1, f2, f3⟩ := p5.fin.blk.cells
        have hmap := p5.fin.map
        have hcb5 : cb5 < 4611686018427387904 := by
          have := HH.out.cb; have := P4.out.cb; have := p5.cb
          have h2m : 2 ^ (m + 1) = 2 * 2 ^ m := by rw [Nat.pow_succ]; omega
          omega
        have hfin : ∀ w11, MapV w11 Tryz.prog 9 f.bb (cb5 + 1) (putV bf5 (.string KB) (.agg #[.int .i64 bst, .bool (decide (floor < bst))])) → w10.grownBy w11 (some f.bb) → BestEnd B w h s f cb a ts floor (m + 1) (.returned (.int .i64 bst)) w11 := by
          intro w11 hm11 hg11
          have e : keyV a ts = .string KB := by unfold keyV; rw [HKB.out]
          subst hb
          exact best_fin HH.out h0 R8'.out.upd T1.out T2.out T3.out R8'.out.P1 R8'.out.P2 R8'.out.hxy P4.out p5 (by rw [e]; exact hm11) hg11
        have Hfin := Lib.hid hfin
        clear hfin p5 hb Hyb HC2
        go_wp2_with (at_mapUpdate; refine wpList_mapUpdate_V _ rfl _ _ _ 124 rfl 9 163 strLaw Tryz.underlying124 _ _ _ rfl hmap (by unfold maxLen; omega) _ _ rfl rfl _ Hkey.out ?_; intro w11 hm11 hg11)
        have hend := Hfin.out _ hm11 hg11
        have Hend := Lib.hid hend
        clear hend hm11 hg11
        go_ret
        exact Hend.out
end Go.Proofs.YtpebjjpiehhobaaGreatDoor
