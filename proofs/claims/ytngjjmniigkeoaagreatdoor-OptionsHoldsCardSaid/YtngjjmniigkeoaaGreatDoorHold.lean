/- Holds and Buildable, and the reference's. -/
import Derived.Test.YtngjjmniigkeoaaGreatDoorFoldH
namespace Go.Proofs.YtngjjmniigkeoaaGreatDoor
open Go Go.RowKit Go.WideMaps Go.Maps
set_option linter.unusedSimpArgs false
set_option linter.unusedVariables false

set_option maxHeartbeats 1600000 in
theorem holds1_any (vb : Nat) (av : Option Addr) (cv : Nat) (vs : List Bool) (x : Int) (a b : Bool) (w : World) (hbox : w.cell? ⟨vb, 0, none⟩ = some (.slice av vs.length cv)) (hv : BoolsAt w av vs) (hx : opB x vs.length = true) :
    Calls Tryz.prog 62 #[.int .i64 x, .bool a, .bool b, .pointer (some ⟨vb, 0, none⟩)] w fun e w' => e = .returned (.bool (tk (vT vs) x a b)) ∧ Keeps (fun _ => False) w w' := by
  have hl := hv.len
  unfold maxLen at hl
  unfold opB at hx
  simp at hx
  rcases (show x = -1 ∨ x = -2 ∨ x = -3 ∨ x = -4 ∨ x = -5 ∨ x = -6 ∨ 0 ≤ x by omega) with h1 | h1 | h1 | h1 | h1 | h1 | h1
  case inr.inr.inr.inr.inr.inr =>
    obtain ⟨o, rfl⟩ := Int.eq_ofNat_of_zero_le h1
    have ho : o < vs.length := by omega
    obtain ⟨b0, off, rfl, hcs⟩ := hv.cells (by omega)
    have hco := hcs o ho
    have hm : tk (vT vs) (o : Int) a b = vs.getD o false := by
      unfold tk vT
      rw [if_neg (by omega), if_neg (by omega), if_neg (by omega), if_neg (by omega), if_neg (by omega), if_neg (by omega)]
      simp
    generalize vs.getD o false = c at *
    have i1 : (o : Int) < (vs.length : Int) := by omega
    have f1 : ((o : Int) == -1) = false := beq_eq_false_iff_ne.2 (by omega)
    have f2 : ((o : Int) == -2) = false := beq_eq_false_iff_ne.2 (by omega)
    have f3 : ((o : Int) == -3) = false := beq_eq_false_iff_ne.2 (by omega)
    have f4 : ((o : Int) == -4) = false := beq_eq_false_iff_ne.2 (by omega)
    have f5 : ((o : Int) == -5) = false := beq_eq_false_iff_ne.2 (by omega)
    have f6 : ((o : Int) == -6) = false := beq_eq_false_iff_ne.2 (by omega)
    have Hm := Lib.hid hm
    clear hcs hm hv
    go_enter Tryz.func62, Tryz.ntmps62
    go_wp2_with fail
    go_ret
    exact ⟨by rw [Hm.out]; rfl, Keeps.refl _ _⟩
  all_goals
    subst h1
    cases a <;> cases b <;>
    (go_enter Tryz.func62, Tryz.ntmps62
     go_wp2_with fail
     go_ret
     exact ⟨rfl, Keeps.refl _ _⟩)

set_option maxHeartbeats 1600000 in
theorem holds_any (af av : Option Addr) (cf cv : Nat) (f : List Int) (vs : List Bool) (w : World) (hf : IntsAt w af cf f) (hv : BoolsAt w av vs) (hl : validB f vs.length = true) :
    Calls Tryz.prog 38 #[.slice af f.length cf, .slice av vs.length cv] w fun e w' => e = .returned (.bool (evalF (vT vs) f)) ∧ Keeps (fun _ => False) w w' := by
  obtain ⟨h1, h2⟩ := validB_lack hl
  have hk := keeps_alloc w (.cells #[.slice av vs.length cv] 39)
  have hbox : (w.alloc (.cells #[.slice av vs.length cv] 39)).cell? ⟨w.heap.size, 0, none⟩ = some (.slice av vs.length cv) := by simp
  have hc := foldBool_any w.heap.size vs.length (tk (vT vs)) #[.pointer (some ⟨w.heap.size, 0, none⟩)] af cf f (w.alloc (.cells #[.slice av vs.length cv] 39)) (hf.keeps hk) rfl h2 h1
    (fun wr x a b k hx => holds1_any w.heap.size av cv vs x a b wr (k.cell hbox (fun e => e)) ((hv.keeps hk).keeps k) hx)
  have Hc := Lib.hid hc; have Hk := Lib.hid hk
  clear hc hk hf hv hl h2
  go_enter Tryz.func38, Tryz.ntmps38
  go_wp2_with fail
  refine Hc.out.mono ?_
  rintro e w1 ⟨rfl, k1⟩
  go_wp2_with fail
  go_ret
  exact ⟨rfl, Hk.out.step k1⟩

/-! ### the reference's eval -/
def EvalEnd (w : World) (vs : List Bool) (n : Int) (f : List Int) (at0 d : Nat) (e : Ending) (w' : World) : Prop :=
  ∃ (to : Nat) (b : Bool), e = .returned (.tuple #[.bool b, .int .i64 to]) ∧ foldS (tk (vT vs)) false (f.drop at0) = b :: foldS (tk (vT vs)) false (f.drop to) ∧ lack n d (f.drop to) = some 0 ∧ at0 < to ∧ to ≤ f.length ∧ Keeps (fun _ => False) w w'

set_option maxRecDepth 100000 in
set_option maxHeartbeats 3200000 in
theorem eval_any (af av : Option Addr) (cf cv : Nat) (f : List Int) (vs : List Bool) (hlf : f.length ≤ 100) : ∀ (m at0 d : Nat) (i : Int) (w : World), i = (at0 : Nat) → f.length - at0 ≤ m → lack vs.length (d + 1) (f.drop at0) = some 0 → IntsAt w af cf f → BoolsAt w av vs →
    Calls Tryz.prog 63 #[.slice af f.length cf, .int .i64 i, .slice av vs.length cv] w (EvalEnd w vs vs.length f at0 d)
  | 0, at0, d, i, w, hi, hm, h, hf, hv => by
    have := (lack_head h).1
    omega
  | m + 1, at0, d, i, w, hi, hm, h, hf, hv => by
    subst hi
    obtain ⟨hk, hop, hrest⟩ := lack_head h
    have hl := hv.len
    unfold maxLen at hl
    obtain ⟨fb, off, rfl, hcs⟩ := hf.cells (by omega)
    have hc := hcs at0 hk
    have hS0 := fun hc => foldS0 (tk (vT vs)) false hk hc
    have hS1 := fun (b : Bool) (to : Nat) hc hh => foldS1 (tk (vT vs)) false hk hc (b := b) (to := to) hh
    have hS2 := fun (a b : Bool) (t1 to : Nat) hc hh h2 => foldS2 (tk (vT vs)) false hk hc (a := a) (b := b) (t1 := t1) (to := to) hh h2
    have i1 : (at0 : Int) < (f.length : Int) := by omega
    have i2 : (0 : Int) ≤ (at0 : Int) := by omega
    have ih := fun (at1 d1 : Nat) (i : Int) (w1 : World) (hi : i = (at1 : Nat)) (h1 : at0 < at1) (h2 : lack vs.length (d1 + 1) (f.drop at1) = some 0) (k : Keeps (fun _ => False) w w1) => eval_any (some ⟨fb, off, none⟩) av cf cv f vs hlf m at1 d1 i w1 hi (by omega) h2 (hf.keeps k) (hv.keeps k)
    have hcK : ∀ w1, Keeps (fun _ => False) w w1 → w1.cell? ⟨fb, off + at0, none⟩ = some (.int .i64 (f.getD at0 0)) := fun w1 k => k.cell hc (fun e => e)
    have hbv := hv.cells
    generalize f.getD at0 0 = x at *
    unfold opB at hop
    simp at hop
    have Ih := Lib.hid ih; have HS0 := Lib.hid hS0; have HS1 := Lib.hid hS1; have HS2 := Lib.hid hS2; have Hrest := Lib.hid hrest; have HcK := Lib.hid hcK
    clear ih hS0 hS1 hS2 hrest hcK hcs hf hv h
    rcases (show x = -1 ∨ x = -2 ∨ x = -3 ∨ x = -4 ∨ x = -5 ∨ x = -6 ∨ 0 ≤ x by omega) with h1 | h1 | h1 | h1 | h1 | h1 | h1
    · subst h1
      go_enter Tryz.func63, Tryz.ntmps63
      go_wp2_with fail
      go_ret2
      exact ⟨at0 + 1, true, by go_num, HS0.out rfl, Hrest.out, by omega, by omega, Keeps.refl _ _⟩
    · subst h1
      go_enter Tryz.func63, Tryz.ntmps63
      go_wp2_with fail
      go_ret2
      exact ⟨at0 + 1, false, by go_num, HS0.out rfl, Hrest.out, by omega, by omega, Keeps.refl _ _⟩
    · subst h1
      go_enter Tryz.func63, Tryz.ntmps63
      go_wp2_with fail
      refine (Ih.out (at0 + 1) d _ _ (by push_cast; rfl) (by omega) Hrest.out (by first | exact (Keeps.refl _ _).drewN _ | exact (Keeps.refl _ _).drew | exact Keeps.refl _ _)).mono ?_
      rintro e w1 ⟨to, b, rfl, p1, p2, p3, p4, k1⟩
      have P1 := Lib.hid p1; have P2 := Lib.hid p2
      clear p1 p2
      cases b
      all_goals
        go_wp2_with fail
        go_ret2
        exact ⟨to, _, rfl, HS1.out _ _ rfl P1.out, P2.out, by omega, p4, ⟨k1.os, k1.tape, k1.output, k1.size, k1.block⟩⟩
    · subst h1
      go_enter Tryz.func63, Tryz.ntmps63
      go_wp2_with fail
      refine (Ih.out (at0 + 1) (d + 1) _ _ (by push_cast; rfl) (by omega) Hrest.out (by first | exact (Keeps.refl _ _).drewN _ | exact (Keeps.refl _ _).drew | exact Keeps.refl _ _)).mono ?_
      rintro e w1 ⟨t1, a, rfl, p1, p2, p3, p4, k1⟩
      have P1 := Lib.hid p1; have P2 := Lib.hid p2
      clear p1 p2
      have k1' : Keeps (fun _ => False) w w1 := ⟨k1.os, k1.tape, k1.output, k1.size, k1.block⟩
      have hc1 := HcK.out _ k1'
      have hfb : fb < w1.heap.size := World.block_lt_of_cell? w1 _ hc1
      go_wp2_with fail
      refine (Ih.out t1 d _ _ rfl (by omega) P2.out (by first | exact k1' | exact k1'.drew | exact k1'.drewN _)).mono ?_
      rintro e w2 ⟨to, b, rfl, q1, q2, q3, q4, k2⟩
      have Q1 := Lib.hid q1; have Q2 := Lib.hid q2
      clear q1 q2
      have k2' : Keeps (fun _ => False) w1 w2 := ⟨k2.os, k2.tape, k2.output, k2.size, k2.block⟩
      have hc2 := HcK.out _ (k1'.step k2')
      clear hc1 hc
      cases a <;> cases b
      all_goals
        go_wp2_with fail
        go_ret2
        exact ⟨to, _, rfl, HS2.out _ _ _ _ rfl P1.out Q1.out, Q2.out, by omega, q4, k1'.step k2'⟩
    · subst h1
      go_enter Tryz.func63, Tryz.ntmps63
      go_wp2_with fail
      refine (Ih.out (at0 + 1) (d + 1) _ _ (by push_cast; rfl) (by omega) Hrest.out (by first | exact (Keeps.refl _ _).drewN _ | exact (Keeps.refl _ _).drew | exact Keeps.refl _ _)).mono ?_
      rintro e w1 ⟨t1, a, rfl, p1, p2, p3, p4, k1⟩
      have P1 := Lib.hid p1; have P2 := Lib.hid p2
      clear p1 p2
      have k1' : Keeps (fun _ => False) w w1 := ⟨k1.os, k1.tape, k1.output, k1.size, k1.block⟩
      have hc1 := HcK.out _ k1'
      have hfb : fb < w1.heap.size := World.block_lt_of_cell? w1 _ hc1
      go_wp2_with fail
      refine (Ih.out t1 d _ _ rfl (by omega) P2.out (by first | exact k1' | exact k1'.drew | exact k1'.drewN _)).mono ?_
      rintro e w2 ⟨to, b, rfl, q1, q2, q3, q4, k2⟩
      have Q1 := Lib.hid q1; have Q2 := Lib.hid q2
      clear q1 q2
      have k2' : Keeps (fun _ => False) w1 w2 := ⟨k2.os, k2.tape, k2.output, k2.size, k2.block⟩
      have hc2 := HcK.out _ (k1'.step k2')
      clear hc1 hc
      cases a <;> cases b
      all_goals
        go_wp2_with fail
        go_ret2
        exact ⟨to, _, rfl, HS2.out _ _ _ _ rfl P1.out Q1.out, Q2.out, by omega, q4, k1'.step k2'⟩
    · subst h1
      go_enter Tryz.func63, Tryz.ntmps63
      go_wp2_with fail
      refine (Ih.out (at0 + 1) (d + 1) _ _ (by push_cast; rfl) (by omega) Hrest.out (by first | exact (Keeps.refl _ _).drewN _ | exact (Keeps.refl _ _).drew | exact Keeps.refl _ _)).mono ?_
      rintro e w1 ⟨t1, a, rfl, p1, p2, p3, p4, k1⟩
      have P1 := Lib.hid p1; have P2 := Lib.hid p2
      clear p1 p2
      have k1' : Keeps (fun _ => False) w w1 := ⟨k1.os, k1.tape, k1.output, k1.size, k1.block⟩
      have hc1 := HcK.out _ k1'
      have hfb : fb < w1.heap.size := World.block_lt_of_cell? w1 _ hc1
      go_wp2_with fail
      refine (Ih.out t1 d _ _ rfl (by omega) P2.out (by first | exact k1' | exact k1'.drew | exact k1'.drewN _)).mono ?_
      rintro e w2 ⟨to, b, rfl, q1, q2, q3, q4, k2⟩
      have Q1 := Lib.hid q1; have Q2 := Lib.hid q2
      clear q1 q2
      have k2' : Keeps (fun _ => False) w1 w2 := ⟨k2.os, k2.tape, k2.output, k2.size, k2.block⟩
      have hc2 := HcK.out _ (k1'.step k2')
      clear hc1 hc
      cases a <;> cases b
      all_goals
        go_wp2_with fail
        go_ret2
        exact ⟨to, _, rfl, HS2.out _ _ _ _ rfl P1.out Q1.out, Q2.out, by omega, q4, k1'.step k2'⟩
    · obtain ⟨o, rfl⟩ := Int.eq_ofNat_of_zero_le h1
      have ho : o < vs.length := by omega
      obtain ⟨b0, off0, rfl, hco⟩ := hbv (by omega)
      have hv1 := hco o ho
      have i3 : (o : Int) < (vs.length : Int) := by omega
      have hcc : opC (o : Int) = 0 := by unfold opC; rw [if_neg (by omega), if_neg (by omega)]
      have hm : tk (vT vs) (o : Int) false false = vs.getD o false := by
        unfold tk vT
        rw [if_neg (by omega), if_neg (by omega), if_neg (by omega), if_neg (by omega), if_neg (by omega), if_neg (by omega)]
        simp
      have hr : lack vs.length d (f.drop (at0 + 1)) = some 0 := by have := Hrest.out; rw [hcc] at this; exact this
      have hs := HS0.out hcc
      rw [hm] at hs
      generalize vs.getD o false = c at *
      have Hr := Lib.hid hr; have Hs := Lib.hid hs
      clear hco hm hr hs hbv hcc
      go_enter Tryz.func63, Tryz.ntmps63
      go_wp2_with fail
      go_ret2
      exact ⟨at0 + 1, c, by go_num, Hs.out, Hr.out, by omega, by omega, Keeps.refl _ _⟩

set_option maxHeartbeats 1600000 in
theorem refTrue_any (af av : Option Addr) (cf cv : Nat) (f : List Int) (vs : List Bool) (w : World) (hf : IntsAt w af cf f) (hv : BoolsAt w av vs) (hl : validB f vs.length = true) :
    Calls Tryz.prog 39 #[.slice af f.length cf, .slice av vs.length cv] w fun e w' => e = .returned (.bool (evalF (vT vs) f)) ∧ Keeps (fun _ => False) w w' := by
  obtain ⟨h1, h2⟩ := validB_lack hl
  have he := eval_any af av cf cv f vs h1 f.length 0 0 0 w rfl (by omega) (by simpa using h2) hf hv
  have He := Lib.hid he
  clear he hf hv hl h2
  go_enter Tryz.func39, Tryz.ntmps39
  go_wp2_with fail
  refine He.out.mono ?_
  rintro e w1 ⟨to, b, rfl, p1, p2, p3, p4, k1⟩
  have hb : b = evalF (vT vs) f := by unfold evalF; rw [List.drop_zero] at p1; rw [p1]; rfl
  subst hb
  clear p1 p2
  go_wp2_with fail
  go_ret
  exact ⟨rfl, k1⟩
end Go.Proofs.YtngjjmniigkeoaaGreatDoor
