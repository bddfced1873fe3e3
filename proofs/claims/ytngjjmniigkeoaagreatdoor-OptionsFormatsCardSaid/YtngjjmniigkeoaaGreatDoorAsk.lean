/- ask's work and Count's. -/
import Derived.Test.YtngjjmniigkeoaaGreatDoorSolve
import Derived.Test.YtngjjmniigkeoaaGreatDoorAll
import Derived.Test.YtngjjmniigkeoaaGreatDoorCount
namespace Go.Proofs.YtngjjmniigkeoaaGreatDoor
open Go Go.RowKit Go.WideMaps Go.Maps
set_option linter.unusedSimpArgs false
set_option linter.unusedVariables false

theorem enter_of {K : Nat} {fn : Func} (h : Tryz.prog.funcs[K]? = some fn) (hn : (fn.name == "runtime.NumGoroutine") = false) (hb : fn.body.isNone = false) : Enters K := by
  intro args w
  have hn2 : ¬ fn.name = "runtime.NumGoroutine" := by simpa using hn
  have hb2 : ¬ fn.body = none := by intro e; rw [e] at hb; cases hb
  simp [callFunc, go_sem, h, hn2, hb2]
theorem enters_ask1 : Enters 67 := enter_of Tryz.func67 (by kernel_rfl) (by kernel_rfl)
theorem enters_count1 : Enters 47 := enter_of Tryz.func47 (by kernel_rfl) (by kernel_rfl)

/-- What is known where a knot that means all formulas is worked on. -/
structure Meant (B : Nat) (w : World) (n : Nat) (fs : List (List Int)) (w1 : World) (h : DH) (s : DS) (k : Nat) : Prop where
  dia : Dia w1 h s
  hn : h.n = n
  lv : Lv w1 h s (List.range n)
  hk : k < s.nodes.length
  mean : ∀ σ, sem s.nodes k σ = fs.all (fun f => evalF (byLev (List.range n) σ) f)
  cnt : s.cnt < 2 ^ 30
  below : Below B w w1
  own : ∀ j, own h s j → B ≤ j
def WorkOn (B : Nat) (w : World) (n : Nat) (fs : List (List Int)) (K : Nat) (caps : Array Value) (R : World → Prop) : Prop :=
  ∀ (h : DH) (s : DS) (k : Nat) (w1 : World), Meant B w n fs w1 h s k → Calls Tryz.prog K (#[.pointer (some ⟨h.b, 0, none⟩), .int .i32 (k : Nat)] ++ caps) w1 fun e w2 => e = .returned (.tuple #[]) ∧ R w2

theorem outForms_of {w w1 : World} {h : DH} {s : DS} {al : Option Addr} {fs : List (List Int)} (hf : FormsAt w al fs) (hb : Below w.heap.size w w1) (ho : ∀ j, own h s j → w.heap.size ≤ j) : OutForms w1 h s al fs := by
  have out : ∀ b, b < w.heap.size → Out w1 h s b := fun b hb1 => ⟨Nat.lt_of_lt_of_le hb1 hb.size, fun hk => by have := ho b hk; omega⟩
  refine ⟨hf.len, fun h0 => ?_⟩
  obtain ⟨b, off, e, hc⟩ := hf.cells h0
  obtain ⟨a0, c0, hc0, _⟩ := hc 0 h0
  have hbl := World.block_lt_of_cell? w _ hc0
  refine ⟨b, off, e, out b hbl, fun k hk => ?_⟩
  obtain ⟨a, c, h1, h2⟩ := hc k hk
  refine ⟨a, c, cell_kept h1 hb (Nat.le_refl _), h2.kept hb (Nat.le_refl _), fun b' off' h0' e' => ?_⟩
  obtain ⟨b2, off2, e2, hc2⟩ := h2.cells h0'
  rw [e'] at e2; cases e2
  exact out b' (World.block_lt_of_cell? w _ (hc2 0 h0'))

set_option maxRecDepth 100000 in
set_option maxHeartbeats 1600000 in
theorem count1_any (h : DH) (s : DS) (k : Nat) (w : World) (p : Nat) (v : Value) (d : Dia w h s) (hk : k < s.nodes.length) (hn : h.n ≤ 40) (hc : s.cnt < 2 ^ 30) (hp : w.cell? ⟨p, 0, none⟩ = some v) (hfz : w.frozen? ⟨p, 0, none⟩ = false) :
    Calls Tryz.prog 47 #[.pointer (some ⟨h.b, 0, none⟩), .int .i32 k, .pointer (some ⟨p, 0, none⟩)] w fun e w' => e = .returned (.tuple #[]) ∧ w'.cell? ⟨p, 0, none⟩ = some (.int .i64 (num (sem s.nodes k) h.n 0 zeroσ : Nat)) ∧ Keeps (fun j => j = p) w w' := by
  have hcount := count_any h s k w d hk hn hc
  have hpl := World.block_lt_of_cell? w _ hp
  have Hc := Lib.hid hcount
  clear hcount d
  go_enter Tryz.func47, Tryz.ntmps47
  go_wp2_with fail
  refine Hc.out.mono ?_
  rintro e w1 ⟨rfl, hb⟩
  have hp1 : w1.cell? ⟨p, 0, none⟩ = some v := cell_kept hp hb (Nat.le_refl _)
  have hf1 : w1.frozen? ⟨p, 0, none⟩ = false := (hb.frozen (p := ⟨p, 0, none⟩) hpl).trans hfz
  go_wp2_with fail
  refine bodyPost_end (results_none rfl _ _ _) rfl ?_
  refine ⟨rfl, World.cell?_setCell_same _ _ _ hp1, ?_⟩
  exact (Keeps.mono (S := fun _ => False) ⟨hb.os, hb.tape, hb.output, hb.size, fun j hj _ => hb.block j hj⟩ (fun _ e => e.elim)).setCell (S := fun j => j = p) (p := ⟨p, 0, none⟩) (Or.inl rfl) _

set_option maxRecDepth 100000 in
set_option maxHeartbeats 1600000 in
theorem ask1_any (n : Nat) (fs : List (List Int)) (W : World) (bw ba K cl : Nat) (al : Option Addr) (caps : Array Value) (R : World → Prop) (hn : n ≤ 40) (hlen : fs.length < 20) (hv : ∀ k, k < fs.length → validB (fs.getD k []) n = true)
    (hst : fs.length * (101 * 2 ^ n) ≤ 524288) (hf : FormsAt W al fs) (hbw : W.cell? ⟨bw, 0, none⟩ = some (.func (Fn.func K) #[] caps)) (hba : W.cell? ⟨ba, 0, none⟩ = some (.slice al fs.length cl)) (hK : Enters K) (hw : WorkOn W.heap.size W n fs K caps R) :
    ∀ w0, Below W.heap.size W w0 → Works w0 n 524288 67 #[.pointer (some ⟨bw, 0, none⟩), .pointer (some ⟨ba, 0, none⟩)] R := by
  intro w0 hb0 h s w1 hfr
  have u0 : Upd w1 w1.drew h s s := upd_side (S := fun _ => False) (Upd.refl hfr.dia) ((Keeps.refl _ _).drew) (fun _ e => e.elim) (fun _ e => e.elim)
  replace hfr : Fresh w0 n 524288 w1.drew h s := ⟨hfr.dia.drew, hfr.hn, hfr.lv.upd u0, hfr.steps, hfr.cnt, ⟨hfr.below.os, hfr.below.tape, hfr.below.output, hfr.below.size, hfr.below.block⟩, hfr.own, hfr.ord⟩
  have hb1 : Below W.heap.size W w1.drew := hb0.trans (hfr.below.mono hb0.size)
  have hown : ∀ j, own h s j → W.heap.size ≤ j := fun j hj => Nat.le_trans hb0.size (hfr.own j hj)
  have hcost : ((fs.length * (101 * 2 ^ h.n) : Nat) : Int) ≤ s.steps := by rw [hfr.hn, hfr.steps]; omega
  have hall := all_any h (by rw [hfr.hn]; omega) s (List.range n) al cl fs w1.drew hfr.dia hfr.lv (outForms_of hf hb1 hown) (by rw [hfr.hn]; exact hv) hlen hcost (by rw [hfr.steps]; omega) (by rw [hfr.cnt, hfr.hn]; omega)
  have c1 : w1.cell? ⟨bw, 0, none⟩ = some (.func (Fn.func K) #[] caps) := cell_kept hbw (w' := w1.drew) hb1 (Nat.le_refl _)
  have c2 : w1.cell? ⟨ba, 0, none⟩ = some (.slice al fs.length cl) := cell_kept hba (w' := w1.drew) hb1 (Nat.le_refl _)
  have lbw := World.block_lt_of_cell? W _ hbw
  have hpost : ∀ s' k w2, OfPost w1.drew h s (fun σ => fs.all (fun f => evalF (byLev (List.range n) σ) f)) (fs.length * (101 * 2 ^ h.n)) w2 s' k → w2.cell? ⟨bw, 0, none⟩ = some (.func (Fn.func K) #[] caps) ∧ Calls Tryz.prog K (#[.pointer (some ⟨h.b, 0, none⟩), .int .i32 (k : Nat)] ++ caps) w2 fun e w3 => e = .returned (.tuple #[]) ∧ R w3 := by
    intro s' k w2 hp
    have hkeep : ∀ j, j < W.heap.size → w2.heap[j]? = w1.drew.heap[j]? := fun j hj => hp.upd.keeps.block j (Nat.lt_of_lt_of_le hj hb1.size) (fun ho => by have := hown j ho; omega)
    have hb2 : Below W.heap.size W w2 := hb1.trans ⟨hp.upd.keeps.os, hp.upd.keeps.tape, hp.upd.keeps.output, hp.upd.keeps.size, hkeep⟩
    refine ⟨cell_kept hbw hb2 (Nat.le_refl _), hw h s' k w2 ⟨hp.upd.dia, hfr.hn, hfr.lv.upd hp.upd, hp.hk, hp.mean, ?_, hb2, ?_⟩⟩
    · have := hp.cnt; rw [hfr.cnt, hfr.hn] at this; omega
    · intro j hj
      rcases hp.upd.own j hj with h1 | h1
      · exact hown j h1
      · exact Nat.le_trans hb1.size h1
  have Ha := Lib.hid hall; have Hp := Lib.hid hpost
  clear hall hpost hcost u0 hfr hf hown hb1 hb0 hw hbw hba
  unfold Enters at hK
  go_enter Tryz.func67, Tryz.ntmps67
  go_wp2_with fail
  go_region_law ((first
    | (go_simp; go_at_call 53; refine Ha.out.mono ?_; rintro e w2 ⟨s', k, rfl, hp⟩; have hq := Hp.out s' k w2 hp; have hc3 := hq.1; have Hq := Lib.hid hq.2; clear hq hp)
    | (go_simp; (first | refine Hq.out.mono ?_ | refine Calls.mono (Hid.out (by assumption)) ?_); rintro e w3 ⟨rfl, hr3⟩; have Hr := Lib.hid hr3; clear hr3)))
  all_goals
    go_wp2
    refine bodyPost_end (results_none rfl _ _ _) rfl ?_
    exact ⟨rfl, Hid.out (by assumption)⟩
end Go.Proofs.YtngjjmniigkeoaaGreatDoor
