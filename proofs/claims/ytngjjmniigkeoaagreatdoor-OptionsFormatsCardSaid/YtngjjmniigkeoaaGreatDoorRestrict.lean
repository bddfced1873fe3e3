/- restrict: what is left of a knot with a choice at a level. -/
import Derived.Test.YtngjjmniigkeoaaGreatDoorJoinB
import Derived.Deep.RegionHeld3
namespace Go.Proofs.YtngjjmniigkeoaaGreatDoor
open Go Go.RowKit Go.WideMaps Go.Maps
set_option linter.unusedSimpArgs false
set_option linter.unusedVariables false

structure RMean (s : DS) (k lev : Nat) (c : Int) (m : Nat) (s' : DS) (r : Nat) : Prop where
  ext : Ext s.nodes s'.nodes
  hk : r < s'.nodes.length
  mean : ∀ σ, sem s'.nodes r σ = sem s.nodes k (setAt σ lev (c == 2))
  low : (ndAt s.nodes k).lev ≤ (ndAt s'.nodes r).lev
  next : lev ≤ (ndAt s.nodes k).lev → lev < (ndAt s'.nodes r).lev
  steps : s'.steps = s.steps
  cnt : s'.cnt ≤ s.cnt + 2 * (2 ^ m - 1)
def REnd (W : World) (h : DH) (s0 s : DS) (k lev : Nat) (c : Int) (m : Nat) (e : Ending) (w' : World) : Prop := ∃ s' r, e = .returned (.int .i32 (r : Nat)) ∧ Upd W w' h s0 s' ∧ RMean s k lev c m s' r

theorem setAt_other {σ : Nat → Bool} {i j : Nat} {b : Bool} (h : j ≠ i) : setAt σ i b j = σ j := by unfold setAt; rw [if_neg h]
theorem setAt_same {σ : Nat → Bool} {i : Nat} {b : Bool} : setAt σ i b i = b := by unfold setAt; rw [if_pos rfl]

theorem restrict_keep {h : DH} {s : DS} {w : World} (d : Dia w h s) {k lev m : Nat} {c : Int} (hk : k < s.nodes.length) (hlt : lev < (ndAt s.nodes k).lev) : RMean s k lev c m s k :=
  ⟨Ext.refl _, hk, fun σ => (sem_set_hi d.inv.wf hk σ hlt _).symm, Nat.le_refl _, fun _ => hlt, rfl, by omega⟩
theorem two_of_lev {n : Nat} {l : List Nd} (h : WF n l) {k : Nat} (hl : (ndAt l k).lev < n) : 2 ≤ k := by
  refine Nat.le_of_not_lt fun hlt2 => ?_
  have : k = 0 ∨ k = 1 := by omega
  rcases this with rfl | rfl
  · rw [h.no] at hl; simp at hl
  · rw [h.yes] at hl; simp at hl
theorem restrict_at {h : DH} {s : DS} {w : World} (d : Dia w h s) {k lev m : Nat} {c : Int} (hc : c = 1 ∨ c = 2) (hk : k < s.nodes.length) (he : (ndAt s.nodes k).lev = lev) (hl : lev < h.n) : RMean s k lev c m s (if c = 2 then (ndAt s.nodes k).hi else (ndAt s.nodes k).lo) := by
  have wf := d.inv.wf
  have k2 := two_of_lev wf (k := k) (by omega)
  have a1 := wf.lo k k2 hk; have a2 := wf.hi k k2 hk; have a3 := wf.upL k k2 hk; have a4 := wf.upH k k2 hk
  rcases hc with rfl | rfl
  · rw [if_neg (by omega)]
    refine ⟨Ext.refl _, by omega, fun σ => ?_, by omega, fun _ => by omega, rfl, by omega⟩
    rw [sem_node wf k2 hk, he, setAt_same]
    exact (sem_set_hi wf (by omega) σ (by omega) _).symm
  · rw [if_pos rfl]
    refine ⟨Ext.refl _, by omega, fun σ => ?_, by omega, fun _ => by omega, rfl, by omega⟩
    rw [sem_node wf k2 hk, he, setAt_same]
    exact (sem_set_hi wf (by omega) σ (by omega) _).symm

theorem restrict_fin {w W1 W4 W5 : World} {h : DH} {s s2 s3 s4 : DS} {k lev m r0 r1 r : Nat} {c : Int} (hc : c = 1 ∨ c = 2) (d : Dia w h s) (U1 : Upd w W1 h s s) (hk : k < s.nodes.length) (hlt : (ndAt s.nodes k).lev < lev) (hln : lev < h.n)
    (p2 : RMean s (ndAt s.nodes k).lo lev c m s2 r0) (p3 : RMean s2 (ndAt s.nodes k).hi lev c m s3 r1) (hw2 : WF h.n s2.nodes) (hw3 : WF h.n s3.nodes) (U4 : Upd W1 W4 h s s4) (e4 : Ext s3.nodes s4.nodes) (hk4 : r < s4.nodes.length)
    (m4 : ∀ σ, sem s4.nodes r σ = if σ (ndAt s.nodes k).lev then sem s3.nodes r1 σ else sem s3.nodes r0 σ) (l4 : (ndAt s.nodes k).lev ≤ (ndAt s4.nodes r).lev) (t4 : s4.steps = s3.steps) (c4 : s4.cnt ≤ s3.cnt + 1)
    (hm5 : MapV W5 Tryz.prog 152 h.bd (s4.cnt + 1) (putV s4.fd (tkV c k lev) (.int .i32 r))) (hg5 : W4.grownBy W5 (some h.bd)) :
    REnd w h s s k lev c (m + 1) (.returned (.int .i32 r)) W5 := by
  have wf := d.inv.wf
  have k2 := two_of_lev wf (k := k) (by omega)
  have a1 := wf.lo k k2 hk; have a2 := wf.hi k k2 hk; have a3 := wf.upL k k2 hk; have a4 := wf.upH k k2 hk
  have h2m : 0 < 2 ^ m := Nat.two_pow_pos m
  have h2m1 : 2 ^ (m + 1) = 2 * 2 ^ m := by rw [Nat.pow_succ]; omega
  have e : Ext s.nodes s4.nodes := (p2.ext.trans p3.ext).trans e4
  have hmean : ∀ σ, sem s4.nodes r σ = sem s.nodes k (setAt σ lev (c == 2)) := by
    intro σ
    rw [m4, p3.ext.sem hw2 p2.hk, p2.mean, p3.mean, p2.ext.sem wf (by omega), sem_node wf k2 hk, setAt_other (by omega)]
  have hl : (ndAt s.nodes k).lev ≤ (ndAt s4.nodes r).lev := l4
  have ht : TaskOk s4.nodes c k lev r := ⟨hk4, by have := e.len; omega, fun hn => by omega, fun _ => ⟨fun σ => by rw [hmean, e.sem wf hk], by rw [e.at hk]; exact hl⟩⟩
  have u5 := U4.dia.remember ht hm5 hg5
  refine ⟨_, r, rfl, (U1.trans U4).trans u5, e, hk4, hmean, hl, fun hh => by omega, ?_, ?_⟩
  · show s4.steps = s.steps
    have := p2.steps; have := p3.steps; omega
  · show s4.cnt + 1 ≤ _
    have := p2.cnt; have := p3.cnt; omega

theorem Upd.drew {a w : World} {h : DH} {s s' : DS} (u : Upd a w h s s') : Upd a w.drew h s s' := ⟨u.dia.drew, u.ext, u.keeps.drew, u.own⟩
theorem box_at30 {W : World} {a b c : Value} {t : TypeId} {B q : Nat} (e : W.heap.size = B) : ((W.alloc (.cells #[a, b, c] t)).drewN q).cell? ⟨B, 0, none⟩ = some a := by subst e; simp
theorem box_at31 {W : World} {a b c : Value} {t : TypeId} {B q : Nat} (e : W.heap.size = B) : ((W.alloc (.cells #[a, b, c] t)).drewN q).cell? ⟨B, 1, none⟩ = some b := by subst e; simp
theorem box_at32 {W : World} {a b c : Value} {t : TypeId} {B q : Nat} (e : W.heap.size = B) : ((W.alloc (.cells #[a, b, c] t)).drewN q).cell? ⟨B, 2, none⟩ = some c := by subst e; simp
structure FMean (s : DS) (lev lo hi : Nat) (s' : DS) (r : Nat) : Prop where
  ext : Ext s.nodes s'.nodes
  hk : r < s'.nodes.length
  mean : ∀ σ, sem s'.nodes r σ = if σ lev then sem s.nodes hi σ else sem s.nodes lo σ
  low : lev ≤ (ndAt s'.nodes r).lev
  steps : s'.steps = s.steps
  cnt : s'.cnt ≤ s.cnt + 1
def FEnd (W : World) (h : DH) (s0 s : DS) (lev lo hi : Nat) (e : Ending) (w' : World) : Prop := ∃ s' r, e = .returned (.int .i32 (r : Nat)) ∧ Upd W w' h s0 s' ∧ FMean s lev lo hi s' r

set_option maxRecDepth 100000 in
set_option maxHeartbeats 1600000 in
theorem restrict_top (h : DH) (lev : Nat) (c : Int) (hc : c = 1 ∨ c = 2) (hn : h.n < 2 ^ 31) (hln : lev < h.n) (m : Nat) (s : DS) (k : Nat) (w : World) (d : Dia w h s) (hk : k < s.nodes.length) (hge : lev ≤ (ndAt s.nodes k).lev) (hcnt : s.cnt < 2 ^ 30) :
    Calls Tryz.prog 123 #[.pointer (some ⟨h.b, 0, none⟩), .int .i32 k, .int .i64 lev, .int .i64 c] w (REnd w h s s k lev c m) := by
  obtain ⟨c0, c1, c2, c3, c4, c5⟩ := d.cells
  obtain ⟨g, cap, eg, hcs, hg, hgb⟩ := d.node
  obtain ⟨n0, n1, n2⟩ := hcs k hk
  rw [eg] at c2
  have hlen := d.inv.cnt
  have hll := d.inv.wf.lev_le hk
  have i1 : (k : Int) < (s.nodes.length : Int) := by omega
  by_cases hlt : lev < (ndAt s.nodes k).lev
  · have hfin : ∀ O, REnd w h s s k lev c m (.returned (.int .i32 k)) (w.alloc O) := fun O => ⟨s, k, rfl, (Upd.refl d).alloc O, restrict_keep d hk hlt⟩
    generalize ndAt s.nodes k = x at *
    have Hf := Lib.hid hfin
    clear hfin d eg hcs hc
    go_enter Tryz.func123, Tryz.ntmps123
    go_wp2
    go_ret
    exact Hf.out _
  · have he : (ndAt s.nodes k).lev = lev := by omega
    have hfin : ∀ O, REnd w h s s k lev c m (.returned (.int .i32 ((if c = 2 then (ndAt s.nodes k).hi else (ndAt s.nodes k).lo : Nat) : Int))) (w.alloc O) := fun O => ⟨s, _, rfl, (Upd.refl d).alloc O, restrict_at d hc hk he hln⟩
    rw [he] at n0
    generalize ndAt s.nodes k = x at *
    have hno : ¬ lev < lev := by omega
    have hq : ((lev : Int) == (lev : Int)) = true := by simp
    rcases hc with rfl | rfl
    · rw [if_neg (by omega)] at hfin
      have Hf := Lib.hid hfin
      clear hfin d eg hcs he hlt hge hll
      go_enter Tryz.func123, Tryz.ntmps123
      go_wp2
      go_ret
      exact Hf.out _
    · rw [if_pos rfl] at hfin
      have Hf := Lib.hid hfin
      clear hfin d eg hcs he hlt hge hll
      go_enter Tryz.func123, Tryz.ntmps123
      go_wp2
      go_ret
      exact Hf.out _

set_option maxRecDepth 100000 in
set_option maxHeartbeats 6400000 in
theorem restrict_any (h : DH) (lev : Nat) (c : Int) (hc : c = 1 ∨ c = 2) (hn : h.n < 2 ^ 31) (hln : lev < h.n) : ∀ (m : Nat) (s : DS) (k : Nat) (w : World), Dia w h s → k < s.nodes.length → lev ≤ (ndAt s.nodes k).lev + m → s.cnt + 2 * 2 ^ m < 2 ^ 30 →
    Calls Tryz.prog 123 #[.pointer (some ⟨h.b, 0, none⟩), .int .i32 k, .int .i64 lev, .int .i64 c] w (REnd w h s s k lev c m) := by
  intro m
  induction m with
  | zero =>
    intro s k w d hk hm hcnt
    exact restrict_top h lev c hc hn hln 0 s k w d hk (by omega) (by omega)
  | succ m ih =>
    intro s k w d hk hm hcnt
    have h2m : 0 < 2 ^ m := Nat.two_pow_pos m
    have h2m1 : 2 ^ (m + 1) = 2 * 2 ^ m := by rw [Nat.pow_succ]; omega
    by_cases hge : lev ≤ (ndAt s.nodes k).lev
    · exact restrict_top h lev c hc hn hln (m + 1) s k w d hk hge (by omega)
    have hblt := d.lt h.b (Or.inl rfl)
    have hblt1 : h.b < w.heap.size + 1 := by omega
    obtain ⟨c0, c1, c2, c3, c4, c5⟩ := d.cells
    obtain ⟨g, cap, eg, hcs, hg, hgb⟩ := d.node
    obtain ⟨n0, n1, n2⟩ := hcs k hk
    rw [eg] at c2
    have hlen := d.inv.cnt
    have wf := d.inv.wf
    have hlt : (ndAt s.nodes k).lev < lev := by omega
    have k2 := two_of_lev wf (k := k) (by omega)
    have a1 := wf.lo k k2 hk; have a2 := wf.hi k k2 hk; have a3 := wf.upL k k2 hk; have a4 := wf.upH k k2 hk
    have i1 : (k : Int) < (s.nodes.length : Int) := by omega
    have hcw : IntKind.i32.wrap c = c := by rcases hc with rfl | rfl <;> rfl
    have hlw : IntKind.i32.wrap (lev : Int) = (lev : Int) := IntWalk.i32_in _ (by omega)
    have hnl : ((( (ndAt s.nodes k).lev : Nat) : Int) == (lev : Int)) = false := beq_eq_false_iff_ne.2 (by omega)
    obtain ⟨kl, hkl⟩ := key_tk c k lev (by omega) (by omega) (by omega)
    simp only [tkV] at hkl
    have hrun : ∀ (O O' : Obj) (q : Nat), (Instr.lookup 110 (.map (some h.bd)) (.agg #[.int .i32 c, .int .i32 k, .int .i32 lev]) true).run Tryz.prog (((w.alloc O).alloc O').drewN q) = .ok (.tuple #[(s.fd (tkV c k lev)).getD (.int .i32 0), .bool (s.fd (tkV c k lev)).isSome]) (((w.alloc O).alloc O').drewN q) :=
      fun O O' q => (((d.alloc O).alloc O').drewN q).dne.look_ok taskLaw Tryz.underlying110 (zeroKnot _) hkl
    by_cases hex : ∃ v, s.fd (tkV c k lev) = some v
    · obtain ⟨v, hv⟩ := hex
      obtain ⟨r, rfl, ht⟩ := d.inv.done _ _ _ _ hv
      rw [hv] at hrun
      simp only [Option.getD_some, Option.isSome_some] at hrun
      have hfin : ∀ O O' q, REnd w h s s k lev c (m + 1) (.returned (.int .i32 r)) (((w.alloc O).alloc O').drewN q) := fun O O' q => by
        obtain ⟨t2, t3⟩ := ht.pos (by omega)
        exact ⟨s, r, rfl, (((Upd.refl d).alloc O).alloc O').drewN q, Ext.refl _, ht.hc, t2, t3, fun hh => absurd hh hge, rfl, by omega⟩
      generalize ndAt s.nodes k = x at *
      have Hf := Lib.hid hfin; have Hcw := Lib.hid hcw
      clear hfin d ih hkl hv ht wf eg hcs a1 a2 a3 a4
      rcases hc with rfl | rfl
      all_goals
        go_enter Tryz.func123, Tryz.ntmps123
        go_wp2
        go_quiet (fail)
        go_wp2
        go_ret
        exact Hf.out _ _ _
    · have hff : s.fd (tkV c k lev) = none := by
        cases e : s.fd (tkV c k lev) with
        | none => rfl
        | some v => exact absurd ⟨v, e⟩ hex
      rw [hff] at hrun
      simp only [Option.getD_none, Option.isSome_none] at hrun
      have hown : ∀ j, own h s j → j < w.heap.size := d.lt
      have hU1 : ∀ O O' q, Upd w (((w.alloc O).alloc O').drewN q) h s s := fun O O' q => (((Upd.refl d).alloc O).alloc O').drewN q
      have Hd := Lib.hid d; have Hih := Lib.hid ih; have Hm := Lib.hid hm; have Hwf := Lib.hid wf; have HU := Lib.hid hU1; have Hown := Lib.hid hown
      have Ha := Lib.hid (show (ndAt s.nodes k).lo < k ∧ (ndAt s.nodes k).hi < k ∧ (ndAt s.nodes k).lev < (ndAt s.nodes (ndAt s.nodes k).lo).lev ∧ (ndAt s.nodes k).lev < (ndAt s.nodes (ndAt s.nodes k).hi).lev from ⟨a1, a2, a3, a4⟩)
      have Hx := Lib.hid (rfl : ndAt s.nodes k = ndAt s.nodes k)
      clear d ih hm wf hU1 hown a1 a2 a3 a4 hge eg hcs
      generalize hx : ndAt s.nodes k = x at *
      have Hx2 := Lib.hid hx
      clear hx Hx
      have Hc := Lib.hid hc
      clear hc
      go_enter Tryz.func123, Tryz.ntmps123
      go_wp2
      go_quiet (fail)
      go_wp2_with fail
      have hW1 := HU.out (.cells #[.int .i64 x.lev, .int .i32 x.lo, .int .i32 x.hi] 107) (.cells #[.int .i32 c, .int .i32 k, .int .i32 lev] 152) nq
      have t0 : (((w.alloc (.cells #[.int .i64 x.lev, .int .i32 x.lo, .int .i32 x.hi] 107)).alloc (.cells #[.int .i32 c, .int .i32 k, .int .i32 lev] 152)).drewN nq).cell? ⟨w.heap.size, 0, none⟩ = some (.int .i64 x.lev) := by simp
      have t1 : (((w.alloc (.cells #[.int .i64 x.lev, .int .i32 x.lo, .int .i32 x.hi] 107)).alloc (.cells #[.int .i32 c, .int .i32 k, .int .i32 lev] 152)).drewN nq).cell? ⟨w.heap.size, 1, none⟩ = some (.int .i32 x.lo) := by simp
      have t2 : (((w.alloc (.cells #[.int .i64 x.lev, .int .i32 x.lo, .int .i32 x.hi] 107)).alloc (.cells #[.int .i32 c, .int .i32 k, .int .i32 lev] 152)).drewN nq).cell? ⟨w.heap.size, 2, none⟩ = some (.int .i32 x.hi) := by simp
      have t3 : (((w.alloc (.cells #[.int .i64 x.lev, .int .i32 x.lo, .int .i32 x.hi] 107)).alloc (.cells #[.int .i32 c, .int .i32 k, .int .i32 lev] 152)).drewN nq).cell? ⟨w.heap.size + 1, 0, none⟩ = some (.int .i32 c) := box_at30 (by simp)
      have t4 : (((w.alloc (.cells #[.int .i64 x.lev, .int .i32 x.lo, .int .i32 x.hi] 107)).alloc (.cells #[.int .i32 c, .int .i32 k, .int .i32 lev] 152)).drewN nq).cell? ⟨w.heap.size + 1, 1, none⟩ = some (.int .i32 k) := box_at31 (by simp)
      have t5 : (((w.alloc (.cells #[.int .i64 x.lev, .int .i32 x.lo, .int .i32 x.hi] 107)).alloc (.cells #[.int .i32 c, .int .i32 k, .int .i32 lev] 152)).drewN nq).cell? ⟨w.heap.size + 1, 2, none⟩ = some (.int .i32 lev) := box_at32 (by simp)
      have tno0 : ¬ own h s w.heap.size := fun hk => absurd (Hown.out _ hk) (by omega)
      have tno1 : ¬ own h s (w.heap.size + 1) := fun hk => absurd (Hown.out _ hk) (by omega)
      clear hrun c0 c1 c2 c3 c4 c5 n0 n1 n2
      generalize ((w.alloc (.cells #[.int .i64 x.lev, .int .i32 x.lo, .int .i32 x.hi] 107)).alloc (.cells #[.int .i32 c, .int .i32 k, .int .i32 lev] 152)).drewN nq = W1 at *
      have hd1 : Dia W1 h s := hW1.dia
      have hS : ∀ W s', Upd W1 W h s s' → W.cell? ⟨w.heap.size, 0, none⟩ = some (.int .i64 x.lev) ∧ W.cell? ⟨w.heap.size, 1, none⟩ = some (.int .i32 x.lo) ∧ W.cell? ⟨w.heap.size, 2, none⟩ = some (.int .i32 x.hi) := fun W s' u => ⟨u.keeps.cell t0 tno0, u.keeps.cell t1 tno0, u.keeps.cell t2 tno0⟩
      have hT : ∀ W s', Upd W1 W h s s' → W.cell? ⟨w.heap.size + 1, 0, none⟩ = some (.int .i32 c) ∧ W.cell? ⟨w.heap.size + 1, 1, none⟩ = some (.int .i32 k) ∧ W.cell? ⟨w.heap.size + 1, 2, none⟩ = some (.int .i32 lev) := fun W s' u => ⟨u.keeps.cell t3 tno1, u.keeps.cell t4 tno1, u.keeps.cell t5 tno1⟩
      have hL : ∀ W, Upd W1 W h s s → Calls Tryz.prog 123 #[.pointer (some ⟨h.b, 0, none⟩), .int .i32 x.lo, .int .i64 lev, .int .i64 c] W (REnd W1 h s s x.lo lev c m) := fun W u =>
        (Hih.out s x.lo W u.dia (by have := Ha.out; omega) (by have := Ha.out; have := Hm.out; omega) (by omega)).mono (by rintro e w' ⟨s'', r, he, u2, p⟩; exact ⟨s'', r, he, u.trans u2, p⟩)
      have hH : ∀ W s2 r0, Upd W1 W h s s2 → RMean s x.lo lev c m s2 r0 → Calls Tryz.prog 123 #[.pointer (some ⟨h.b, 0, none⟩), .int .i32 x.hi, .int .i64 lev, .int .i64 c] W (REnd W1 h s s2 x.hi lev c m) := fun W s2 r0 u p2 =>
        (Hih.out s2 x.hi W u.dia (by have := Ha.out; have := p2.ext.len; omega) (by have := Ha.out; have := Hm.out; rw [p2.ext.at (by omega)]; omega) (by have := p2.cnt; omega)).mono (by rintro e w' ⟨s'', r, he, u2, p⟩; exact ⟨s'', r, he, u.trans u2, p⟩)
      have hF : ∀ W s2 s3 r0 r1, Upd W1 W h s s3 → RMean s x.lo lev c m s2 r0 → RMean s2 x.hi lev c m s3 r1 → Calls Tryz.prog 93 #[.pointer (some ⟨h.b, 0, none⟩), .int .i64 x.lev, .int .i32 r0, .int .i32 r1] W (FEnd W1 h s s3 x.lev r0 r1) := fun W s2 s3 r0 r1 u p2 p3 =>
        (fork_any h s3 x.lev r0 r1 W u.dia (by omega) (Nat.lt_of_lt_of_le p2.hk p3.ext.len) p3.hk (by have := Ha.out; have := p2.low; rw [p3.ext.at p2.hk]; omega) (by have := Ha.out; have := p3.low; rw [p2.ext.at (by omega)] at this; omega) hn (by have := p2.cnt; have := p3.cnt; omega)).mono
          (by rintro e w' ⟨s4, r, he, p⟩; exact ⟨s4, r, he, u.trans p.upd, p.upd.ext, p.hk, p.mean, p.lev, p.steps, p.cnt⟩)
      have HW1 := Lib.hid hW1; have Hd1 := Lib.hid (Upd.refl hd1); have HS := Lib.hid hS; have HT := Lib.hid hT; have HL := Lib.hid hL; have HH := Lib.hid hH; have HF := Lib.hid hF
      clear hW1 hd1 hS hT hL hH hF t0 t1 t2 t3 t4 t5
      go_region_held3 (fun W => W.cell? ⟨w.heap.size, 0, none⟩ = some (.int .i64 x.lev) ∧ W.cell? ⟨w.heap.size, 1, none⟩ = some (.int .i32 x.lo) ∧ W.cell? ⟨w.heap.size, 2, none⟩ = some (.int .i32 x.hi))
        (first | exact HS.out _ _ (by assumption) | exact HS.out _ _ (Upd.drew (by assumption)) | exact HS.out _ _ Hd1.out | exact HS.out _ _ Hd1.out.drew)
        (first
          | (go_at_call 123; (with_reducible refine (HL.out _ (by first | exact Hd1.out | exact Hd1.out.drew)).mono ?_); rintro e w2 ⟨s2, r0, rfl, u2, p2⟩)
          | (go_at_call 123; (with_reducible refine (HH.out _ s2 r0 (by first | exact u2 | exact u2.drew) p2).mono ?_); rintro e w3 ⟨s3, r1, rfl, u3, p3⟩)
          | (go_at_call 93; (with_reducible refine (HF.out _ s2 s3 r0 r1 (by first | exact u3 | exact u3.drew) p2 p3).mono ?_); rintro e w4 ⟨s4, r, rfl, u4, p4⟩))
      obtain ⟨d0, d1, d2, d3, d4, d5⟩ := u4.dia.cells
      obtain ⟨q0, q1, q2⟩ := HT.out _ _ u4
      have c2 := p2.cnt
      have c3 := p3.cnt
      have c4 := p4.cnt
      obtain ⟨W5, hrun5, hm5, hg5⟩ := (u4.dia.dne.kept (w' := w4.drew) rfl).update (t := 110) (val := .int .i32 r) taskLaw Tryz.underlying110 (by unfold maxLen; omega) hkl
      have hfin : REnd w h s s k lev c (m + 1) (.returned (.int .i32 r)) W5 := by
        have hx := Hx2.out
        subst hx
        exact restrict_fin Hc.out Hd.out HW1.out hk hlt hln p2 p3 u2.dia.inv.wf u3.dia.inv.wf u4 p4.ext p4.hk p4.mean p4.low p4.steps p4.cnt hm5 ⟨hg5.os, hg5.tape, hg5.output, hg5.size, hg5.block⟩
      have Hfin := Lib.hid hfin
      clear hfin hm5 hg5 u2 u3 u4 p2 p3 p4 c2 c3 c4 d0 d1 d2 d3 d5
      go_wp2_with fail
      go_region
      all_goals
        go_wp2
        go_ret
        exact Hfin.out
end Go.Proofs.YtngjjmniigkeoaaGreatDoor
