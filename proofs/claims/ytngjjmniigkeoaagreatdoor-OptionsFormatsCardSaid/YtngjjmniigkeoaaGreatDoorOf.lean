/- The knot of a formula: not, of$1. -/
import Derived.Test.YtngjjmniigkeoaaGreatDoorJoinB
namespace Go.Proofs.YtngjjmniigkeoaaGreatDoor
open Go Go.RowKit Go.WideMaps Go.Maps
set_option linter.unusedSimpArgs false
set_option linter.unusedVariables false

theorem join_any (h : DH) (op : Int) (ho : op = -4 ∨ op = -5 ∨ op = -6) (hn : h.n < 2 ^ 31) (m : Nat) : JoinSpec h op m := joinSpec_of (join_le h op ho hn m)

/-- What a call leaves that makes a knot of a given meaning, at cost C. -/
structure OfPost (w : World) (h : DH) (s : DS) (m : (Nat → Bool) → Bool) (C : Nat) (w' : World) (s' : DS) (k : Nat) : Prop where
  upd : Upd w w' h s s'
  hk : k < s'.nodes.length
  mean : ∀ σ, sem s'.nodes k σ = m σ
  steps : s.steps ≤ s'.steps + C
  le : s'.steps ≤ s.steps
  cnt : s'.cnt ≤ s.cnt + 2 * C
def OfEnd (w : World) (h : DH) (s : DS) (m : (Nat → Bool) → Bool) (C : Nat) (e : Ending) (w' : World) : Prop := ∃ s' k, e = .returned (.int .i32 (k : Nat)) ∧ OfPost w h s m C w' s' k

/-- join, at a cost that does not look at the levels. -/
theorem join_of (h : DH) (op : Int) (ho : op = -4 ∨ op = -5 ∨ op = -6) (hn : h.n < 2 ^ 31) (s : DS) (a b : Nat) (w : World) (d : Dia w h s) (ha : a < s.nodes.length) (hb : b < s.nodes.length) (hst : ((2 ^ h.n : Nat) : Int) ≤ s.steps) (hst2 : s.steps ≤ 4611686018427387904) (hcnt : s.cnt + 2 * 2 ^ h.n < 2 ^ 30) :
    Calls Tryz.prog 76 #[.pointer (some ⟨h.b, 0, none⟩), .int .i64 op, .int .i32 a, .int .i32 b] w (OfEnd w h s (fun σ => opF op (sem s.nodes a σ) (sem s.nodes b σ)) (2 ^ h.n)) := by
  have h2 : 0 < 2 ^ h.n := Nat.two_pow_pos _
  refine (join_any h op ho hn h.n s a b w d ha hb (by omega) (by omega) hst2 hcnt).mono ?_
  rintro e w' ⟨s', k, he, p⟩
  exact ⟨s', k, he, p.upd, p.hk, p.mean, by have := p.steps; omega, p.le, by have := p.cnt; omega⟩

set_option maxHeartbeats 800000 in
theorem not_any (h : DH) (hn : h.n < 2 ^ 31) (s : DS) (a : Nat) (w : World) (d : Dia w h s) (ha : a < s.nodes.length) (hst : ((2 ^ h.n : Nat) : Int) ≤ s.steps) (hst2 : s.steps ≤ 4611686018427387904) (hcnt : s.cnt + 2 * 2 ^ h.n < 2 ^ 30) :
    Calls Tryz.prog 92 #[.pointer (some ⟨h.b, 0, none⟩), .int .i32 a] w (OfEnd w h s (fun σ => !(sem s.nodes a σ)) (2 ^ h.n)) := by
  have h2 := d.inv.wf.two
  have hm : (fun σ => opF (-6) (sem s.nodes 0 σ) (sem s.nodes a σ)) = (fun σ => !(sem s.nodes a σ)) := by
    funext σ; rw [sem_no]; cases sem s.nodes a σ <;> rfl
  have hj := join_of h (-6) (by omega) hn s 0 a w d (by omega) ha hst hst2 hcnt
  rw [hm] at hj
  have Hj := Lib.hid hj
  clear hj hm
  go_enter Tryz.func92, Tryz.ntmps92
  go_wp2_with fail
  refine Hj.out.mono ?_
  rintro e w1 ⟨s1, k, rfl, p1⟩
  go_wp2_with fail
  go_ret
  exact ⟨s1, k, rfl, p1⟩

/-- A block that no call on the diagrams writes. -/
structure Out (w : World) (h : DH) (s : DS) (b : Nat) : Prop where
  lt : b < w.heap.size
  no : ¬ own h s b
theorem Out.upd {w w' : World} {h : DH} {s s' : DS} {b : Nat} (o : Out w h s b) (u : Upd w w' h s s') : Out w' h s' b :=
  ⟨Nat.lt_of_lt_of_le o.lt u.keeps.size, fun hk => by rcases u.own b hk with h1 | h1; exact o.no h1; have := o.lt; omega⟩
theorem Out.block {w w' : World} {h : DH} {s s' : DS} {b : Nat} (o : Out w h s b) (u : Upd w w' h s s') : w'.heap[b]? = w.heap[b]? := u.keeps.block b o.lt o.no
theorem Out.cell {w w' : World} {h : DH} {s s' : DS} {b i : Nat} {v : Value} (o : Out w h s b) (u : Upd w w' h s s') (hc : w.cell? ⟨b, i, none⟩ = some v) : w'.cell? ⟨b, i, none⟩ = some v := u.keeps.cell hc o.no

/-- A slice of numbers that no call on the diagrams writes. -/
structure OutInts (w : World) (h : DH) (s : DS) (ao : Option Addr) (cap : Nat) (xs : List Int) : Prop where
  ints : IntsAt w ao cap xs
  out : ∀ b off, 0 < xs.length → ao = some ⟨b, off, none⟩ → Out w h s b
theorem OutInts.upd {w w' : World} {h : DH} {s s' : DS} {ao : Option Addr} {cap : Nat} {xs : List Int} (o : OutInts w h s ao cap xs) (u : Upd w w' h s s') : OutInts w' h s' ao cap xs := by
  refine ⟨⟨o.ints.len, fun h0 => ?_, o.ints.fits⟩, fun b off h0 e => (o.out b off h0 e).upd u⟩
  obtain ⟨b, off, e, hc⟩ := o.ints.cells h0
  exact ⟨b, off, e, fun k hk => (o.out b off h0 e).cell u (hc k hk)⟩

/-- The levels of the options. -/
structure Lv (w : World) (h : DH) (s : DS) (ls : List Nat) : Prop where
  ex : ∃ ao cap, h.lv = .slice ao ls.length cap ∧ OutInts w h s ao cap (ls.map (fun (x : Nat) => (x : Int)))
  len : ls.length = h.n
  bd : ∀ x ∈ ls, x < h.n
theorem Lv.upd {w w' : World} {h : DH} {s s' : DS} {ls : List Nat} (l : Lv w h s ls) (u : Upd w w' h s s') : Lv w' h s' ls := by
  obtain ⟨ao, cap, e, o⟩ := l.ex
  exact ⟨⟨ao, cap, e, o.upd u⟩, l.len, l.bd⟩

/-- What a number of a formula makes of its operands. -/
def tk (σ : Nat → Bool) (x : Int) (a b : Bool) : Bool :=
  if x = -1 then true else if x = -2 then false else if x = -3 then !a else if x = -4 then a && b else if x = -5 then a || b else if x = -6 then a == b else σ x.toNat
/-- An assignment of the options, told by the levels. -/
def byLev (ls : List Nat) (σ : Nat → Bool) : Nat → Bool := fun o => σ (ls.getD o 0)

set_option maxRecDepth 100000 in
set_option maxHeartbeats 3200000 in
theorem take_any (h : DH) (hn : h.n < 2 ^ 31) (s : DS) (ls : List Nat) (tb : Nat) (x : Int) (a b : Nat) (w : World) (d : Dia w h s) (hl : Lv w h s ls) (hb : w.cell? ⟨tb, 0, none⟩ = some (.pointer (some ⟨h.b, 0, none⟩))) (hx : opB x h.n = true) (ha : a < s.nodes.length) (hbk : b < s.nodes.length)
    (hst : ((2 ^ h.n : Nat) : Int) ≤ s.steps) (hst2 : s.steps ≤ 4611686018427387904) (hcnt : s.cnt + 2 * 2 ^ h.n < 2 ^ 30) :
    Calls Tryz.prog 91 #[.int .i64 x, .int .i32 a, .int .i32 b, .pointer (some ⟨tb, 0, none⟩)] w (OfEnd w h s (fun σ => tk (byLev ls σ) x (sem s.nodes a σ) (sem s.nodes b σ)) (2 ^ h.n)) := by
  have h2 := d.inv.wf.two
  have hp : 0 < 2 ^ h.n := Nat.two_pow_pos _
  have hself : ∀ k, k < s.nodes.length → (∀ σ, sem s.nodes k σ = tk (byLev ls σ) x (sem s.nodes a σ) (sem s.nodes b σ)) → OfEnd w h s (fun σ => tk (byLev ls σ) x (sem s.nodes a σ) (sem s.nodes b σ)) (2 ^ h.n) (.returned (.int .i32 k)) w :=
    fun k hk hm => ⟨s, k, rfl, Upd.refl d, hk, hm, by omega, Int.le_refl _, by omega⟩
  unfold opB at hx
  simp at hx
  rcases (show x = -1 ∨ x = -2 ∨ x = -3 ∨ (x = -4 ∨ x = -5 ∨ x = -6) ∨ 0 ≤ x by omega) with h1 | h1 | h1 | h1 | h1
  · subst h1
    have hf := hself 1 (by omega) (fun σ => by rw [sem_yes]; rfl)
    have Hf := Lib.hid hf
    clear hf hself
    go_enter Tryz.func91, Tryz.ntmps91
    go_wp2_with fail
    go_ret
    exact Hf.out
  · subst h1
    have hf := hself 0 (by omega) (fun σ => by rw [sem_no]; rfl)
    have Hf := Lib.hid hf
    clear hf hself
    go_enter Tryz.func91, Tryz.ntmps91
    go_wp2_with fail
    go_ret
    exact Hf.out
  · subst h1
    have hj := not_any h hn s a w d ha hst hst2 hcnt
    have hm : (fun σ => !(sem s.nodes a σ)) = (fun σ => tk (byLev ls σ) (-3) (sem s.nodes a σ) (sem s.nodes b σ)) := rfl
    rw [hm] at hj
    have Hj := Lib.hid hj
    clear hj hself hm
    go_enter Tryz.func91, Tryz.ntmps91
    go_wp2_with fail
    refine Hj.out.mono ?_
    rintro e w1 ⟨s1, k, rfl, p1⟩
    go_wp2_with fail
    go_ret
    exact ⟨s1, k, rfl, p1⟩
  · have hj := join_of h x h1 hn s a b w d ha hbk hst hst2 hcnt
    have hm : (fun σ => opF x (sem s.nodes a σ) (sem s.nodes b σ)) = (fun σ => tk (byLev ls σ) x (sem s.nodes a σ) (sem s.nodes b σ)) := by
      funext σ; rcases h1 with rfl | rfl | rfl <;> rfl
    rw [hm] at hj
    have Hj := Lib.hid hj
    clear hj hself hm
    rcases h1 with rfl | rfl | rfl
    all_goals
      go_enter Tryz.func91, Tryz.ntmps91
      go_wp2_with fail
      refine Hj.out.mono ?_
      rintro e w1 ⟨s1, k, rfl, p1⟩
      go_wp2_with fail
      go_ret
      exact ⟨s1, k, rfl, p1⟩
  · obtain ⟨o, rfl⟩ := Int.eq_ofNat_of_zero_le h1
    have ho : o < ls.length := by have := hl.len; omega
    obtain ⟨ao, cap, elv, hout⟩ := hl.ex
    obtain ⟨lb, off, rfl, hcs⟩ := hout.ints.cells (by simp; omega)
    have hco := hcs o (by simpa using ho)
    have hLe : (ls.map (fun (x : Nat) => (x : Int))).getD o 0 = ((ls.getD o 0 : Nat) : Int) := by simp [List.getD, ho]
    rw [hLe] at hco
    have hLn : ls.getD o 0 < h.n := hl.bd _ (by simp [List.getD, ho])
    have hm : ∀ σ, tk (byLev ls σ) (o : Int) (sem s.nodes a σ) (sem s.nodes b σ) = σ (ls.getD o 0) := by
      intro σ
      unfold tk byLev
      rw [if_neg (by omega), if_neg (by omega), if_neg (by omega), if_neg (by omega), if_neg (by omega), if_neg (by omega)]
      simp
    generalize ls.getD o 0 = L at *
    have hd1 : Dia w.drew h s := d.drew
    have hlev0 : (ndAt s.nodes 0).lev = h.n := by rw [d.inv.wf.no]
    have hlev1 : (ndAt s.nodes 1).lev = h.n := by rw [d.inv.wf.yes]
    have hfk := fork_any h s L 0 1 w.drew hd1 hLn (by omega) (by omega) (by omega) (by omega) hn (by omega)
    have hfin : ∀ w' s' k, ForkPost w.drew h s L 0 1 w' s' k → OfEnd w h s (fun σ => tk (byLev ls σ) (o : Int) (sem s.nodes a σ) (sem s.nodes b σ)) (2 ^ h.n) (.returned (.int .i32 k)) w' := by
      intro w' s' k p
      have u0 : Upd w w.drew h s s := ⟨hd1, Ext.refl _, (Keeps.refl _ _).drew, fun _ hk => Or.inl hk⟩
      refine ⟨s', k, rfl, u0.trans p.upd, p.hk, fun σ => ?_, by have := p.steps; omega, by have := p.steps; omega, by have := p.cnt; omega⟩
      rw [p.mean, hm, sem_no, sem_yes]
      cases σ L <;> rfl
    obtain ⟨c0, c1, c2, c3, c4, c5⟩ := d.cells
    rw [elv] at c1
    simp only [List.length_map] at *
    have i1 : (o : Int) < (ls.length : Int) := by omega
    have f1 : ((o : Int) == -1) = false := beq_eq_false_iff_ne.2 (by omega)
    have f2 : ((o : Int) == -2) = false := beq_eq_false_iff_ne.2 (by omega)
    have f3 : ((o : Int) == -3) = false := beq_eq_false_iff_ne.2 (by omega)
    have f4 : ((o : Int) == -4) = false := beq_eq_false_iff_ne.2 (by omega)
    have f5 : ((o : Int) == -5) = false := beq_eq_false_iff_ne.2 (by omega)
    have f6 : ((o : Int) == -6) = false := beq_eq_false_iff_ne.2 (by omega)
    have Hf := Lib.hid hfin; have Hk := Lib.hid hfk
    clear hfin hfk hself d hl hout hcs elv hm hd1 hlev0 hlev1 hLe
    go_enter Tryz.func91, Tryz.ntmps91
    go_wp2_with fail
    go_region_law ((go_simp; go_at_call 93; refine Hk.out.mono ?_; rintro e w1 ⟨s1, k, rfl, p1⟩))
    all_goals
      go_wp2
      go_ret
      exact Hf.out _ _ _ (by assumption)
end Go.Proofs.YtngjjmniigkeoaaGreatDoor
