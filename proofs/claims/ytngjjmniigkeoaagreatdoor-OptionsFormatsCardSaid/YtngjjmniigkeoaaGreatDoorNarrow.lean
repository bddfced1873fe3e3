/- narrow: what is left of a rest with a choice. -/
import Derived.Test.YtngjjmniigkeoaaGreatDoorSettle
import Derived.Test.YtngjjmniigkeoaaGreatDoorCount
namespace Go.Proofs.YtngjjmniigkeoaaGreatDoor
open Go Go.RowKit Go.WideMaps Go.Maps
set_option linter.unusedSimpArgs false
set_option linter.unusedVariables false

def RQEnd (w : World) (s : DS) (k lev : Nat) (c : Int) (e : Ending) (w' : World) : Prop := ∃ r, e = .returned (.int .i32 (r : Nat)) ∧ Keeps (fun _ => False) w w' ∧ RMean s k lev c 0 s r

set_option maxRecDepth 100000 in
set_option maxHeartbeats 1600000 in
theorem restrict_quiet (h : DH) (lev : Nat) (c : Int) (hc : c = 1 ∨ c = 2) (hn : h.n < 2 ^ 31) (hln : lev < h.n) (s : DS) (k : Nat) (w : World) (d : Dia w h s) (hk : k < s.nodes.length) (hge : lev ≤ (ndAt s.nodes k).lev) (hcnt : s.cnt < 2 ^ 30) :
    Calls Tryz.prog 123 #[.pointer (some ⟨h.b, 0, none⟩), .int .i32 k, .int .i64 lev, .int .i64 c] w (RQEnd w s k lev c) := by
  obtain ⟨c0, c1, c2, c3, c4, c5⟩ := d.cells
  obtain ⟨g, cap, eg, hcs, hg, hgb⟩ := d.node
  obtain ⟨n0, n1, n2⟩ := hcs k hk
  rw [eg] at c2
  have hlen := d.inv.cnt
  have hll := d.inv.wf.lev_le hk
  have i1 : (k : Int) < (s.nodes.length : Int) := by omega
  by_cases hlt : lev < (ndAt s.nodes k).lev
  · have hfin : ∀ O, RQEnd w s k lev c (.returned (.int .i32 k)) (w.alloc O) := fun O => ⟨k, rfl, (Keeps.refl _ _).alloc O, restrict_keep d hk hlt⟩
    generalize ndAt s.nodes k = x at *
    have Hf := Lib.hid hfin
    clear hfin d eg hcs hc
    go_enter Tryz.func123, Tryz.ntmps123
    go_wp2
    go_ret
    exact Hf.out _
  · have he : (ndAt s.nodes k).lev = lev := by omega
    have hfin : ∀ O, RQEnd w s k lev c (.returned (.int .i32 ((if c = 2 then (ndAt s.nodes k).hi else (ndAt s.nodes k).lo : Nat) : Int))) (w.alloc O) := fun O => ⟨_, rfl, (Keeps.refl _ _).alloc O, restrict_at d hc hk he hln⟩
    rw [he] at n0
    generalize ndAt s.nodes k = x at *
    have hno : ¬ lev < lev := by omega
    have hq : ((lev : Int) == (lev : Int)) = true := by simp
    rcases hc with rfl | rfl
    · rw [if_neg (by omega)] at hfin
      have Hf := Lib.hid hfin
      clear hfin d eg hcs he hlt hge hll
      go_enter Tryz.func123, Tryz.ntmps123
      go_wp2
      go_ret
      exact Hf.out _
    · rw [if_pos rfl] at hfin
      have Hf := Lib.hid hfin
      clear hfin d eg hcs he hlt hge hll
      go_enter Tryz.func123, Tryz.ntmps123
      go_wp2
      go_ret
      exact Hf.out _

structure NarMean (h : DH) (s : DS) (a : Nat) (ts : List (Nat × Int)) (lev : Nat) (c : Int) (s' : DS) (a' : Nat) (us : List (Nat × Int)) (sum : Int) : Prop where
  ext : Ext s.nodes s'.nodes
  ha : a' < s'.nodes.length
  low : lev < (ndAt s'.nodes a').lev
  mean : ∀ σ, sem s'.nodes a' σ = sem s.nodes a (setAt σ lev (c == 2))
  val : ∀ σ, valT s.nodes (setAt σ lev (c == 2)) ts = sum + valT s'.nodes σ us
  hi : sum + hiT us ≤ hiT ts
  lo : loT ts ≤ sum + loT us
  inT : InT s'.nodes (lev + 1) us
  two : Two us
  len : us.length ≤ ts.length
  steps : s.steps ≤ s'.steps + (ts.length * 2 ^ h.n : Nat)
  le : s'.steps ≤ s.steps
  cnt : s'.cnt ≤ s.cnt + 2 * (ts.length * 2 ^ h.n)

/-- What narrow leaves: nothing is allowed, or a rest of the call's own. -/
def NarrowEnd (w : World) (h : DH) (s : DS) (a : Nat) (ts : List (Nat × Int)) (lev : Nat) (c : Int) (e : Ending) (w' : World) : Prop :=
  (e = .returned (.tuple #[.agg #[.int .i32 0, .slice none 0 0], .int .i64 0]) ∧ (∀ σ, sem s.nodes a (setAt σ lev (c == 2)) = false) ∧ FUpd (fun _ => False) w w' h s s) ∨
  ∃ s' a' us sum g cap, e = .returned (.tuple #[.agg #[.int .i32 (a' : Nat), .slice (some ⟨g, 0, none⟩) us.length cap], .int .i64 sum]) ∧ a' ≠ 0 ∧ FUpd (fun _ => False) w w' h s s' ∧ TermsAt w' (some ⟨g, 0, none⟩) us ∧ w.heap.size ≤ g ∧ g < w'.heap.size ∧ ¬ own h s' g ∧ NarMean h s a ts lev c s' a' us sum

/-- As the forms are narrowed. -/
structure Nar1 (s : DS) (lev : Nat) (c : Int) (ts : List (Nat × Int)) (k : Nat) (ys : List (Nat × Int)) : Prop where
  len : ys.length = ts.length
  snd : ∀ j, j < ts.length → (ys.getD j (0, 0)).2 = (ts.getD j (0, 0)).2
  rest : ∀ j, k ≤ j → j < ts.length → ys.getD j (0, 0) = ts.getD j (0, 0)
  done : ∀ j, j < k → RMean s (ts.getD j (0, 0)).1 lev c 0 s (ys.getD j (0, 0)).1
theorem Nar1.start (s : DS) (lev : Nat) (c : Int) (ts : List (Nat × Int)) : Nar1 s lev c ts 0 ts := ⟨rfl, fun _ _ => rfl, fun _ _ _ => rfl, fun j hj => by omega⟩
theorem Nar1.step {s : DS} {lev k r : Nat} {c : Int} {ts ys : List (Nat × Int)} (n : Nar1 s lev c ts k ys) (hk : k < ts.length) (m : RMean s (ys.getD k (0, 0)).1 lev c 0 s r) : Nar1 s lev c ts (k + 1) (ys.set k (r, (ys.getD k (0, 0)).2)) := by
  have hl := n.len
  have hat : ∀ j, j ≠ k → (ys.set k (r, (ys.getD k (0, 0)).2)).getD j (0, 0) = ys.getD j (0, 0) := fun j hj => by simp [List.getD, List.getElem?_set, show ¬ k = j by omega]
  have hatk : (ys.set k (r, (ys.getD k (0, 0)).2)).getD k (0, 0) = (r, (ys.getD k (0, 0)).2) := by simp [List.getD, show k < ys.length by omega]
  refine ⟨by simp [hl], fun j hj => ?_, fun j h1 h2 => ?_, fun j hj => ?_⟩
  · by_cases e : j = k
    · subst e; rw [hatk]; exact n.snd j hj
    · rw [hat j e]; exact n.snd j hj
  · rw [hat j (by omega)]; exact n.rest j (by omega) h2
  · by_cases e : j = k
    · subst e
      rw [hatk, ← n.rest j (Nat.le_refl _) hk]; exact m
    · rw [hat j e]; exact n.done j (by omega)
theorem addT_pair {f g : Nat × Int → Int} : ∀ (xs ys : List (Nat × Int)), xs.length = ys.length → (∀ j, j < ys.length → f (xs.getD j (0, 0)) = g (ys.getD j (0, 0))) → addT f xs = addT g ys
  | [], [], _, _ => rfl
  | [], y :: ys, h, _ => by simp at h
  | x :: xs, [], h, _ => by simp at h
  | x :: xs, y :: ys, h, hf => by
    simp only [addT]
    have h0 := hf 0 (by simp)
    have ih := addT_pair xs ys (by simpa using h) (fun j hj => by have := hf (j + 1) (by simpa using hj); simpa using this)
    simp only [List.getD_cons_zero] at h0
    omega
theorem Nar1.val {s : DS} {lev : Nat} {c : Int} {ts ys : List (Nat × Int)} (n : Nar1 s lev c ts ts.length ys) (σ : Nat → Bool) : valT s.nodes σ ys = valT s.nodes (setAt σ lev (c == 2)) ts :=
  addT_pair ys ts n.len (fun j hj => by (try dsimp only); rw [n.snd j hj, (n.done j hj).mean σ])
theorem Nar1.hi {s : DS} {lev : Nat} {c : Int} {ts ys : List (Nat × Int)} (n : Nar1 s lev c ts ts.length ys) : hiT ys = hiT ts := addT_pair ys ts n.len (fun j hj => by (try dsimp only); rw [n.snd j hj])
theorem Nar1.lo {s : DS} {lev : Nat} {c : Int} {ts ys : List (Nat × Int)} (n : Nar1 s lev c ts ts.length ys) : loT ys = loT ts := addT_pair ys ts n.len (fun j hj => by (try dsimp only); rw [n.snd j hj])
theorem Nar1.inT {s : DS} {lev : Nat} {c : Int} {ts ys : List (Nat × Int)} (n : Nar1 s lev c ts ts.length ys) (hi : InT s.nodes lev ts) : InT s.nodes (lev + 1) ys := by
  intro t ht
  obtain ⟨j, hj, rfl⟩ := List.getElem_of_mem ht
  have hl := n.len
  have e : ys.getD j (0, 0) = ys[j] := by simp [List.getD, hj]
  have m := n.done j (by omega)
  rw [e] at m
  exact ⟨m.hk, m.next (hi _ (getD_mem (by omega))).2⟩

theorem nar_fin {h : DH} {s s' : DS} {a a' lev : Nat} {c : Int} {ts ys us : List (Nat × Int)} {sum : Int} (hw : WF h.n s.nodes) (m : RMean s a lev c 0 s a') (hla : lev ≤ (ndAt s.nodes a).lev) (n : Nar1 s lev c ts ts.length ys) (sm : SMean h s (lev + 1) ys s' us sum) : NarMean h s a ts lev c s' a' us sum := by
  have hl := n.len
  refine ⟨sm.ext, Nat.lt_of_lt_of_le m.hk sm.ext.len, by rw [sm.ext.at m.hk]; exact m.next hla, fun σ => by rw [sm.ext.sem hw m.hk]; exact m.mean σ, fun σ => ?_, ?_, ?_, sm.inT, sm.two, by have := sm.len; omega, by have := sm.steps; rw [hl] at this; exact this, sm.le, by have := sm.cnt; rw [hl] at this; exact this⟩
  · rw [← n.val σ, ← sm.half.val σ]; omega
  · have := sm.half.hi; rw [n.hi] at this; exact this
  · have := sm.half.lo; rw [n.lo] at this; exact this

theorem box2_at {w : World} {x y u v : Value} {t t' : TypeId} : ((w.alloc (.cells #[x, y] t)).alloc (.cells #[u, v] t')).heap[w.heap.size]? = some (.cells #[x, y] t (0, 0)) ∧ ((w.alloc (.cells #[x, y] t)).alloc (.cells #[u, v] t')).heap[w.heap.size + 1]? = some (.cells #[u, v] t' (0, 0)) := by
  refine ⟨(Below.heap_alloc _ _ _ (by simp)).trans (heap_alloc_new _ _), ?_⟩
  have := heap_alloc_new (w.alloc (.cells #[x, y] t)) (Obj.cells #[u, v] t')
  have e : (w.alloc (.cells #[x, y] t)).heap.size = w.heap.size + 1 := by simp
  rw [e] at this
  exact this

set_option maxRecDepth 100000 in
set_option maxHeartbeats 6400000 in
theorem narrow_any (h : DH) (hn : h.n < 2 ^ 31) (s : DS) (f : FH) (a gr cap lev : Nat) (c : Int) (hc : c = 1 ∨ c = 2) (ts : List (Nat × Int)) (w : World) (d : Dia w h s) (hf : FBlk w h f) (hfo : ¬ own h s f.b) (hln : lev < h.n) (ha : a < s.nodes.length) (hla : lev ≤ (ndAt s.nodes a).lev)
    (hin : InT s.nodes lev ts) (ht : TermsAt w (some ⟨gr, 0, none⟩) ts) (hn12 : ts.length ≤ 12) (hW : Wt ts ≤ 1099511627776) (hst : ((ts.length * 2 ^ h.n : Nat) : Int) ≤ s.steps) (hst2 : s.steps ≤ 4611686018427387904) (hcnt : s.cnt + 2 * (ts.length * 2 ^ h.n) < 2 ^ 30) :
    Calls Tryz.prog 106 #[.pointer (some ⟨f.b, 0, none⟩), .agg #[.int .i32 a, .slice (some ⟨gr, 0, none⟩) ts.length cap], .int .i64 lev, .int .i64 c] w (NarrowEnd w h s a ts lev c) := by
  have hfl := hf.cells.2.2
  have hwo := d.lt
  have kW : Keeps (fun _ => False) w ((w.alloc (.cells #[.int .i32 a, .slice (some ⟨gr, 0, none⟩) ts.length cap] 131)).alloc (.cells #[.int .i32 0, .slice none 0 0] 131)) := ((Keeps.refl _ _).alloc _).alloc _
  have hb := box2_at (w := w) (x := .int .i32 a) (y := .slice (some ⟨gr, 0, none⟩) ts.length cap) (u := .int .i32 0) (v := .slice none 0 0) (t := 131) (t' := 131)
  have hsz : ((w.alloc (.cells #[.int .i32 a, .slice (some ⟨gr, 0, none⟩) ts.length cap] 131)).alloc (.cells #[.int .i32 0, .slice none 0 0] 131)).heap.size = w.heap.size + 2 := by simp
  have hRQ : ∀ k, k < s.nodes.length → lev ≤ (ndAt s.nodes k).lev → ∀ W, Dia W h s → Calls Tryz.prog 123 #[.pointer (some ⟨h.b, 0, none⟩), .int .i32 k, .int .i64 lev, .int .i64 c] W (RQEnd W s k lev c) := fun k hk hl W dW => restrict_quiet h lev c hc hn hln s k W dW hk hl (by omega)
  have KW := Lib.hid kW; have Hb := Lib.hid hb; have Hsz := Lib.hid hsz; have HRQ := Lib.hid hRQ; have Hd := Lib.hid d; have Hf := Lib.hid hf; have Hin := Lib.hid hin; have Ht := Lib.hid ht; have HW := Lib.hid hW; have Hwo := Lib.hid hwo; have Hla := Lib.hid hla; have Hc := Lib.hid hc
  clear kW hb hsz hRQ d hf hin ht hW hwo hla hc
  go_enter Tryz.func106, Tryz.ntmps106
  go_wp2_with fail
  generalize ((w.alloc (.cells #[.int .i32 a, .slice (some ⟨gr, 0, none⟩) ts.length cap] 131)).alloc (.cells #[.int .i32 0, .slice none 0 0] 131)) = W1 at *
  have hs1 : W1.heap.size = w.heap.size + 2 := Hsz.out
  have hs1a : w.heap.size < W1.heap.size := by omega
  have hs1b : w.heap.size + 1 < W1.heap.size := by omega
  have Hs1 := Lib.hid hs1
  clear hs1
  have hd1 : ∀ W, Keeps (fun _ => False) W1 W → Dia W h s := fun W k => (((FUpd.refl (G := fun _ => False) Hd.out).quiet KW.out).quiet k).dia
  have hS : ∀ W, Keeps (fun _ => False) W1 W → W.cell? ⟨f.b, 0, none⟩ = some (.pointer (some ⟨h.b, 0, none⟩)) ∧ W.cell? ⟨w.heap.size, 0, none⟩ = some (.int .i32 a) := fun W k =>
    ⟨((Hf.out.keeps KW.out (fun e => e)).keeps k (fun e => e)).cells.1, (at_two ((k.block _ hs1a (fun e => e)).trans Hb.out.1)).1⟩
  have hT : ∀ W, Keeps (fun _ => False) W1 W → W.cell? ⟨w.heap.size, 1, none⟩ = some (.slice (some ⟨gr, 0, none⟩) ts.length cap) ∧ W.heap[w.heap.size + 1]? = some (.cells #[.int .i32 0, .slice none 0 0] 131 (0, 0)) := fun W k =>
    ⟨(at_two ((k.block _ hs1a (fun e => e)).trans Hb.out.1)).2.1, (k.block _ hs1b (fun e => e)).trans Hb.out.2⟩
  have hA : ∀ W, Keeps (fun _ => False) W1 W → Calls Tryz.prog 123 #[.pointer (some ⟨h.b, 0, none⟩), .int .i32 a, .int .i64 lev, .int .i64 c] W (fun e w' => ∃ r, e = .returned (.int .i32 (r : Nat)) ∧ Keeps (fun _ => False) W1 w' ∧ RMean s a lev c 0 s r) := fun W k =>
    (HRQ.out a ha Hla.out W (hd1 W k)).mono (by rintro e w' ⟨r, he, kp, m⟩; exact ⟨r, he, k.trans kp (fun _ e => e.elim), m⟩)
  have HS := Lib.hid hS; have HT := Lib.hid hT; have HA := Lib.hid hA; have Hd1 := Lib.hid hd1
  clear hS hT hA hd1
  go_region_held3 (fun W => W.cell? ⟨f.b, 0, none⟩ = some (.pointer (some ⟨h.b, 0, none⟩)) ∧ W.cell? ⟨w.heap.size, 0, none⟩ = some (.int .i32 a))
    (first | exact HS.out _ (Keeps.refl _ _) | exact HS.out _ (Keeps.refl _ _).drew | exact HS.out _ (by assumption) | exact HS.out _ (Keeps.drew (by assumption)))
    ((go_at_call 123; (with_reducible refine (HA.out _ (by first | exact Keeps.refl _ _ | exact (Keeps.refl _ _).drew)).mono ?_); rintro e w2 ⟨a', rfl, k2, m2⟩))
  obtain ⟨hbx, hres⟩ := HT.out _ k2
  by_cases h0 : a' = 0
  · subst h0
    have hq : ((0 : Int) == 0) = true := by decide
    obtain ⟨x1, x2, x3, x4⟩ := at_two hres
    have kk : Keeps (fun b => b = w.heap.size + 1) w2 ((w2.setCell ⟨w.heap.size + 1, 0, none⟩ (.int .i32 0)).setCell ⟨w.heap.size + 1, 1, none⟩ (.slice none 0 0)) := keep2 _ _ _ _ _ _
    have hno : ¬ own h s (w.heap.size + 1) := fun e => by have := Hwo.out _ e; omega
    have hfin : NarrowEnd w h s a ts lev c (.returned (.tuple #[.agg #[.int .i32 0, .slice none 0 0], .int .i64 0])) ((w2.setCell ⟨w.heap.size + 1, 0, none⟩ (.int .i32 0)).setCell ⟨w.heap.size + 1, 1, none⟩ (.slice none 0 0)) :=
      .inl ⟨rfl, fun σ => by rw [← m2.mean σ, sem_no], (((FUpd.refl Hd.out).quiet KW.out).quiet k2).side kk (fun b e => Or.inr (by omega)) (fun b e => by subst e; exact hno)⟩
    have Hfin := Lib.hid hfin
    have z1 : ((w2.setCell ⟨w.heap.size + 1, 0, none⟩ (.int .i32 0)).setCell ⟨w.heap.size + 1, 1, none⟩ (.slice none 0 0)).cell? ⟨w.heap.size + 1, 0, none⟩ = some (.int .i32 0) := by
      rw [World.cell?_setCell_other (h := by intro e; cases e)]; exact World.cell?_setCell_same _ _ _ x1
    have z2 : ((w2.setCell ⟨w.heap.size + 1, 0, none⟩ (.int .i32 0)).setCell ⟨w.heap.size + 1, 1, none⟩ (.slice none 0 0)).cell? ⟨w.heap.size + 1, 1, none⟩ = some (.slice none 0 0) := by
      have q : (w2.setCell ⟨w.heap.size + 1, 0, none⟩ (.int .i32 0)).cell? ⟨w.heap.size + 1, 1, none⟩ = some (.slice none 0 0) := by
        rw [World.cell?_setCell_other (h := by intro e; cases e)]; exact x2
      exact World.cell?_setCell_same _ _ _ q
    clear hfin kk hres k2 m2 hbx
    go_wp2_with fail
    refine bodyPost_ret (v := .tuple #[.agg #[.int .i32 0, .slice none 0 0], .int .i64 0]) ?_ rfl Hfin.out
    generalize ((w2.setCell ⟨w.heap.size + 1, 0, none⟩ (.int .i32 0)).setCell ⟨w.heap.size + 1, 1, none⟩ (.slice none 0 0)) = V at *
    simp [results, Tryz.results106, go_sem, z1, z2]
  · have hq : ((a' : Int) == 0) = false := beq_eq_false_iff_ne.2 (by omega)
    have hcl := tclone_any ⟨gr, 0, none⟩ cap ts w2 ((Ht.out.keeps KW.out (fun _ _ _ e => e)).keeps k2 (fun _ _ _ e => e))
    have Hcl := Lib.hid hcl; have Hk2 := Lib.hid k2; have Hm2 := Lib.hid m2
    clear hcl hres k2 m2
    go_wp2_with fail
    refine Hcl.out.mono ?_
    rintro e w3 ⟨g, cg, rfl, hr3, k3⟩
    have hs2 := Hk2.out.size
    have hgl := hr3.lt
    have hk3 : Keeps (fun _ => False) W1 w3 := Hk2.out.trans k3 (fun _ e => e.elim)
    have hgo : ¬ own h s g := fun e => by have := Hwo.out _ e; omega
    have hgf : f.b ≠ g := by omega
    have hn0 := Nar1.start s lev c ts
    have Hk3 := Lib.hid hk3
    clear k3 hk3 hbx
    go_wp2_with fail
    go_loopw [31] (fun i wr => ∃ (k : Nat) (ys : List (Nat × Int)), k ≤ ts.length ∧ i = .int .i64 k ∧ Nar1 s lev c ts k ys ∧ Keeps (fun b => b = g) w3 wr ∧ TRow wr w2.heap.size g ts.length cg ys) (fun i _ => ts.length - (intOf i).toNat)
    case atStart => exact ⟨0, ts, Nat.zero_le _, rfl, hn0, Keeps.refl _ _, hr3⟩
    case round =>
      clear hr3 hn0
      obtain ⟨k, ys, hk, rfl, hna, kp, hr⟩ := hrel
      have hyl := hr.len
      by_cases hlt : k < ts.length
      · obtain ⟨c1, c2⟩ := hr.cell (j := k) hlt
        have i1 : (k : Int) < (ts.length : Int) := by omega
        have hyk := hna.rest k (Nat.le_refl _) hlt
        have hink := Hin.out _ (getD_mem (ts := ts) (k := k) hlt)
        rw [← hyk] at hink
        have hstp := fun r => hna.step (r := r) hlt
        have hgl2 := hr.lt
        generalize hx : ys.getD k (0, 0) = t at *
        have HX := Lib.hid hx
        clear hx
        have Hst := Lib.hid hstp; have Hkp := Lib.hid kp; have Hr := Lib.hid hr; have HRk := Lib.hid (HRQ.out t.1 hink.1 hink.2)
        clear hstp kp hr hna hyk hink
        go_wp2_with fail
        have kl : Keeps (fun _ => False) wr (wr.alloc (.cells #[.int .i32 t.1, .int .i64 t.2] 129)) := (Keeps.refl _ _).alloc _
        have htb := heap_alloc_new wr (Obj.cells #[.int .i32 t.1, .int .i64 t.2] 129)
        have hWs : wr.heap.size < (wr.alloc (Obj.cells #[.int .i32 t.1, .int .i64 t.2] 129)).heap.size := by simp
        clear c1 c2
        generalize (wr.alloc (Obj.cells #[.int .i32 t.1, .int .i64 t.2] 129)) = W at *
        have hs3 := Hk3.out.size
        have hkW : Keeps (fun b => b = g) w3 W := Hkp.out.trans kl (fun _ e => e.elim)
        have hdW : ∀ V, Keeps (fun _ => False) W V → Dia V h s := fun V k => ((((FUpd.refl (G := fun b => b = g) Hd.out).quiet KW.out).quiet Hk3.out).side hkW (fun b e => Or.inl e) (fun b e => by subst e; exact hgo)).quiet k |>.dia
        have hfV : ∀ V, Keeps (fun _ => False) W V → FBlk V h f := fun V k => ((((Hf.out.keeps KW.out (fun e => e)).keeps Hk3.out (fun e => e)).keeps hkW hgf).keeps k (fun e => e))
        have hS2 : ∀ V, Keeps (fun _ => False) W V → V.cell? ⟨f.b, 0, none⟩ = some (.pointer (some ⟨h.b, 0, none⟩)) ∧ V.cell? ⟨wr.heap.size, 0, none⟩ = some (.int .i32 t.1) ∧ V.cell? ⟨g, k * 2, none⟩ = some (cellOr V ⟨g, k * 2, none⟩) ∧ V.frozen? ⟨g, k * 2, none⟩ = false := fun V k => ⟨(hfV V k).cells.1, (at_two ((k.block _ hWs (fun e => e)).trans htb)).1, cellOr_some (((Hr.out.keeps kl (fun e => e)).keeps k (fun e => e)).cell hlt).1, ((Hr.out.keeps kl (fun e => e)).keeps k (fun e => e)).frozen _⟩
        have hng1 : f.b ≠ g := hgf
        have hng2 : wr.heap.size ≠ g := by omega
        have hT2 : ∀ V (u : Int), Keeps (fun _ => False) W V → (V.setCell ⟨g, k * 2, none⟩ (.int .i32 u)).cell? ⟨f.b, 0, none⟩ = some (.pointer (some ⟨h.b, 0, none⟩)) ∧ (V.setCell ⟨g, k * 2, none⟩ (.int .i32 u)).cell? ⟨wr.heap.size, 0, none⟩ = some (.int .i32 t.1) ∧ (V.setCell ⟨g, k * 2, none⟩ (.int .i32 u)).cell? ⟨g, k * 2, none⟩ = some (cellOr (V.setCell ⟨g, k * 2, none⟩ (.int .i32 u)) ⟨g, k * 2, none⟩) ∧ (V.setCell ⟨g, k * 2, none⟩ (.int .i32 u)).frozen? ⟨g, k * 2, none⟩ = false := fun V u kv => by
          obtain ⟨e1, e2, e3, e4⟩ := hS2 V kv
          refine ⟨?_, ?_, cellOr_some (World.cell?_setCell_same _ _ _ e3), ?_⟩
          · rw [World.cell?_setCell_other (h := fun e => hng1 (congrArg Addr.block e).symm)]; exact e1
          · rw [World.cell?_setCell_other (h := fun e => hng2 (congrArg Addr.block e).symm)]; exact e2
          · rw [World.frozen?_setCell]; exact e4
        have hA2 : ∀ V, Keeps (fun _ => False) W V → Calls Tryz.prog 123 #[.pointer (some ⟨h.b, 0, none⟩), .int .i32 t.1, .int .i64 lev, .int .i64 c] V (fun e w' => ∃ r, e = .returned (.int .i32 (r : Nat)) ∧ Keeps (fun _ => False) W w' ∧ RMean s t.1 lev c 0 s r) := fun V k =>
          (HRk.out V (hdW V k)).mono (by rintro e w' ⟨r, he, kp, m⟩; exact ⟨r, he, k.trans kp (fun _ e => e.elim), m⟩)
        have HS2 := Lib.hid hS2; have HT2 := Lib.hid hT2; have HA2 := Lib.hid hA2; have HkW := Lib.hid hkW; have Hkl := Lib.hid kl
        clear hS2 hT2 hA2 hkW hdW hfV kl htb
        go_region_held3 (fun V => V.cell? ⟨f.b, 0, none⟩ = some (.pointer (some ⟨h.b, 0, none⟩)) ∧ V.cell? ⟨wr.heap.size, 0, none⟩ = some (.int .i32 t.1) ∧ V.cell? ⟨g, k * 2, none⟩ = some (cellOr V ⟨g, k * 2, none⟩) ∧ V.frozen? ⟨g, k * 2, none⟩ = false)
          (first | exact HS2.out _ (Keeps.refl _ _) | exact HS2.out _ (Keeps.refl _ _).drew | exact HS2.out _ (by assumption) | exact HS2.out _ (Keeps.drew (by assumption)) | exact HT2.out _ _ (by assumption) | exact HT2.out _ _ (Keeps.drew (by assumption)))
          ((go_at_call 123; (with_reducible refine (HA2.out _ (by first | exact Keeps.refl _ _ | exact (Keeps.refl _ _).drew)).mono ?_); rintro e w4 ⟨r, rfl, k4, m4⟩))
        have hn2 := Hst.out r m4
        have hr4 := (((Hr.out.keeps Hkl.out (fun e => e)).keeps k4 (fun e => e))).setF (j := k) hlt r
        have hk4 : Keeps (fun b => b = g) w3 (w4.setCell ⟨g, k * 2, none⟩ (.int .i32 r)) := (HkW.out.trans k4 (fun _ e => e.elim)).setCell (p := ⟨g, k * 2, none⟩) (Or.inl rfl) _
        rw [HX.out] at hr4
        have Hn2 := Lib.hid hn2; have Hr4 := Lib.hid hr4; have Hk4 := Lib.hid hk4
        clear hn2 hr4 hk4 k4 m4
        go_wp2_with fail
        go_roundw
        case rel => exact ⟨k + 1, _, by omega, by go_num, Hn2.out, Hk4.out, Hr4.out⟩
        case measure => simp [intOf]; omega
      · obtain rfl : k = ts.length := by omega
        have hu1 : FUpd (fun b => b = g) w wr h s s := (((FUpd.refl (G := fun b => b = g) Hd.out).quiet KW.out).quiet Hk3.out).side kp (fun b e => Or.inl e) (fun b e => by subst e; exact hgo)
        have hfr : FBlk wr h f := ((Hf.out.keeps KW.out (fun e => e)).keeps Hk3.out (fun e => e)).keeps kp hgf
        have hwt : Wt ys = Wt ts := by unfold Wt; rw [hna.hi, hna.lo]
        have hset := settle_any h hn s f w2.heap.size g cg (lev + 1) a' ys wr hu1.dia hfr hfo hgf hgo (by rw [hyl]; exact hr) (by omega) (hna.inT Hin.out) (by rw [hwt]; exact HW.out) (by rw [hyl]; exact hst) hst2 (by rw [hyl]; exact hcnt)
        rw [hyl] at hset
        have hres3 : wr.heap[w.heap.size + 1]? = some (.cells #[.int .i32 0, .slice none 0 0] 131 (0, 0)) := by
          have h1 := (HT.out _ Hk3.out).2
          exact (kp.block _ (by have := Hk3.out.size; omega) (by omega)).trans h1
        have hno : ¬ own h s (w.heap.size + 1) := fun e => by have := Hwo.out _ e; omega
        have hfn := fun s' us sum (sm : SMean h s (lev + 1) ys s' us sum) => nar_fin Hd.out.inv.wf Hm2.out Hla.out hna sm
        have hws := hu1.keeps.size
        have hgw := hr.lt.2
        have hrs := kp.size
        have hs3 := Hk3.out.size
        have hbr : w.heap.size + 1 < wr.heap.size := by omega
        have Hset := Lib.hid hset; have Hu1 := Lib.hid hu1; have Hres := Lib.hid hres3; have Hfn := Lib.hid hfn
        clear hset hu1 hfr hres3 hna kp hr hwt hfn
        go_wp2_with fail
        refine Hset.out.mono ?_
        rintro e w5 ⟨s', us, sum, rfl, u5, hr5, sm⟩
        have hres5 := (u5.block hbr hno (by omega)).trans Hres.out
        have hno5 := u5.no hbr hno
        obtain ⟨x1, x2, x3, x4⟩ := at_two hres5
        have kk : Keeps (fun b => b = w.heap.size + 1) w5 ((w5.setCell ⟨w.heap.size + 1, 0, none⟩ (.int .i32 a')).setCell ⟨w.heap.size + 1, 1, none⟩ (.slice (some ⟨g, 0, none⟩) us.length cg)) := keep2 _ _ _ _ _ _
        have hfin : NarrowEnd w h s a ts lev c (.returned (.tuple #[.agg #[.int .i32 a', .slice (some ⟨g, 0, none⟩) us.length cg], .int .i64 sum])) ((w5.setCell ⟨w.heap.size + 1, 0, none⟩ (.int .i32 a')).setCell ⟨w.heap.size + 1, 1, none⟩ (.slice (some ⟨g, 0, none⟩) us.length cg)) := by
          have hr6 := hr5.keeps kk (by omega)
          have hul := sm.len
          refine .inr ⟨s', a', us, sum, g, cg, rfl, h0, ?_, hr6.terms (by omega), by omega, hr6.lt.2, u5.no hgw hgo, Hfn.out s' us sum sm⟩
          exact (((Hu1.out.trans u5).side kk (fun b e => Or.inr (by omega)) (fun b e => by subst e; exact hno5))).mono (fun b e => Or.inr (by subst e; omega))
        have Hfin := Lib.hid hfin
        have z1 : ((w5.setCell ⟨w.heap.size + 1, 0, none⟩ (.int .i32 a')).setCell ⟨w.heap.size + 1, 1, none⟩ (.slice (some ⟨g, 0, none⟩) us.length cg)).cell? ⟨w.heap.size + 1, 0, none⟩ = some (.int .i32 a') := by
          rw [World.cell?_setCell_other (h := by intro e; cases e)]; exact World.cell?_setCell_same _ _ _ x1
        have z2 : ((w5.setCell ⟨w.heap.size + 1, 0, none⟩ (.int .i32 a')).setCell ⟨w.heap.size + 1, 1, none⟩ (.slice (some ⟨g, 0, none⟩) us.length cg)).cell? ⟨w.heap.size + 1, 1, none⟩ = some (.slice (some ⟨g, 0, none⟩) us.length cg) := by
          have q : (w5.setCell ⟨w.heap.size + 1, 0, none⟩ (.int .i32 a')).cell? ⟨w.heap.size + 1, 1, none⟩ = some (.slice none 0 0) := by
            rw [World.cell?_setCell_other (h := by intro e; cases e)]; exact x2
          exact World.cell?_setCell_same _ _ _ q
        clear hfin kk hr5 u5 sm hres5
        go_wp2_with fail
        refine bodyPost_ret (v := .tuple #[.agg #[.int .i32 a', .slice (some ⟨g, 0, none⟩) us.length cg], .int .i64 sum]) ?_ rfl Hfin.out
        generalize ((w5.setCell ⟨w.heap.size + 1, 0, none⟩ (.int .i32 a')).setCell ⟨w.heap.size + 1, 1, none⟩ (.slice (some ⟨g, 0, none⟩) us.length cg)) = V at *
        simp [results, Tryz.results106, go_sem, z1, z2]
end Go.Proofs.YtngjjmniigkeoaaGreatDoor
