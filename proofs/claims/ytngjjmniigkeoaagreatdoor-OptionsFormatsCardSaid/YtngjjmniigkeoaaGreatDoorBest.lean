/- best: what it needs and what it leaves (plain). best. -/
import Derived.Test.YtngjjmniigkeoaaGreatDoorNarrow
namespace Go.Proofs.YtngjjmniigkeoaaGreatDoor
open Go Go.RowKit Go.WideMaps Go.Maps
set_option linter.unusedSimpArgs false
set_option linter.unusedVariables false

/-- A rest that narrow made. -/
structure NR (w : World) (h : DH) (s : DS) (a : Nat) (ts : List (Nat × Int)) (lev : Nat) (c : Int) (w' : World) (s' : DS) (a' : Nat) (ao : Option Addr) (us : List (Nat × Int)) (sum : Int) : Prop where
  upd : FUpd (fun _ => False) w w' h s s'
  terms : TermsAt w' ao us
  out : ∀ g, ao = some ⟨g, 0, none⟩ → w.heap.size ≤ g ∧ g < w'.heap.size ∧ ¬ own h s' g
  ha : a' < s'.nodes.length
  low : lev < (ndAt s'.nodes a').lev
  mean : ∀ σ, sem s'.nodes a' σ = sem s.nodes a (setAt σ lev (c == 2))
  val : a' ≠ 0 → ∀ σ, valT s.nodes (setAt σ lev (c == 2)) ts = sum + valT s'.nodes σ us
  zero : a' = 0 → sum = 0
  hi : sum + hiT us ≤ hiT ts
  lo : loT ts ≤ sum + loT us
  inT : InT s'.nodes (lev + 1) us
  two : Two us
  len : us.length ≤ ts.length
  steps : s.steps ≤ s'.steps + (ts.length * 2 ^ h.n : Nat)
  le : s'.steps ≤ s.steps
  cnt : s'.cnt ≤ s.cnt + 2 * (ts.length * 2 ^ h.n)
  sm : a' ≠ 0 → ∃ g, ao = some ⟨g, 0, none⟩
def NREnd (w : World) (h : DH) (s : DS) (a : Nat) (ts : List (Nat × Int)) (lev : Nat) (c : Int) (e : Ending) (w' : World) : Prop :=
  ∃ s' a' ao us sum cap, e = .returned (.tuple #[.agg #[.int .i32 (a' : Nat), .slice ao us.length cap], .int .i64 sum]) ∧ NR w h s a ts lev c w' s' a' ao us sum

theorem narrow_nr {w w' : World} {h : DH} {s : DS} {a lev : Nat} {ts : List (Nat × Int)} {c : Int} {e : Ending} (d : Dia w h s) (hln : lev < h.n) (ne : NarrowEnd w h s a ts lev c e w') : NREnd w h s a ts lev c e w' := by
  rcases ne with ⟨he, hm, u⟩ | ⟨s', a', us, sum, g, cap, he, h0, u, ht, h1, h2, h3, m⟩
  · have h0 : (ndAt s.nodes 0).lev = h.n := by rw [d.inv.wf.no]
    have h4 := hiT_nonneg ts; have h5 := loT_nonpos ts
    refine ⟨s, 0, none, [], 0, 0, he, u, ⟨by simp, fun h => by simp at h⟩, fun g e => by (cases e), by have := d.inv.wf.two; omega, by rw [h0]; exact hln, fun σ => by rw [sem_no, hm], fun e => absurd rfl e, fun _ => rfl, ?_, ?_, fun t ht => by simp at ht, fun t ht => by simp at ht, by simp, by omega, Int.le_refl _, by omega, fun e => absurd rfl e⟩
    · show 0 + hiT [] ≤ hiT ts
      have : hiT [] = 0 := rfl
      omega
    · show loT ts ≤ 0 + loT []
      have : loT [] = 0 := rfl
      omega
  · exact ⟨s', a', some ⟨g, 0, none⟩, us, sum, cap, he, u, ht, fun g' e => by cases e; exact ⟨h1, h2, h3⟩, m.ha, m.low, m.mean, fun _ => m.val, fun e => absurd e h0, m.hi, m.lo, m.inT, m.two, m.len, m.steps, m.le, m.cnt, fun _ => ⟨g, rfl⟩⟩

/-- What is remembered of sums. -/
def keyV (a : Nat) (ts : List (Nat × Int)) : Value := .string ⟨(keyR a ts).toArray⟩
def bndV (sum : Int) (ex : Bool) : Value := .agg #[.int .i64 sum, .bool ex]
structure BInfo (l : List Nd) (a : Nat) (ts : List (Nat × Int)) (sum : Int) (ex : Bool) : Prop where
  ha : a < l.length
  inT : InT l 0 ts
  ub : ∀ σ, sem l a σ = true → valT l σ ts ≤ sum
  att : ex = true → ∃ σ, sem l a σ = true ∧ valT l σ ts = sum
  lo : loT ts ≤ sum
  hi : sum ≤ hiT ts
def BndOk (l : List Nd) (bf : Value → Option Value) : Prop := ∀ K v, bf K = some v → ∃ a ts sum ex, K = keyV a ts ∧ v = bndV sum ex ∧ BInfo l a ts sum ex
theorem keyV_inj {a b : Nat} {ts us : List (Nat × Int)} (h : keyV a ts = keyV b us) : a = b ∧ ts = us := by
  unfold keyV at h
  simp only [Value.string.injEq, ByteArray.mk.injEq] at h
  exact keyR_inj (by simpa using congrArg Array.toList h)
theorem BInfo.ext {n : Nat} {l l' : List Nd} {a : Nat} {ts : List (Nat × Int)} {sum : Int} {ex : Bool} (h : BInfo l a ts sum ex) (e : Ext l l') (hw : WF n l) : BInfo l' a ts sum ex := by
  refine ⟨Nat.lt_of_lt_of_le h.ha e.len, h.inT.ext e, fun σ hσ => ?_, fun hx => ?_, h.lo, h.hi⟩
  · rw [e.sem hw h.ha] at hσ; rw [valT_ext h.inT e hw]; exact h.ub σ hσ
  · obtain ⟨σ, h1, h2⟩ := h.att hx
    exact ⟨σ, by rw [e.sem hw h.ha]; exact h1, by rw [valT_ext h.inT e hw]; exact h2⟩
theorem BndOk.ext {n : Nat} {l l' : List Nd} {bf : Value → Option Value} (h : BndOk l bf) (e : Ext l l') (hw : WF n l) : BndOk l' bf := by
  intro K v hv
  obtain ⟨a, ts, sum, ex, h1, h2, h3⟩ := h K v hv
  exact ⟨a, ts, sum, ex, h1, h2, h3.ext e hw⟩
theorem BndOk.push {l : List Nd} {bf : Value → Option Value} (h : BndOk l bf) {a : Nat} {ts : List (Nat × Int)} {sum : Int} {ex : Bool} (b : BInfo l a ts sum ex) : BndOk l (putV bf (keyV a ts) (bndV sum ex)) := by
  intro K v hv
  by_cases e : K = keyV a ts
  · subst e
    rw [putV_same] at hv
    cases hv
    exact ⟨a, ts, sum, ex, rfl, rfl, b⟩
  · rw [putV_other _ _ _ e] at hv
    exact h K v hv

/-- The finder in memory. -/
structure Fin (B : Nat) (w : World) (h : DH) (s : DS) (f : FH) (bf : Value → Option Value) (cb : Nat) : Prop where
  dia : Dia w h s
  blk : FBlk w h f
  map : MapV w Tryz.prog 9 f.bb cb bf
  ok : BndOk s.nodes bf
  nob : ¬ own h s f.b
  nobb : ¬ own h s f.bb
  tab : Tab B w
  low : ∀ j, own h s j → B ≤ j
  lowb : B ≤ f.b
  lowbb : B ≤ f.bb
theorem Fin.ne {B : Nat} {w : World} {h : DH} {s : DS} {f : FH} {bf : Value → Option Value} {cb : Nat} (d : Fin B w h s f bf cb) : f.b ≠ f.bb := by
  intro e
  obtain ⟨D, ⟨es, clock, h0, _⟩, _⟩ := d.map
  have := d.blk
  unfold FBlk at this
  rw [e, h0] at this
  cases this
theorem Fin.size {B : Nat} {w : World} {h : DH} {s : DS} {f : FH} {bf : Value → Option Value} {cb : Nat} (d : Fin B w h s f bf cb) : B ≤ w.heap.size := Nat.le_trans d.lowb (Nat.le_of_lt d.blk.cells.2.2)
theorem FUpd.below {G : Nat → Prop} {w w' : World} {h : DH} {s s' : DS} {B : Nat} (u : FUpd G w w' h s s') (hB : B ≤ w.heap.size) (h1 : ∀ j, Go.Proofs.YtngjjmniigkeoaaGreatDoor.own h s j → B ≤ j) (h2 : ∀ j, G j → B ≤ j) : Below B w w' :=
  u.keeps.below hB (fun k hk => hk.elim (h1 k) (h2 k))
/-- A call that does not touch the map of bounds. -/
theorem Fin.on {B : Nat} {w w' : World} {h : DH} {s s' : DS} {f : FH} {bf : Value → Option Value} {cb : Nat} (d : Fin B w h s f bf cb) {G : Nat → Prop} (u : FUpd G w w' h s s') (hG : ∀ j, G j → B ≤ j) (hb : ¬ G f.b) (hbb : ¬ G f.bb) : Fin B w' h s' f bf cb := by
  have hl := d.blk.cells.2.2
  have hlb := d.map.lt
  refine ⟨u.dia, (u.block hl d.nob hb).trans d.blk, d.map.kept (u.block hlb d.nobb hbb), d.ok.ext u.ext d.dia.inv.wf, u.no hl d.nob, u.no hlb d.nobb, d.tab.on (u.below d.size d.low hG), fun j hj => ?_, d.lowb, d.lowbb⟩
  rcases u.own j hj with h1 | h1
  · exact d.low j h1
  · exact Nat.le_trans d.size h1
theorem Fin.quiet {B : Nat} {w w' : World} {h : DH} {s : DS} {f : FH} {bf : Value → Option Value} {cb : Nat} (d : Fin B w h s f bf cb) (k : Keeps (fun _ => False) w w') : Fin B w' h s f bf cb :=
  d.on (G := fun _ => False) ((FUpd.refl d.dia).quiet k) (fun _ e => e.elim) (fun e => e) (fun e => e)

def costK (n : Nat) : Nat := 12 * (1 + 2 * 2 ^ n)
def costB (n m : Nat) : Nat := costK n * (2 ^ m - 1)
theorem costB_succ (n m : Nat) : costB n (m + 1) = costK n + 2 * costB n m := by
  unfold costB
  have h2 : 0 < 2 ^ m := Nat.two_pow_pos m
  have e : 2 ^ (m + 1) - 1 = 1 + 2 * (2 ^ m - 1) := by rw [Nat.pow_succ]; omega
  rw [e, Nat.mul_add, Nat.mul_one, ← Nat.mul_assoc, Nat.mul_comm (costK n) 2, Nat.mul_assoc]

/-- What best leaves. -/
structure BestPost (B : Nat) (w : World) (h : DH) (s : DS) (f : FH) (cb : Nat) (a : Nat) (ts : List (Nat × Int)) (floor : Int) (m : Nat) (w' : World) (s' : DS) (bf' : Value → Option Value) (cb' : Nat) (res : Int) : Prop where
  fin : Fin B w' h s' f bf' cb'
  upd : FUpd (fun b => b = f.bb) w w' h s s'
  top : Top (sem s.nodes a) (fun σ => valT s.nodes σ ts) floor res
  bd : a ≠ 0 → loT ts ≤ res ∧ res ≤ hiT ts
  steps : s.steps ≤ s'.steps + (costB h.n m : Nat)
  le : s'.steps ≤ s.steps
  cnt : s'.cnt ≤ s.cnt + 2 * costB h.n m
  cb : cb' + 1 ≤ cb + 2 ^ m
def BestEnd (B : Nat) (w : World) (h : DH) (s : DS) (f : FH) (cb : Nat) (a : Nat) (ts : List (Nat × Int)) (floor : Int) (m : Nat) (e : Ending) (w' : World) : Prop :=
  ∃ s' bf' cb' res, e = .returned (.int .i64 res) ∧ BestPost B w h s f cb a ts floor m w' s' bf' cb' res

theorem Top.congr {A A' : (Nat → Bool) → Bool} {V V' : (Nat → Bool) → Int} {floor res : Int} (t : Top A V floor res) (hA : ∀ σ, A' σ = A σ) (hV : ∀ σ, A σ = true → V' σ = V σ) : Top A' V' floor res := by
  refine ⟨fun h0 => t.none (fun σ => by rw [← hA]; exact h0 σ), fun σ hσ => ?_, fun hx hf => ?_⟩
  · rw [hA] at hσ; rw [hV σ hσ]; exact t.ub σ hσ
  · obtain ⟨σ, h1⟩ := hx
    obtain ⟨τ, h2, h3⟩ := t.att ⟨σ, by rw [← hA]; exact h1⟩ hf
    exact ⟨τ, by rw [hA]; exact h2, by rw [hV τ h2]; exact h3⟩

/-- One side of a choice, as best finds it. -/
structure Side (l : List Nd) (a : Nat) (ts : List (Nat × Int)) (lev : Nat) (b : Bool) (floor : Int) (a' : Nat) (us : List (Nat × Int)) (sum r : Int) : Prop where
  top : Top (fun σ => sem l a (setAt σ lev b)) (fun σ => valT l (setAt σ lev b) ts - sum) floor r
  zero : (∀ σ, sem l a (setAt σ lev b) = false) → sum = 0
  none : a' = 0 → ∀ σ, sem l a (setAt σ lev b) = false
  bd : a' ≠ 0 → sum + r ≤ hiT ts
theorem side_of {w w' w1 w2 : World} {h : DH} {s s' s1 s2 : DS} {a a' lev : Nat} {ts us : List (Nat × Int)} {c sum floor r : Int} {ao : Option Addr} (hw : WF h.n s'.nodes) (n : NR w h s a ts lev c w' s' a' ao us sum) (e : Ext s'.nodes s1.nodes)
    (t : Top (sem s1.nodes a') (fun σ => valT s1.nodes σ us) floor r) (hb : a' ≠ 0 → loT us ≤ r ∧ r ≤ hiT us) : Side s.nodes a ts lev (c == 2) floor a' us sum r := by
  have hn : a' = 0 → ∀ σ, sem s.nodes a (setAt σ lev (c == 2)) = false := fun h0 σ => by rw [← n.mean σ, h0, sem_no]
  refine ⟨t.congr (fun σ => ?_) (fun σ hσ => ?_), fun h0 => ?_, hn, fun h0 => ?_⟩
  · rw [e.sem hw n.ha, n.mean]
  · have h0 : a' ≠ 0 := by rintro rfl; rw [sem_no] at hσ; cases hσ
    show _ - sum = _
    rw [valT_ext n.inT e hw]
    have := n.val h0 σ
    omega
  · refine n.zero ?_
    refine Classical.byContradiction fun hne => ?_
    obtain ⟨σ, hσ⟩ := sat_of_ne hw n.ha hne
    rw [n.mean, h0 σ] at hσ
    cases hσ
  · have := hb h0; have := n.hi; omega

theorem best_sides {n : Nat} {l : List Nd} {a : Nat} {ts : List (Nat × Int)} {lev : Nat} {ca cb : Bool} {floor sa sb ra rb : Int} {a1 a2 : Nat} {us1 us2 : List (Nat × Int)} (hw : WF n l) (ha : a < l.length) (h0 : a ≠ 0) (hab : ca = !cb) (hW : Wt ts ≤ 1099511627) (s1 : Side l a ts lev ca (floor - sa) a1 us1 sa ra) (s2 : Side l a ts lev cb (max floor (sa + ra) - sb) a2 us2 sb rb) :
    Top (sem l a) (fun σ => valT l σ ts) floor (max (sa + ra) (sb + rb)) ∧ loT ts ≤ max (sa + ra) (sb + rb) ∧ max (sa + ra) (sb + rb) ≤ hiT ts := by
  obtain ⟨τ, hτ⟩ := sat_of_ne hw ha h0
  have h4 := hiT_nonneg ts; have h5 := loT_nonpos ts
  unfold Wt at hW
  have ht : Top (sem l a) (fun σ => valT l σ ts) floor (max (sa + ra) (sb + rb)) :=
    top_both (L := lev) (ca := ca) (cb := cb) (W := 1099511627) (Aa := fun σ => sem l a (setAt σ lev ca)) (Ab := fun σ => sem l a (setAt σ lev cb)) (Va := fun σ => valT l (setAt σ lev ca) ts - sa) (Vb := fun σ => valT l (setAt σ lev cb) ts - sb) hab
      (fun _ => rfl) (fun _ => rfl) (fun _ σ => by (try dsimp only); omega) (fun _ σ => by (try dsimp only); omega) s1.zero s2.zero (fun σ => by have := valT_ge l σ ts; (try dsimp only); omega) (by omega) ⟨τ, hτ⟩ s1.top s2.top
  have hub := ht.ub τ hτ
  have hge := valT_ge l τ ts
  refine ⟨ht, by (try dsimp only at hub); omega, ?_⟩
  have key : ∀ {c : Bool} {fl : Int} {x : Nat} {us : List (Nat × Int)} {sm r : Int}, Side l a ts lev c fl x us sm r → sm + r ≤ hiT ts := by
    intro c fl x us sm r s
    by_cases hx : x = 0
    · have e1 := s.none hx
      have e2 := s.zero e1
      have e3 := s.top.none e1
      unfold lowest at e3
      omega
    · exact s.bd hx
  have := key s1; have := key s2
  omega

/-! ### best, where it answers at once. -/
open Go Go.RowKit Go.WideMaps Go.Maps
set_option linter.unusedSimpArgs false
set_option linter.unusedVariables false

theorem box1_at {w : World} {x y : Value} {t : TypeId} : (w.alloc (.cells #[x, y] t)).heap[w.heap.size]? = some (.cells #[x, y] t (0, 0)) := heap_alloc_new _ _
theorem zeroBound (w : World) : (zeroValue 163).run Tryz.prog w = .ok (bndV 0 false) w := by kernel_rfl

theorem best_self {B : Nat} {w w' : World} {h : DH} {s : DS} {f : FH} {bf : Value → Option Value} {cb a m : Nat} {ts : List (Nat × Int)} {floor res : Int} (d : Fin B w h s f bf cb) (k : Keeps (fun _ => False) w w') (t : Top (sem s.nodes a) (fun σ => valT s.nodes σ ts) floor res) (hb : a ≠ 0 → loT ts ≤ res ∧ res ≤ hiT ts) :
    BestEnd B w h s f cb a ts floor m (.returned (.int .i64 res)) w' := by
  have h2 : 0 < 2 ^ m := Nat.two_pow_pos m
  exact ⟨s, bf, cb, res, rfl, d.quiet k, (FUpd.refl d.dia).quiet k, t, hb, by omega, Int.le_refl _, by omega, by omega⟩

theorem top_zero (l : List Nd) (ts : List (Nat × Int)) (floor : Int) : Top (sem l 0) (fun σ => valT l σ ts) floor lowest :=
  ⟨fun _ => rfl, (fun σ hσ => by rw [sem_no] at hσ; cases hσ), (fun ⟨σ, hσ⟩ _ => by rw [sem_no] at hσ; cases hσ)⟩
theorem top_limit {n : Nat} {l : List Nd} (hw : WF n l) {a : Nat} (ha : a < l.length) (h0 : a ≠ 0) {ts : List (Nat × Int)} {floor : Int} (h : hiT ts ≤ floor ∨ ts = []) : Top (sem l a) (fun σ => valT l σ ts) floor (hiT ts) := by
  obtain ⟨τ, hτ⟩ := sat_of_ne hw ha h0
  refine ⟨(fun h1 => by rw [h1 τ] at hτ; cases hτ), fun σ _ => valT_le l σ ts, fun _ hf => ?_⟩
  rcases h with h1 | rfl
  · omega
  · exact ⟨τ, hτ, rfl⟩
theorem top_known {l : List Nd} {a : Nat} {ts : List (Nat × Int)} {sum floor : Int} {ex : Bool} {n : Nat} (hw : WF n l) (ha : a < l.length) (h0 : a ≠ 0) (b : BInfo l a ts sum ex) (h : ex = true ∨ sum ≤ floor) : Top (sem l a) (fun σ => valT l σ ts) floor sum := by
  obtain ⟨τ, hτ⟩ := sat_of_ne hw ha h0
  refine ⟨(fun h1 => by rw [h1 τ] at hτ; cases hτ), b.ub, fun _ hf => ?_⟩
  rcases h with h1 | h1
  · exact b.att h1
  · omega

set_option maxRecDepth 100000 in
set_option maxHeartbeats 1600000 in
theorem best_zero (B : Nat) (h : DH) (s : DS) (f : FH) (bf : Value → Option Value) (cb : Nat) (ao : Option Addr) (cap : Nat) (ts : List (Nat × Int)) (floor : Int) (m : Nat) (w : World) (d : Fin B w h s f bf cb) :
    Calls Tryz.prog 78 #[.pointer (some ⟨f.b, 0, none⟩), .agg #[.int .i32 (0 : Nat), .slice ao ts.length cap], .int .i64 floor] w (BestEnd B w h s f cb 0 ts floor m) := by
  have hfin : ∀ O, BestEnd B w h s f cb 0 ts floor m (.returned (.int .i64 lowest)) (w.alloc O) := fun O => best_self d ((Keeps.refl _ _).alloc O) (top_zero _ _ _) (fun e => absurd rfl e)
  have hl : lowest = -1099511627776 := rfl
  rw [hl] at hfin
  have Hf := Lib.hid hfin
  clear hfin d hl
  go_enter Tryz.func78, Tryz.ntmps78
  go_wp2
  go_ret
  exact Hf.out _

set_option maxRecDepth 100000 in
set_option maxHeartbeats 1600000 in
theorem best_limit (B : Nat) (h : DH) (s : DS) (f : FH) (bf : Value → Option Value) (cb a : Nat) (ao : Option Addr) (cap : Nat) (ts : List (Nat × Int)) (floor : Int) (m : Nat) (w : World) (d : Fin B w h s f bf cb) (ha : a < s.nodes.length) (h0 : a ≠ 0) (ht : TermsAt w ao ts) (hW : Wt ts ≤ 1099511627) (hlim : hiT ts ≤ floor ∨ ts = []) :
    Calls Tryz.prog 78 #[.pointer (some ⟨f.b, 0, none⟩), .agg #[.int .i32 a, .slice ao ts.length cap], .int .i64 floor] w (BestEnd B w h s f cb a ts floor m) := by
  have h4 := hiT_nonneg ts; have h5 := loT_nonpos ts
  have hfin : ∀ W, Keeps (fun _ => False) w W → BestEnd B w h s f cb a ts floor m (.returned (.int .i64 (hiT ts))) W := fun W k => best_self d k (top_limit d.dia.inv.wf ha h0 hlim) (fun _ => by omega)
  have hlm : ∀ W, Keeps (fun _ => False) w W → Calls Tryz.prog 103 #[.agg #[.int .i32 a, .slice ao ts.length cap]] W fun e w' => e = .returned (.int .i64 (hiT ts)) ∧ Keeps (fun _ => False) W w' := fun W k =>
    limit_any a ao cap ts W (ht.keeps k (fun _ _ _ e => e)) (by unfold Wt at hW; omega)
  have hz : ((a : Int) == 0) = false := beq_eq_false_iff_ne.2 (by omega)
  have hk1 : ∀ O, Keeps (fun _ => False) w (w.alloc O) := fun O => (Keeps.refl _ _).alloc O
  have hb := box1_at (w := w) (x := .int .i32 a) (y := .slice ao ts.length cap) (t := 131)
  have hsz : w.heap.size < (w.alloc (.cells #[.int .i32 a, .slice ao ts.length cap] 131)).heap.size := by simp
  have Hf := Lib.hid hfin; have Hl := Lib.hid hlm; have Hk := Lib.hid hk1; have Hb := Lib.hid hb
  clear hfin hlm hk1 d ht hW hb
  go_enter Tryz.func78, Tryz.ntmps78
  go_wp2_with fail
  refine (Hl.out _ (Hk.out _)).mono ?_
  rintro e w1 ⟨rfl, k1⟩
  have hbx := at_two ((k1.block _ hsz (fun e => e)).trans Hb.out)
  have hk2 := (Hk.out _).trans k1 (fun _ e => e.elim)
  have Hk2 := Lib.hid hk2
  obtain ⟨b1, b2, b3, b4⟩ := hbx
  clear k1 hk2
  by_cases hd0 : hiT ts ≤ floor
  · have hd : decide (hiT ts ≤ floor) = true := decide_eq_true hd0
    clear hlim
    go_wp2_with fail
    go_ret
    exact Hf.out _ Hk2.out
  · have hd : decide (hiT ts ≤ floor) = false := decide_eq_false hd0
    have he : ts = [] := by rcases hlim with e | e; exact absurd e hd0; exact e
    have hl0 : ((ts.length : Int) == 0) = true := by rw [he]; rfl
    clear hlim he
    go_wp2_with fail
    go_ret
    exact Hf.out _ Hk2.out

/-! ### best: the two sides of a choice, and the end (plain). -/
open Go Go.RowKit Go.WideMaps Go.Maps
set_option linter.unusedSimpArgs false
set_option linter.unusedVariables false

def FB (m : Nat) : Int := 8796093022208 - m * 4294967296
structure BestHyp (B : Nat) (h : DH) (f : FH) (m : Nat) (s : DS) (bf : Value → Option Value) (cb a : Nat) (ao : Option Addr) (ts : List (Nat × Int)) (floor : Int) (L : Nat) (w : World) : Prop where
  fin : Fin B w h s f bf cb
  ha : a < s.nodes.length
  low : L ≤ (ndAt s.nodes a).lev
  inT : InT s.nodes L ts
  two : Two ts
  len : ts.length ≤ 12
  wt : Wt ts ≤ 1099511627
  terms : TermsAt w ao ts
  out : ∀ g, ao = some ⟨g, 0, none⟩ → g < w.heap.size ∧ ¬ own h s g ∧ g ≠ f.bb
  hm : h.n ≤ L + m
  flo : -(FB m) ≤ floor
  fhi : floor ≤ FB m
  st : ((costB h.n m : Nat) : Int) ≤ s.steps
  st2 : s.steps ≤ 4611686018427387904
  cnt : s.cnt + 2 * costB h.n m < 2 ^ 30
  cb : cb + 2 ^ m < 1099511627776
def BestSpec (B : Nat) (h : DH) (f : FH) (m : Nat) : Prop := ∀ (s : DS) (bf : Value → Option Value) (cb a : Nat) (ao : Option Addr) (cap : Nat) (ts : List (Nat × Int)) (floor : Int) (L : Nat) (w : World), BestHyp B h f m s bf cb a ao ts floor L w →
  Calls Tryz.prog 78 #[.pointer (some ⟨f.b, 0, none⟩), .agg #[.int .i32 a, .slice ao ts.length cap], .int .i64 floor] w (BestEnd B w h s f cb a ts floor m)

structure Pack (W : World) (h : DH) (s0 s : DS) (f : FH) (a : Nat) (ts : List (Nat × Int)) (lev : Nat) (xa : Nat) (xao : Option Addr) (xus : List (Nat × Int)) (xsum : Int) (xb : Bool) : Prop where
  ha : xa < s.nodes.length
  low : lev < (ndAt s.nodes xa).lev
  inT : InT s.nodes (lev + 1) xus
  two : Two xus
  len : xus.length ≤ 12
  wt : Wt xus ≤ 1099511627
  slo : -1099511627 ≤ xsum
  shi : xsum ≤ 1099511627
  terms : TermsAt W xao xus
  out : ∀ g, xao = some ⟨g, 0, none⟩ → g < W.heap.size ∧ ¬ own h s g ∧ g ≠ f.bb
  side : ∀ (s1 : DS) (fl r : Int), Ext s.nodes s1.nodes → Top (sem s1.nodes xa) (fun σ => valT s1.nodes σ xus) fl r → (xa ≠ 0 → loT xus ≤ r ∧ r ≤ hiT xus) → Side s0.nodes a ts lev xb fl xa xus xsum r

theorem Side.back {n : Nat} {l l' : List Nd} {a lev : Nat} {ts us : List (Nat × Int)} {b : Bool} {fl sum r : Int} {a' : Nat} (hw : WF n l) (e : Ext l l') (ha : a < l.length) (hi : InT l 0 ts) (s : Side l' a ts lev b fl a' us sum r) : Side l a ts lev b fl a' us sum r :=
  ⟨s.top.congr (fun σ => by rw [e.sem hw ha]) (fun σ _ => by rw [valT_ext hi e hw]), fun h0 => s.zero (fun σ => by rw [e.sem hw ha]; exact h0 σ), fun h0 σ => by rw [← e.sem hw ha]; exact s.none h0 σ, s.bd⟩

theorem pack_of {w w' : World} {h : DH} {s0 s s' : DS} {f : FH} {a a' lev : Nat} {ts us : List (Nat × Int)} {c sum : Int} {ao : Option Addr} (n : NR w h s a ts lev c w' s' a' ao us sum) (hw0 : WF h.n s0.nodes) (e0 : Ext s0.nodes s.nodes) (ha0 : a < s0.nodes.length) (hi0 : InT s0.nodes 0 ts) (h12 : ts.length ≤ 12) (hwt : Wt ts ≤ 1099511627) (hbb : f.bb < w.heap.size) :
    Pack w' h s0 s' f a ts lev a' ao us sum (c == 2) := by
  have h4 := hiT_nonneg us; have h5 := loT_nonpos us
  have h6 := n.hi; have h7 := n.lo
  have h8 := hiT_nonneg ts; have h9 := loT_nonpos ts
  unfold Wt at hwt
  refine ⟨n.ha, n.low, n.inT, n.two, by have := n.len; omega, by unfold Wt; omega, by omega, by omega, n.terms, fun g e => by have := n.out g e; exact ⟨this.2.1, this.2.2, by omega⟩, fun s1 fl r e t hb => ?_⟩
  exact Side.back hw0 e0 ha0 hi0 (side_of (w1 := w) (w2 := w) (s2 := s) n.upd.dia.inv.wf n e t hb)

theorem Pack.on {G : Nat → Prop} {W W' : World} {h : DH} {s0 s s' : DS} {f : FH} {a lev xa : Nat} {ts xus : List (Nat × Int)} {xao : Option Addr} {xsum : Int} {xb : Bool} (p : Pack W h s0 s f a ts lev xa xao xus xsum xb) (u : FUpd G W W' h s s') (hG : ∀ g, xao = some ⟨g, 0, none⟩ → ¬ G g) : Pack W' h s0 s' f a ts lev xa xao xus xsum xb := by
  refine ⟨Nat.lt_of_lt_of_le p.ha u.ext.len, by rw [u.ext.at p.ha]; exact p.low, p.inT.ext u.ext, p.two, p.len, p.wt, p.slo, p.shi, p.terms.keeps u.keeps (fun g _ e hh => hh.elim (p.out g e).2.1 (hG g e)), fun g e => ?_, fun s1 fl r e => p.side s1 fl r (u.ext.trans e)⟩
  obtain ⟨h1, h2, h3⟩ := p.out g e
  exact ⟨Nat.lt_of_lt_of_le h1 u.keeps.size, u.no h1 h2, h3⟩

theorem Pack.hyp {B m L : Nat} {W w0 : World} {h : DH} {s0 s : DS} {f : FH} {bf0 bf : Value → Option Value} {cb0 cb a lev xa : Nat} {ts xus : List (Nat × Int)} {ao xao : Option Addr} {xsum floor fl : Int} {xb : Bool} (p : Pack W h s0 s f a ts lev xa xao xus xsum xb) (H : BestHyp B h f (m + 1) s0 bf0 cb0 a ao ts floor L w0) (hL : L ≤ lev) (hF : Fin B W h s f bf cb)
    (h1 : -(FB m) ≤ fl) (h2 : fl ≤ FB m) (st : ((costB h.n m : Nat) : Int) ≤ s.steps) (st2 : s.steps ≤ 4611686018427387904) (cnt : s.cnt + 2 * costB h.n m < 2 ^ 30) (hcb : cb + 2 ^ m < 1099511627776) : BestHyp B h f m s bf cb xa xao xus fl (lev + 1) W :=
  ⟨hF, p.ha, p.low, p.inT, p.two, p.len, p.wt, p.terms, p.out, by have := H.hm; omega, h1, h2, st, st2, cnt, hcb⟩

theorem BestPost.bds {B : Nat} {w w' : World} {h : DH} {s s' : DS} {f : FH} {bf' : Value → Option Value} {cb cb' a m : Nat} {ts : List (Nat × Int)} {floor res : Int} (p : BestPost B w h s f cb a ts floor m w' s' bf' cb' res) (hw : Wt ts ≤ 1099511627) (ha : a < s.nodes.length) : -1099511627776 ≤ res ∧ res ≤ 1099511627 := by
  have h4 := hiT_nonneg ts; have h5 := loT_nonpos ts
  unfold Wt at hw
  by_cases h0 : a = 0
  · subst h0
    have := p.top.none (fun σ => sem_no _ _)
    unfold lowest at this
    omega
  · have := p.bd h0; omega

theorem best_fin {B m L : Nat} {w W7 w8 w9 w10 : World} {h : DH} {s s3 s4 s5 : DS} {f : FH} {bf bf4 bf5 : Value → Option Value} {cb cb4 cb5 a lev xa ya : Nat} {ts xus yus : List (Nat × Int)} {ao xao yao : Option Addr} {xsum ysum floor r1 r2 : Int} {xb yb : Bool}
    (H : BestHyp B h f (m + 1) s bf cb a ao ts floor L w) (h0 : a ≠ 0) (u0 : FUpd (fun b => b = f.bb) w W7 h s s3) (t1 : s.steps ≤ s3.steps + (costK h.n : Nat)) (t2 : s3.steps ≤ s.steps) (t3 : s3.cnt ≤ s.cnt + 2 * costK h.n)
    (P1 : Pack W7 h s s3 f a ts lev xa xao xus xsum xb) (P2 : Pack W7 h s s3 f a ts lev ya yao yus ysum yb) (hxy : xb = !yb)
    (p4 : BestPost B W7 h s3 f cb xa xus (floor - xsum) m w8 s4 bf4 cb4 r1) (p5 : BestPost B w8 h s4 f cb4 ya yus (max floor (xsum + r1) - ysum) m w9 s5 bf5 cb5 r2)
    (hm : MapV w10 Tryz.prog 9 f.bb (cb5 + 1) (putV bf5 (keyV a ts) (bndV (max (xsum + r1) (ysum + r2)) (decide (floor < max (xsum + r1) (ysum + r2)))))) (hg : w9.grownBy w10 (some f.bb)) :
    BestEnd B w h s f cb a ts floor (m + 1) (.returned (.int .i64 (max (xsum + r1) (ysum + r2)))) w10 := by
  have hw := H.fin.dia.inv.wf
  have hc := costB_succ h.n m
  have s1 := P1.side s3 _ _ (Ext.refl _) p4.top p4.bd
  have s2 := P2.side s4 _ _ p4.upd.ext p5.top p5.bd
  obtain ⟨ht, hlo, hhi⟩ := best_sides hw H.ha h0 hxy H.wt s1 s2
  have hk : Keeps (fun b => b = f.bb) w9 w10 := ⟨hg.os, hg.tape, hg.output, hg.size, fun k hk hn => hg.block k hk (fun e => hn (Option.some.inj e))⟩
  have hU : FUpd (fun b => b = f.bb) w w10 h s s5 := ((u0.trans p4.upd).trans p5.upd).side hk (fun b e => Or.inl e) (fun b e => by subst e; exact p5.fin.nobb)
  have hin0 : InT s.nodes 0 ts := fun t ht => ⟨(H.inT t ht).1, Nat.zero_le _⟩
  have hbi : BInfo s.nodes a ts (max (xsum + r1) (ysum + r2)) (decide (floor < max (xsum + r1) (ysum + r2))) := by
    refine ⟨H.ha, hin0, ht.ub, fun he => ht.att (sat_of_ne hw H.ha h0) (of_decide_eq_true he), hlo, hhi⟩
  have hl := p5.fin.blk.cells.2.2
  have hF : Fin B w10 h s5 f (putV bf5 (keyV a ts) (bndV (max (xsum + r1) (ysum + r2)) (decide (floor < max (xsum + r1) (ysum + r2))))) (cb5 + 1) := by
    refine ⟨hU.dia, p5.fin.blk.keeps hk (fun e => p5.fin.ne e), hm, p5.fin.ok.push (hbi.ext hU.ext hw), p5.fin.nob, p5.fin.nobb, ?_, p5.fin.low, p5.fin.lowb, p5.fin.lowbb⟩
    exact p5.fin.tab.on (hk.below p5.fin.size (fun k e => by subst e; exact p5.fin.lowbb))
  have h2m : 2 ^ (m + 1) = 2 * 2 ^ m := by rw [Nat.pow_succ]; omega
  refine ⟨s5, _, _, _, rfl, hF, hU, ht, fun _ => ⟨hlo, hhi⟩, ?_, ?_, ?_, ?_⟩
  · have := p4.steps; have := p5.steps; omega
  · have := p4.le; have := p5.le; omega
  · have := p4.cnt; have := p5.cnt; omega
  · have := p4.cb; have := p5.cb; omega

/-- Both rests lie ready, the first one in block b12, the other one in block b14. -/
structure Ready (B : Nat) (w W : World) (h : DH) (s s3 : DS) (f : FH) (bf : Value → Option Value) (cb a : Nat) (ts : List (Nat × Int)) (lev b12 b14 xa : Nat) (xao : Option Addr) (xus : List (Nat × Int)) (xcap : Nat) (xsum : Int) (xb : Bool) (ya : Nat) (yao : Option Addr) (yus : List (Nat × Int)) (ycap : Nat) (ysum : Int) (yb : Bool) : Prop where
  P1 : Pack W h s s3 f a ts lev xa xao xus xsum xb
  P2 : Pack W h s s3 f a ts lev ya yao yus ysum yb
  hxy : xb = !yb
  fin : Fin B W h s3 f bf cb
  upd : FUpd (fun b => b = f.bb) w W h s s3
  c12 : W.heap[b12]? = some (.cells #[.int .i32 xa, .slice xao xus.length xcap] 131 (0, 0))
  c14 : W.heap[b14]? = some (.cells #[.int .i32 ya, .slice yao yus.length ycap] 131 (0, 0))
  n12 : ¬ own h s3 b12 ∧ b12 ≠ f.bb ∧ w.heap.size ≤ b12
  n14 : ¬ own h s3 b14 ∧ b14 ≠ f.bb ∧ w.heap.size ≤ b14
  ne : b12 ≠ b14
  o1 : ∀ g, xao = some ⟨g, 0, none⟩ → g ≠ b12 ∧ g ≠ b14
  o2 : ∀ g, yao = some ⟨g, 0, none⟩ → g ≠ b12 ∧ g ≠ b14
  wB : B ≤ w.heap.size
  wf : f.b < w.heap.size

theorem Ready.quiet {B : Nat} {w W W' : World} {h : DH} {s s3 : DS} {f : FH} {bf : Value → Option Value} {cb a lev b12 b14 xa xcap ya ycap : Nat} {ts xus yus : List (Nat × Int)} {xao yao : Option Addr} {xsum ysum : Int} {xb yb : Bool}
    (R : Ready B w W h s s3 f bf cb a ts lev b12 b14 xa xao xus xcap xsum xb ya yao yus ycap ysum yb) (k : Keeps (fun _ => False) W W') : Ready B w W' h s s3 f bf cb a ts lev b12 b14 xa xao xus xcap xsum xb ya yao yus ycap ysum yb := by
  have u : FUpd (fun _ => False) W W' h s3 s3 := (FUpd.refl R.fin.dia).quiet k
  refine ⟨R.P1.on u (fun _ _ e => e), R.P2.on u (fun _ _ e => e), R.hxy, R.fin.quiet k, R.upd.quiet k, ?_, ?_, R.n12, R.n14, R.ne, R.o1, R.o2, R.wB, R.wf⟩
  · exact (k.block _ (Array.getElem?_eq_some_iff.1 R.c12).1 (fun e => e)).trans R.c12
  · exact (k.block _ (Array.getElem?_eq_some_iff.1 R.c14).1 (fun e => e)).trans R.c14

theorem set_block {w : World} {b : Nat} {x y u v : Value} {t : TypeId} (h : w.heap[b]? = some (.cells #[x, y] t (0, 0))) : ((w.setCell ⟨b, 0, none⟩ u).setCell ⟨b, 1, none⟩ v).heap[b]? = some (.cells #[u, v] t (0, 0)) := by
  simp [World.setCell, Array.getElem?_modify, h]
theorem set_other {w : World} {b c i j : Nat} {u v : Value} (hn : c ≠ b) : ((w.setCell ⟨b, i, none⟩ u).setCell ⟨b, j, none⟩ v).heap[c]? = w.heap[c]? :=
  (Below.heap_setCell _ ⟨b, j, none⟩ _ _ hn).trans (Below.heap_setCell _ ⟨b, i, none⟩ _ _ hn)

theorem Ready.swap {B : Nat} {w W : World} {h : DH} {s s3 : DS} {f : FH} {bf : Value → Option Value} {cb a lev b12 b14 xa xcap ya ycap : Nat} {ts xus yus : List (Nat × Int)} {xao yao : Option Addr} {xsum ysum : Int} {xb yb : Bool}
    (R : Ready B w W h s s3 f bf cb a ts lev b12 b14 xa xao xus xcap xsum xb ya yao yus ycap ysum yb) :
    Ready B w ((((W.setCell ⟨b12, 0, none⟩ (.int .i32 ya)).setCell ⟨b12, 1, none⟩ (.slice yao yus.length ycap)).setCell ⟨b14, 0, none⟩ (.int .i32 xa)).setCell ⟨b14, 1, none⟩ (.slice xao xus.length xcap)) h s s3 f bf cb a ts lev b12 b14 ya yao yus ycap ysum yb xa xao xus xcap xsum xb := by
  have k1 := keep2 W b12 0 1 (.int .i32 ya) (.slice yao yus.length ycap)
  have k2 := keep2 ((W.setCell ⟨b12, 0, none⟩ (.int .i32 ya)).setCell ⟨b12, 1, none⟩ (.slice yao yus.length ycap)) b14 0 1 (.int .i32 xa) (.slice xao xus.length xcap)
  have u1 : FUpd (fun b => b = b12) W _ h s3 s3 := (FUpd.refl R.fin.dia).side k1 (fun b e => Or.inl e) (fun b e => by subst e; exact R.n12.1)
  have u2 : FUpd (fun b => b = b14) _ _ h s3 s3 := (FUpd.refl u1.dia).side k2 (fun b e => Or.inl e) (fun b e => by subst e; exact R.n14.1)
  obtain ⟨n1, n2, n3⟩ := R.n12
  obtain ⟨m1, m2, m3⟩ := R.n14
  have h1 := R.wB; have h2 := R.wf; have hne := R.ne
  refine ⟨(R.P2.on u1 (fun g e => (R.o2 g e).1)).on u2 (fun g e => (R.o2 g e).2), (R.P1.on u1 (fun g e => (R.o1 g e).1)).on u2 (fun g e => (R.o1 g e).2), by rw [R.hxy]; simp, ?_, ?_, ?_, ?_, R.n12, R.n14, R.ne, R.o2, R.o1, R.wB, R.wf⟩
  · exact (R.fin.on u1 (fun j e => by subst e; omega) (fun e => by omega) (fun e => n2 e.symm)).on u2 (fun j e => by subst e; omega) (fun e => by omega) (fun e => m2 e.symm)
  · exact (R.upd.side k1 (fun b e => Or.inr (by omega)) (fun b e => by subst e; exact n1)).side k2 (fun b e => Or.inr (by omega)) (fun b e => by subst e; exact m1)
  · exact (set_other hne).trans (set_block R.c12)
  · exact set_block ((set_other (fun e => hne e.symm)).trans R.c14)

/-- The first of both. -/
theorem Ready.one {B m L : Nat} {w W : World} {h : DH} {s s3 : DS} {f : FH} {bf : Value → Option Value} {cb a lev b12 b14 xa xcap ya ycap : Nat} {ts xus yus : List (Nat × Int)} {ao xao yao : Option Addr} {xsum ysum floor : Int} {xb yb : Bool}
    (R : Ready B w W h s s3 f bf cb a ts lev b12 b14 xa xao xus xcap xsum xb ya yao yus ycap ysum yb) (H : BestHyp B h f (m + 1) s bf cb a ao ts floor L w) (hm : m ≤ 40) (ih : BestSpec B h f m) (hL : L ≤ lev) (t1 : s.steps ≤ s3.steps + (costK h.n : Nat)) (t2 : s3.steps ≤ s.steps) (t3 : s3.cnt ≤ s.cnt + 2 * costK h.n) :
    Calls Tryz.prog 78 #[.pointer (some ⟨f.b, 0, none⟩), .agg #[.int .i32 xa, .slice xao xus.length xcap], .int .i64 (floor - xsum)] W (BestEnd B W h s3 f cb xa xus (floor - xsum) m) ∧ IntKind.i64.wrap (floor - xsum) = floor - xsum := by
  have hc := costB_succ h.n m
  have h1 := H.flo; have h2 := H.fhi; have h3 := R.P1.slo; have h4 := R.P1.shi
  have h5 := H.st; have h6 := H.st2; have h7 := H.cnt; have h8 := H.cb
  have h2m : 2 ^ (m + 1) = 2 * 2 ^ m := by rw [Nat.pow_succ]; omega
  unfold FB at h1 h2
  refine ⟨ih s3 bf cb xa xao xcap xus (floor - xsum) (lev + 1) W (R.P1.hyp H hL R.fin (by unfold FB; omega) (by unfold FB; omega) (by omega) (by omega) (by omega) (by omega)), IntWalk.i64_in _ (by omega)⟩

/-- The other one. -/
structure TwoOk (B m : Nat) (W w8 : World) (h : DH) (s3 s4 : DS) (f : FH) (cb4 b14 : Nat) (ya : Nat) (yao : Option Addr) (yus : List (Nat × Int)) (ycap : Nat) (ysum xsum r1 floor F2 : Int) : Prop where
  call : Calls Tryz.prog 78 #[.pointer (some ⟨f.b, 0, none⟩), .agg #[.int .i32 ya, .slice yao yus.length ycap], .int .i64 (F2 - ysum)] w8 (BestEnd B w8 h s4 f cb4 ya yus (max floor (xsum + r1) - ysum) m)
  w1 : IntKind.i64.wrap (xsum + r1) = xsum + r1
  w2 : IntKind.i64.wrap (F2 - ysum) = F2 - ysum
  c14 : w8.heap[b14]? = some (.cells #[.int .i32 ya, .slice yao yus.length ycap] 131 (0, 0))
  ybd : ∀ w9 s5 bf5 cb5 r2, BestPost B w8 h s4 f cb4 ya yus (max floor (xsum + r1) - ysum) m w9 s5 bf5 cb5 r2 → IntKind.i64.wrap (ysum + r2) = ysum + r2
theorem Ready.two {B m L : Nat} {w W w8 : World} {h : DH} {s s3 s4 : DS} {f : FH} {bf bf4 : Value → Option Value} {cb cb4 a lev b12 b14 xa xcap ya ycap : Nat} {ts xus yus : List (Nat × Int)} {ao xao yao : Option Addr} {xsum ysum floor r1 F2 : Int} {xb yb : Bool}
    (R : Ready B w W h s s3 f bf cb a ts lev b12 b14 xa xao xus xcap xsum xb ya yao yus ycap ysum yb) (H : BestHyp B h f (m + 1) s bf cb a ao ts floor L w) (hm : m ≤ 40) (ih : BestSpec B h f m) (hL : L ≤ lev) (t1 : s.steps ≤ s3.steps + (costK h.n : Nat)) (t2 : s3.steps ≤ s.steps) (t3 : s3.cnt ≤ s.cnt + 2 * costK h.n)
    (p4 : BestPost B W h s3 f cb xa xus (floor - xsum) m w8 s4 bf4 cb4 r1) (hF : F2 = max floor (xsum + r1)) : TwoOk B m W w8 h s3 s4 f cb4 b14 ya yao yus ycap ysum xsum r1 floor F2 := by
  subst hF
  have hc := costB_succ h.n m
  have h1 := H.flo; have h2 := H.fhi; have h3 := R.P1.slo; have h4 := R.P1.shi; have h3' := R.P2.slo; have h4' := R.P2.shi
  have h5 := H.st; have h6 := H.st2; have h7 := H.cnt; have h8 := H.cb
  have q1 := p4.steps; have q2 := p4.le; have q3 := p4.cnt; have q4 := p4.cb
  have hb := p4.bds R.P1.wt R.P1.ha
  have h2m : 2 ^ (m + 1) = 2 * 2 ^ m := by rw [Nat.pow_succ]; omega
  unfold FB at h1 h2
  have hp := R.P2.on p4.upd (fun g e hh => (R.P2.out g e).2.2 hh)
  refine ⟨ih s4 bf4 cb4 ya yao ycap yus _ (lev + 1) w8 (hp.hyp H hL p4.fin (by unfold FB; omega) (by unfold FB; omega) (by omega) (by omega) (by omega) (by omega)), IntWalk.i64_in _ (by omega), IntWalk.i64_in _ (by omega), ?_, fun w9 s5 bf5 cb5 r2 p5 => ?_⟩
  · exact (p4.upd.block (Array.getElem?_eq_some_iff.1 R.c14).1 R.n14.1 R.n14.2.1).trans R.c14
  · have := p5.bds hp.wt hp.ha
    exact IntWalk.i64_in _ (by omega)

open Go Go.RowKit Go.WideMaps Go.Maps
set_option linter.unusedSimpArgs false
set_option linter.unusedVariables false

theorem BestHyp.key {B m : Nat} {h : DH} {f : FH} {s : DS} {bf : Value → Option Value} {cb a L : Nat} {ao : Option Addr} {ts : List (Nat × Int)} {floor : Int} {w : World} (H : BestHyp B h f m s bf cb a ao ts floor L w) : KeyOk a ts ∧ (keyR a ts).length ≤ 1000 := by
  have hl := H.fin.dia.inv.cnt
  have hc := H.cnt
  have hw := H.wt
  have h4 := hiT_nonneg ts; have h5 := loT_nonpos ts
  unfold Wt at hw
  have hk : KeyOk a ts := ⟨by have := H.ha; omega, fun t ht => by have h1 := (H.inT t ht).1; have h2 := wt_mem t ht; omega⟩
  refine ⟨hk, ?_⟩
  have h1 := Lib.itoa_length_le (a : Int) (by omega) (by have := hk.1; omega)
  have h2 := keyT_len ts (fun t h => by have := hk.2 t h; omega)
  have h3 := H.len
  unfold keyR
  rw [List.length_append]
  omega

def SpEnd (V : World) (h : DH) (s : DS) (n : Nat) (e : Ending) (w' : World) : Prop := ∃ s1, e = .returned (.tuple #[]) ∧ Upd V w' h s s1 ∧ s1.nodes = s.nodes ∧ s1.steps = s.steps - n ∧ s1.cnt = s.cnt

set_option maxRecDepth 100000 in
set_option maxHeartbeats 12800000 in
theorem best_step (B : Nat) (h : DH) (hn : h.n ≤ 40) (f : FH) (m : Nat) (hm40 : m ≤ 40) (ih : BestSpec B h f m) (s : DS) (bf : Value → Option Value) (cb a : Nat) (ao : Option Addr) (cap : Nat) (ts : List (Nat × Int)) (floor : Int) (L : Nat) (w : World) (H : BestHyp B h f (m + 1) s bf cb a ao ts floor L w) (h0 : a ≠ 0) (hfl : floor < hiT ts) (hne : ts ≠ []) :
    Calls Tryz.prog 78 #[.pointer (some ⟨f.b, 0, none⟩), .agg #[.int .i32 a, .slice ao ts.length cap], .int .i64 floor] w (BestEnd B w h s f cb a ts floor (m + 1)) := by
  have h4 := hiT_nonneg ts; have h5 := loT_nonpos ts
  have hpos : 0 < ts.length := List.length_pos_iff.2 hne
  obtain ⟨hko, hkl⟩ := H.key
  obtain ⟨kl, hkey⟩ : ∃ kl, keyOf Tryz.prog 9 (keyV a ts) = some kl := ⟨_, keyOf_string_mk Tryz.underlying9 (by show (ByteArray.mk (keyR a ts).toArray).size ≤ _; simp [ByteArray.size]; unfold maxLen; omega)⟩
  have hlm : ∀ W, Keeps (fun _ => False) w W → Calls Tryz.prog 103 #[.agg #[.int .i32 a, .slice ao ts.length cap]] W fun e w' => e = .returned (.int .i64 (hiT ts)) ∧ Keeps (fun _ => False) W w' := fun W k =>
    limit_any a ao cap ts W (H.terms.keeps k (fun _ _ _ e => e)) (by have := H.wt; unfold Wt at this; omega)
  have hky : ∀ W, Keeps (fun _ => False) w W → Calls Tryz.prog 104 #[.agg #[.int .i32 a, .slice ao ts.length cap]] W fun e w' => e = .returned (keyV a ts) ∧ Keeps (fun _ => False) W w' := fun W k =>
    key_any a ao cap ts W (H.terms.keeps k (fun _ _ _ e => e)) hko ((H.fin.tab.on (k.below H.fin.size (fun _ e => e.elim))).up (Nat.le_trans H.fin.size k.size))
  have hlook : ∀ W, Keeps (fun _ => False) w W → (Instr.lookup 124 (.map (some f.bb)) (keyV a ts) true).run Tryz.prog W = .ok (.tuple #[(bf (keyV a ts)).getD (bndV 0 false), .bool (bf (keyV a ts)).isSome]) W := fun W k =>
    (H.fin.map.kept (k.block _ H.fin.map.lt (fun e => e))).look_ok strLaw Tryz.underlying124 (zeroBound _) hkey
  have hcase : (∃ sum ex, (bf (keyV a ts)).getD (bndV 0 false) = bndV sum ex ∧ (bf (keyV a ts)).isSome = true ∧ (ex = true ∨ ex = false ∧ sum ≤ floor) ∧ ∀ W, Keeps (fun _ => False) w W → BestEnd B w h s f cb a ts floor (m + 1) (.returned (.int .i64 sum)) W) ∨
      (∃ sum ex, (bf (keyV a ts)).getD (bndV 0 false) = bndV sum ex ∧ ((bf (keyV a ts)).isSome = false ∨ (bf (keyV a ts)).isSome = true ∧ ex = false ∧ floor < sum)) := by
    cases hb : bf (keyV a ts) with
    | none => exact .inr ⟨0, false, rfl, .inl rfl⟩
    | some v =>
      obtain ⟨a', ts', sum, ex, e1, e2, e3⟩ := H.fin.ok _ _ hb
      obtain ⟨rfl, rfl⟩ := keyV_inj e1
      have hends : (ex = true ∨ sum ≤ floor) → ∀ W, Keeps (fun _ => False) w W → BestEnd B w h s f cb a ts floor (m + 1) (.returned (.int .i64 sum)) W := fun hx W k =>
        best_self H.fin k (top_known H.fin.dia.inv.wf H.ha h0 e3 hx) (fun _ => ⟨e3.lo, e3.hi⟩)
      by_cases hx : ex = true
      · exact .inl ⟨sum, ex, by rw [e2]; rfl, rfl, .inl hx, hends (.inl hx)⟩
      · have hx2 : ex = false := by simpa using hx
        by_cases hs : sum ≤ floor
        · exact .inl ⟨sum, ex, by rw [e2]; rfl, rfl, .inr ⟨hx2, hs⟩, hends (.inr hs)⟩
        · exact .inr ⟨sum, ex, by rw [e2]; rfl, .inr ⟨rfl, hx2, by omega⟩⟩
  have hb := box1_at (w := w) (x := .int .i32 a) (y := .slice ao ts.length cap) (t := 131)
  have hk1 : Keeps (fun _ => False) w (w.alloc (.cells #[.int .i32 a, .slice ao ts.length cap] 131)) := (Keeps.refl _ _).alloc _
  have hsz : w.heap.size < (w.alloc (.cells #[.int .i32 a, .slice ao ts.length cap] 131)).heap.size := by simp
  have hz : ((a : Int) == 0) = false := beq_eq_false_iff_ne.2 (by omega)
  have hd : decide (hiT ts ≤ floor) = false := decide_eq_false (by omega)
  have hl0 : ((ts.length : Int) == 0) = false := beq_eq_false_iff_ne.2 (by omega)
  have Hl := Lib.hid hlm; have Hky := Lib.hid hky; have Hb := Lib.hid hb; have Hk1 := Lib.hid hk1; have HH := Lib.hid H; have Hih := Lib.hid ih; have Hkey := Lib.hid hkey; have Hlook := Lib.hid hlook; have Hcase := Lib.hid hcase; have Hne := Lib.hid hne
  clear hlm hky hb hk1 H ih hkey hko hkl hlook hcase hne
  go_enter Tryz.func78, Tryz.ntmps78
  go_wp2_with fail
  refine (Hl.out _ Hk1.out).mono ?_
  generalize (w.alloc (.cells #[.int .i32 a, .slice ao ts.length cap] 131)) = W1 at *
  have hT : ∀ W, Keeps (fun _ => False) W1 W → W.heap[w.heap.size]? = some (.cells #[.int .i32 a, .slice ao ts.length cap] 131 (0, 0)) := fun W k => (k.block _ hsz (fun e => e)).trans Hb.out
  have HT := Lib.hid hT
  clear hT
  rintro e w1 ⟨rfl, k1⟩
  obtain ⟨b1, b2, b3, b4⟩ := at_two (HT.out _ k1)
  have K1 := Lib.hid k1
  clear k1
  go_wp2_with fail
  refine (Hky.out _ (Hk1.out.trans K1.out (fun _ e => e.elim))).mono ?_
  rintro e w2 ⟨rfl, k2⟩
  have K2 := Lib.hid (K1.out.trans k2 (fun _ e => e.elim))
  have K2w := Lib.hid (Hk1.out.trans K2.out (fun _ e => e.elim))
  obtain ⟨b1, b2, b3, b4⟩ := at_two (HT.out _ K2.out)
  obtain ⟨f1, f2, f3⟩ := (HH.out.fin.blk.keeps K2w.out (fun e => e)).cells
  have hlk := Hlook.out _ K2w.out
  clear k2
  unfold keyV at hlk Hcase Hkey ⊢
  generalize hKB : (ByteArray.mk (keyR a ts).toArray) = KB at *
  have HKB := Lib.hid hKB
  clear hKB
  rcases Hcase.out with ⟨sum, ex, e1, e2, hx, hend⟩ | ⟨sum, ex, e1, hx⟩
  · rw [e1, e2] at hlk
    unfold bndV at hlk
    have He := Lib.hid hend
    clear hend e1 e2 Hcase
    rcases hx with rfl | ⟨rfl, hle⟩
    · go_wp2_with fail
      go_ret
      exact He.out _ ((K2w.out).alloc _)
    · have hled : decide (sum ≤ floor) = true := decide_eq_true hle
      go_wp2_with fail
      go_ret
      exact He.out _ ((K2w.out).alloc _)
  · rw [e1] at hlk
    unfold bndV at hlk
    clear e1 Hcase
    have kV := fun (o : Obj) => (K2w.out).alloc o
    have hbV := fun (o : Obj) => HT.out _ (K2.out.alloc o)
    have KV := Lib.hid kV; have HBV := Lib.hid hbV
    clear kV hbV
    rcases hx with hx | ⟨hx, rfl, hgt⟩
    all_goals
      rw [hx] at hlk
      clear hx
      go_wp2_with fail
      first
        | (have kV := KV.out (.cells #[.int .i64 sum, .bool ex] 163); have hbV := HBV.out (.cells #[.int .i64 sum, .bool ex] 163); clear hlk KV HBV; generalize (w2.alloc (.cells #[.int .i64 sum, .bool ex] 163)) = V at *)
        | (have kV := KV.out (.cells #[.int .i64 sum, .bool false] 163); have hbV := HBV.out (.cells #[.int .i64 sum, .bool false] 163); clear hlk KV HBV; generalize (w2.alloc (.cells #[.int .i64 sum, .bool false] 163)) = V at *)
      have H := HH.out
      have hfV := H.fin.quiet kV
      have hsV : w.heap.size < V.heap.size := (Array.getElem?_eq_some_iff.1 hbV).1
      have hnb : ¬ own h s w.heap.size := fun e => by have := H.fin.dia.lt _ e; omega
      have hcs := costB_succ h.n m
      have hck : costK h.n = 12 + 24 * 2 ^ h.n := by unfold costK; omega
      have hst := H.st
      have hst2 := H.st2
      have hct := H.cnt
      have h12 := H.len
      have hSp : ∀ W, Keeps (fun _ => False) V W → Calls Tryz.prog 96 #[.pointer (some ⟨h.b, 0, none⟩), .int .i64 (ts.length : Nat)] W (SpEnd V h s ts.length) := fun W k => by
        have uq : Upd V W h s s := (Upd.refl hfV.dia).quiet k
        refine (spend_any h s (ts.length : Nat) W uq.dia (by omega) (by omega) hst2).mono ?_
        rintro e w' ⟨he, u⟩
        exact ⟨_, he, uq.trans u, rfl, rfl, rfl⟩
      have hS : ∀ W s', Upd V W h s s' → W.cell? ⟨f.b, 0, none⟩ = some (.pointer (some ⟨h.b, 0, none⟩)) ∧ W.cell? ⟨w.heap.size, 1, none⟩ = some (.slice ao ts.length cap) := fun W s' u =>
        ⟨(hfV.blk.keeps u.keeps hfV.nob).cells.1, (at_two ((u.keeps.block _ hsV hnb).trans hbV)).2.1⟩
      have HSp := Lib.hid hSp; have HS := Lib.hid hS; have Hd1 := Lib.hid (Upd.refl hfV.dia); have HfV := Lib.hid hfV; have HbV := Lib.hid hbV; have KV := Lib.hid kV; have Hcs := Lib.hid hcs; have Hck := Lib.hid hck
      clear hSp hS hfV hbV kV H hcs hck b1 b2 b3 b4 f1 f2 f3
      go_region_held3 (fun W => W.cell? ⟨f.b, 0, none⟩ = some (.pointer (some ⟨h.b, 0, none⟩)) ∧ W.cell? ⟨w.heap.size, 1, none⟩ = some (.slice ao ts.length cap))
        (first | exact HS.out _ _ (by assumption) | exact HS.out _ _ (Upd.drew (by assumption)) | exact HS.out _ _ Hd1.out | exact HS.out _ _ Hd1.out.drew)
        ((go_at_call 96; (with_reducible refine (HSp.out _ (by first | exact Keeps.refl _ _ | exact (Keeps.refl _ _).drew)).mono ?_); rintro e w3 ⟨s1, rfl, u3, e1, e2, e3⟩))
      have H := HH.out
      have hb3 := (u3.keeps.block _ hsV hnb).trans HbV.out
      have hf3 : Fin B w3 h s1 f bf cb := HfV.out.on (G := fun _ => False) u3.toF (fun _ e => e.elim) (fun e => e) (fun e => e)
      have ht3 : TermsAt w3 ao ts := (H.terms.keeps KV.out (fun _ _ _ e => e)).keeps u3.keeps (fun g _ e => (H.out g e).2.1)
      have hnx := next_any h s1 f a ao cap ts w3 hf3.dia hf3.blk (by omega) (by rw [e1]; exact H.ha) (by rw [e1]; exact fun t ht => ⟨(H.inT t ht).1, Nat.zero_le _⟩) ht3
      rw [e1] at hnx
      have hlev := nextL_le s.nodes ts (ndAt s.nodes a).lev
      have hlev2 := nextL_ge s.nodes L ts (ndAt s.nodes a).lev H.low (fun t ht => (H.inT t ht).2)
      have hlev3 : nextL s.nodes a ts < h.n := by
        obtain ⟨t, ts', rfl⟩ : ∃ t ts', ts = t :: ts' := by cases ts with | nil => exact absurd rfl Hne.out | cons t ts' => exact ⟨t, ts', rfl⟩
        have h1 := hlev.2 t (List.mem_cons_self ..)
        have h2 := H.fin.dia.inv.wf.lev t.1 (H.two t (List.mem_cons_self ..)) (H.inT t (List.mem_cons_self ..)).1
        exact Nat.lt_of_le_of_lt h1 h2
      change (nextL s.nodes a ts ≤ (ndAt s.nodes a).lev ∧ ∀ t ∈ ts, nextL s.nodes a ts ≤ (ndAt s.nodes t.1).lev) at hlev
      change L ≤ nextL s.nodes a ts at hlev2
      obtain ⟨b1, b2, b3, b4⟩ := at_two hb3
      generalize nextL s.nodes a ts = lev at *
      have Hnx := Lib.hid hnx; have Hf3 := Lib.hid hf3; have Ht3 := Lib.hid ht3; have Hb3 := Lib.hid hb3; have U3 := Lib.hid u3; have Hlev := Lib.hid hlev; have E1 := Lib.hid e1; have E2 := Lib.hid e2; have E3 := Lib.hid e3
      have hs3 : V.heap.size ≤ w3.heap.size := u3.keeps.size
      clear hnx hf3 ht3 hb3 u3 hlev e1 e2 e3 H HSp HS Hd1
      go_wp2_with fail
      refine Hnx.out.mono ?_
      rintro e w4 ⟨rfl, k4⟩
      have H := HH.out
      have hf4 := Hf3.out.quiet k4
      have ht4 := Ht3.out.keeps k4 (fun _ _ _ e => e)
      obtain ⟨gr, rfl, _⟩ := H.terms.cells hpos
      have hs4 := k4.size
      have hb4 := (k4.block _ (by omega) (fun e => e)).trans Hb3.out
      have q1 := E1.out; have q2 := E2.out; have q3 := E3.out; have qc := Hcs.out; have qk := Hck.out
      have hp2 : 0 < 2 ^ h.n := Nat.two_pow_pos _
      have hmul : ts.length * 2 ^ h.n ≤ 12 * 2 ^ h.n := Nat.mul_le_mul_right _ h12
      have hna := (narrow_any h (by omega) s1 f a gr cap lev 1 (Or.inl rfl) ts w4 hf4.dia hf4.blk hf4.nob hlev3 (by rw [q1]; exact H.ha) (by rw [q1]; exact Hlev.out.1) (by rw [q1]; exact fun t ht => ⟨(H.inT t ht).1, Hlev.out.2 t ht⟩) ht4 h12 (by have := H.wt; omega) (by omega) (by omega) (by omega)).mono (fun e w' hh => narrow_nr hf4.dia hlev3 hh)
      obtain ⟨b1, b2, b3, b4⟩ := at_two hb4
      have Hna := Lib.hid hna; have Hf4 := Lib.hid hf4; have Ht4 := Lib.hid ht4; have Hb4 := Lib.hid hb4; have K4 := Lib.hid k4; have HG := Lib.hid (H.out gr rfl)
      clear hna hf4 ht4 hb4 k4 H q1 q2 q3 qc qk
      go_wp2_with fail
      refine Hna.out.mono ?_
      rintro e w5 ⟨s2, a1, ao1, us1, sum1, cap1, rfl, n1⟩
      have hb5 := (n1.upd.block (by omega) (U3.out.toF (G := fun _ => False) |>.no hsV hnb) (fun e => e)).trans Hb4.out
      have hs5 := n1.upd.keeps.size
      have hlt5 : w.heap.size < w5.heap.size := by omega
      have hr1 : Keeps (fun _ => False) w5 (w5.alloc (.cells #[.int .i32 a1, .slice ao1 us1.length cap1] 131)) := (Keeps.refl _ _).alloc _
      have hb12 := box1_at (w := w5) (x := .int .i32 a1) (y := .slice ao1 us1.length cap1) (t := 131)
      have hs12 : w5.heap.size < (w5.alloc (.cells #[.int .i32 a1, .slice ao1 us1.length cap1] 131)).heap.size := by simp
      obtain ⟨b1, b2, b3, b4⟩ := at_two hb5
      have N1 := Lib.hid n1; have Hb5 := Lib.hid hb5; have R1 := Lib.hid hr1; have Hb12 := Lib.hid hb12
      clear n1 hb5 hr1 hb12
      go_wp2_with fail
      generalize (w5.alloc (.cells #[.int .i32 a1, .slice ao1 us1.length cap1] 131)) = W5 at *
      have H := HH.out
      have n1 := N1.out
      have q1 := E1.out; have q2 := E2.out; have q3 := E3.out; have qc := Hcs.out; have qk := Hck.out
      have hf5 : Fin B W5 h s2 f bf cb := (Hf4.out.on n1.upd (fun _ e => e.elim) (fun e => e) (fun e => e)).quiet R1.out
      have hg1 : ¬ own h s1 gr := fun e => (HG.out.2.1) (by
        rcases U3.out.own gr e with e1 | e1
        · exact e1
        · exact absurd HG.out.1 (by have := KV.out.size; omega))
      have ht5 := (Ht4.out.keeps n1.upd.keeps (fun g _ e hh => by cases e; exact hh.elim hg1 (fun e => e))).keeps R1.out (fun _ _ _ e => e)
      have hext : Ext s.nodes s2.nodes := by have := n1.upd.ext; rw [q1] at this; exact this
      have c1 := n1.cnt; have c2 := n1.steps; have c3 := n1.le
      have hwt := H.wt
      have hna2 := (narrow_any h (by omega) s2 f a gr cap lev 2 (Or.inr rfl) ts W5 hf5.dia hf5.blk hf5.nob hlev3 (Nat.lt_of_lt_of_le H.ha hext.len) (by rw [hext.at H.ha]; exact Hlev.out.1) (fun t ht => ⟨Nat.lt_of_lt_of_le (H.inT t ht).1 hext.len, by rw [hext.at (H.inT t ht).1]; exact Hlev.out.2 t ht⟩) ht5 h12 (by omega) (by omega) (by omega) (by omega)).mono (fun e w' hh => narrow_nr hf5.dia hlev3 hh)
      have Hna2 := Lib.hid hna2; have Hf5 := Lib.hid hf5; have Hext := Lib.hid hext
      clear hna2 hf5 ht5 hext n1 H q1 q2 q3 qc qk
      refine Hna2.out.mono ?_
      rintro e w6 ⟨s3, a2, ao2, us2, sum2, cap2, rfl, n2⟩
      have hno12 : ¬ own h s2 w5.heap.size := fun e => by have := N1.out.upd.dia.lt _ e; omega
      have hb12 := (n2.upd.block hs12 hno12 (fun e => e)).trans Hb12.out
      have hs6 := n2.upd.keeps.size
      have hr2 : Keeps (fun _ => False) w6 (w6.alloc (.cells #[.int .i32 a2, .slice ao2 us2.length cap2] 131)) := (Keeps.refl _ _).alloc _
      have hb14 := box1_at (w := w6) (x := .int .i32 a2) (y := .slice ao2 us2.length cap2) (t := 131)
      have hs14 : w6.heap.size < (w6.alloc (.cells #[.int .i32 a2, .slice ao2 us2.length cap2] 131)).heap.size := by simp
      have N2 := Lib.hid n2; have Hb12' := Lib.hid hb12; have R2 := Lib.hid hr2; have Hb14 := Lib.hid hb14
      clear n2 hb12 hr2 hb14 b1 b2 b3 b4
      go_wp2_with fail
      generalize (w6.alloc (.cells #[.int .i32 a2, .slice ao2 us2.length cap2] 131)) = W6 at *
      have H := HH.out
      have n1 := N1.out
      have n2 := N2.out
      have q1 := E1.out; have q2 := E2.out; have q3 := E3.out; have qk := Hck.out
      have hin0 : InT s.nodes 0 ts := fun t ht => ⟨(H.inT t ht).1, Nat.zero_le _⟩
      have hbb4 := Hf4.out.map.lt
      have hbb5 := Hf5.out.map.lt
      have hs45 : w4.heap.size ≤ w5.heap.size := n1.upd.keeps.size
      have hs56 : W5.heap.size ≤ w6.heap.size := n2.upd.keeps.size
      have hw5 : w.heap.size ≤ w5.heap.size := by have := KV.out.size; omega
      have hno6 : ¬ own h s3 w6.heap.size := fun e => by have := n2.upd.dia.lt _ e; omega
      have hR : Ready B w W6 h s s3 f bf cb a ts lev w5.heap.size w6.heap.size a1 ao1 us1 cap1 sum1 ((1 : Int) == 2) a2 ao2 us2 cap2 sum2 ((2 : Int) == 2) := by
        refine ⟨?_, ?_, by decide, (Hf5.out.on n2.upd (fun _ e => e.elim) (fun e => e) (fun e => e)).quiet R2.out, ?_, ?_, Hb14.out, ⟨n2.upd.no hs12 hno12, by omega, hw5⟩, ⟨hno6, by omega, by omega⟩, by omega, fun g e => ?_, fun g e => ?_, H.fin.size, H.fin.blk.cells.2.2⟩
        · have p1 := pack_of (f := f) n1 H.fin.dia.inv.wf (by rw [q1]; exact Ext.refl _) H.ha hin0 h12 H.wt hbb4
          have u1 : FUpd (fun _ => False) w5 W5 h s2 s2 := (FUpd.refl n1.upd.dia).quiet R1.out
          have u2 : FUpd (fun _ => False) w6 W6 h s3 s3 := (FUpd.refl n2.upd.dia).quiet R2.out
          exact ((p1.on u1 (fun _ _ e => e)).on n2.upd (fun _ _ e => e)).on u2 (fun _ _ e => e)
        · have p2 := pack_of (f := f) n2 H.fin.dia.inv.wf Hext.out H.ha hin0 h12 H.wt hbb5
          have u2 : FUpd (fun _ => False) w6 W6 h s3 s3 := (FUpd.refl n2.upd.dia).quiet R2.out
          exact p2.on u2 (fun _ _ e => e)
        · exact (((((((FUpd.refl H.fin.dia).quiet KV.out).trans U3.out.toF).quiet K4.out).trans (n1.upd.mono (fun _ e => e.elim))).quiet R1.out).trans (n2.upd.mono (fun _ e => e.elim))).quiet R2.out
        · exact (R2.out.block _ (by omega) (fun e => e)).trans Hb12'.out
        · have := n1.out g e; omega
        · have := n2.out g e; omega
      have c1 := n1.cnt; have c2 := n1.steps; have c3 := n1.le; have c4 := n2.cnt; have c5 := n2.steps; have c6 := n2.le
      have t1 : s.steps ≤ s3.steps + (costK h.n : Nat) := by omega
      have t2 : s3.steps ≤ s.steps := by omega
      have t3 : s3.cnt ≤ s.cnt + 2 * costK h.n := by omega
      have hl1 : ∀ W, Keeps (fun _ => False) W6 W → Calls Tryz.prog 103 #[.agg #[.int .i32 a1, .slice ao1 us1.length cap1]] W fun e w' => e = .returned (.int .i64 (hiT us1)) ∧ Keeps (fun _ => False) W6 w' := fun W k =>
        (limit_any a1 ao1 cap1 us1 W (hR.P1.terms.keeps k (fun _ _ _ e => e)) (by have := hR.P1.wt; have := loT_nonpos us1; unfold Wt at *; omega)).mono (fun e w' hh => ⟨hh.1, k.trans hh.2 (fun _ e => e.elim)⟩)
      have hl2 : ∀ W, Keeps (fun _ => False) W6 W → Calls Tryz.prog 103 #[.agg #[.int .i32 a2, .slice ao2 us2.length cap2]] W fun e w' => e = .returned (.int .i64 (hiT us2)) ∧ Keeps (fun _ => False) W6 w' := fun W k =>
        (limit_any a2 ao2 cap2 us2 W (hR.P2.terms.keeps k (fun _ _ _ e => e)) (by have := hR.P2.wt; have := loT_nonpos us2; unfold Wt at *; omega)).mono (fun e w' hh => ⟨hh.1, k.trans hh.2 (fun _ e => e.elim)⟩)
      have hS : ∀ W, Keeps (fun _ => False) W6 W → W.cell? ⟨w5.heap.size, 0, none⟩ = some (.int .i32 a1) ∧ W.cell? ⟨w5.heap.size, 1, none⟩ = some (.slice ao1 us1.length cap1) ∧ W.cell? ⟨w6.heap.size, 0, none⟩ = some (.int .i32 a2) ∧ W.cell? ⟨w6.heap.size, 1, none⟩ = some (.slice ao2 us2.length cap2) := fun W k => by
        have h1 := at_two (hR.quiet k).c12
        have h2 := at_two (hR.quiet k).c14
        exact ⟨h1.1, h1.2.1, h2.1, h2.2.1⟩
      have hwt1 : 0 ≤ hiT us1 ∧ hiT us1 ≤ 1099511627 := by have := hR.P1.wt; have := loT_nonpos us1; have := hiT_nonneg us1; unfold Wt at *; omega
      have hwt2 : 0 ≤ hiT us2 ∧ hiT us2 ≤ 1099511627 := by have := hR.P2.wt; have := loT_nonpos us2; have := hiT_nonneg us2; unfold Wt at *; omega
      have hb1 := hR.P1.slo; have hb2 := hR.P1.shi; have hb3 := hR.P2.slo; have hb4 := hR.P2.shi
      generalize hiT us1 = x1 at *
      generalize hiT us2 = x2 at *
      have hw1 : IntKind.i64.wrap (sum1 + x1) = sum1 + x1 := IntWalk.i64_in _ (by omega)
      have hw2 : IntKind.i64.wrap (sum2 + x2) = sum2 + x2 := IntWalk.i64_in _ (by omega)
      have HR := Lib.hid hR; have HL1 := Lib.hid hl1; have HL2 := Lib.hid hl2; have HS := Lib.hid hS
      have T1 := Lib.hid t1; have T2 := Lib.hid t2; have T3 := Lib.hid t3
      clear hR hl1 hl2 hS n1 n2 H q1 q2 q3 qk c1 c2 c3 c4 c5 c6 t1 t2 t3 N1 N2 R1 R2 Hb12 Hb12' Hb14 Hna Hna2 Hf3 Hf4 Hf5 Hb3 Hb4 Hb5 Ht3 Ht4 Hnx K4 U3 KV HfV HbV hin0
      go_region_held3 (fun W => W.cell? ⟨w5.heap.size, 0, none⟩ = some (.int .i32 a1) ∧ W.cell? ⟨w5.heap.size, 1, none⟩ = some (.slice ao1 us1.length cap1) ∧ W.cell? ⟨w6.heap.size, 0, none⟩ = some (.int .i32 a2) ∧ W.cell? ⟨w6.heap.size, 1, none⟩ = some (.slice ao2 us2.length cap2))
        (first | exact HS.out _ (Keeps.refl _ _) | exact HS.out _ (Keeps.refl _ _).drew | exact HS.out _ (by assumption) | exact HS.out _ (Keeps.drew (by assumption)))
        (first
          | (go_at_call 103; (with_reducible refine (HL2.out _ (by first | exact Keeps.refl _ _ | exact (Keeps.refl _ _).drew)).mono ?_); rintro e w7 ⟨rfl, k7⟩)
          | (go_at_call 103; (with_reducible refine (HL1.out _ (by first | exact k7 | exact k7.drew)).mono ?_); rintro e w8 ⟨rfl, k8⟩))
      have R8 := HR.out.quiet k8
      obtain ⟨z1, z2, z3, z4⟩ := at_two R8.c12
      obtain ⟨y1, y2, y3, y4⟩ := at_two R8.c14
      have hne8 := R8.ne
      have RS := Lib.hid R8.swap
      have R8' := Lib.hid R8
      clear R8 k7 k8 HS HL1 HL2 HR
      by_cases hsw : sum1 + x1 < sum2 + x2
      · have hdec : decide (sum1 + x1 < sum2 + x2) = true := decide_eq_true hsw
        obtain ⟨hc1, hw3⟩ := RS.out.one HH.out hm40 Hih.out hlev2 T1.out T2.out T3.out
        have HC1 := Lib.hid hc1
        clear hc1
        go_wp2_with fail
        refine HC1.out.mono ?_
        rintro e w9 ⟨s4, bf4, cb4, r1, rfl, p4⟩
        obtain ⟨F2, hF2⟩ : ∃ F2 : Int, F2 = max floor (sum2 + r1) := ⟨_, rfl⟩
        have hm1 : max floor (sum2 + r1) = F2 := hF2.symm
        have k2 := RS.out.two HH.out hm40 Hih.out hlev2 T1.out T2.out T3.out p4 hF2
        have hw4 := k2.w1
        have hw5 := k2.w2
        obtain ⟨y1, y2, y3, y4⟩ := at_two k2.c14
        have HC2 := Lib.hid k2.call; have Hyb := Lib.hid k2.ybd; have P4 := Lib.hid p4
        clear k2 p4 hF2
        go_wp2_with fail
        refine HC2.out.mono ?_
        rintro e w10 ⟨s5, bf5, cb5, r2, rfl, p5⟩
        have hw6 := Hyb.out _ _ _ _ _ p5
        obtain ⟨bst, hb⟩ : ∃ bst : Int, bst = max (sum2 + r1) (sum1 + r2) := ⟨_, rfl⟩
        have hm2 : max (sum2 + r1) (sum1 + r2) = bst := hb.symm
        obtain ⟨f1, f2, f3⟩ := p5.fin.blk.cells
        have hmap := p5.fin.map
        have hcb5 : cb5 < 4611686018427387904 := by
          have := HH.out.cb; have := P4.out.cb; have := p5.cb
          have h2m : 2 ^ (m + 1) = 2 * 2 ^ m := by rw [Nat.pow_succ]; omega
          omega
        have hfin : ∀ w11, MapV w11 Tryz.prog 9 f.bb (cb5 + 1) (putV bf5 (.string KB) (.agg #[.int .i64 bst, .bool (decide (floor < bst))])) → w10.grownBy w11 (some f.bb) → BestEnd B w h s f cb a ts floor (m + 1) (.returned (.int .i64 bst)) w11 := by
          intro w11 hm11 hg11
          have e : keyV a ts = .string KB := by unfold keyV; rw [HKB.out]
          subst hb
          exact best_fin HH.out h0 RS.out.upd T1.out T2.out T3.out RS.out.P1 RS.out.P2 RS.out.hxy P4.out p5 (by rw [e]; exact hm11) hg11
        have Hfin := Lib.hid hfin
        clear hfin p5 hb Hyb HC2
        go_wp2_with (at_mapUpdate; refine wpList_mapUpdate_V _ rfl _ _ _ 124 rfl 9 163 strLaw Tryz.underlying124 _ _ _ rfl hmap (by unfold maxLen; omega) _ _ rfl rfl _ Hkey.out ?_; intro w11 hm11 hg11)
        have hend := Hfin.out _ hm11 hg11
        have Hend := Lib.hid hend
        clear hend hm11 hg11
        go_ret
        exact Hend.out
      · have hdec : decide (sum1 + x1 < sum2 + x2) = false := decide_eq_false hsw
        obtain ⟨hc1, hw3⟩ := R8'.out.one HH.out hm40 Hih.out hlev2 T1.out T2.out T3.out
        have HC1 := Lib.hid hc1
        clear hc1
        go_wp2_with fail
        refine HC1.out.mono ?_
        rintro e w9 ⟨s4, bf4, cb4, r1, rfl, p4⟩
        obtain ⟨F2, hF2⟩ : ∃ F2 : Int, F2 = max floor (sum1 + r1) := ⟨_, rfl⟩
        have hm1 : max floor (sum1 + r1) = F2 := hF2.symm
        have k2 := R8'.out.two HH.out hm40 Hih.out hlev2 T1.out T2.out T3.out p4 hF2
        have hw4 := k2.w1
        have hw5 := k2.w2
        obtain ⟨y1, y2, y3, y4⟩ := at_two k2.c14
        have HC2 := Lib.hid k2.call; have Hyb := Lib.hid k2.ybd; have P4 := Lib.hid p4
        clear k2 p4 hF2
        go_wp2_with fail
        refine HC2.out.mono ?_
        rintro e w10 ⟨s5, bf5, cb5, r2, rfl, p5⟩
        have hw6 := Hyb.out _ _ _ _ _ p5
        obtain ⟨bst, hb⟩ : ∃ bst : Int, bst = max (sum1 + r1) (sum2 + r2) := ⟨_, rfl⟩
        have hm2 : max (sum1 + r1) (sum2 + r2) = bst := hb.symm
        obtain ⟨f1, f2, f3⟩ := p5.fin.blk.cells
        have hmap := p5.fin.map
        have hcb5 : cb5 < 4611686018427387904 := by
          have := HH.out.cb; have := P4.out.cb; have := p5.cb
          have h2m : 2 ^ (m + 1) = 2 * 2 ^ m := by rw [Nat.pow_succ]; omega
          omega
        have hfin : ∀ w11, MapV w11 Tryz.prog 9 f.bb (cb5 + 1) (putV bf5 (.string KB) (.agg #[.int .i64 bst, .bool (decide (floor < bst))])) → w10.grownBy w11 (some f.bb) → BestEnd B w h s f cb a ts floor (m + 1) (.returned (.int .i64 bst)) w11 := by
          intro w11 hm11 hg11
          have e : keyV a ts = .string KB := by unfold keyV; rw [HKB.out]
          subst hb
          exact best_fin HH.out h0 R8'.out.upd T1.out T2.out T3.out R8'.out.P1 R8'.out.P2 R8'.out.hxy P4.out p5 (by rw [e]; exact hm11) hg11
        have Hfin := Lib.hid hfin
        clear hfin p5 hb Hyb HC2
        go_wp2_with (at_mapUpdate; refine wpList_mapUpdate_V _ rfl _ _ _ 124 rfl 9 163 strLaw Tryz.underlying124 _ _ _ rfl hmap (by unfold maxLen; omega) _ _ rfl rfl _ Hkey.out ?_; intro w11 hm11 hg11)
        have hend := Hfin.out _ hm11 hg11
        have Hend := Lib.hid hend
        clear hend hm11 hg11
        go_ret
        exact Hend.out
end Go.Proofs.YtngjjmniigkeoaaGreatDoor
