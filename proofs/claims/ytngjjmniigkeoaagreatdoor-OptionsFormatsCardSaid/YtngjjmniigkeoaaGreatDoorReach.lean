/- best at every depth; reach (plain). reach: the first variant of the greatest sum. -/
import Derived.Test.YtngjjmniigkeoaaGreatDoorBest
namespace Go.Proofs.YtngjjmniigkeoaaGreatDoor
open Go Go.RowKit Go.WideMaps Go.Maps
set_option linter.unusedSimpArgs false
set_option linter.unusedVariables false

theorem best_spec (B : Nat) (h : DH) (hn : h.n ≤ 40) (f : FH) : ∀ m, m ≤ 40 → BestSpec B h f m := by
  have early : ∀ (m : Nat) (s : DS) (bf : Value → Option Value) (cb a : Nat) (ao : Option Addr) (cap : Nat) (ts : List (Nat × Int)) (floor : Int) (L : Nat) (w : World), BestHyp B h f m s bf cb a ao ts floor L w → (a = 0 ∨ hiT ts ≤ floor ∨ ts = []) →
      Calls Tryz.prog 78 #[.pointer (some ⟨f.b, 0, none⟩), .agg #[.int .i32 a, .slice ao ts.length cap], .int .i64 floor] w (BestEnd B w h s f cb a ts floor m) := by
    intro m s bf cb a ao cap ts floor L w H he
    by_cases h0 : a = 0
    · subst h0; exact best_zero B h s f bf cb ao cap ts floor m w H.fin
    · exact best_limit B h s f bf cb a ao cap ts floor m w H.fin H.ha h0 H.terms H.wt (by rcases he with e | e; exact absurd e h0; exact e)
  intro m
  induction m with
  | zero =>
    intro _ s bf cb a ao cap ts floor L w H
    refine early 0 s bf cb a ao cap ts floor L w H ?_
    cases ts with
    | nil => exact .inr (.inr rfl)
    | cons t ts =>
      exfalso
      have h1 := H.fin.dia.inv.wf.lev t.1 (H.two t (List.mem_cons_self ..)) (H.inT t (List.mem_cons_self ..)).1
      have h2 := (H.inT t (List.mem_cons_self ..)).2
      have h3 := H.hm
      omega
  | succ m ih =>
    intro hm s bf cb a ao cap ts floor L w H
    by_cases h0 : a = 0 ∨ hiT ts ≤ floor ∨ ts = []
    · exact early (m + 1) s bf cb a ao cap ts floor L w H h0
    · exact best_step B h hn f m (by omega) (ih (by omega)) s bf cb a ao cap ts floor L w H (fun e => h0 (.inl e)) (by omega) (fun e => h0 (.inr (.inr e)))

def ov (vs : List Bool) (σ : Nat → Bool) : Nat → Bool := fun i => if i < vs.length then vs.getD i false else σ i
theorem ov_snoc (vs : List Bool) (b : Bool) (σ : Nat → Bool) : ov vs (setAt σ vs.length b) = ov (vs ++ [b]) σ := by
  funext i
  unfold ov setAt
  by_cases h1 : i < vs.length
  · rw [if_pos h1, if_pos (by simp; omega)]
    simp [List.getD, List.getElem?_append_left h1]
  · rw [if_neg h1]
    by_cases h2 : i = vs.length
    · rw [if_pos h2, if_pos (by simp; omega), h2]; simp [List.getD]
    · rw [if_neg h2, if_neg (by simp; omega)]
theorem ov_nil (σ : Nat → Bool) : ov [] σ = σ := by funext i; simp [ov]
theorem ov_same {vs : List Bool} {σ : Nat → Bool} (h : ∀ i, i < vs.length → σ i = vs.getD i false) : ov vs σ = σ := by
  funext i; unfold ov; split
  · rename_i h1; exact (h i h1).symm
  · rfl
theorem setAt_id {σ : Nat → Bool} {i : Nat} {b : Bool} (h : σ i = b) : setAt σ i b = σ := by
  funext j; unfold setAt; split
  · rename_i e; rw [e, h]
  · rfl

structure RInv (l0 : List Nd) (a0 : Nat) (ts0 : List (Nat × Int)) (sum0 : Int) (l : List Nd) (a : Nat) (us : List (Nat × Int)) (sum : Int) (vs : List Bool) : Prop where
  mean : ∀ σ, sem l a σ = sem l0 a0 (ov vs σ)
  val : ∀ σ, valT l0 (ov vs σ) ts0 = sum0 - sum + valT l σ us
  att : ∃ σ, sem l a σ = true ∧ valT l σ us = sum
  ub : ∀ σ, sem l a σ = true → valT l σ us ≤ sum
  first : ∀ j, j < vs.length → vs.getD j false = true → ∀ σ, (∀ i, i < j → σ i = vs.getD i false) → σ j = false → sem l0 a0 σ = true → valT l0 σ ts0 < sum0

theorem RInv.ext {n : Nat} {l0 l l' : List Nd} {a0 a : Nat} {ts0 us : List (Nat × Int)} {sum0 sum : Int} {vs : List Bool} (R : RInv l0 a0 ts0 sum0 l a us sum vs) (e : Ext l l') (hw : WF n l) (ha : a < l.length) (hi : InT l 0 us) : RInv l0 a0 ts0 sum0 l' a us sum vs := by
  refine ⟨fun σ => by rw [e.sem hw ha]; exact R.mean σ, fun σ => by rw [valT_ext hi e hw]; exact R.val σ, ?_, fun σ hσ => ?_, R.first⟩
  · obtain ⟨σ, h1, h2⟩ := R.att
    exact ⟨σ, by rw [e.sem hw ha]; exact h1, by rw [valT_ext hi e hw]; exact h2⟩
  · rw [e.sem hw ha] at hσ; rw [valT_ext hi e hw]; exact R.ub σ hσ

theorem first_snoc {l0 : List Nd} {a0 : Nat} {ts0 : List (Nat × Int)} {sum0 : Int} {vs : List Bool} {b : Bool} (h : ∀ j, j < vs.length → vs.getD j false = true → ∀ σ, (∀ i, i < j → σ i = vs.getD i false) → σ j = false → sem l0 a0 σ = true → valT l0 σ ts0 < sum0)
    (hb : b = true → ∀ σ, (∀ i, i < vs.length → σ i = vs.getD i false) → σ vs.length = false → sem l0 a0 σ = true → valT l0 σ ts0 < sum0) :
    ∀ j, j < (vs ++ [b]).length → (vs ++ [b]).getD j false = true → ∀ σ, (∀ i, i < j → σ i = (vs ++ [b]).getD i false) → σ j = false → sem l0 a0 σ = true → valT l0 σ ts0 < sum0 := by
  intro j hj hv σ hs hsj hA
  have hat : ∀ i, i < vs.length → (vs ++ [b]).getD i false = vs.getD i false := fun i hi => by simp [List.getD, List.getElem?_append_left hi]
  rcases Nat.lt_or_ge j vs.length with h1 | h1
  · exact h j h1 (by rw [← hat j h1]; exact hv) σ (fun i hi => by rw [hs i hi, hat i (by omega)]) hsj hA
  · have : j = vs.length := by simp at hj; omega
    subst this
    have hb1 : b = true := by simpa [List.getD] using hv
    exact hb hb1 σ (fun i hi => by rw [hs i hi, hat i hi]) hsj hA

theorem RInv.without {w w' : World} {h : DH} {s s' s1 : DS} {l0 : List Nd} {a0 a a' : Nat} {ts0 us us' : List (Nat × Int)} {sum0 sum d res : Int} {vs : List Bool} {ao : Option Addr} (R : RInv l0 a0 ts0 sum0 s.nodes a us sum vs) (hw : WF h.n s'.nodes) (n : NR w h s a us vs.length 1 w' s' a' ao us' d)
    (e : Ext s'.nodes s1.nodes) (t : Top (sem s'.nodes a') (fun σ => valT s'.nodes σ us') (sum - d - 1) res) (hge : sum ≤ d + res) (hlo : lowest < sum) : RInv l0 a0 ts0 sum0 s1.nodes a' us' (sum - d) (vs ++ [false]) ∧ a' ≠ 0 := by
  have h0 : a' ≠ 0 := by
    intro h0
    have e1 := n.zero h0
    have e2 := t.none (fun σ => by rw [h0, sem_no])
    omega
  have hm : ∀ σ, sem s'.nodes a' σ = sem s.nodes a (setAt σ vs.length false) := n.mean
  have hv : ∀ σ, valT s.nodes (setAt σ vs.length false) us = d + valT s'.nodes σ us' := n.val h0
  have R' : RInv l0 a0 ts0 sum0 s'.nodes a' us' (sum - d) (vs ++ [false]) := by
    refine ⟨fun σ => by rw [hm, R.mean, ov_snoc], fun σ => ?_, ?_, fun σ hσ => ?_, first_snoc R.first (fun e => by cases e)⟩
    · rw [← ov_snoc, R.val, hv]; omega
    · obtain ⟨τ, h1, h2⟩ := t.att (sat_of_ne hw n.ha h0) (by omega)
      refine ⟨τ, h1, ?_⟩
      have h3 := R.ub (setAt τ vs.length false) (by rw [← hm]; exact h1)
      rw [hv] at h3
      (try dsimp only at h2)
      omega
    · have h3 := R.ub (setAt σ vs.length false) (by rw [← hm]; exact hσ)
      rw [hv] at h3
      omega
  exact ⟨R'.ext e hw n.ha (fun t ht => ⟨(n.inT t ht).1, Nat.zero_le _⟩), h0⟩

theorem RInv.with {w w' w2 w3 : World} {h : DH} {s s' s2 s3 : DS} {l0 : List Nd} {a0 a a' a'' : Nat} {ts0 us us' us'' : List (Nat × Int)} {sum0 sum d res d2 : Int} {vs : List Bool} {ao ao2 : Option Addr} (R : RInv l0 a0 ts0 sum0 s.nodes a us sum vs) (hw : WF h.n s.nodes) (ha : a < s.nodes.length) (hi : InT s.nodes 0 us)
    (n : NR w h s a us vs.length 1 w' s' a' ao us' d) (t : Top (sem s'.nodes a') (fun σ => valT s'.nodes σ us') (sum - d - 1) res) (hlt : d + res < sum) (e : Ext s.nodes s2.nodes) (n2 : NR w2 h s2 a us vs.length 2 w3 s3 a'' ao2 us'' d2) : RInv l0 a0 ts0 sum0 s3.nodes a'' us'' (sum - d2) (vs ++ [true]) ∧ a'' ≠ 0 := by
  have hm1 : ∀ σ, sem s'.nodes a' σ = sem s.nodes a (setAt σ vs.length false) := n.mean
  have hno : ∀ σ, σ vs.length = false → sem s.nodes a σ = true → valT s.nodes σ us < sum := by
    intro σ hσ hA
    have e1 := setAt_id hσ
    have h1 : sem s'.nodes a' σ = true := by rw [hm1, e1]; exact hA
    have h0 : a' ≠ 0 := by rintro rfl; rw [sem_no] at h1; cases h1
    have h2 := n.val h0 σ
    have h3 : valT s.nodes σ us = d + valT s'.nodes σ us' := by
      have e2 : ((1 : Int) == 2) = false := rfl
      rw [e2, e1] at h2; exact h2
    have h4 := t.ub σ h1
    (try dsimp only at h4)
    omega
  have hm2 : ∀ σ, sem s3.nodes a'' σ = sem s.nodes a (setAt σ vs.length true) := fun σ => by rw [n2.mean, e.sem hw ha]; rfl
  obtain ⟨τ, hτ, hv⟩ := R.att
  have hτ1 : τ vs.length = true := by
    cases e1 : τ vs.length with
    | true => rfl
    | false => have := hno τ e1 hτ; omega
  have hτ2 : sem s3.nodes a'' τ = true := by rw [hm2, setAt_id hτ1]; exact hτ
  have h0 : a'' ≠ 0 := by rintro rfl; rw [sem_no] at hτ2; cases hτ2
  have hv2 : ∀ σ, valT s.nodes (setAt σ vs.length true) us = d2 + valT s3.nodes σ us'' := fun σ => by
    have := n2.val h0 σ
    rw [valT_ext hi e hw] at this
    exact this
  refine ⟨⟨fun σ => by rw [hm2, R.mean, ov_snoc], fun σ => ?_, ⟨τ, hτ2, ?_⟩, fun σ hσ => ?_, first_snoc R.first (fun _ σ hs hsl hA => ?_)⟩, h0⟩
  · rw [← ov_snoc, R.val, hv2]; omega
  · have := hv2 τ
    rw [setAt_id hτ1] at this
    omega
  · have h3 := R.ub (setAt σ vs.length true) (by rw [← hm2]; exact hσ)
    rw [hv2] at h3
    omega
  · have e1 := ov_same hs
    have h1 : sem s.nodes a σ = true := by rw [R.mean, e1]; exact hA
    have h2 := hno σ hsl h1
    have h3 := R.val σ
    rw [e1] at h3
    omega

/-- What reach finds: the first variant that has the greatest sum. -/
structure Reached (l0 : List Nd) (a0 : Nat) (ts0 : List (Nat × Int)) (sum0 : Int) (vs : List Bool) : Prop where
  att : ∃ σ, sem l0 a0 (ov vs σ) = true ∧ valT l0 (ov vs σ) ts0 = sum0
  first : ∀ j, j < vs.length → vs.getD j false = true → ∀ σ, (∀ i, i < j → σ i = vs.getD i false) → σ j = false → sem l0 a0 σ = true → valT l0 σ ts0 < sum0
theorem RInv.reached {l0 l : List Nd} {a0 a : Nat} {ts0 us : List (Nat × Int)} {sum0 sum : Int} {vs : List Bool} (R : RInv l0 a0 ts0 sum0 l a us sum vs) : Reached l0 a0 ts0 sum0 vs := by
  obtain ⟨σ, h1, h2⟩ := R.att
  exact ⟨⟨σ, by rw [← R.mean]; exact h1, by rw [R.val, h2]; omega⟩, R.first⟩

/-! ### reach: rows of bools, and what a round hands on (plain). -/
open Go Go.RowKit Go.WideMaps Go.Maps
set_option linter.unusedSimpArgs false
set_option linter.unusedVariables false

theorem infoBool : (Tryz.prog.info? 4).map (fun i => (i.zero, i.size, i.bytes)) = some (some (.bool false), 1, 1) := by kernel_rfl
def encB (x : Bool) : Value := .bool x
structure BRow (w : World) (base g n cap : Nat) (xs : List Bool) : Prop where
  row : w.ownsRow base 4 1 (.slice (some ⟨g, 0, none⟩) n cap) n (xs.map encB)
theorem BRow.len {w : World} {base g n cap : Nat} {xs : List Bool} (h : BRow w base g n cap xs) : xs.length = n := by have := h.row.1; simpa using this
theorem BRow.cell {w : World} {base g n cap : Nat} {xs : List Bool} (h : BRow w base g n cap xs) {j : Nat} (hj : j < n) : w.cell? ⟨g, j, none⟩ = some (.bool (xs.getD j false)) := by
  have hl := h.len
  rw [h.row.cellAt j (by omega)]
  simp [encB, List.getD, show j < xs.length by omega]
theorem BRow.frozen {w : World} {base g n cap : Nat} {xs : List Bool} (h : BRow w base g n cap xs) (j : Nat) : w.frozen? ⟨g, j, none⟩ = false := h.row.frozenAt j
theorem BRow.set {w : World} {base g n cap : Nat} {xs : List Bool} (h : BRow w base g n cap xs) (j : Nat) (x : Bool) : BRow (w.setCell ⟨g, j, none⟩ (.bool x)) base g n cap (xs.set j x) :=
  ⟨by rw [List.map_set]; exact (h.row.stored j (.bool x)).1⟩
theorem BRow.of_block {w w' : World} {base g n cap : Nat} {xs : List Bool} (h : BRow w base g n cap xs) (hk : w'.heap[g]? = w.heap[g]?) : BRow w' base g n cap xs :=
  ⟨ownsRow_of_block h.row (fun k e => by simp [Value.ownBlock] at e; subst e; exact hk)⟩
theorem BRow.lt {w : World} {base g n cap : Nat} {xs : List Bool} (h : BRow w base g n cap xs) : base ≤ g ∧ g < w.heap.size := h.row.lt g rfl

/-- A rest that is worked on. -/
structure RestAt (w : World) (h : DH) (s : DS) (f : FH) (L a : Nat) (ao : Option Addr) (us : List (Nat × Int)) : Prop where
  ha : a < s.nodes.length
  low : L ≤ (ndAt s.nodes a).lev
  inT : InT s.nodes L us
  two : Two us
  len : us.length ≤ 12
  wt : Wt us ≤ 1099511627
  terms : TermsAt w ao us
  out : ∀ g, ao = some ⟨g, 0, none⟩ → g < w.heap.size ∧ ¬ own h s g ∧ g ≠ f.bb
theorem RestAt.on {G : Nat → Prop} {w w' : World} {h : DH} {s s' : DS} {f : FH} {L a : Nat} {ao : Option Addr} {us : List (Nat × Int)} (r : RestAt w h s f L a ao us) (u : FUpd G w w' h s s') (hG : ∀ g, ao = some ⟨g, 0, none⟩ → ¬ G g) : RestAt w' h s' f L a ao us := by
  refine ⟨Nat.lt_of_lt_of_le r.ha u.ext.len, by rw [u.ext.at r.ha]; exact r.low, r.inT.ext u.ext, r.two, r.len, r.wt, r.terms.keeps u.keeps (fun g _ e hh => hh.elim (r.out g e).2.1 (hG g e)), fun g e => ?_⟩
  obtain ⟨h1, h2, h3⟩ := r.out g e
  exact ⟨Nat.lt_of_lt_of_le h1 u.keeps.size, u.no h1 h2, h3⟩
theorem rest_of_nr {w w' : World} {h : DH} {s s' : DS} {f : FH} {a a' lev : Nat} {ts us : List (Nat × Int)} {c sum : Int} {ao : Option Addr} (n : NR w h s a ts lev c w' s' a' ao us sum) (h12 : ts.length ≤ 12) (hwt : Wt ts ≤ 1099511627) (hbb : f.bb < w.heap.size) :
    RestAt w' h s' f (lev + 1) a' ao us ∧ -1099511627 ≤ sum ∧ sum ≤ 1099511627 := by
  have h4 := hiT_nonneg us; have h5 := loT_nonpos us
  have h6 := n.hi; have h7 := n.lo
  have h8 := hiT_nonneg ts; have h9 := loT_nonpos ts
  unfold Wt at hwt
  exact ⟨⟨n.ha, n.low, n.inT, n.two, by have := n.len; omega, by unfold Wt; omega, n.terms, fun g e => by have := n.out g e; exact ⟨this.2.1, this.2.2, by omega⟩⟩, by omega, by omega⟩
theorem RestAt.hyp {B m : Nat} {w : World} {h : DH} {s : DS} {f : FH} {bf : Value → Option Value} {cb L a : Nat} {ao : Option Addr} {us : List (Nat × Int)} {fl : Int} (r : RestAt w h s f L a ao us) (hF : Fin B w h s f bf cb) (hm : h.n ≤ L + m)
    (h1 : -(FB m) ≤ fl) (h2 : fl ≤ FB m) (st : ((costB h.n m : Nat) : Int) ≤ s.steps) (st2 : s.steps ≤ 4611686018427387904) (cnt : s.cnt + 2 * costB h.n m < 2 ^ 30) (hcb : cb + 2 ^ m < 1099511627776) : BestHyp B h f m s bf cb a ao us fl L w :=
  ⟨hF, r.ha, r.low, r.inT, r.two, r.len, r.wt, r.terms, r.out, hm, h1, h2, st, st2, cnt, hcb⟩

theorem costB_mono (n : Nat) {m m' : Nat} (h : m ≤ m') : costB n m ≤ costB n m' := Nat.mul_le_mul_left _ (Nat.sub_le_sub_right (Nat.pow_le_pow_right (by omega) h) 1)
/-- The cost of a round of reach. -/
def costR (n : Nat) : Nat := costK n + costB n n

/-- At the head of a round of reach. -/
structure RchInv (B : Nat) (w : World) (h : DH) (s : DS) (f : FH) (cb : Nat) (a0 : Nat) (ts0 : List (Nat × Int)) (sum0 : Int) (bx gv k : Nat) (wr : World) (s' : DS) (bf' : Value → Option Value) (cb' a : Nat) (ao : Option Addr) (us : List (Nat × Int)) (cap : Nat) (sum : Int) (vs : List Bool) : Prop where
  inv : RInv s.nodes a0 ts0 sum0 s'.nodes a us sum vs
  len : vs.length = k
  fin : Fin B wr h s' f bf' cb'
  upd : FUpd (fun b => b = f.bb) w wr h s s'
  rest : RestAt wr h s' f k a ao us
  box : wr.heap[bx]? = some (.cells #[.int .i32 a, .slice ao us.length cap] 131 (0, 0))
  row : BRow wr w.heap.size gv h.n h.n (vs ++ List.replicate (h.n - k) false)
  nbx : ¬ own h s' bx ∧ bx ≠ f.bb ∧ w.heap.size ≤ bx
  ngv : ¬ own h s' gv ∧ gv ≠ f.bb
  ne : gv ≠ bx
  out : ∀ g, ao = some ⟨g, 0, none⟩ → g ≠ bx ∧ g ≠ gv
  sbd : -(1099511627 * (k + 1) : Int) ≤ sum ∧ sum ≤ 1099511627 * (k + 1)
  steps : s.steps ≤ s'.steps + (k * costR h.n : Nat)
  le : s'.steps ≤ s.steps
  cnt : s'.cnt ≤ s.cnt + 2 * (k * costR h.n)
  cb : cb' ≤ cb + k * 2 ^ h.n

/-! ### reach: what lies in memory during a round (plain). -/
open Go Go.RowKit Go.WideMaps Go.Maps
set_option linter.unusedSimpArgs false
set_option linter.unusedVariables false

/-- A box of a rest. -/
structure BoxAt (W : World) (h : DH) (s : DS) (f : FH) (b : Nat) (a : Nat) (ao : Option Addr) (n cap : Nat) : Prop where
  at' : W.heap[b]? = some (.cells #[.int .i32 a, .slice ao n cap] 131 (0, 0))
  no : ¬ own h s b
  bb : b ≠ f.bb
theorem BoxAt.lt {W : World} {h : DH} {s : DS} {f : FH} {b a n cap : Nat} {ao : Option Addr} (x : BoxAt W h s f b a ao n cap) : b < W.heap.size := (Array.getElem?_eq_some_iff.1 x.at').1
theorem BoxAt.on {G : Nat → Prop} {W W' : World} {h : DH} {s s' : DS} {f : FH} {b a n cap : Nat} {ao : Option Addr} (x : BoxAt W h s f b a ao n cap) (u : FUpd G W W' h s s') (hG : ¬ G b) : BoxAt W' h s' f b a ao n cap :=
  ⟨(u.block x.lt x.no hG).trans x.at', u.no x.lt x.no, x.bb⟩
theorem BoxAt.store {W : World} {h : DH} {s : DS} {f : FH} {b a n cap : Nat} {ao : Option Addr} (x : BoxAt W h s f b a ao n cap) (a1 n1 cap1 : Nat) (ao1 : Option Addr) :
    BoxAt ((W.setCell ⟨b, 0, none⟩ (.int .i32 a1)).setCell ⟨b, 1, none⟩ (.slice ao1 n1 cap1)) h s f b a1 ao1 n1 cap1 := by
  refine ⟨?_, x.no, x.bb⟩
  have h1 := x.at'
  unfold World.setCell
  rw [Array.getElem?_modify, if_pos rfl, Array.getElem?_modify, if_pos rfl, h1]
  rfl

/-- What reach leaves of the finder. -/
structure RW (B : Nat) (w : World) (h : DH) (s : DS) (f : FH) (cb bx gv : Nat) (W : World) (s1 : DS) (bf1 : Value → Option Value) (cb1 C D L a : Nat) (ao : Option Addr) (us : List (Nat × Int)) (cap : Nat) (bs : List Bool) : Prop where
  fin : Fin B W h s1 f bf1 cb1
  upd : FUpd (fun b => b = f.bb) w W h s s1
  rest : RestAt W h s1 f L a ao us
  box : BoxAt W h s1 f bx a ao us.length cap
  row : BRow W w.heap.size gv h.n h.n bs
  fresh : w.heap.size ≤ bx
  ngv : ¬ own h s1 gv ∧ gv ≠ f.bb
  ne : gv ≠ bx
  out : ∀ g, ao = some ⟨g, 0, none⟩ → g ≠ bx ∧ g ≠ gv
  steps : s.steps ≤ s1.steps + (C : Nat)
  le : s1.steps ≤ s.steps
  cnt : s1.cnt ≤ s.cnt + 2 * C
  cb : cb1 ≤ cb + D
theorem RW.on {G : Nat → Prop} {B : Nat} {w : World} {h : DH} {s : DS} {f : FH} {cb bx gv : Nat} {W W' : World} {s1 s2 : DS} {bf1 bf2 : Value → Option Value} {cb1 cb2 C C' D D' L a : Nat} {ao : Option Addr} {us : List (Nat × Int)} {cap : Nat} {bs : List Bool} (r : RW B w h s f cb bx gv W s1 bf1 cb1 C D L a ao us cap bs)
    (u : FUpd G W W' h s1 s2) (hG : ∀ b, G b → b = f.bb) (F : Fin B W' h s2 f bf2 cb2) (h1 : s1.steps ≤ s2.steps + (C' : Nat)) (h2 : s2.steps ≤ s1.steps) (h3 : s2.cnt ≤ s1.cnt + 2 * C') (h4 : cb2 ≤ cb1 + D') : RW B w h s f cb bx gv W' s2 bf2 cb2 (C + C') (D + D') L a ao us cap bs := by
  have q1 := r.steps; have q2 := r.le; have q3 := r.cnt; have q4 := r.cb
  have hg : gv < W.heap.size := r.row.lt.2
  exact ⟨F, r.upd.trans (u.mono (fun b hb => Or.inl (hG b hb))), r.rest.on u (fun g e hb => (r.rest.out g e).2.2 (hG g hb)), r.box.on u (fun hb => r.box.bb (hG _ hb)), r.row.of_block (u.block hg r.ngv.1 (fun hb => r.ngv.2 (hG _ hb))), r.fresh, ⟨u.no hg r.ngv.1, r.ngv.2⟩, r.ne, r.out, by omega, by omega, by omega, by omega⟩
theorem RW.quiet {B : Nat} {w : World} {h : DH} {s : DS} {f : FH} {cb bx gv : Nat} {W W' : World} {s1 : DS} {bf1 : Value → Option Value} {cb1 C D L a : Nat} {ao : Option Addr} {us : List (Nat × Int)} {cap : Nat} {bs : List Bool} (r : RW B w h s f cb bx gv W s1 bf1 cb1 C D L a ao us cap bs)
    (k : Keeps (fun _ => False) W W') : RW B w h s f cb bx gv W' s1 bf1 cb1 C D L a ao us cap bs := by
  have := r.on (C' := 0) (D' := 0) (G := fun _ => False) ((FUpd.refl r.fin.dia).quiet k) (fun _ e => e.elim) (r.fin.quiet k) (by omega) (Int.le_refl _) (by omega) (by omega)
  simpa using this
theorem RW.setv {B : Nat} {w : World} {h : DH} {s : DS} {f : FH} {cb bx gv : Nat} {W : World} {s1 : DS} {bf1 : Value → Option Value} {cb1 C D L a : Nat} {ao : Option Addr} {us : List (Nat × Int)} {cap : Nat} {bs : List Bool} (r : RW B w h s f cb bx gv W s1 bf1 cb1 C D L a ao us cap bs)
    (j : Nat) (b : Bool) (hf : f.b < w.heap.size) (hB : B ≤ w.heap.size) : RW B w h s f cb bx gv (W.setCell ⟨gv, j, none⟩ (.bool b)) s1 bf1 cb1 C D L a ao us cap (bs.set j b) := by
  have hk : Keeps (fun k => k = gv) W (W.setCell ⟨gv, j, none⟩ (.bool b)) := Keeps.setCell (S := fun k => k = gv) (p := ⟨gv, j, none⟩) (Keeps.refl _ W) (Or.inl rfl) _
  have hg := r.row.lt
  have u : FUpd (fun k => k = gv) W (W.setCell ⟨gv, j, none⟩ (.bool b)) h s1 s1 := (FUpd.refl r.fin.dia).side hk (fun b e => Or.inl e) (fun b e => by subst e; exact r.ngv.1)
  exact ⟨r.fin.on u (fun k e => by omega) (by omega) (fun e => r.ngv.2 e.symm), r.upd.side hk (fun b e => Or.inr (by omega)) (fun b e => by subst e; exact r.ngv.1), r.rest.on u (fun g e hh => (r.out g e).2 hh), r.box.on u (fun e => r.ne e.symm), r.row.set j b, r.fresh, r.ngv, r.ne, r.out, r.steps, r.le, r.cnt, r.cb⟩
theorem RW.store {B : Nat} {w : World} {h : DH} {s : DS} {f : FH} {cb bx gv : Nat} {W : World} {s1 : DS} {bf1 : Value → Option Value} {cb1 C D L a : Nat} {ao : Option Addr} {us : List (Nat × Int)} {cap : Nat} {bs : List Bool} (r : RW B w h s f cb bx gv W s1 bf1 cb1 C D L a ao us cap bs)
    {L1 a1 cap1 : Nat} {ao1 : Option Addr} {us1 : List (Nat × Int)} (r1 : RestAt W h s1 f L1 a1 ao1 us1) (ho : ∀ g, ao1 = some ⟨g, 0, none⟩ → g ≠ bx ∧ g ≠ gv) (hf : f.b < w.heap.size) (hB : B ≤ w.heap.size) :
    RW B w h s f cb bx gv ((W.setCell ⟨bx, 0, none⟩ (.int .i32 a1)).setCell ⟨bx, 1, none⟩ (.slice ao1 us1.length cap1)) s1 bf1 cb1 C D L1 a1 ao1 us1 cap1 bs := by
  have hk : Keeps (fun k => k = bx) W ((W.setCell ⟨bx, 0, none⟩ (.int .i32 a1)).setCell ⟨bx, 1, none⟩ (.slice ao1 us1.length cap1)) := keep2 _ _ _ _ _ _
  have hfr := r.fresh
  have u : FUpd (fun k => k = bx) W ((W.setCell ⟨bx, 0, none⟩ (.int .i32 a1)).setCell ⟨bx, 1, none⟩ (.slice ao1 us1.length cap1)) h s1 s1 := (FUpd.refl r.fin.dia).side hk (fun b e => Or.inl e) (fun b e => by subst e; exact r.box.no)
  exact ⟨r.fin.on u (fun k e => by omega) (by omega) (fun e => r.box.bb e.symm), r.upd.side hk (fun b e => Or.inr (by omega)) (fun b e => by subst e; exact r.box.no), r1.on u (fun g e hh => (ho g e).1 hh), r.box.store a1 us1.length cap1 ao1, r.row.of_block (hk.block gv r.row.lt.2 (fun e => r.ne e)), r.fresh, r.ngv, r.ne, ho, r.steps, r.le, r.cnt, r.cb⟩

/-- The slice of levels. -/
structure LvAt (w : World) (h : DH) (s : DS) (f : FH) : Prop where
  ex : ∃ ao cap, h.lv = .slice ao h.n cap ∧ (0 < h.n → ∃ b off, ao = some ⟨b, off, none⟩ ∧ b < w.heap.size ∧ ¬ own h s b ∧ b ≠ f.bb ∧ ∀ k, k < h.n → w.cell? ⟨b, off + k, none⟩ = some (.int .i64 (k : Nat)))
theorem lvAt_of {w : World} {h : DH} {s : DS} {f : FH} (l : Lv w h s (List.range h.n)) (hb : 0 < h.n → ∀ ao cap b off, h.lv = .slice ao h.n cap → ao = some ⟨b, off, none⟩ → b ≠ f.bb) : LvAt w h s f := by
  obtain ⟨ao, cap, e, o⟩ := l.ex
  rw [List.length_range] at e
  refine ⟨ao, cap, e, fun h0 => ?_⟩
  obtain ⟨b, off, ea, hc⟩ := o.ints.cells (by simpa using h0)
  have ho := o.out b off (by simpa using h0) ea
  refine ⟨b, off, ea, ho.lt, ho.no, hb h0 ao cap b off e ea, fun k hk => ?_⟩
  rw [hc k (by simpa using hk)]
  simp [List.getD, hk]
theorem bools_made {w : World} {base g n : Nat} (h : w.ownsRow base 4 1 (.slice (some ⟨g, 0, none⟩) n n) n (madeCells (Value.bool false).cells (n * 1)).toList) : BRow w base g n n (List.replicate n false) := ⟨by
  have e : (madeCells (Value.bool false).cells (n * 1)).toList = (List.replicate n false).map encB := by
    rw [List.map_replicate]; exact madeCells_one _ _
  rw [← e]; exact h⟩

/-! ### reach: the steps of a round (plain). -/
open Go Go.RowKit Go.WideMaps Go.Maps
set_option linter.unusedSimpArgs false
set_option linter.unusedVariables false

/-- In the middle of a round: the next rest lies in a box of its own. -/
structure RMid (B : Nat) (w : World) (h : DH) (s : DS) (f : FH) (cb bx gv k : Nat) (W : World) (s1 : DS) (bf1 : Value → Option Value) (cb1 C D a : Nat) (ao : Option Addr) (us : List (Nat × Int)) (cap : Nat) (bs : List Bool) (nx a1 : Nat) (ao1 : Option Addr) (us1 : List (Nat × Int)) (cap1 : Nat) : Prop where
  rw : RW B w h s f cb bx gv W s1 bf1 cb1 C D k a ao us cap bs
  rest : RestAt W h s1 f (k + 1) a1 ao1 us1
  box : BoxAt W h s1 f nx a1 ao1 us1.length cap1
  lo : w.heap.size ≤ nx
  n1 : nx ≠ bx
  n2 : nx ≠ gv
  n3 : ∀ g, ao = some ⟨g, 0, none⟩ → g ≠ nx
  ho : ∀ g, ao1 = some ⟨g, 0, none⟩ → g ≠ bx ∧ g ≠ gv ∧ g ≠ nx
theorem RMid.on {G : Nat → Prop} {B : Nat} {w : World} {h : DH} {s : DS} {f : FH} {cb bx gv k : Nat} {W W' : World} {s1 s2 : DS} {bf1 bf2 : Value → Option Value} {cb1 cb2 C C' D D' a : Nat} {ao : Option Addr} {us : List (Nat × Int)} {cap : Nat} {bs : List Bool} {nx a1 : Nat} {ao1 : Option Addr} {us1 : List (Nat × Int)} {cap1 : Nat}
    (r : RMid B w h s f cb bx gv k W s1 bf1 cb1 C D a ao us cap bs nx a1 ao1 us1 cap1) (u : FUpd G W W' h s1 s2) (hG : ∀ b, G b → b = f.bb) (F : Fin B W' h s2 f bf2 cb2) (h1 : s1.steps ≤ s2.steps + (C' : Nat)) (h2 : s2.steps ≤ s1.steps) (h3 : s2.cnt ≤ s1.cnt + 2 * C') (h4 : cb2 ≤ cb1 + D') :
    RMid B w h s f cb bx gv k W' s2 bf2 cb2 (C + C') (D + D') a ao us cap bs nx a1 ao1 us1 cap1 :=
  ⟨r.rw.on u hG F h1 h2 h3 h4, r.rest.on u (fun g e hb => (r.rest.out g e).2.2 (hG g hb)), r.box.on u (fun hb => r.box.bb (hG _ hb)), r.lo, r.n1, r.n2, r.n3, r.ho⟩
theorem RMid.setv {B : Nat} {w : World} {h : DH} {s : DS} {f : FH} {cb bx gv k : Nat} {W : World} {s1 : DS} {bf1 : Value → Option Value} {cb1 C D a : Nat} {ao : Option Addr} {us : List (Nat × Int)} {cap : Nat} {bs : List Bool} {nx a1 : Nat} {ao1 : Option Addr} {us1 : List (Nat × Int)} {cap1 : Nat}
    (r : RMid B w h s f cb bx gv k W s1 bf1 cb1 C D a ao us cap bs nx a1 ao1 us1 cap1) (j : Nat) (b : Bool) (hf : f.b < w.heap.size) (hB : B ≤ w.heap.size) : RMid B w h s f cb bx gv k (W.setCell ⟨gv, j, none⟩ (.bool b)) s1 bf1 cb1 C D a ao us cap (bs.set j b) nx a1 ao1 us1 cap1 := by
  have hk : Keeps (fun k => k = gv) W (W.setCell ⟨gv, j, none⟩ (.bool b)) := Keeps.setCell (S := fun k => k = gv) (p := ⟨gv, j, none⟩) (Keeps.refl _ W) (Or.inl rfl) _
  have u : FUpd (fun k => k = gv) W (W.setCell ⟨gv, j, none⟩ (.bool b)) h s1 s1 := (FUpd.refl r.rw.fin.dia).side hk (fun b e => Or.inl e) (fun b e => by subst e; exact r.rw.ngv.1)
  exact ⟨r.rw.setv j b hf hB, r.rest.on u (fun g e hh => (r.ho g e).2.1 hh), r.box.on u (fun e => r.n2 e), r.lo, r.n1, r.n2, r.n3, r.ho⟩

theorem mid_start {B : Nat} {w : World} {h : DH} {s : DS} {f : FH} {cb bx gv k : Nat} {wr w1 : World} {s' s1 : DS} {bf' : Value → Option Value} {cb' C D a : Nat} {ao : Option Addr} {us : List (Nat × Int)} {cap : Nat} {bs : List Bool} {a1 : Nat} {ao1 : Option Addr} {us1 : List (Nat × Int)} {cap1 : Nat} {d c : Int}
    (r : RW B w h s f cb bx gv wr s' bf' cb' C D k a ao us cap bs) (n : NR wr h s' a us k c w1 s1 a1 ao1 us1 d) (hB : B ≤ w.heap.size) :
    RMid B w h s f cb bx gv k (w1.alloc (.cells #[.int .i32 a1, .slice ao1 us1.length cap1] 131)) s1 bf' cb' (C + 12 * 2 ^ h.n) D a ao us cap bs w1.heap.size a1 ao1 us1 cap1 ∧ -1099511627 ≤ d ∧ d ≤ 1099511627 := by
  have hbb := r.fin.map.lt
  obtain ⟨r1, hd⟩ := rest_of_nr (f := f) n r.rest.len r.rest.wt hbb
  have hk : Keeps (fun _ => False) w1 (w1.alloc (.cells #[.int .i32 a1, .slice ao1 us1.length cap1] 131)) := (Keeps.refl _ _).alloc _
  have hsz := n.upd.keeps.size
  have hws : w.heap.size ≤ wr.heap.size := r.upd.keeps.size
  have hm : us.length * 2 ^ h.n ≤ 12 * 2 ^ h.n := Nat.mul_le_mul_right _ r.rest.len
  have q1 := n.steps; have q2 := n.cnt
  have hF1 : Fin B w1 h s1 f bf' cb' := r.fin.on n.upd (fun _ e => e.elim) (fun e => e) (fun e => e)
  have hR := (r.on (C' := 12 * 2 ^ h.n) (D' := 0) n.upd (fun _ e => e.elim) hF1 (by omega) n.le (by omega) (by omega)).quiet hk
  have hg := r.row.lt
  have hbx := r.box.lt
  refine ⟨⟨hR, r1.on ((FUpd.refl n.upd.dia).quiet hk) (fun _ _ e => e), ⟨heap_alloc_new _ _, fun e => by have := n.upd.dia.lt _ e; omega, by omega⟩, by omega, by omega, by omega, fun g e => ?_, fun g e => ?_⟩, hd⟩
  · have := r.rest.out g e; omega
  · have := n.out g e; omega

theorem mid_true {B : Nat} {w : World} {h : DH} {s : DS} {f : FH} {cb bx gv k : Nat} {W w4 : World} {s2 s3 : DS} {bf2 : Value → Option Value} {cb2 C D a : Nat} {ao : Option Addr} {us : List (Nat × Int)} {cap : Nat} {bs : List Bool} {nx a1 : Nat} {ao1 : Option Addr} {us1 : List (Nat × Int)} {cap1 a2 : Nat} {ao2 : Option Addr} {us2 : List (Nat × Int)} {cap2 : Nat} {c d2 : Int}
    (r : RMid B w h s f cb bx gv k W s2 bf2 cb2 C D a ao us cap bs nx a1 ao1 us1 cap1) (n : NR W h s2 a us k c w4 s3 a2 ao2 us2 d2) (hf : f.b < w.heap.size) (hB : B ≤ w.heap.size) :
    BoxAt w4 h s3 f nx a1 ao1 us1.length cap1 ∧ BoxAt w4 h s3 f bx a ao us.length cap ∧ (-1099511627 ≤ d2 ∧ d2 ≤ 1099511627) ∧
    RW B w h s f cb bx gv ((((w4.setCell ⟨nx, 0, none⟩ (.int .i32 a2)).setCell ⟨nx, 1, none⟩ (.slice ao2 us2.length cap2)).setCell ⟨bx, 0, none⟩ (.int .i32 a2)).setCell ⟨bx, 1, none⟩ (.slice ao2 us2.length cap2)) s3 bf2 cb2 (C + 12 * 2 ^ h.n) D (k + 1) a2 ao2 us2 cap2 bs := by
  have hbb := r.rw.fin.map.lt
  obtain ⟨r1, hd⟩ := rest_of_nr (f := f) n r.rw.rest.len r.rw.rest.wt hbb
  have hm : us.length * 2 ^ h.n ≤ 12 * 2 ^ h.n := Nat.mul_le_mul_right _ r.rw.rest.len
  have q1 := n.steps; have q2 := n.cnt
  have hF1 : Fin B w4 h s3 f bf2 cb2 := r.rw.fin.on n.upd (fun _ e => e.elim) (fun e => e) (fun e => e)
  have hR := r.rw.on (C' := 12 * 2 ^ h.n) (D' := 0) n.upd (fun _ e => e.elim) hF1 (by omega) n.le (by omega) (by omega)
  have hbx := r.box.on n.upd (fun e => e)
  have hlo := r.lo
  have hk : Keeps (fun k => k = nx) w4 ((w4.setCell ⟨nx, 0, none⟩ (.int .i32 a2)).setCell ⟨nx, 1, none⟩ (.slice ao2 us2.length cap2)) := keep2 _ _ _ _ _ _
  have u : FUpd (fun k => k = nx) w4 ((w4.setCell ⟨nx, 0, none⟩ (.int .i32 a2)).setCell ⟨nx, 1, none⟩ (.slice ao2 us2.length cap2)) h s3 s3 := (FUpd.refl n.upd.dia).side hk (fun b e => Or.inl e) (fun b e => by subst e; exact hbx.no)
  have hnx := r.box.lt
  have hg := r.rw.row.lt
  have hbl := r.rw.box.lt
  have hR5 : RW B w h s f cb bx gv ((w4.setCell ⟨nx, 0, none⟩ (.int .i32 a2)).setCell ⟨nx, 1, none⟩ (.slice ao2 us2.length cap2)) s3 bf2 cb2 (C + 12 * 2 ^ h.n) (D + 0) k a ao us cap bs :=
    ⟨hR.fin.on u (fun j e => by omega) (by omega) (fun e => r.box.bb e.symm), hR.upd.side hk (fun b e => Or.inr (by omega)) (fun b e => by subst e; exact hbx.no), hR.rest.on u (fun g e hh => r.n3 g e hh), hR.box.on u (fun e => r.n1 e.symm), hR.row.of_block (hk.block gv hR.row.lt.2 (fun e => r.n2 e.symm)), hR.fresh, hR.ngv, hR.ne, hR.out, hR.steps, hR.le, hR.cnt, hR.cb⟩
  have r5 := r1.on u (fun g e hh => by have := n.out g e; omega)
  exact ⟨hbx, hR.box, hd, hR5.store r5 (fun g e => by have := n.out g e; omega) hf hB⟩

/-- At the head of a round of reach. -/
def RchRel (B : Nat) (w : World) (h : DH) (s : DS) (f : FH) (cb a0 : Nat) (ts0 : List (Nat × Int)) (sum0 : Int) (k : Nat) (wr : World) (sum : Int) : Prop :=
  ∃ s' bf' cb' a gr us cap vs, RInv s.nodes a0 ts0 sum0 s'.nodes a us sum vs ∧ vs.length = k ∧ RW B w h s f cb w.heap.size (w.heap.size + 1) wr s' bf' cb' (k * costR h.n) (k * 2 ^ h.n) k a (some ⟨gr, 0, none⟩) us cap (vs ++ List.replicate (h.n - k) false) ∧ -(1099511627 * (k + 1) : Int) ≤ sum ∧ sum ≤ 1099511627 * (k + 1)
theorem rows_next (vs : List Bool) (n : Nat) (b : Bool) (hk : vs.length < n) : (vs ++ List.replicate (n - vs.length) false).set vs.length b = (vs ++ [b]) ++ List.replicate (n - (vs.length + 1)) false := by
  obtain ⟨m, hm⟩ : ∃ m, n - vs.length = m + 1 := ⟨n - vs.length - 1, by omega⟩
  have hm2 : n - (vs.length + 1) = m := by omega
  rw [hm, hm2, List.set_append_right _ _ (Nat.le_refl _), Nat.sub_self, List.replicate_succ, List.set_cons_zero]
  simp
theorem rows_next_false (vs : List Bool) (n : Nat) (hk : vs.length < n) : vs ++ List.replicate (n - vs.length) false = (vs ++ [false]) ++ List.replicate (n - (vs.length + 1)) false := by
  obtain ⟨m, hm⟩ : ∃ m, n - vs.length = m + 1 := ⟨n - vs.length - 1, by omega⟩
  have hm2 : n - (vs.length + 1) = m := by omega
  rw [hm, hm2, List.replicate_succ]
  simp
theorem RW.weak {B : Nat} {w : World} {h : DH} {s : DS} {f : FH} {cb bx gv : Nat} {W : World} {s1 : DS} {bf1 : Value → Option Value} {cb1 C C' D D' L a : Nat} {ao : Option Addr} {us : List (Nat × Int)} {cap : Nat} {bs bs' : List Bool} (r : RW B w h s f cb bx gv W s1 bf1 cb1 C D L a ao us cap bs) (h1 : C ≤ C') (h2 : D ≤ D') (e : bs = bs') :
    RW B w h s f cb bx gv W s1 bf1 cb1 C' D' L a ao us cap bs' := by
  subst e
  have q1 := r.steps; have q2 := r.cnt; have q3 := r.cb
  exact ⟨r.fin, r.upd, r.rest, r.box, r.row, r.fresh, r.ngv, r.ne, r.out, by omega, r.le, by omega, by omega⟩

theorem rch_false {B : Nat} {w : World} {h : DH} {s : DS} {f : FH} {cb k a0 : Nat} {ts0 : List (Nat × Int)} {sum0 : Int} {wr w1 W1 w2 : World} {s' s1 s2 : DS} {bf1 bf2 : Value → Option Value} {cb1 cb2 m a : Nat} {gr : Nat} {us : List (Nat × Int)} {cap nx a1 : Nat} {ao1 : Option Addr} {us1 : List (Nat × Int)} {cap1 : Nat} {sum d res : Int} {vs : List Bool}
    (R : RInv s.nodes a0 ts0 sum0 s'.nodes a us sum vs) (hv : vs.length = k) (hk : k < h.n) (n : NR wr h s' a us k 1 w1 s1 a1 ao1 us1 d) (M : RMid B w h s f cb w.heap.size (w.heap.size + 1) k W1 s1 bf1 cb1 (k * costR h.n + 12 * 2 ^ h.n) (k * 2 ^ h.n) a (some ⟨gr, 0, none⟩) us cap (vs ++ List.replicate (h.n - k) false) nx a1 ao1 us1 cap1)
    (hm : m ≤ h.n) (p : BestPost B W1 h s1 f cb1 a1 us1 (sum - d - 1) m w2 s2 bf2 cb2 res) (hf : f.b < w.heap.size) (hB : B ≤ w.heap.size) (hge : sum ≤ d + res) (hd1 : -1099511627 ≤ d) (hd2 : d ≤ 1099511627) (hs1 : -(1099511627 * (k + 1) : Int) ≤ sum) (hs2 : sum ≤ 1099511627 * (k + 1)) (hn : h.n ≤ 40) :
    RchRel B w h s f cb a0 ts0 sum0 (k + 1) ((w2.setCell ⟨w.heap.size, 0, none⟩ (.int .i32 a1)).setCell ⟨w.heap.size, 1, none⟩ (.slice ao1 us1.length cap1)) (sum - d) := by
  subst hv
  have hc := costB_mono h.n hm
  have h2 : 2 ^ m ≤ 2 ^ h.n := Nat.pow_le_pow_right (by omega) hm
  have hp := p.cb
  have M2 := M.on (C' := costB h.n m) (D' := 2 ^ m) p.upd (fun _ e => e) p.fin p.steps p.le p.cnt (by omega)
  obtain ⟨R1, h0⟩ := R.without n.upd.dia.inv.wf n p.upd.ext p.top hge (by unfold lowest; omega)
  obtain ⟨g1, rfl⟩ := n.sm h0
  have hr := M2.rw.store (cap1 := cap1) M2.rest (fun g e => ⟨(M2.ho g e).1, (M2.ho g e).2.1⟩) hf hB
  have e1 : (vs.length + 1) * costR h.n = vs.length * costR h.n + costR h.n := Nat.succ_mul _ _
  have e2 : (vs.length + 1) * 2 ^ h.n = vs.length * 2 ^ h.n + 2 ^ h.n := Nat.succ_mul _ _
  have e3 : costR h.n = 12 + 24 * 2 ^ h.n + costB h.n h.n := by unfold costR costK; omega
  exact ⟨s2, bf2, cb2, a1, g1, us1, cap1, vs ++ [false], R1, by simp, hr.weak (by omega) (by omega) (rows_next_false vs h.n hk), by push_cast; omega, by push_cast; omega⟩

theorem rch_true {B : Nat} {w : World} {h : DH} {s : DS} {f : FH} {cb k a0 : Nat} {ts0 : List (Nat × Int)} {sum0 : Int} {wr w1 W1 w2 w4 : World} {s' s1 s2 s3 : DS} {bf1 bf2 : Value → Option Value} {cb1 cb2 m a : Nat} {gr : Nat} {us : List (Nat × Int)} {cap nx a1 a2 : Nat} {ao1 ao2 : Option Addr} {us1 us2 : List (Nat × Int)} {cap1 cap2 : Nat} {sum d d2 res : Int} {vs : List Bool}
    (R : RInv s.nodes a0 ts0 sum0 s'.nodes a us sum vs) (hv : vs.length = k) (hk : k < h.n) (hw : WF h.n s'.nodes) (ha : a < s'.nodes.length) (hi : InT s'.nodes 0 us) (n : NR wr h s' a us k 1 w1 s1 a1 ao1 us1 d) (M : RMid B w h s f cb w.heap.size (w.heap.size + 1) k W1 s1 bf1 cb1 (k * costR h.n + 12 * 2 ^ h.n) (k * 2 ^ h.n) a (some ⟨gr, 0, none⟩) us cap (vs ++ List.replicate (h.n - k) false) nx a1 ao1 us1 cap1)
    (hm : m ≤ h.n) (p : BestPost B W1 h s1 f cb1 a1 us1 (sum - d - 1) m w2 s2 bf2 cb2 res) (hf : f.b < w.heap.size) (hB : B ≤ w.heap.size) (hlt : d + res < sum) (hs1 : -(1099511627 * (k + 1) : Int) ≤ sum) (hs2 : sum ≤ 1099511627 * (k + 1)) (hn : h.n ≤ 40)
    (n2 : NR (w2.setCell ⟨w.heap.size + 1, k, none⟩ (.bool true)) h s2 a us k 2 w4 s3 a2 ao2 us2 d2) :
    BoxAt w4 h s3 f nx a1 ao1 us1.length cap1 ∧ BoxAt w4 h s3 f w.heap.size a (some ⟨gr, 0, none⟩) us.length cap ∧ (-1099511627 ≤ d2 ∧ d2 ≤ 1099511627) ∧
    RchRel B w h s f cb a0 ts0 sum0 (k + 1) ((((w4.setCell ⟨nx, 0, none⟩ (.int .i32 a2)).setCell ⟨nx, 1, none⟩ (.slice ao2 us2.length cap2)).setCell ⟨w.heap.size, 0, none⟩ (.int .i32 a2)).setCell ⟨w.heap.size, 1, none⟩ (.slice ao2 us2.length cap2)) (sum - d2) := by
  subst hv
  have hc := costB_mono h.n hm
  have h2 : 2 ^ m ≤ 2 ^ h.n := Nat.pow_le_pow_right (by omega) hm
  have hp := p.cb
  have M2 := (M.on (C' := costB h.n m) (D' := 2 ^ m) p.upd (fun _ e => e) p.fin p.steps p.le p.cnt (by omega)).setv vs.length true hf hB
  obtain ⟨b1, b2, hd, hr⟩ := mid_true (cap2 := cap2) M2 n2 hf hB
  obtain ⟨R1, h0⟩ := R.with hw ha hi n p.top hlt (n.upd.ext.trans p.upd.ext) n2
  obtain ⟨g1, rfl⟩ := n2.sm h0
  have e1 : (vs.length + 1) * costR h.n = vs.length * costR h.n + costR h.n := Nat.succ_mul _ _
  have e2 : (vs.length + 1) * 2 ^ h.n = vs.length * 2 ^ h.n + 2 ^ h.n := Nat.succ_mul _ _
  have e3 : costR h.n = 12 + 24 * 2 ^ h.n + costB h.n h.n := by unfold costR costK; omega
  exact ⟨b1, b2, hd, s3, bf2, cb2, a2, g1, us2, cap2, vs ++ [true], R1, by simp, hr.weak (by omega) (by omega) (rows_next vs h.n true hk), by push_cast; omega, by push_cast; omega⟩

theorem rch_start {B : Nat} {w w2 : World} {h : DH} {s : DS} {f : FH} {bf : Value → Option Value} {cb a g cap : Nat} {ts : List (Nat × Int)} {sum : Int} (F : Fin B w h s f bf cb) (r : RestAt w h s f 0 a (some ⟨g, 0, none⟩) ts) (R : RInv s.nodes a ts sum s.nodes a ts sum []) (hs1 : -1099511627 ≤ sum) (hs2 : sum ≤ 1099511627)
    (hk : Keeps (fun _ => False) w w2) (hb : w2.heap[w.heap.size]? = some (.cells #[.int .i32 a, .slice (some ⟨g, 0, none⟩) ts.length cap] 131 (0, 0))) (hrow : BRow w2 w.heap.size (w.heap.size + 1) h.n h.n (List.replicate h.n false)) : RchRel B w h s f cb a ts sum 0 w2 sum := by
  have hlt := F.dia.lt
  have hbb := F.map.lt
  have u : FUpd (fun _ => False) w w2 h s s := (FUpd.refl F.dia).quiet hk
  refine ⟨s, bf, cb, a, g, ts, cap, [], R, rfl, ⟨F.quiet hk, u.mono (fun _ e => e.elim), r.on u (fun _ _ e => e), ⟨hb, fun e => by have := hlt _ e; omega, by omega⟩, by simpa using hrow, Nat.le_refl _, ⟨fun e => by have := hlt _ e; omega, by omega⟩, by omega, fun g' e => ?_, by omega, Int.le_refl _, by omega, by omega⟩, by omega, by omega⟩
  have := (r.out g' e).1; omega
theorem RchRel.done {B : Nat} {w wr : World} {h : DH} {s : DS} {f : FH} {cb a0 : Nat} {ts0 : List (Nat × Int)} {sum0 sum : Int} (r : RchRel B w h s f cb a0 ts0 sum0 h.n wr sum) : ∃ vs s1 bf1 cb1, BRow wr w.heap.size (w.heap.size + 1) h.n h.n vs ∧ Reached s.nodes a0 ts0 sum0 vs ∧ Fin B wr h s1 f bf1 cb1 ∧ FUpd (fun b => b = f.bb) w wr h s s1 := by
  obtain ⟨s', bf', cb', a, gr, us, cap, vs, R, hv, rw, _, _⟩ := r
  have hr := rw.row
  simp only [Nat.sub_self, List.replicate_zero, List.append_nil] at hr
  exact ⟨vs, s', bf', cb', hr, R.reached, rw.fin, rw.upd⟩

open Go Go.RowKit Go.WideMaps Go.Maps
set_option linter.unusedSimpArgs false
set_option linter.unusedVariables false

def ReachEnd (B : Nat) (w : World) (h : DH) (s : DS) (f : FH) (cb a : Nat) (ts : List (Nat × Int)) (sum : Int) (e : Ending) (w' : World) : Prop :=
  ∃ g vs s1 bf1 cb1, e = .returned (.slice (some ⟨g, 0, none⟩) h.n h.n) ∧ BRow w' w.heap.size g h.n h.n vs ∧ Reached s.nodes a ts sum vs ∧ Fin B w' h s1 f bf1 cb1 ∧ FUpd (fun b => b = f.bb) w w' h s s1

theorem grown_none {w a w2 : World} (k : Keeps (fun _ => False) w a) (hg : a.grownBy w2 none) : Keeps (fun _ => False) w w2 := k.grown hg (fun k e => by cases e)
theorem BRow.low {w : World} {base base' g n cap : Nat} {xs : List Bool} (h : BRow w base g n cap xs) (hb : base' ≤ base) : BRow w base' g n cap xs := by
  obtain ⟨h1, h2⟩ := h.row
  refine ⟨h1, ?_⟩
  rcases h2 with h2 | ⟨g', cap', cur, e, hg, hr⟩
  · exact Or.inl h2
  · exact Or.inr ⟨g', cap', cur, e, Nat.le_trans hb hg, hr⟩

set_option maxRecDepth 100000 in
set_option maxHeartbeats 12800000 in
theorem reach_any (B : Nat) (h : DH) (hn : h.n ≤ 40) (f : FH) (s : DS) (bf : Value → Option Value) (cb a : Nat) (g cap : Nat) (ts : List (Nat × Int)) (sum : Int) (w : World) (F : Fin B w h s f bf cb) (r : RestAt w h s f 0 a (some ⟨g, 0, none⟩) ts) (hl : LvAt w h s f) (ho : ∃ ao c, h.ov = .slice ao h.n c)
    (R : RInv s.nodes a ts sum s.nodes a ts sum []) (hs1 : -1099511627 ≤ sum) (hs2 : sum ≤ 1099511627) (hst : ((h.n * costR h.n : Nat) : Int) ≤ s.steps) (hst2 : s.steps ≤ 4611686018427387904) (hcnt : s.cnt + 2 * (h.n * costR h.n) < 2 ^ 30) (hcb : cb + h.n * 2 ^ h.n < 1099511627776) :
    Calls Tryz.prog 79 #[.pointer (some ⟨f.b, 0, none⟩), .agg #[.int .i32 a, .slice (some ⟨g, 0, none⟩) ts.length cap], .int .i64 sum] w (ReachEnd B w h s f cb a ts sum) := by
  obtain ⟨ao, oc, hov⟩ := ho
  obtain ⟨la, lc, hlv, hlc⟩ := hl.ex
  obtain ⟨f1, f2, f3⟩ := F.blk.cells
  obtain ⟨c0, c1, c2, c3, c4, c5⟩ := F.dia.cells
  have hhb : h.b < w.heap.size := F.dia.lt _ (Or.inl rfl)
  rw [hov] at c0
  rw [hlv] at c1
  have hb := box1_at (w := w) (x := .int .i32 a) (y := .slice (some ⟨g, 0, none⟩) ts.length cap) (t := 131)
  have hk1 : Keeps (fun _ => False) w (w.alloc (.cells #[.int .i32 a, .slice (some ⟨g, 0, none⟩) ts.length cap] 131)) := (Keeps.refl _ _).alloc _
  have hsz : (w.alloc (.cells #[.int .i32 a, .slice (some ⟨g, 0, none⟩) ts.length cap] 131)).heap.size = w.heap.size + 1 := by simp
  obtain ⟨i0, hi0, hz0, hz1, hz2⟩ := info_parts infoBool
  have HF := Lib.hid F; have Hr := Lib.hid r; have Hb := Lib.hid hb; have Hk1 := Lib.hid hk1; have HR := Lib.hid R
  clear F r hb hk1 R
  go_enter Tryz.func79, Tryz.ntmps79
  go_wp2_with (first | (at_make; refine wpList_make_full _ rfl _ _ 39 rfl (w.heap.size + 1) 4 i0 (.bool false) 1 Tryz.underlying39 hi0 hz0 hz1 .i64 .i64 _ _ h.n rfl rfl rfl rfl (by rw [hz2]; omega) (by unfold maxLen; omega) (by simp) ?_; intro w2 hown hgrow; have hcA := (grown_none Hk1.out hgrow).cell f1 (fun e => e); have hcB := (grown_none Hk1.out hgrow).cell c1 (fun e => e)) | fail)
  rw [hsz] at hown
  have k2 : Keeps (fun _ => False) w w2 := grown_none Hk1.out hgrow
  have hb2 : w2.heap[w.heap.size]? = some (.cells #[.int .i32 a, .slice (some ⟨g, 0, none⟩) ts.length cap] 131 (0, 0)) := ((grown_none (Keeps.refl _ _) hgrow).block _ (by omega) (fun e => e)).trans Hb.out
  have hrow0 : BRow w2 w.heap.size (w.heap.size + 1) h.n h.n (List.replicate h.n false) := (bools_made hown).low (by omega)
  have hrel0 := rch_start HF.out Hr.out HR.out hs1 hs2 k2 hb2 hrow0
  have Hrel := Lib.hid hrel0
  have hB : B ≤ w.heap.size := HF.out.size
  clear hrel0 hrow0 hb2 k2 hown hgrow hcA hcB
  go_loopw [2, 29] (fun sm i wr => ∃ (k : Nat) (x : Int), k ≤ h.n ∧ i = .int .i64 k ∧ sm = .int .i64 x ∧ RchRel B w h s f cb a ts sum k wr x) (fun _ i _ => h.n - (intOf i).toNat)
  case atStart => exact ⟨0, sum, Nat.zero_le _, rfl, rfl, Hrel.out⟩
  case round =>
    clear Hrel
    obtain ⟨k, x, hk, rfl, rfl, rel⟩ := hrel
    by_cases hkn : k < h.n
    · obtain ⟨s', bf', cb', a', gr, us, cap', vs, Rk, hv, rw, hx1, hx2⟩ := rel
      obtain ⟨lb, off, rfl, hl1, hl2, hl3, hl4⟩ := hlc (by omega)
      have hlev := rw.upd.keeps.cell (hl4 k hkn) (fun e => e.elim hl2 hl3)
      obtain ⟨b1, b2, b3, b4⟩ := at_two rw.box.at'
      have i1 : (k : Int) < (h.n : Int) := by omega
      have hmul : (k + 1) * costR h.n ≤ h.n * costR h.n := Nat.mul_le_mul_right _ (by omega)
      have hmul2 : (k + 1) * 2 ^ h.n ≤ h.n * 2 ^ h.n := Nat.mul_le_mul_right _ (by omega)
      rw [Nat.add_mul, Nat.one_mul] at hmul hmul2
      have hcR : costR h.n = 12 + 24 * 2 ^ h.n + costB h.n h.n := by unfold costR costK; omega
      have hcm := costB_mono h.n (m := h.n - (k + 1)) (m' := h.n) (by omega)
      have h2m : 2 ^ (h.n - (k + 1)) ≤ 2 ^ h.n := Nat.pow_le_pow_right (by omega) (by omega)
      have hm : us.length * 2 ^ h.n ≤ 12 * 2 ^ h.n := Nat.mul_le_mul_right _ rw.rest.len
      have q1 := rw.steps; have q2 := rw.le; have q3 := rw.cnt; have q4 := rw.cb
      have hwt := rw.rest.wt
      have hna := (narrow_any h (by omega) s' f a' gr cap' k 1 (Or.inl rfl) us wr rw.fin.dia rw.fin.blk rw.fin.nob hkn rw.rest.ha rw.rest.low rw.rest.inT rw.rest.terms rw.rest.len (by omega) (by omega) (by omega) (by omega)).mono (fun e w' hh => narrow_nr rw.fin.dia hkn hh)
      have Hna := Lib.hid hna; have Rk' := Lib.hid Rk; have Rw := Lib.hid rw; have Hm := Lib.hid hm; have Hmul := Lib.hid hmul; have Hmul2 := Lib.hid hmul2; have HcR := Lib.hid hcR; have Hcm := Lib.hid hcm; have H2m := Lib.hid h2m; have Hq := Lib.hid (And.intro q1 (And.intro q2 (And.intro q3 q4))); have Hv := Lib.hid hv; have Hst := Lib.hid hst; have Hcnt := Lib.hid hcnt; have Hcb := Lib.hid hcb
      clear hna Rk rw hm hmul hmul2 hcR hcm h2m q1 q2 q3 q4 hv hwt
      go_wp2_with fail
      refine Hna.out.mono ?_
      rintro e w1 ⟨s1, a1, ao1, us1, d, cap1, rfl, n1⟩
      obtain ⟨M, hd1, hd2⟩ := mid_start (cap1 := cap1) Rw.out n1 hB
      have hb10 := box1_at (w := w1) (x := .int .i32 a1) (y := .slice ao1 us1.length cap1) (t := 131)
      obtain ⟨z1, z2, z3, z4⟩ := at_two hb10
      have hs10 : w1.heap.size < (w1.alloc (.cells #[.int .i32 a1, .slice ao1 us1.length cap1] 131)).heap.size := by simp
      have hw1 : IntKind.i64.wrap (x - d) = x - d := IntWalk.i64_in _ (by omega)
      have hw2 : IntKind.i64.wrap (x - d - 1) = x - d - 1 := IntWalk.i64_in _ (by omega)
      have hbest := best_spec B h hn f (h.n - (k + 1)) (by omega) s1 bf' cb' a1 ao1 cap1 us1 (x - d - 1) (k + 1) (w1.alloc (.cells #[.int .i32 a1, .slice ao1 us1.length cap1] 131)) (by
        have o1 := Hmul.out; have o2 := Hmul2.out; have o3 := HcR.out; have o4 := Hcm.out; have o5 := H2m.out
        have m1 := M.rw.steps; have m2 := M.rw.le; have m3 := M.rw.cnt; have m4 := M.rw.cb
        exact M.rest.hyp M.rw.fin (by omega) (by unfold FB; omega) (by unfold FB; omega) (by omega) (by omega) (by omega) (by omega))
      have HM := Lib.hid M; have N1 := Lib.hid n1; have Hbest := Lib.hid hbest
      clear M n1 hbest hb10
      go_wp2_with fail
      refine Hbest.out.mono ?_
      rintro e w2' ⟨s2, bf2, cb2, res, rfl, p⟩
      have hres : -1099511627776 ≤ res ∧ res ≤ 1099511627776 := by
        by_cases h0 : a1 = 0
        · have := p.top.none (fun σ => by rw [h0, sem_no])
          unfold lowest at this; omega
        · have b := p.bd h0
          have hw := HM.out.rest.wt
          have h4 := hiT_nonneg us1; have h5 := loT_nonpos us1
          unfold Wt at hw; omega
      have hw3 : IntKind.i64.wrap (d + res) = d + res := IntWalk.i64_in _ (by omega)
      have p4 := p.cb
      have M2 := HM.out.on (C' := costB h.n (h.n - (k + 1))) (D' := 2 ^ (h.n - (k + 1))) p.upd (fun _ e => e) p.fin p.steps p.le p.cnt (by omega)
      have hs2' : w1.heap.size < w2'.heap.size := Nat.lt_of_lt_of_le hs10 p.upd.keeps.size
      clear p4 Hbest
      by_cases hlt : d + res < x
      · have hdec : decide (d + res < x) = true := decide_eq_true hlt
        have hrowc := M2.rw.row.cell (j := k) hkn
        have hrowf := M2.rw.row.frozen k
        have M3 := M2.setv k true f3 hB
        obtain ⟨y1, y2, y3, y4⟩ := at_two M3.rw.box.at'
        have o1 := Hmul.out; have o2 := Hmul2.out; have o3 := HcR.out; have o4 := Hcm.out; have o5 := H2m.out; have o6 := Hm.out
        have m1 := M3.rw.steps; have m2 := M3.rw.le; have m3 := M3.rw.cnt
        have hwt := M3.rw.rest.wt
        have hna2 := (narrow_any h (by omega) s2 f a' gr cap' k 2 (Or.inr rfl) us _ M3.rw.fin.dia M3.rw.fin.blk M3.rw.fin.nob hkn M3.rw.rest.ha M3.rw.rest.low M3.rw.rest.inT M3.rw.rest.terms M3.rw.rest.len (by omega) (by omega) (by omega) (by omega)).mono (fun e w' hh => narrow_nr M3.rw.fin.dia hkn hh)
        have Hna2 := Lib.hid hna2; have P := Lib.hid p
        clear hna2 p M2 M3 o1 o2 o3 o4 o5 o6 m1 m2 m3 hwt
        go_wp2_with fail
        refine Hna2.out.mono ?_
        rintro e w4 ⟨s3, a2, ao2, us2, d2, cap2, rfl, n2⟩
        obtain ⟨x1, x2, hd, hrel⟩ := rch_true (cap2 := cap2) Rk'.out Hv.out hkn Rw.out.fin.dia.inv.wf Rw.out.rest.ha (fun t ht => ⟨(Rw.out.rest.inT t ht).1, Nat.zero_le _⟩) N1.out HM.out (by omega) P.out f3 hB hlt hx1 hx2 hn n2
        obtain ⟨e1, e2, e3, e4⟩ := at_two x1.at'
        obtain ⟨g1, g2, g3, g4⟩ := at_two x2.at'
        have hnb := HM.out.n1
        have hsz4 : w1.heap.size < w4.heap.size := x1.lt
        have hsz5 : w.heap.size < w4.heap.size := x2.lt
        have hw4 : IntKind.i64.wrap (x - d2) = x - d2 := IntWalk.i64_in _ (by omega)
        have Hrel := Lib.hid hrel
        clear hrel x1 x2 n2 Hna2 P y1 y2 y3 y4 hrowc hrowf
        go_wp2_with fail
        go_roundw
        case rel => exact ⟨k + 1, x - d2, by omega, by go_num, rfl, Hrel.out⟩
        case measure => simp [intOf]; omega
      · have hdec : decide (d + res < x) = false := decide_eq_false hlt
        obtain ⟨y1, y2, y3, y4⟩ := at_two M2.rw.box.at'
        obtain ⟨e1, e2, e3, e4⟩ := at_two M2.box.at'
        have hnb := HM.out.n1
        have hrel := rch_false Rk'.out Hv.out hkn N1.out HM.out (by omega) p f3 hB (by omega) hd1 hd2 hx1 hx2 hn
        have Hrel := Lib.hid hrel
        clear hrel M2 p
        go_wp2_with fail
        go_roundw
        case rel => exact ⟨k + 1, x - d, by omega, by go_num, rfl, Hrel.out⟩
        case measure => simp [intOf]; omega
    · obtain rfl : k = h.n := by omega
      have hdone := rel.done
      have Hd := Lib.hid hdone
      clear hdone rel
      go_wp2_with fail
      go_ret
      obtain ⟨vs, s1, bf1, cb1, q1, q2, q3, q4⟩ := Hd.out
      exact ⟨_, vs, s1, bf1, cb1, rfl, q1, q2, q3, q4⟩
end Go.Proofs.YtngjjmniigkeoaaGreatDoor
