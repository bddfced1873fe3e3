/- most: its loop over the formulas, and what it finds (plain). -/
import Derived.Test.YtpebjjpiehhobaaGreatDoorReach
namespace Go.Proofs.YtpebjjpiehhobaaGreatDoor
open Go Go.RowKit Go.WideMaps Go.Maps
set_option linter.unusedSimpArgs false
set_option linter.unusedVariables false

theorem infoTerm0 : (Tryz.prog.info? 129).map (fun i => (i.zero, i.size, i.bytes)) = some (some (.agg #[.int .i32 0, .int .i64 0]), 2, 16) := by kernel_rfl

theorem wt_bound {C : Int} (hC : 0 ≤ C) : ∀ (ts : List (Nat × Int)), (∀ t ∈ ts, -C ≤ t.2 ∧ t.2 ≤ C) → Wt ts ≤ ts.length * C
  | [], _ => by simp [Wt, hiT, loT, addT]
  | t :: ts, h => by
    have ih := wt_bound hC ts (fun u hu => h u (List.mem_cons_of_mem _ hu))
    have h1 := h t (List.mem_cons_self ..)
    unfold Wt at *
    have e1 : hiT (t :: ts) = max 0 t.2 + hiT ts := rfl
    have e2 : loT (t :: ts) = min 0 t.2 + loT ts := rfl
    rw [e1, e2]
    have e3 : ((t :: ts).length : Int) * C = ts.length * C + C := by rw [List.length_cons]; push_cast; rw [Int.add_mul, Int.one_mul]
    rw [e3]
    omega

/-- The sum of the weights of the formulas that hold. -/
def sumF (m : (Nat → Bool)) (fs : List (List Int)) (ws : List Int) : Int := addT (fun t => t.2) ((fs.zip ws).map (fun x => (0, if evalF m x.1 then x.2 else 0)))

structure MInv (w w2 : World) (h : DH) (s : DS) (ls : List Nat) (fs : List (List Int)) (ws : List Int) (base g k : Nat) (wr : World) (s' : DS) (ts : List (Nat × Int)) : Prop where
  updW : Upd w wr h s s'
  upd : FUpd (fun b => b = g) w2 wr h s s'
  row : TRow wr base g fs.length fs.length ts
  no : ¬ own h s' g
  lt : ∀ j, j < k → (ts.getD j (0, 0)).1 < s'.nodes.length
  mean : ∀ j, j < k → ∀ σ, sem s'.nodes (ts.getD j (0, 0)).1 σ = evalF (byLev ls σ) (fs.getD j [])
  snd : ∀ j, j < k → (ts.getD j (0, 0)).2 = ws.getD j 0
  steps : s.steps ≤ s'.steps + (k * (100 * 2 ^ h.n) : Nat)
  le : s'.steps ≤ s.steps
  cnt : s'.cnt ≤ s.cnt + 2 * (k * (100 * 2 ^ h.n))

theorem MInv.step {w w2 wr w1 : World} {h : DH} {s s' s1 : DS} {ls : List Nat} {fs : List (List Int)} {ws : List Int} {base g k kn : Nat} {ts : List (Nat × Int)} (i : MInv w w2 h s ls fs ws base g k wr s' ts) (hgw : w.heap.size ≤ g) (hk : k < fs.length) (p : OfPost wr h s' (fun σ => evalF (byLev ls σ) (fs.getD k [])) (100 * 2 ^ h.n) w1 s1 kn) :
    TRow w1 base g fs.length fs.length ts ∧ MInv w w2 h s ls fs ws base g (k + 1) ((w1.setCell ⟨g, k * 2, none⟩ (.int .i32 kn)).setCell ⟨g, k * 2 + 1, none⟩ (.int .i64 (ws.getD k 0))) s1 (ts.set k (kn, ws.getD k 0)) := by
  have hgl := i.row.lt
  have hno1 : ¬ own h s1 g := fun ho => by
    rcases p.upd.own g ho with h1 | h1
    · exact i.no h1
    · omega
  have u1 := i.updW.trans p.upd
  have u2 := i.upd.trans p.upd.toF
  have hr0 := i.row.of_block (p.upd.keeps.block g hgl.2 i.no)
  have hr1 := hr0.set hk kn (ws.getD k 0)
  have hxl := i.row.len
  have hexp := p.upd.ext
  have hwf := i.updW.dia.inv.wf
  have hset : ∀ j, j ≠ k → (ts.set k (kn, ws.getD k 0)).getD j (0, 0) = ts.getD j (0, 0) := fun j hj => by simp [List.getD, List.getElem?_set, show ¬ k = j by omega]
  have hsk : (ts.set k (kn, ws.getD k 0)).getD k (0, 0) = (kn, ws.getD k 0) := by simp [List.getD, show k < ts.length by omega]
  have kk := keep2 w1 g (k * 2) (k * 2 + 1) (.int .i32 kn) (.int .i64 (ws.getD k 0))
  refine ⟨hr0, upd_side u1 kk (fun b e => by subst e; exact hgw) (fun b e => by subst e; exact hno1), u2.side kk (fun b e => Or.inl e) (fun b e => by subst e; exact hno1), hr1, hno1, ?_, ?_, ?_, ?_, ?_, ?_⟩
  · intro j hj
    by_cases e : j = k
    · subst e; rw [hsk]; exact p.hk
    · rw [hset j e]; exact Nat.lt_of_lt_of_le (i.lt j (by omega)) hexp.len
  · intro j hj σ
    by_cases e : j = k
    · subst e; rw [hsk]; exact p.mean σ
    · rw [hset j e, hexp.sem hwf (i.lt j (by omega))]; exact i.mean j (by omega) σ
  · intro j hj
    by_cases e : j = k
    · subst e; rw [hsk]
    · rw [hset j e]; exact i.snd j (by omega)
  · have := i.steps; have := p.steps; rw [Nat.add_mul]; omega
  · have := i.le; have := p.le; omega
  · have := i.cnt; have := p.cnt; rw [Nat.add_mul]; omega

theorem MInv.val {w w2 wr : World} {h : DH} {s s' : DS} {ls : List Nat} {fs : List (List Int)} {ws : List Int} {base g : Nat} {ts : List (Nat × Int)} (i : MInv w w2 h s ls fs ws base g fs.length wr s' ts) (hw : ws.length = fs.length) (σ : Nat → Bool) : valT s'.nodes σ ts = sumF (byLev ls σ) fs ws := by
  have hl := i.row.len
  refine addT_pair ts _ (by simp [hw, hl]) (fun j hj => ?_)
  have hj2 : j < fs.length := by simpa [hw] using hj
  have e1 := i.mean j hj2 σ
  have e2 := i.snd j hj2
  (try dsimp only)
  rw [e1, e2]
  have e3 : (fs.zip ws)[j]? = some (fs[j], ws[j]'(by omega)) := by rw [List.getElem?_eq_getElem (by simp; omega), List.getElem_zip]
  simp [List.getD, hj2, show j < ws.length by omega, e3]
theorem MInv.bd {w w2 wr : World} {h : DH} {s s' : DS} {ls : List Nat} {fs : List (List Int)} {ws : List Int} {base g : Nat} {ts : List (Nat × Int)} (i : MInv w w2 h s ls fs ws base g fs.length wr s' ts) (hw : ws.length = fs.length) (hb : ∀ x ∈ ws, -1000000 ≤ x ∧ x ≤ 1000000) (hfl : fs.length ≤ 12) : ts.length = fs.length ∧ Wt ts ≤ 12000000 ∧ InT s'.nodes 0 ts := by
  have hl := i.row.len
  refine ⟨hl, ?_, ?_⟩
  · have h1 := wt_bound (C := 1000000) (by omega) ts (fun t ht => by
      obtain ⟨j, hj, rfl⟩ := List.getElem_of_mem ht
      have e := i.snd j (by omega)
      have e2 : ts.getD j (0, 0) = ts[j] := by simp [List.getD, hj]
      rw [e2] at e
      rw [e]
      have e3 : ws.getD j 0 = ws[j]'(by omega) := by simp [List.getD, show j < ws.length by omega]
      rw [e3]
      exact hb _ (List.getElem_mem _))
    omega
  · intro t ht
    obtain ⟨j, hj, rfl⟩ := List.getElem_of_mem ht
    have e := i.lt j (by omega)
    have e2 : ts.getD j (0, 0) = ts[j] := by simp [List.getD, hj]
    rw [e2] at e
    exact ⟨e, Nat.zero_le _⟩

/-- What most finds. -/
structure Best (A : (Nat → Bool) → Bool) (V : (Nat → Bool) → Int) (sum : Int) (vs : List Bool) : Prop where
  att : ∃ σ, A (ov vs σ) = true ∧ V (ov vs σ) = sum
  ub : ∀ σ, A σ = true → V σ ≤ sum
  first : ∀ j, j < vs.length → vs.getD j false = true → ∀ σ, (∀ i, i < j → σ i = vs.getD i false) → σ j = false → A σ = true → V σ < sum

def costM (n k : Nat) : Nat := k * (100 * 2 ^ n) + 12 * 2 ^ n + costB n n + n * costR n
def MostEnd (w : World) (h : DH) (s : DS) (ls : List Nat) (a : Nat) (fs : List (List Int)) (ws : List Int) (e : Ending) (w' : World) : Prop :=
  ∃ g vs s1 sum, e = .returned (.tuple #[.int .i64 sum, .slice (some ⟨g, 0, none⟩) h.n h.n]) ∧ BRow w' w.heap.size g h.n h.n vs ∧ Best (sem s.nodes a) (fun σ => sumF (byLev ls σ) fs ws) sum vs ∧ FUpd (fun _ => False) w w' h s s1

theorem FUpd.toUpd {G : Nat → Prop} {w w' : World} {h : DH} {s s' : DS} (u : FUpd G w w' h s s') (hG : ∀ b, G b → w.heap.size ≤ b) : Upd w w' h s s' :=
  ⟨u.dia, u.ext, u.keeps.mono (fun b hb => by
    rcases hb with h1 | h1
    · exact Or.inl h1
    · exact Or.inr (hG b h1)), u.own⟩
theorem made_two (n : Nat) : (madeCells (Value.agg #[.int .i32 0, .int .i64 0]).cells (n * 2)).toList = (List.replicate n ((0 : Nat), (0 : Int))).flatMap tmCells := by
  apply List.ext_getElem?
  intro i
  have hl := flat2_len (List.replicate n ((0 : Nat), (0 : Int)))
  rw [List.length_replicate] at hl
  by_cases hi : i < n * 2
  · obtain ⟨k, rfl | rfl⟩ : ∃ k, i = k * 2 ∨ i = k * 2 + 1 := ⟨i / 2, by omega⟩
    · rw [(flat2_at _ k (by rw [List.length_replicate]; omega)).1]
      have e : (List.replicate n ((0 : Nat), (0 : Int))).getD k (0, 0) = (0, 0) := by simp [List.getD, List.getElem?_replicate]; split <;> rfl
      rw [e]
      have e2 : k * 2 % 2 = 0 := by omega
      simp [madeCells, hi, e2, Value.cells]
    · rw [(flat2_at _ k (by rw [List.length_replicate]; omega)).2]
      have e : (List.replicate n ((0 : Nat), (0 : Int))).getD k (0, 0) = (0, 0) := by simp [List.getD, List.getElem?_replicate]; split <;> rfl
      rw [e]
      have e2 : (k * 2 + 1) % 2 = 1 := by omega
      simp [madeCells, hi, e2, Value.cells]
  · rw [List.getElem?_eq_none (by simp [madeCells]; omega), List.getElem?_eq_none (by omega)]

theorem most_mid {B : Nat} {w w2 wr w3 : World} {h : DH} {s s' s3 : DS} {ls : List Nat} {fs : List (List Int)} {ws : List Int} {a : Nat} {ts us : List (Nat × Int)} {sum0 : Int} {cap : Nat} (d : Dia w h s) (hlow : ∀ j, own h s j → B ≤ j) (hB : B ≤ w.heap.size) (tab : Tab B w)
    (hf2 : FBlk w2 h ⟨w.heap.size + 1, w.heap.size⟩) (hm2 : MapV w2 Tryz.prog 9 w.heap.size 0 (fun _ => none)) (i : MInv w w2 h s ls fs ws w.heap.size (w.heap.size + 2) fs.length wr s' ts) (hw : ws.length = fs.length) (hb : ∀ x ∈ ws, -1000000 ≤ x ∧ x ≤ 1000000) (hfl : fs.length ≤ 12) (ha : a < s.nodes.length)
    (u : FUpd (fun b => b = w.heap.size + 2) wr w3 h s' s3) (row : TRow w3 w.heap.size (w.heap.size + 2) us.length cap us) (sm : SMean h s' 0 ts s3 us sum0) :
    Fin B w3 h s3 ⟨w.heap.size + 1, w.heap.size⟩ (fun _ => none) 0 ∧ RestAt w3 h s3 ⟨w.heap.size + 1, w.heap.size⟩ 0 a (some ⟨w.heap.size + 2, 0, none⟩) us ∧ Upd w w3 h s s3 ∧ -12000000 ≤ sum0 ∧ sum0 ≤ 12000000 ∧ Wt us ≤ 12000000 := by
  obtain ⟨hl, hwt, hin⟩ := i.bd hw hb hfl
  have hlt := d.lt
  have u2 := i.upd.trans u
  have uw : FUpd (fun b => b = w.heap.size + 2) w w3 h s s3 := (i.updW.toF (G := fun b => b = w.heap.size + 2)).trans u
  have U : Upd w w3 h s s3 := uw.toUpd (fun b e => by omega)
  have no : ∀ b, w.heap.size ≤ b → ¬ own h s b := fun b hb e => by have := hlt _ e; omega
  have hfl2 := hf2.cells.2.2
  have hml2 := hm2.lt
  have hrl := row.lt.2
  have hno : ¬ own h s3 (w.heap.size + 2) := u.no i.row.lt.2 i.no
  have h4 := hiT_nonneg ts; have h5 := loT_nonpos ts; have h6 := hiT_nonneg us; have h7 := loT_nonpos us
  have h8 := sm.half.hi; have h9 := sm.half.lo
  have hsl := sm.len
  have hwu : Wt us ≤ Wt ts := by unfold Wt; omega
  refine ⟨⟨U.dia, (u2.block hfl2 (no _ (by (try dsimp only); omega)) (by (try dsimp only); omega)).trans hf2, hm2.kept (u2.block hml2 (no _ (by (try dsimp only); omega)) (by (try dsimp only); omega)), fun K v hv => by (cases hv), u2.no hfl2 (no _ (by (try dsimp only); omega)), u2.no hml2 (no _ (by (try dsimp only); omega)), tab.on (U.keeps.below hB hlow), fun j hj => ?_, by (try dsimp only); omega, by (try dsimp only); omega⟩, ⟨Nat.lt_of_lt_of_le ha U.ext.len, Nat.zero_le _, sm.inT, sm.two, by omega, by omega, row.terms (by omega), fun g e => ?_⟩, U, ?_, ?_, by omega⟩
  · rcases U.own j hj with h1 | h1
    · exact hlow j h1
    · omega
  · simp only [Option.some.injEq, Addr.mk.injEq, and_true] at e
    subst e
    exact ⟨hrl, hno, by (try dsimp only); omega⟩
  · unfold Wt at hwt; omega
  · unfold Wt at hwt; omega

theorem rinv_start {B : Nat} {W w4 : World} {h : DH} {s3 s4 : DS} {f : FH} {bf4 : Value → Option Value} {cb cb4 m a : Nat} {us : List (Nat × Int)} {res : Int} (hw : WF h.n s3.nodes) (ha : a < s3.nodes.length) (h0 : a ≠ 0) (hi : InT s3.nodes 0 us) (hwt : Wt us ≤ 12000000) (p : BestPost B W h s3 f cb a us lowest m w4 s4 bf4 cb4 res) :
    RInv s4.nodes a us res s4.nodes a us res [] ∧ -12000000 ≤ res ∧ res ≤ 12000000 := by
  have hb := p.bd h0
  have h6 := hiT_nonneg us; have h7 := loT_nonpos us
  unfold Wt at hwt
  have e := p.upd.ext
  have hs : ∀ σ, sem s4.nodes a σ = sem s3.nodes a σ := e.sem hw ha
  have hv : ∀ σ, valT s4.nodes σ us = valT s3.nodes σ us := fun σ => by rw [valT_ext hi e hw]
  refine ⟨⟨fun σ => by rw [ov_nil], fun σ => by rw [ov_nil]; omega, ?_, fun σ hσ => ?_, fun j hj => by simp at hj⟩, by omega, by omega⟩
  · obtain ⟨σ, h1, h2⟩ := p.top.att (sat_of_ne hw ha h0) (by unfold lowest; omega)
    exact ⟨σ, by rw [hs]; exact h1, by rw [hv]; exact h2⟩
  · rw [hs] at hσ; rw [hv]; exact p.top.ub σ hσ

theorem best_all {B : Nat} {w w2 wr W w4 : World} {h : DH} {s s' s3 s4 : DS} {ls : List Nat} {fs : List (List Int)} {ws : List Int} {base g : Nat} {f : FH} {bf4 : Value → Option Value} {cb cb4 m a : Nat} {ts us : List (Nat × Int)} {sum0 res : Int} {vs : List Bool} (i : MInv w w2 h s ls fs ws base g fs.length wr s' ts) (hw : ws.length = fs.length) (hwf : WF h.n s.nodes) (ha : a < s.nodes.length)
    (sm : SMean h s' 0 ts s3 us sum0) (hw3 : WF h.n s3.nodes) (p : BestPost B W h s3 f cb a us lowest m w4 s4 bf4 cb4 res) (r : Reached s4.nodes a us res vs) : Best (sem s.nodes a) (fun σ => sumF (byLev ls σ) fs ws) (sum0 + res) vs := by
  have e1 : Ext s.nodes s3.nodes := i.updW.ext.trans sm.ext
  have ha3 := Nat.lt_of_lt_of_le ha e1.len
  have hs3 : ∀ σ, sem s3.nodes a σ = sem s.nodes a σ := e1.sem hwf ha
  have hs4 : ∀ σ, sem s4.nodes a σ = sem s.nodes a σ := fun σ => by rw [p.upd.ext.sem hw3 ha3, hs3]
  have hv : ∀ σ, valT s4.nodes σ us + sum0 = sumF (byLev ls σ) fs ws := fun σ => by
    rw [← i.val hw σ, ← sm.half.val σ, valT_ext sm.inT p.upd.ext hw3]
  refine ⟨?_, fun σ hσ => ?_, fun j hj hvj σ h1 h2 hσ => ?_⟩
  · obtain ⟨σ, h1, h2⟩ := r.att
    refine ⟨σ, by rw [← hs4]; exact h1, ?_⟩
    have := hv (ov vs σ)
    (try dsimp only)
    omega
  · have h1 := p.top.ub σ (by rw [hs3]; exact hσ)
    have := hv σ
    rw [valT_ext sm.inT p.upd.ext hw3] at this
    (try dsimp only at h1 ⊢)
    omega
  · have h3 := r.first j hj hvj σ h1 h2 (by rw [hs4]; exact hσ)
    have := hv σ
    (try dsimp only)
    omega
end Go.Proofs.YtpebjjpiehhobaaGreatDoor
