/- most: its loop over the formulas, and what it finds (plain). most: the greatest sum and the first variant that has it. -/
import Derived.Test.YtngjjmniigkeoaaGreatDoorReach
namespace Go.Proofs.YtngjjmniigkeoaaGreatDoor
open Go Go.RowKit Go.WideMaps Go.Maps
set_option linter.unusedSimpArgs false
set_option linter.unusedVariables false

theorem infoTerm0 : (Tryz.prog.info? 129).map (fun i => (i.zero, i.size, i.bytes)) = some (some (.agg #[.int .i32 0, .int .i64 0]), 2, 16) := by kernel_rfl

theorem wt_bound {C : Int} (hC : 0 ≤ C) : ∀ (ts : List (Nat × Int)), (∀ t ∈ ts, -C ≤ t.2 ∧ t.2 ≤ C) → Wt ts ≤ ts.length * C
  | [], _ => by simp [Wt, hiT, loT, addT]
  | t :: ts, h => by
    have ih := wt_bound hC ts (fun u hu => h u (List.mem_cons_of_mem _ hu))
    have h1 := h t (List.mem_cons_self ..)
    unfold Wt at *
    have e1 : hiT (t :: ts) = max 0 t.2 + hiT ts := rfl
    have e2 : loT (t :: ts) = min 0 t.2 + loT ts := rfl
    rw [e1, e2]
    have e3 : ((t :: ts).length : Int) * C = ts.length * C + C := by rw [List.length_cons]; push_cast; rw [Int.add_mul, Int.one_mul]
    rw [e3]
    omega

/-- The sum of the weights of the formulas that hold. -/
def sumF (m : (Nat → Bool)) (fs : List (List Int)) (ws : List Int) : Int := addT (fun t => t.2) ((fs.zip ws).map (fun x => (0, if evalF m x.1 then x.2 else 0)))

structure MInv (w w2 : World) (h : DH) (s : DS) (ls : List Nat) (fs : List (List Int)) (ws : List Int) (base g k : Nat) (wr : World) (s' : DS) (ts : List (Nat × Int)) : Prop where
  updW : Upd w wr h s s'
  upd : FUpd (fun b => b = g) w2 wr h s s'
  row : TRow wr base g fs.length fs.length ts
  no : ¬ own h s' g
  lt : ∀ j, j < k → (ts.getD j (0, 0)).1 < s'.nodes.length
  mean : ∀ j, j < k → ∀ σ, sem s'.nodes (ts.getD j (0, 0)).1 σ = evalF (byLev ls σ) (fs.getD j [])
  snd : ∀ j, j < k → (ts.getD j (0, 0)).2 = ws.getD j 0
  steps : s.steps ≤ s'.steps + (k * (100 * 2 ^ h.n) : Nat)
  le : s'.steps ≤ s.steps
  cnt : s'.cnt ≤ s.cnt + 2 * (k * (100 * 2 ^ h.n))

theorem MInv.step {w w2 wr w1 : World} {h : DH} {s s' s1 : DS} {ls : List Nat} {fs : List (List Int)} {ws : List Int} {base g k kn : Nat} {ts : List (Nat × Int)} (i : MInv w w2 h s ls fs ws base g k wr s' ts) (hgw : w.heap.size ≤ g) (hk : k < fs.length) (p : OfPost wr h s' (fun σ => evalF (byLev ls σ) (fs.getD k [])) (100 * 2 ^ h.n) w1 s1 kn) :
    TRow w1 base g fs.length fs.length ts ∧ MInv w w2 h s ls fs ws base g (k + 1) ((w1.setCell ⟨g, k * 2, none⟩ (.int .i32 kn)).setCell ⟨g, k * 2 + 1, none⟩ (.int .i64 (ws.getD k 0))) s1 (ts.set k (kn, ws.getD k 0)) := by
  have hgl := i.row.lt
  have hno1 : ¬ own h s1 g := fun ho => by
    rcases p.upd.own g ho with h1 | h1
    · exact i.no h1
    · omega
  have u1 := i.updW.trans p.upd
  have u2 := i.upd.trans p.upd.toF
  have hr0 := i.row.of_block (p.upd.keeps.block g hgl.2 i.no)
  have hr1 := hr0.set hk kn (ws.getD k 0)
  have hxl := i.row.len
  have hexp := p.upd.ext
  have hwf := i.updW.dia.inv.wf
  have hset : ∀ j, j ≠ k → (ts.set k (kn, ws.getD k 0)).getD j (0, 0) = ts.getD j (0, 0) := fun j hj => by simp [List.getD, List.getElem?_set, show ¬ k = j by omega]
  have hsk : (ts.set k (kn, ws.getD k 0)).getD k (0, 0) = (kn, ws.getD k 0) := by simp [List.getD, show k < ts.length by omega]
  have kk := keep2 w1 g (k * 2) (k * 2 + 1) (.int .i32 kn) (.int .i64 (ws.getD k 0))
  refine ⟨hr0, upd_side u1 kk (fun b e => by subst e; exact hgw) (fun b e => by subst e; exact hno1), u2.side kk (fun b e => Or.inl e) (fun b e => by subst e; exact hno1), hr1, hno1, ?_, ?_, ?_, ?_, ?_, ?_⟩
  · intro j hj
    by_cases e : j = k
    · subst e; rw [hsk]; exact p.hk
    · rw [hset j e]; exact Nat.lt_of_lt_of_le (i.lt j (by omega)) hexp.len
  · intro j hj σ
    by_cases e : j = k
    · subst e; rw [hsk]; exact p.mean σ
    · rw [hset j e, hexp.sem hwf (i.lt j (by omega))]; exact i.mean j (by omega) σ
  · intro j hj
    by_cases e : j = k
    · subst e; rw [hsk]
    · rw [hset j e]; exact i.snd j (by omega)
  · have := i.steps; have := p.steps; rw [Nat.add_mul]; omega
  · have := i.le; have := p.le; omega
  · have := i.cnt; have := p.cnt; rw [Nat.add_mul]; omega

theorem MInv.val {w w2 wr : World} {h : DH} {s s' : DS} {ls : List Nat} {fs : List (List Int)} {ws : List Int} {base g : Nat} {ts : List (Nat × Int)} (i : MInv w w2 h s ls fs ws base g fs.length wr s' ts) (hw : ws.length = fs.length) (σ : Nat → Bool) : valT s'.nodes σ ts = sumF (byLev ls σ) fs ws := by
  have hl := i.row.len
  refine addT_pair ts _ (by simp [hw, hl]) (fun j hj => ?_)
  have hj2 : j < fs.length := by simpa [hw] using hj
  have e1 := i.mean j hj2 σ
  have e2 := i.snd j hj2
  (try dsimp only)
  rw [e1, e2]
  have e3 : (fs.zip ws)[j]? = some (fs[j], ws[j]'(by omega)) := by rw [List.getElem?_eq_getElem (by simp; omega), List.getElem_zip]
  simp [List.getD, hj2, show j < ws.length by omega, e3]
theorem MInv.bd {w w2 wr : World} {h : DH} {s s' : DS} {ls : List Nat} {fs : List (List Int)} {ws : List Int} {base g : Nat} {ts : List (Nat × Int)} (i : MInv w w2 h s ls fs ws base g fs.length wr s' ts) (hw : ws.length = fs.length) (hb : ∀ x ∈ ws, -1000000 ≤ x ∧ x ≤ 1000000) (hfl : fs.length ≤ 12) : ts.length = fs.length ∧ Wt ts ≤ 12000000 ∧ InT s'.nodes 0 ts := by
  have hl := i.row.len
  refine ⟨hl, ?_, ?_⟩
  · have h1 := wt_bound (C := 1000000) (by omega) ts (fun t ht => by
      obtain ⟨j, hj, rfl⟩ := List.getElem_of_mem ht
      have e := i.snd j (by omega)
      have e2 : ts.getD j (0, 0) = ts[j] := by simp [List.getD, hj]
      rw [e2] at e
      rw [e]
      have e3 : ws.getD j 0 = ws[j]'(by omega) := by simp [List.getD, show j < ws.length by omega]
      rw [e3]
      exact hb _ (List.getElem_mem _))
    omega
  · intro t ht
    obtain ⟨j, hj, rfl⟩ := List.getElem_of_mem ht
    have e := i.lt j (by omega)
    have e2 : ts.getD j (0, 0) = ts[j] := by simp [List.getD, hj]
    rw [e2] at e
    exact ⟨e, Nat.zero_le _⟩

/-- What most finds. -/
structure Best (A : (Nat → Bool) → Bool) (V : (Nat → Bool) → Int) (sum : Int) (vs : List Bool) : Prop where
  att : ∃ σ, A (ov vs σ) = true ∧ V (ov vs σ) = sum
  ub : ∀ σ, A σ = true → V σ ≤ sum
  first : ∀ j, j < vs.length → vs.getD j false = true → ∀ σ, (∀ i, i < j → σ i = vs.getD i false) → σ j = false → A σ = true → V σ < sum

def costM (n k : Nat) : Nat := k * (100 * 2 ^ n) + 12 * 2 ^ n + costB n n + n * costR n
def MostEnd (w : World) (h : DH) (s : DS) (ls : List Nat) (a : Nat) (fs : List (List Int)) (ws : List Int) (e : Ending) (w' : World) : Prop :=
  ∃ g vs s1 sum, e = .returned (.tuple #[.int .i64 sum, .slice (some ⟨g, 0, none⟩) h.n h.n]) ∧ BRow w' w.heap.size g h.n h.n vs ∧ Best (sem s.nodes a) (fun σ => sumF (byLev ls σ) fs ws) sum vs ∧ FUpd (fun _ => False) w w' h s s1

theorem FUpd.toUpd {G : Nat → Prop} {w w' : World} {h : DH} {s s' : DS} (u : FUpd G w w' h s s') (hG : ∀ b, G b → w.heap.size ≤ b) : Upd w w' h s s' :=
  ⟨u.dia, u.ext, u.keeps.mono (fun b hb => by
    rcases hb with h1 | h1
    · exact Or.inl h1
    · exact Or.inr (hG b h1)), u.own⟩
theorem made_two (n : Nat) : (madeCells (Value.agg #[.int .i32 0, .int .i64 0]).cells (n * 2)).toList = (List.replicate n ((0 : Nat), (0 : Int))).flatMap tmCells := by
  apply List.ext_getElem?
  intro i
  have hl := flat2_len (List.replicate n ((0 : Nat), (0 : Int)))
  rw [List.length_replicate] at hl
  by_cases hi : i < n * 2
  · obtain ⟨k, rfl | rfl⟩ : ∃ k, i = k * 2 ∨ i = k * 2 + 1 := ⟨i / 2, by omega⟩
    · rw [(flat2_at _ k (by rw [List.length_replicate]; omega)).1]
      have e : (List.replicate n ((0 : Nat), (0 : Int))).getD k (0, 0) = (0, 0) := by simp [List.getD, List.getElem?_replicate]; split <;> rfl
      rw [e]
      have e2 : k * 2 % 2 = 0 := by omega
      simp [madeCells, hi, e2, Value.cells]
    · rw [(flat2_at _ k (by rw [List.length_replicate]; omega)).2]
      have e : (List.replicate n ((0 : Nat), (0 : Int))).getD k (0, 0) = (0, 0) := by simp [List.getD, List.getElem?_replicate]; split <;> rfl
      rw [e]
      have e2 : (k * 2 + 1) % 2 = 1 := by omega
      simp [madeCells, hi, e2, Value.cells]
  · rw [List.getElem?_eq_none (by simp [madeCells]; omega), List.getElem?_eq_none (by omega)]

theorem most_mid {B : Nat} {w w2 wr w3 : World} {h : DH} {s s' s3 : DS} {ls : List Nat} {fs : List (List Int)} {ws : List Int} {a : Nat} {ts us : List (Nat × Int)} {sum0 : Int} {cap : Nat} (d : Dia w h s) (hlow : ∀ j, own h s j → B ≤ j) (hB : B ≤ w.heap.size) (tab : Tab B w)
    (hf2 : FBlk w2 h ⟨w.heap.size + 1, w.heap.size⟩) (hm2 : MapV w2 Tryz.prog 9 w.heap.size 0 (fun _ => none)) (i : MInv w w2 h s ls fs ws w.heap.size (w.heap.size + 2) fs.length wr s' ts) (hw : ws.length = fs.length) (hb : ∀ x ∈ ws, -1000000 ≤ x ∧ x ≤ 1000000) (hfl : fs.length ≤ 12) (ha : a < s.nodes.length)
    (u : FUpd (fun b => b = w.heap.size + 2) wr w3 h s' s3) (row : TRow w3 w.heap.size (w.heap.size + 2) us.length cap us) (sm : SMean h s' 0 ts s3 us sum0) :
    Fin B w3 h s3 ⟨w.heap.size + 1, w.heap.size⟩ (fun _ => none) 0 ∧ RestAt w3 h s3 ⟨w.heap.size + 1, w.heap.size⟩ 0 a (some ⟨w.heap.size + 2, 0, none⟩) us ∧ Upd w w3 h s s3 ∧ -12000000 ≤ sum0 ∧ sum0 ≤ 12000000 ∧ Wt us ≤ 12000000 := by
  obtain ⟨hl, hwt, hin⟩ := i.bd hw hb hfl
  have hlt := d.lt
  have u2 := i.upd.trans u
  have uw : FUpd (fun b => b = w.heap.size + 2) w w3 h s s3 := (i.updW.toF (G := fun b => b = w.heap.size + 2)).trans u
  have U : Upd w w3 h s s3 := uw.toUpd (fun b e => by omega)
  have no : ∀ b, w.heap.size ≤ b → ¬ own h s b := fun b hb e => by have := hlt _ e; omega
  have hfl2 := hf2.cells.2.2
  have hml2 := hm2.lt
  have hrl := row.lt.2
  have hno : ¬ own h s3 (w.heap.size + 2) := u.no i.row.lt.2 i.no
  have h4 := hiT_nonneg ts; have h5 := loT_nonpos ts; have h6 := hiT_nonneg us; have h7 := loT_nonpos us
  have h8 := sm.half.hi; have h9 := sm.half.lo
  have hsl := sm.len
  have hwu : Wt us ≤ Wt ts := by unfold Wt; omega
  refine ⟨⟨U.dia, (u2.block hfl2 (no _ (by (try dsimp only); omega)) (by (try dsimp only); omega)).trans hf2, hm2.kept (u2.block hml2 (no _ (by (try dsimp only); omega)) (by (try dsimp only); omega)), fun K v hv => by (cases hv), u2.no hfl2 (no _ (by (try dsimp only); omega)), u2.no hml2 (no _ (by (try dsimp only); omega)), tab.on (U.keeps.below hB hlow), fun j hj => ?_, by (try dsimp only); omega, by (try dsimp only); omega⟩, ⟨Nat.lt_of_lt_of_le ha U.ext.len, Nat.zero_le _, sm.inT, sm.two, by omega, by omega, row.terms (by omega), fun g e => ?_⟩, U, ?_, ?_, by omega⟩
  · rcases U.own j hj with h1 | h1
    · exact hlow j h1
    · omega
  · simp only [Option.some.injEq, Addr.mk.injEq, and_true] at e
    subst e
    exact ⟨hrl, hno, by (try dsimp only); omega⟩
  · unfold Wt at hwt; omega
  · unfold Wt at hwt; omega

theorem rinv_start {B : Nat} {W w4 : World} {h : DH} {s3 s4 : DS} {f : FH} {bf4 : Value → Option Value} {cb cb4 m a : Nat} {us : List (Nat × Int)} {res : Int} (hw : WF h.n s3.nodes) (ha : a < s3.nodes.length) (h0 : a ≠ 0) (hi : InT s3.nodes 0 us) (hwt : Wt us ≤ 12000000) (p : BestPost B W h s3 f cb a us lowest m w4 s4 bf4 cb4 res) :
    RInv s4.nodes a us res s4.nodes a us res [] ∧ -12000000 ≤ res ∧ res ≤ 12000000 := by
  have hb := p.bd h0
  have h6 := hiT_nonneg us; have h7 := loT_nonpos us
  unfold Wt at hwt
  have e := p.upd.ext
  have hs : ∀ σ, sem s4.nodes a σ = sem s3.nodes a σ := e.sem hw ha
  have hv : ∀ σ, valT s4.nodes σ us = valT s3.nodes σ us := fun σ => by rw [valT_ext hi e hw]
  refine ⟨⟨fun σ => by rw [ov_nil], fun σ => by rw [ov_nil]; omega, ?_, fun σ hσ => ?_, fun j hj => by simp at hj⟩, by omega, by omega⟩
  · obtain ⟨σ, h1, h2⟩ := p.top.att (sat_of_ne hw ha h0) (by unfold lowest; omega)
    exact ⟨σ, by rw [hs]; exact h1, by rw [hv]; exact h2⟩
  · rw [hs] at hσ; rw [hv]; exact p.top.ub σ hσ

theorem best_all {B : Nat} {w w2 wr W w4 : World} {h : DH} {s s' s3 s4 : DS} {ls : List Nat} {fs : List (List Int)} {ws : List Int} {base g : Nat} {f : FH} {bf4 : Value → Option Value} {cb cb4 m a : Nat} {ts us : List (Nat × Int)} {sum0 res : Int} {vs : List Bool} (i : MInv w w2 h s ls fs ws base g fs.length wr s' ts) (hw : ws.length = fs.length) (hwf : WF h.n s.nodes) (ha : a < s.nodes.length)
    (sm : SMean h s' 0 ts s3 us sum0) (hw3 : WF h.n s3.nodes) (p : BestPost B W h s3 f cb a us lowest m w4 s4 bf4 cb4 res) (r : Reached s4.nodes a us res vs) : Best (sem s.nodes a) (fun σ => sumF (byLev ls σ) fs ws) (sum0 + res) vs := by
  have e1 : Ext s.nodes s3.nodes := i.updW.ext.trans sm.ext
  have ha3 := Nat.lt_of_lt_of_le ha e1.len
  have hs3 : ∀ σ, sem s3.nodes a σ = sem s.nodes a σ := e1.sem hwf ha
  have hs4 : ∀ σ, sem s4.nodes a σ = sem s.nodes a σ := fun σ => by rw [p.upd.ext.sem hw3 ha3, hs3]
  have hv : ∀ σ, valT s4.nodes σ us + sum0 = sumF (byLev ls σ) fs ws := fun σ => by
    rw [← i.val hw σ, ← sm.half.val σ, valT_ext sm.inT p.upd.ext hw3]
  refine ⟨?_, fun σ hσ => ?_, fun j hj hvj σ h1 h2 hσ => ?_⟩
  · obtain ⟨σ, h1, h2⟩ := r.att
    refine ⟨σ, by rw [← hs4]; exact h1, ?_⟩
    have := hv (ov vs σ)
    (try dsimp only)
    omega
  · have h1 := p.top.ub σ (by rw [hs3]; exact hσ)
    have := hv σ
    rw [valT_ext sm.inT p.upd.ext hw3] at this
    (try dsimp only at h1 ⊢)
    omega
  · have h3 := r.first j hj hvj σ h1 h2 (by rw [hs4]; exact hσ)
    have := hv σ
    (try dsimp only)
    omega

open Go Go.RowKit Go.WideMaps Go.Maps
set_option linter.unusedSimpArgs false
set_option linter.unusedVariables false

theorem tbase {w : World} {base base' g n cap : Nat} {ts : List (Nat × Int)} (h : TRow w base g n cap ts) (hb : base' ≤ base) : TRow w base' g n cap ts := by
  obtain ⟨h1, h2⟩ := h.row
  refine ⟨h1, ?_⟩
  rcases h2 with h2 | ⟨g', cap', cur, e, hg, hr⟩
  · exact Or.inl h2
  · exact Or.inr ⟨g', cap', cur, e, Nat.le_trans hb hg, hr⟩

set_option maxRecDepth 100000 in
set_option maxHeartbeats 12800000 in
theorem most_any (B : Nat) (h : DH) (hn : h.n ≤ 40) (s : DS) (a : Nat) (al : Option Addr) (cl : Nat) (fs : List (List Int)) (wo : Option Addr) (wc : Nat) (ws : List Int) (w : World) (d : Dia w h s) (hfl : fs.length ≤ 12) (hwl : ws.length = fs.length) (hl : Lv w h s (List.range h.n)) (hov : ∃ ao c, h.ov = .slice ao h.n c) (hfo : OutForms w h s al fs) (hwo : OutInts w h s wo wc ws)
    (hv : ∀ k, k < fs.length → validB (fs.getD k []) h.n = true) (hbd : ∀ x ∈ ws, -1000000 ≤ x ∧ x ≤ 1000000) (ha : a < s.nodes.length) (h0 : a ≠ 0) (hlow : ∀ j, own h s j → B ≤ j) (hB : B ≤ w.heap.size) (tab : Tab B w)
    (hst : ((costM h.n fs.length : Nat) : Int) ≤ s.steps) (hst2 : s.steps ≤ 4611686018427387904) (hcnt : s.cnt + 2 * costM h.n fs.length < 2 ^ 30) :
    Calls Tryz.prog 54 #[.pointer (some ⟨h.b, 0, none⟩), .int .i32 a, .slice al fs.length cl, .slice wo ws.length wc] w (MostEnd w h s (List.range h.n) a fs ws) := by
  obtain ⟨i0, hi0, hz0, hz1, hz2⟩ := info_parts infoTerm
  have hmm := @run_makeMap Tryz.prog
  have hlt := d.lt
  have hf0 := heap_alloc_new (w.alloc (.map #[] 0)) (.cells #[.pointer (some ⟨h.b, 0, none⟩), .map (some w.heap.size)] 126)
  have hsz0 : (w.alloc (.map #[] 0)).heap.size = w.heap.size + 1 := by simp
  rw [hsz0] at hf0
  have hm0 : MapV ((w.alloc (.map #[] 0)).alloc (.cells #[.pointer (some ⟨h.b, 0, none⟩), .map (some w.heap.size)] 126)) Tryz.prog 9 w.heap.size 0 (fun _ => none) := (MapV.made w _ _).kept (Below.heap_alloc _ _ _ (by simp))
  have hk0 : Keeps (fun _ => False) w ((w.alloc (.map #[] 0)).alloc (.cells #[.pointer (some ⟨h.b, 0, none⟩), .map (some w.heap.size)] 126)) := ((Keeps.refl _ _).alloc _).alloc _
  have hsz : ((w.alloc (.map #[] 0)).alloc (.cells #[.pointer (some ⟨h.b, 0, none⟩), .map (some w.heap.size)] 126)).heap.size = w.heap.size + 2 := by simp
  have Hd := Lib.hid d; have Hl := Lib.hid hl; have Hfo := Lib.hid hfo; have Hwo := Lib.hid hwo; have Hv := Lib.hid hv; have Hbd := Lib.hid hbd; have Hlow := Lib.hid hlow; have Htab := Lib.hid tab; have Hf0 := Lib.hid hf0; have Hm0 := Lib.hid hm0; have Hk0 := Lib.hid hk0; have Hlt := Lib.hid hlt; have Hst := Lib.hid hst; have Hcnt := Lib.hid hcnt
  clear d hl hfo hwo hv hbd hlow tab hf0 hm0 hk0 hlt hst hcnt
  go_enter Tryz.func54, Tryz.ntmps54
  go_wp2_with (first | (at_make; refine wpList_make_full _ rfl _ _ 127 rfl (w.heap.size + 2) 129 i0 (.agg #[.int .i32 0, .int .i64 0]) 2 Tryz.underlying127 hi0 hz0 hz1 .i64 .i64 _ _ fs.length rfl rfl rfl rfl (by rw [hz2]; omega) (by unfold maxLen; omega) (by simp) ?_; intro w2 hown hgrow) | fail)
  have hk2 : Keeps (fun _ => False) w w2 := grown_none Hk0.out hgrow
  have hg0 : Keeps (fun _ => False) ((w.alloc (.map #[] 0)).alloc (.cells #[.pointer (some ⟨h.b, 0, none⟩), .map (some w.heap.size)] 126)) w2 := grown_none (Keeps.refl _ _) hgrow
  rw [hsz] at hown
  have hrow0 : TRow w2 w.heap.size (w.heap.size + 2) fs.length fs.length (List.replicate fs.length (0, 0)) := tbase (by rw [made_two] at hown; exact ⟨hown⟩) (by omega)
  have hf2 : FBlk w2 h ⟨w.heap.size + 1, w.heap.size⟩ := (hg0.block (w.heap.size + 1) (by omega) (fun e => e)).trans Hf0.out
  have hm2 : MapV w2 Tryz.prog 9 w.heap.size 0 (fun _ => none) := Hm0.out.kept (hg0.block w.heap.size (by omega) (fun e => e))
  have U2 : Upd w w2 h s s := (Upd.refl Hd.out).quiet hk2
  have hinv0 : MInv w w2 h s (List.range h.n) fs ws w.heap.size (w.heap.size + 2) 0 w2 s (List.replicate fs.length (0, 0)) :=
    ⟨U2, FUpd.refl U2.dia, hrow0, fun e => by have := Hlt.out _ e; omega, fun j hj => by omega, fun j hj => by omega, fun j hj => by omega, by omega, Int.le_refl _, by omega⟩
  have Hinv0 := Lib.hid hinv0; have Hf2 := Lib.hid hf2; have Hm2 := Lib.hid hm2
  clear hown hgrow hrow0 hf2 hm2 U2 hinv0 hk2 hg0
  go_loopw [24] (fun i wr => ∃ (k : Nat) (s' : DS) (ts : List (Nat × Int)), k ≤ fs.length ∧ i = .int .i64 k ∧ MInv w w2 h s (List.range h.n) fs ws w.heap.size (w.heap.size + 2) k wr s' ts) (fun i _ => fs.length - (intOf i).toNat)
  case atStart => exact ⟨0, s, _, Nat.zero_le _, rfl, Hinv0.out⟩
  case round =>
    clear Hinv0
    obtain ⟨k, s', ts, hk, rfl, inv⟩ := hrel
    by_cases hlt2 : k < fs.length
    · have hof := Hfo.out.upd inv.updW
      obtain ⟨fb, off, rfl, hfo, hfc⟩ := hof.cells (by omega)
      obtain ⟨fa, fc, hck, hints⟩ := hfc k hlt2
      have hwi := Hwo.out
      obtain ⟨wb, wof, rfl, hwc⟩ := hwi.ints.cells (by omega)
      have hwout := hwi.out wb wof (by omega) rfl
      have hvk := Hv.out k hlt2
      have hmul1 : (k + 1) * (100 * 2 ^ h.n) ≤ fs.length * (100 * 2 ^ h.n) := Nat.mul_le_mul_right _ (by omega : k + 1 ≤ fs.length)
      rw [Nat.add_mul] at hmul1
      have t1 := inv.steps; have t2 := inv.le; have t3 := inv.cnt
      have t4 := Hst.out; have t5 := Hcnt.out
      unfold costM at t4 t5
      have hofk : ∀ V, Keeps (fun _ => False) wr V → Calls Tryz.prog 73 #[.pointer (some ⟨h.b, 0, none⟩), .slice fa (fs.getD k []).length fc] V (fun e w1 => ∃ s1 kn, e = .returned (.int .i32 (kn : Nat)) ∧ Upd wr w1 h s' s1 ∧ OfPost wr h s' (fun σ => evalF (byLev (List.range h.n) σ) (fs.getD k [])) (100 * 2 ^ h.n) w1 s1 kn) := fun V kv => by
        have uq : Upd wr V h s' s' := (Upd.refl inv.updW.dia).quiet kv
        refine (of_any h (by omega) s' (List.range h.n) fa fc (fs.getD k []) V uq.dia ((Hl.out.upd inv.updW).upd uq) (hints.upd uq) hvk (by omega) (by omega) (by omega)).mono ?_
        rintro e w1 ⟨s1, kn, he, p⟩
        exact ⟨s1, kn, he, uq.trans p.upd, uq.trans p.upd, p.hk, p.mean, p.steps, p.le, p.cnt⟩
      have hstep := fun w1 s1 kn p => MInv.step (w1 := w1) (s1 := s1) (kn := kn) inv (by omega) hlt2 p
      have hS : ∀ V s1, Upd wr V h s' s1 → V.cell? ⟨wb, wof + k, none⟩ = some (.int .i64 (ws.getD k 0)) ∧ V.cell? ⟨w.heap.size + 2, k * 2, none⟩ = some (cellOr V ⟨w.heap.size + 2, k * 2, none⟩) ∧ V.cell? ⟨w.heap.size + 2, k * 2 + 1, none⟩ = some (cellOr V ⟨w.heap.size + 2, k * 2 + 1, none⟩) ∧ V.frozen? ⟨w.heap.size + 2, k * 2, none⟩ = false ∧ V.frozen? ⟨w.heap.size + 2, k * 2 + 1, none⟩ = false := fun V s1 u => by
        have hr := inv.row.of_block (u.keeps.block _ inv.row.lt.2 inv.no)
        exact ⟨hwout.cell (inv.updW.trans u) (hwc k (by omega)), cellOr_some (hr.cell hlt2).1, cellOr_some (hr.cell hlt2).2, hr.frozen _, hr.frozen _⟩
      have hwne : wb ≠ w.heap.size + 2 := by have := hwout.lt; omega
      have hT : ∀ V s1 (x y : Value), Upd wr V h s' s1 → ((V.setCell ⟨w.heap.size + 2, k * 2, none⟩ x).setCell ⟨w.heap.size + 2, k * 2 + 1, none⟩ y).cell? ⟨wb, wof + k, none⟩ = some (.int .i64 (ws.getD k 0)) ∧ ((V.setCell ⟨w.heap.size + 2, k * 2, none⟩ x).setCell ⟨w.heap.size + 2, k * 2 + 1, none⟩ y).cell? ⟨w.heap.size + 2, k * 2, none⟩ = some (cellOr ((V.setCell ⟨w.heap.size + 2, k * 2, none⟩ x).setCell ⟨w.heap.size + 2, k * 2 + 1, none⟩ y) ⟨w.heap.size + 2, k * 2, none⟩) ∧ ((V.setCell ⟨w.heap.size + 2, k * 2, none⟩ x).setCell ⟨w.heap.size + 2, k * 2 + 1, none⟩ y).cell? ⟨w.heap.size + 2, k * 2 + 1, none⟩ = some (cellOr ((V.setCell ⟨w.heap.size + 2, k * 2, none⟩ x).setCell ⟨w.heap.size + 2, k * 2 + 1, none⟩ y) ⟨w.heap.size + 2, k * 2 + 1, none⟩) ∧ ((V.setCell ⟨w.heap.size + 2, k * 2, none⟩ x).setCell ⟨w.heap.size + 2, k * 2 + 1, none⟩ y).frozen? ⟨w.heap.size + 2, k * 2, none⟩ = false ∧ ((V.setCell ⟨w.heap.size + 2, k * 2, none⟩ x).setCell ⟨w.heap.size + 2, k * 2 + 1, none⟩ y).frozen? ⟨w.heap.size + 2, k * 2 + 1, none⟩ = false := fun V s1 x y u => by
        obtain ⟨e1, e2, e3, e4, e5⟩ := hS V s1 u
        have e3' : (V.setCell ⟨w.heap.size + 2, k * 2, none⟩ x).cell? ⟨w.heap.size + 2, k * 2 + 1, none⟩ = some (cellOr V ⟨w.heap.size + 2, k * 2 + 1, none⟩) := by
          rw [World.cell?_setCell_other (h := by intro e; have := congrArg Addr.off e; simp at this)]; exact e3
        refine ⟨?_, cellOr_some (v := x) ?_, cellOr_some (World.cell?_setCell_same _ _ _ e3'), ?_, ?_⟩
        · rw [World.cell?_setCell_other (h := fun e => hwne (congrArg Addr.block e).symm), World.cell?_setCell_other (h := fun e => hwne (congrArg Addr.block e).symm)]; exact e1
        · rw [World.cell?_setCell_other (h := by intro e; have := congrArg Addr.off e; simp at this)]; exact World.cell?_setCell_same _ _ _ e2
        · rw [World.frozen?_setCell, World.frozen?_setCell]; exact e4
        · rw [World.frozen?_setCell, World.frozen?_setCell]; exact e5
      have i1 : (k : Int) < (fs.length : Int) := by omega
      have Hd1 := Lib.hid (Upd.refl inv.updW.dia)
      have Ho := Lib.hid hofk; have Hs := Lib.hid hstep; have HS := Lib.hid hS; have HT := Lib.hid hT
      clear hofk hstep hS hT inv hof hfc hints t1 t2 t3 t4 t5 hmul1 hvk hfo hwi hwc hwout
      generalize fs.getD k [] = f at *
      generalize ws.getD k 0 = wk at *
      go_wp2_with fail
      go_region_held3 (fun V => V.cell? ⟨wb, wof + k, none⟩ = some (.int .i64 wk) ∧ V.cell? ⟨w.heap.size + 2, k * 2, none⟩ = some (cellOr V ⟨w.heap.size + 2, k * 2, none⟩) ∧ V.cell? ⟨w.heap.size + 2, k * 2 + 1, none⟩ = some (cellOr V ⟨w.heap.size + 2, k * 2 + 1, none⟩) ∧ V.frozen? ⟨w.heap.size + 2, k * 2, none⟩ = false ∧ V.frozen? ⟨w.heap.size + 2, k * 2 + 1, none⟩ = false)
        (first | exact HS.out _ _ (by assumption) | exact HS.out _ _ (Upd.drew (by assumption)) | exact HS.out _ _ Hd1.out | exact HS.out _ _ Hd1.out.drew | exact HT.out _ _ _ _ (by assumption) | exact HT.out _ _ _ _ (Upd.drew (by assumption)))
        ((go_at_call 73; (with_reducible refine (Ho.out _ (by first | exact Keeps.refl _ _ | exact (Keeps.refl _ _).drew)).mono ?_); rintro e w1 ⟨s1, kn, rfl, u1, p1⟩))
      have hst1 := (Hs.out w1 s1 kn p1).2
      have Hi2 := Lib.hid hst1
      clear hst1 u1 p1
      go_wp2_with fail
      go_roundw
      case rel => exact ⟨k + 1, s1, _, by omega, by go_num, Hi2.out⟩
      case measure => simp [intOf]; omega
    · obtain rfl : k = fs.length := by omega
      obtain ⟨hl3, hwt3, hin3⟩ := inv.bd hwl Hbd.out hfl
      have hrw := inv.row
      rw [← hl3] at hrw
      have t1 := inv.steps; have t2 := inv.le; have t3 := inv.cnt
      have t4 := Hst.out; have t5 := Hcnt.out
      unfold costM at t4 t5
      have hm12 : ts.length * 2 ^ h.n ≤ 12 * 2 ^ h.n := Nat.mul_le_mul_right _ (by omega)
      have hno1 : ¬ own h s (w.heap.size + 1) := fun e => by have := Hlt.out _ e; omega
      have hfl2 : w.heap.size + 1 < w2.heap.size := Hf2.out.cells.2.2
      have hset := settle_any h (by omega) s' ⟨w.heap.size + 1, w.heap.size⟩ w.heap.size (w.heap.size + 2) ts.length 0 a ts wr inv.updW.dia ((inv.upd.block hfl2 hno1 (by omega)).trans Hf2.out) (inv.upd.no hfl2 hno1) (by (try dsimp only); omega) inv.no (by rw [hl3] at hrw ⊢; exact hrw) (by omega) hin3 (by omega) (by omega) (by omega) (by omega)
      rw [hl3] at hset
      (try dsimp only at hset)
      have Hset := Lib.hid hset; have Hinv := Lib.hid inv; have Hl3 := Lib.hid hl3; have Hm12 := Lib.hid hm12
      clear hset inv hl3 hwt3 hin3 hrw t1 t2 t3 t4 t5 hm12
      go_wp2_with fail
      refine Hset.out.mono ?_
      rintro e w3 ⟨s3, us, sum0, rfl, u3, row3, sm⟩
      obtain ⟨hF3, hr3, hU3, hq1, hq2, hwu⟩ := most_mid Hd.out Hlow.out hB Htab.out Hf2.out Hm2.out Hinv.out hwl Hbd.out hfl ha u3 row3 sm
      have hb12 := box1_at (w := w3) (x := .int .i32 a) (y := .slice (some ⟨w.heap.size + 2, 0, none⟩) us.length fs.length) (t := 131)
      have hR1 : Keeps (fun _ => False) w3 (w3.alloc (.cells #[.int .i32 a, .slice (some ⟨w.heap.size + 2, 0, none⟩) us.length fs.length] 131)) := (Keeps.refl _ _).alloc _
      have hs12 : w3.heap.size < (w3.alloc (.cells #[.int .i32 a, .slice (some ⟨w.heap.size + 2, 0, none⟩) us.length fs.length] 131)).heap.size := by simp
      have hF4 := hF3.quiet hR1
      have hr4 := hr3.on (G := fun _ => False) ((FUpd.refl hF3.dia).quiet hR1) (fun _ _ e => e)
      have hU4 := hU3.quiet hR1
      have hno3 : ¬ own h s3 w3.heap.size := fun e => by have := hF3.dia.lt _ e; omega
      have hws : w.heap.size ≤ w3.heap.size := hU3.keeps.size
      have hws2 : w.heap.size + 2 < w3.heap.size := row3.lt.2
      have t4 := Hst.out; have t5 := Hcnt.out
      unfold costM at t4 t5
      have m1 := sm.steps; have m2 := sm.le; have m3 := sm.cnt; have m4 := Hm12.out
      have i1 := Hinv.out.steps; have i2 := Hinv.out.le; have i3 := Hinv.out.cnt
      have hP : 0 < 2 ^ h.n := Nat.two_pow_pos _
      have hcR : costR h.n = 12 + 24 * 2 ^ h.n + costB h.n h.n := by unfold costR costK; omega
      have hnR : h.n * 2 ^ h.n ≤ h.n * costR h.n := Nat.mul_le_mul_left _ (by omega)
      have hbest := best_spec B h hn _ h.n hn s3 (fun _ => none) 0 a (some ⟨w.heap.size + 2, 0, none⟩) fs.length us lowest 0 _ (hr4.hyp hF4 (by omega) (by unfold FB lowest; omega) (by unfold FB lowest; omega) (by omega) (by omega) (by omega) (by omega))
      have hst4 : ((costB h.n h.n + h.n * costR h.n : Nat) : Int) ≤ s3.steps := by omega
      have hst5 : s3.steps ≤ 4611686018427387904 := by omega
      have hcn4 : s3.cnt + 2 * (costB h.n h.n + h.n * costR h.n) < 2 ^ 30 := by omega
      have hnP : 2 ^ h.n + h.n * 2 ^ h.n < 1099511627776 := by omega
      have Hbest := Lib.hid hbest; have Sm := Lib.hid sm; have HF3 := Lib.hid hF3; have HF4 := Lib.hid hF4; have Hr4 := Lib.hid hr4; have HU4 := Lib.hid hU4; have Hb12 := Lib.hid hb12; have Hst4 := Lib.hid hst4; have Hcn4 := Lib.hid hcn4; have HnP := Lib.hid hnP; have Hwu := Lib.hid hwu
      clear hbest sm hF3 hF4 hr3 hr4 hU3 hU4 hb12 hR1 u3 row3 t4 t5 m1 m2 m3 m4 i1 i2 i3 hP hcR hnR hst4 hcn4 hnP hwu
      go_wp2_with fail
      refine Hbest.out.mono ?_
      generalize (w3.alloc (.cells #[.int .i32 a, .slice (some ⟨w.heap.size + 2, 0, none⟩) us.length fs.length] 131)) = W3 at *
      rintro e w4 ⟨s4, bf4, cb4, res, rfl, p⟩
      have ha3 : a < s3.nodes.length := Hr4.out.ha
      obtain ⟨hR, hres1, hres2⟩ := rinv_start HF3.out.dia.inv.wf ha3 h0 Hr4.out.inT Hwu.out p
      have hr5 := Hr4.out.on p.upd (fun g e hg => (Hr4.out.out g e).2.2 hg)
      have hbx := (p.upd.block hs12 hno3 (by (try dsimp only); omega)).trans Hb12.out
      have hU5 : Upd w w4 h s s4 := (((HU4.out.toF (G := fun b => b = w.heap.size)).trans p.upd)).toUpd (fun b e => by omega)
      have hlv := lvAt_of (f := ⟨w.heap.size + 1, w.heap.size⟩) (Hl.out.upd hU5) (fun hpos ao cap b off e1 e2 => by
        obtain ⟨ao', cap', e3, o⟩ := Hl.out.ex
        have e4 := e1.symm.trans e3
        simp only [Value.slice.injEq] at e4
        have := (o.out b off (by simpa using hpos) (e4.1.symm.trans e2)).lt
        (try dsimp only)
        omega)
      have p1 := p.steps; have p2 := p.le; have p3 := p.cnt; have p4 := p.cb
      have t4 := Hst4.out; have t5 := Hcn4.out; have t6 := HnP.out
      have hreach := reach_any B h hn _ s4 bf4 cb4 a (w.heap.size + 2) fs.length us res w4 p.fin hr5 hlv hov hR (by omega) (by omega) (by omega) (by omega) (by omega) (by omega)
      obtain ⟨b1, b2, b3, b4⟩ := at_two hbx
      have hw1 : IntKind.i64.wrap (sum0 + res) = sum0 + res := IntWalk.i64_in _ (by omega)
      have hs4 : w.heap.size ≤ w4.heap.size := hU5.keeps.size
      have Hreach := Lib.hid hreach; have P := Lib.hid p; have HU5 := Lib.hid hU5
      clear hreach p hU5 hlv hR hr5 hbx p1 p2 p3 p4 t4 t5 t6 Hbest
      go_wp2_with fail
      refine Hreach.out.mono ?_
      rintro e w5 ⟨g, vs, s5, bf5, cb5, rfl, hrow5, hreached, hF5, hu5⟩
      have hfin : MostEnd w h s (List.range h.n) a fs ws (.returned (.tuple #[.int .i64 (sum0 + res), .slice (some ⟨g, 0, none⟩) h.n h.n])) w5 :=
        ⟨g, vs, s5, sum0 + res, rfl, hrow5.low hs4, best_all Hinv.out hwl Hd.out.inv.wf ha Sm.out HF3.out.dia.inv.wf P.out hreached, (((HU5.out.toF (G := fun b => b = w.heap.size)).trans hu5)).mono (fun b e => Or.inr (by omega))⟩
      have Hfin := Lib.hid hfin
      clear hfin hrow5 hreached hF5 hu5
      go_wp2_with fail
      refine bodyPost_ret (v := .tuple #[.int .i64 (sum0 + res), .slice (some ⟨g, 0, none⟩) h.n h.n]) ?_ rfl Hfin.out
      simp [results, Tryz.results54, go_sem]
end Go.Proofs.YtngjjmniigkeoaaGreatDoor
