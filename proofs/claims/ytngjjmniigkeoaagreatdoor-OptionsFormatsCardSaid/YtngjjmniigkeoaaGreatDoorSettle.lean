/- What a call of the finder's leaves; not, with levels; the steps of settle (plain). settle: the rest of terms. -/
import Derived.Test.YtngjjmniigkeoaaGreatDoorTDel
import Derived.Test.YtngjjmniigkeoaaGreatDoorAll
namespace Go.Proofs.YtngjjmniigkeoaaGreatDoor
open Go Go.RowKit Go.WideMaps Go.Maps
set_option linter.unusedSimpArgs false
set_option linter.unusedVariables false

structure FUpd (G : Nat → Prop) (w w' : World) (h : DH) (s s' : DS) : Prop where
  dia : Dia w' h s'
  ext : Ext s.nodes s'.nodes
  keeps : Keeps (fun k => own h s k ∨ G k) w w'
  own : ∀ k, own h s' k → own h s k ∨ w.heap.size ≤ k
theorem FUpd.refl {G : Nat → Prop} {w : World} {h : DH} {s : DS} (d : Dia w h s) : FUpd G w w h s s := ⟨d, Ext.refl _, Keeps.refl _ _, fun _ hk => Or.inl hk⟩
theorem Upd.toF {G : Nat → Prop} {w w' : World} {h : DH} {s s' : DS} (u : Upd w w' h s s') : FUpd G w w' h s s' := ⟨u.dia, u.ext, u.keeps.mono (fun k hk => Or.inl (Or.inl hk)), u.own⟩
theorem FUpd.mono {G G' : Nat → Prop} {w w' : World} {h : DH} {s s' : DS} (u : FUpd G w w' h s s') (hG : ∀ k, G k → G' k ∨ w.heap.size ≤ k) : FUpd G' w w' h s s' :=
  ⟨u.dia, u.ext, u.keeps.mono (fun k hk => by
    rcases hk with h1 | h1
    · exact Or.inl (Or.inl h1)
    · rcases hG k h1 with h2 | h2
      · exact Or.inl (Or.inr h2)
      · exact Or.inr h2), u.own⟩
theorem FUpd.trans {G : Nat → Prop} {a b c : World} {h : DH} {s s' s'' : DS} (u : FUpd G a b h s s') (v : FUpd G b c h s' s'') : FUpd G a c h s s'' :=
  ⟨v.dia, u.ext.trans v.ext, u.keeps.trans v.keeps (fun k hk => by
    rcases hk with h1 | h1
    · rcases u.own k h1 with h2 | h2
      · exact Or.inl (Or.inl h2)
      · exact Or.inr h2
    · exact Or.inl (Or.inr h1)), fun k hk => by
    rcases v.own k hk with h1 | h1
    · exact u.own k h1
    · exact Or.inr (Nat.le_trans u.keeps.size h1)⟩
/-- A side effect that does not touch the diagrams. -/
theorem FUpd.side {G : Nat → Prop} {a w w' : World} {h : DH} {s s' : DS} {S : Nat → Prop} (u : FUpd G a w h s s') (k : Keeps S w w') (h1 : ∀ b, S b → G b ∨ a.heap.size ≤ b) (h2 : ∀ b, S b → ¬ Go.Proofs.YtngjjmniigkeoaaGreatDoor.own h s' b) : FUpd G a w' h s s' :=
  ⟨u.dia.kept (fun j hj => k.block j (u.dia.lt j hj) (fun e => h2 j e hj)), u.ext, u.keeps.trans k (fun b hb => by
    rcases h1 b hb with h3 | h3
    · exact Or.inl (Or.inr h3)
    · exact Or.inr h3), u.own⟩
theorem FUpd.drew {G : Nat → Prop} {a w : World} {h : DH} {s s' : DS} (u : FUpd G a w h s s') : FUpd G a w.drew h s s' := u.side (S := fun _ => False) (Keeps.refl _ _).drew (fun _ e => e.elim) (fun _ e => e.elim)
theorem FUpd.quiet {G : Nat → Prop} {a w w' : World} {h : DH} {s s' : DS} (u : FUpd G a w h s s') (k : Keeps (fun _ => False) w w') : FUpd G a w' h s s' := u.side k (fun _ e => e.elim) (fun _ e => e.elim)
theorem FUpd.block {G : Nat → Prop} {w w' : World} {h : DH} {s s' : DS} (u : FUpd G w w' h s s') {b : Nat} (hb : b < w.heap.size) (h1 : ¬ Go.Proofs.YtngjjmniigkeoaaGreatDoor.own h s b) (h2 : ¬ G b) : w'.heap[b]? = w.heap[b]? := u.keeps.block b hb (fun e => e.elim h1 h2)
theorem FUpd.no {G : Nat → Prop} {w w' : World} {h : DH} {s s' : DS} (u : FUpd G w w' h s s') {b : Nat} (hb : b < w.heap.size) (h1 : ¬ Go.Proofs.YtngjjmniigkeoaaGreatDoor.own h s b) : ¬ Go.Proofs.YtngjjmniigkeoaaGreatDoor.own h s' b := fun e => by
  rcases u.own b e with h2 | h2
  · exact h1 h2
  · omega
theorem Upd.quiet {a w w' : World} {h : DH} {s s' : DS} (u : Upd a w h s s') (k : Keeps (fun _ => False) w w') : Upd a w' h s s' := upd_side u k (fun _ e => e.elim) (fun _ e => e.elim)

structure NMean (h : DH) (s : DS) (a : Nat) (s' : DS) (k : Nat) : Prop where
  ext : Ext s.nodes s'.nodes
  hk : k < s'.nodes.length
  mean : ∀ σ, sem s'.nodes k σ = !(sem s.nodes a σ)
  low : (ndAt s.nodes a).lev ≤ (ndAt s'.nodes k).lev
  steps : s.steps ≤ s'.steps + (2 ^ h.n : Nat)
  le : s'.steps ≤ s.steps
  cnt : s'.cnt ≤ s.cnt + 2 * 2 ^ h.n
def NEnd (W : World) (h : DH) (s : DS) (a : Nat) (e : Ending) (w' : World) : Prop := ∃ s' k, e = .returned (.int .i32 (k : Nat)) ∧ Upd W w' h s s' ∧ NMean h s a s' k

set_option maxHeartbeats 800000 in
theorem notL_any (h : DH) (hn : h.n < 2 ^ 31) (s : DS) (a : Nat) (w : World) (d : Dia w h s) (ha : a < s.nodes.length) (hst : ((2 ^ h.n : Nat) : Int) ≤ s.steps) (hst2 : s.steps ≤ 4611686018427387904) (hcnt : s.cnt + 2 * 2 ^ h.n < 2 ^ 30) :
    Calls Tryz.prog 92 #[.pointer (some ⟨h.b, 0, none⟩), .int .i32 a] w (NEnd w h s a) := by
  have h2 := d.inv.wf.two
  have h2p : 0 < 2 ^ h.n := Nat.two_pow_pos _
  have hll := d.inv.wf.lev_le ha
  have hl0 : (ndAt s.nodes 0).lev = h.n := by rw [d.inv.wf.no]
  have hj := (join_any h (-6) (by omega) hn h.n s 0 a w d (by omega) ha (by omega) (by omega) hst2 hcnt).mono (R' := NEnd w h s a) (by
    rintro e w' ⟨s', k, he, p⟩
    refine ⟨s', k, he, p.upd, p.upd.ext, p.hk, fun σ => ?_, ?_, ?_, p.le, ?_⟩
    · rw [p.mean, sem_no]; cases sem s.nodes a σ <;> rfl
    · have := p.lev; omega
    · have := p.steps; omega
    · have := p.cnt; omega)
  have Hj := Lib.hid hj
  clear hj d
  go_enter Tryz.func92, Tryz.ntmps92
  go_wp2_with fail
  refine Hj.out.mono ?_
  rintro e w1 ⟨s1, k, rfl, p1⟩
  go_wp2_with fail
  go_ret
  exact ⟨s1, k, rfl, p1⟩

/-! ### the first steps of settle -/
def Wt (ts : List (Nat × Int)) : Int := hiT ts - loT ts
theorem wt_mem {ts : List (Nat × Int)} : ∀ t ∈ ts, loT ts ≤ t.2 ∧ t.2 ≤ hiT ts := by
  induction ts with
  | nil => intro t ht; simp at ht
  | cons u ts ih =>
    intro t ht
    have e1 : hiT (u :: ts) = max 0 u.2 + hiT ts := rfl
    have e2 : loT (u :: ts) = min 0 u.2 + loT ts := rfl
    have h1 := hiT_nonneg ts
    have h2 := loT_nonpos ts
    rcases List.mem_cons.1 ht with rfl | h
    · omega
    · have := ih t h; omega
theorem getD_mem {ts : List (Nat × Int)} {k : Nat} (hk : k < ts.length) : ts.getD k (0, 0) ∈ ts := by simp [List.getD, hk]
theorem half2_wt {l l' : List Nd} {ts ys : List (Nat × Int)} {sum : Int} (h : Half2 l ts l' ys sum) : Wt ys ≤ Wt ts ∧ loT ts ≤ sum ∧ sum ≤ hiT ts := by
  have h1 := h.hi; have h2 := h.lo
  have h3 := hiT_nonneg ys; have h4 := loT_nonpos ys
  unfold Wt
  omega

structure P1 (h : DH) (s : DS) (L : Nat) (ts : List (Nat × Int)) (k : Nat) (s' : DS) (ys : List (Nat × Int)) (sum : Int) : Prop where
  ext : Ext s.nodes s'.nodes
  len : ys.length = ts.length
  half : Half2 s.nodes ts s'.nodes ys sum
  inT : InT s'.nodes L ys
  two : ∀ j, j < k → (ys.getD j (0, 0)).1 = 0 ∨ 2 ≤ (ys.getD j (0, 0)).1
  steps : s.steps ≤ s'.steps + (k * 2 ^ h.n : Nat)
  le : s'.steps ≤ s.steps
  cnt : s'.cnt ≤ s.cnt + 2 * (k * 2 ^ h.n)
theorem P1.start {h : DH} {s : DS} {L : Nat} {ts : List (Nat × Int)} (hi : InT s.nodes L ts) : P1 h s L ts 0 s ts 0 := ⟨Ext.refl _, rfl, Half2.refl _ _, hi, fun j hj => by omega, by omega, Int.le_refl _, by omega⟩

theorem P1.keep {h : DH} {s s' s1 : DS} {L k kn : Nat} {ts ys : List (Nat × Int)} {sum : Int} (p : P1 h s L ts k s' ys sum) (hw : WF h.n s'.nodes) (hw1 : WF h.n s1.nodes) (hk : k < ts.length) (m : NMean h s' (ys.getD k (0, 0)).1 s1 kn) (hge : (ys.getD k (0, 0)).1 ≤ kn) : P1 h s L ts (k + 1) s1 ys sum := by
  have hlen := p.len
  have hin := p.inT _ (getD_mem (ts := ys) (k := k) (by omega))
  refine ⟨p.ext.trans m.ext, p.len, ?_, p.inT.ext m.ext, ?_, ?_, ?_, ?_⟩
  · have := p.half.trans (Half2.ext p.inT m.ext hw)
    rw [Int.add_zero] at this; exact this
  · intro j hj
    rcases Nat.lt_or_ge j k with h1 | h1
    · exact p.two j h1
    · have : j = k := by omega
      subst this
      by_cases h0 : (ys.getD j (0, 0)).1 = 1
      · exfalso
        have hz : kn = 0 := by
          apply canon hw1 (max kn 0 + 1) kn 0 m.hk (by have := hw1.two; omega) (by omega) (by omega)
          intro σ
          rw [m.mean σ, h0, sem_yes, sem_no]; rfl
        omega
      · omega
  · have := p.steps; have := m.steps; rw [Nat.add_mul]; omega
  · have := p.le; have := m.le; omega
  · have := p.cnt; have := m.cnt; rw [Nat.add_mul]; omega
theorem P1.flip {h : DH} {s s' s1 : DS} {L k kn : Nat} {ts ys : List (Nat × Int)} {sum : Int} (p : P1 h s L ts k s' ys sum) (hw : WF h.n s'.nodes) (hw1 : WF h.n s1.nodes) (hk : k < ts.length) (m : NMean h s' (ys.getD k (0, 0)).1 s1 kn) (hlt : kn < (ys.getD k (0, 0)).1) :
    P1 h s L ts (k + 1) s1 (ys.set k (kn, -(ys.getD k (0, 0)).2)) (sum + (ys.getD k (0, 0)).2) := by
  have hlen := p.len
  have hin := p.inT _ (getD_mem (ts := ys) (k := k) (by omega))
  have hi1 := p.inT.ext m.ext
  refine ⟨p.ext.trans m.ext, by simp [hlen], ?_, ?_, ?_, ?_, ?_, ?_⟩
  · have h1 := p.half.trans (Half2.ext p.inT m.ext hw)
    rw [Int.add_zero] at h1
    exact h1.trans (half2_flip (by omega) (fun σ => by rw [m.mean σ, m.ext.sem hw hin.1]))
  · intro t ht
    rcases List.mem_or_eq_of_mem_set ht with h1 | rfl
    · exact hi1 t h1
    · exact ⟨m.hk, Nat.le_trans hin.2 m.low⟩
  · intro j hj
    rcases Nat.lt_or_ge j k with h1 | h1
    · have e : (ys.set k (kn, -(ys.getD k (0, 0)).2)).getD j (0, 0) = ys.getD j (0, 0) := by simp [List.getD, List.getElem?_set, show ¬ k = j by omega]
      rw [e]; exact p.two j h1
    · have : j = k := by omega
      subst this
      have e : (ys.set j (kn, -(ys.getD j (0, 0)).2)).getD j (0, 0) = (kn, -(ys.getD j (0, 0)).2) := by simp [List.getD, show j < ys.length by omega]
      rw [e]
      by_cases h0 : kn = 1
      · exfalso
        have hz : (ys.getD j (0, 0)).1 = 0 := by
          apply canon hw (max (ys.getD j (0, 0)).1 0 + 1) _ 0 hin.1 (by have := hw.two; omega) (by omega) (by omega)
          intro σ
          have := m.mean σ
          rw [h0, sem_yes] at this
          rw [sem_no]
          cases hs : sem s'.nodes (ys.getD j (0, 0)).1 σ with
          | false => rfl
          | true => rw [hs] at this; cases this
        omega
      · show kn = 0 ∨ 2 ≤ kn
        omega
  · have := p.steps; have := m.steps; rw [Nat.add_mul]; omega
  · have := p.le; have := m.le; omega
  · have := p.cnt; have := m.cnt; rw [Nat.add_mul]; omega

/-- What settle leaves of terms. -/
structure SMean (h : DH) (s : DS) (L : Nat) (ts : List (Nat × Int)) (s' : DS) (us : List (Nat × Int)) (sum : Int) : Prop where
  ext : Ext s.nodes s'.nodes
  half : Half2 s.nodes ts s'.nodes us sum
  inT : InT s'.nodes L us
  two : Two us
  len : us.length ≤ ts.length
  steps : s.steps ≤ s'.steps + (ts.length * 2 ^ h.n : Nat)
  le : s'.steps ≤ s.steps
  cnt : s'.cnt ≤ s.cnt + 2 * (ts.length * 2 ^ h.n)
theorem settle_fin {h : DH} {s s' : DS} {L c : Nat} {ts ys zs vs : List (Nat × Int)} {sum : Int} (p : P1 h s L ts ts.length s' ys sum) (hp : vs.Perm ys) (g : Gath s'.nodes vs vs.length c zs) : SMean h s L ts s' (keepT (zs.take c)) sum := by
  have hmem : ∀ t ∈ keepT (zs.take c), t ∈ zs.take c := fun t ht => (List.mem_filter.1 ht).1
  refine ⟨p.ext, ?_, ?_, fun t ht => g.two t (hmem t ht), ?_, p.steps, p.le, p.cnt⟩
  · have h1 := ((p.half.trans (half2_perm hp)).trans g.half).trans (half2_zero s'.nodes (zs.take c))
    rw [Int.add_zero, Int.add_zero, Int.add_zero] at h1
    exact h1
  · intro t ht
    obtain ⟨u, hu, e⟩ := g.mem t (hmem t ht)
    rw [← e]
    exact p.inT u (hp.mem_iff.1 hu)
  · have h1 : (keepT (zs.take c)).length ≤ (zs.take c).length := List.length_filter_le _ _
    have h2 := g.le
    have h3 := hp.length_eq
    have h4 := p.len
    rw [List.length_take] at h1
    omega

open Go Go.RowKit Go.WideMaps Go.Maps
set_option linter.unusedSimpArgs false
set_option linter.unusedVariables false

def SettleEnd (w : World) (h : DH) (s : DS) (base g cap L al : Nat) (ts : List (Nat × Int)) (e : Ending) (w' : World) : Prop :=
  ∃ s' us sum, e = .returned (.tuple #[.agg #[.int .i32 al, .slice (some ⟨g, 0, none⟩) us.length cap], .int .i64 sum]) ∧ FUpd (fun b => b = g) w w' h s s' ∧ TRow w' base g us.length cap us ∧ SMean h s L ts s' us sum

theorem at_two {w : World} {b : Nat} {x y : Value} {t : TypeId} (h : w.heap[b]? = some (.cells #[x, y] t (0, 0))) : w.cell? ⟨b, 0, none⟩ = some x ∧ w.cell? ⟨b, 1, none⟩ = some y ∧ w.frozen? ⟨b, 0, none⟩ = false ∧ w.frozen? ⟨b, 1, none⟩ = false :=
  ⟨two0 h, two1 h, by simp [World.frozen?, h], by simp [World.frozen?, h]⟩

theorem keep2 (w : World) (g a b : Nat) (x y : Value) : Keeps (fun k => k = g) w ((w.setCell ⟨g, a, none⟩ x).setCell ⟨g, b, none⟩ y) :=
  (Keeps.setCell (S := fun k => k = g) (p := ⟨g, a, none⟩) (Keeps.refl _ w) (Or.inl rfl) x).setCell (p := ⟨g, b, none⟩) (Or.inl rfl) y
theorem app_run {w : World} {base g n cap c : Nat} {zs : List (Nat × Int)} (hr : TRow w base g n cap zs) (hc : c < n) (hn : n ≤ cap) (t : Nat × Int) :
    (Builtin.append_ #[127, 127] 127 #[.slice (some ⟨g, 0, none⟩) c cap, .slice (some ⟨w.heap.size, 0, none⟩) 1 1]).run Tryz.prog (w.alloc (.cells #[.int .i32 t.1, .int .i64 t.2] 129)) = .ok (.slice (some ⟨g, 0, none⟩) (c + 1) cap) (((w.alloc (.cells #[.int .i32 t.1, .int .i64 t.2] 129)).setCell ⟨g, c * 2, none⟩ (.int .i32 t.1)).setCell ⟨g, c * 2 + 1, none⟩ (.int .i64 t.2)) := by
  obtain ⟨i0, hi0, hz0, hz1, hz2⟩ := info_parts infoTerm
  have hr1 : TRow (w.alloc (.cells #[.int .i32 t.1, .int .i64 t.2] 129)) base g n cap zs := hr.keeps (S := fun _ => False) ((Keeps.refl _ _).alloc _) (fun e => e)
  have hrun := run_append_room_cells (P := Tryz.prog) (w.alloc (.cells #[.int .i32 t.1, .int .i64 t.2] 129)) 127 127 129 i0 Tryz.underlying127 hi0 g 0 c cap ⟨w.heap.size, 0, none⟩ 1 1 (tmCells t) (by rw [hz1]; rfl)
    (World.news_of_block (cs := #[.int .i32 t.1, .int .i64 t.2]) (t := 129) (fr := (0, 0)) (heap_alloc_new w _)) (tm_one [t] |> fun h => by simpa using h) (by omega)
    (fun j hj => by
      have h2 := flat2_len zs
      have h3 := hr1.len
      have hj2 : j < 2 := hj
      rw [hz1, Nat.zero_add, hr1.row.cellAt (c * 2 + j) (by omega), List.getElem?_eq_getElem (by omega)]; rfl)
    (fun j hj => hr1.frozen _)
  rw [hrun, hz1, Nat.zero_add]
  rfl

set_option maxRecDepth 100000 in
set_option maxHeartbeats 6400000 in
theorem settle_any (h : DH) (hn : h.n < 2 ^ 31) (s : DS) (f : FH) (base g cap L al : Nat) (ts : List (Nat × Int)) (w : World) (d : Dia w h s) (hf : FBlk w h f) (hfo : ¬ own h s f.b) (hfg : f.b ≠ g) (hgo : ¬ own h s g) (hr : TRow w base g ts.length cap ts) (hn12 : ts.length ≤ 12)
    (hin : InT s.nodes L ts) (hW : Wt ts ≤ 1099511627776) (hst : ((ts.length * 2 ^ h.n : Nat) : Int) ≤ s.steps) (hst2 : s.steps ≤ 4611686018427387904) (hcnt : s.cnt + 2 * (ts.length * 2 ^ h.n) < 2 ^ 30) :
    Calls Tryz.prog 77 #[.pointer (some ⟨f.b, 0, none⟩), .int .i32 al, .slice (some ⟨g, 0, none⟩) ts.length cap] w (SettleEnd w h s base g cap L al ts) := by
  have hgl := hr.lt
  have hcap : ts.length ≤ cap := by
    rcases hr.row.2 with ⟨e, _⟩ | ⟨g', cap', cur, e, hb, hg, hnc, _⟩
    · cases e
    · simp only [Value.slice.injEq, Option.some.injEq, Addr.mk.injEq, and_true, true_and] at e
      omega
  have hfl := hf.cells.2.2
  have hwo : ∀ j, own h s j → j < w.heap.size := d.lt
  have hbox := heap_alloc_new w (Obj.cells #[.int .i32 0, .slice none 0 0] 131)
  have hU0 : FUpd (fun b => b = g) w (w.alloc (Obj.cells #[.int .i32 0, .slice none 0 0] 131)) h s s := (FUpd.refl d).quiet ((Keeps.refl _ _).alloc _)
  have hF0 : FBlk (w.alloc (Obj.cells #[.int .i32 0, .slice none 0 0] 131)) h f := hf.keeps (S := fun _ => False) ((Keeps.refl _ _).alloc _) (fun e => e)
  have hR0 : TRow (w.alloc (Obj.cells #[.int .i32 0, .slice none 0 0] 131)) base g ts.length cap ts := hr.keeps (S := fun _ => False) ((Keeps.refl _ _).alloc _) (fun e => e)
  have hsz0 : w.heap.size < (w.alloc (Obj.cells #[.int .i32 0, .slice none 0 0] 131)).heap.size := by simp
  have Hbox := Lib.hid hbox; have HU0 := Lib.hid hU0; have HF0 := Lib.hid hF0; have HR0 := Lib.hid hR0; have Hin := Lib.hid hin; have HW := Lib.hid hW; have Hwo := Lib.hid hwo
  clear hbox hU0 hF0 hR0 hin hW hwo d hf hr
  go_enter Tryz.func77, Tryz.ntmps77
  go_wp2_with fail
  generalize (w.alloc (Obj.cells #[.int .i32 0, .slice none 0 0] 131)) = W0 at *
  have hno0 : ¬ own h s w.heap.size := fun e => by have := Hwo.out _ e; omega
  have hp0 := P1.start (h := h) Hin.out
  have hd0 := HU0.out.dia
  have hu0 : FUpd (fun b => b = g) W0 W0 h s s := FUpd.refl hd0
  have HF : ∀ wr s', FUpd (fun b => b = g) W0 wr h s s' → FBlk wr h f ∧ wr.heap[w.heap.size]? = some (.cells #[.int .i32 0, .slice none 0 0] 131 (0, 0)) ∧ ¬ own h s' f.b ∧ ¬ own h s' g ∧ ¬ own h s' w.heap.size := fun wr s' u =>
    ⟨(u.block HF0.out.cells.2.2 hfo hfg).trans HF0.out, (u.block hsz0 hno0 (by omega)).trans Hbox.out, u.no HF0.out.cells.2.2 hfo, u.no HR0.out.lt.2 hgo, u.no hsz0 hno0⟩
  have HF' := Lib.hid HF
  clear HF
  go_loopw [7, 17] (fun sm i wr => ∃ (k : Nat) (s' : DS) (ys : List (Nat × Int)) (sum : Int), k ≤ ts.length ∧ i = .int .i64 k ∧ sm = .int .i64 sum ∧ P1 h s L ts k s' ys sum ∧ FUpd (fun b => b = g) W0 wr h s s' ∧ TRow wr base g ts.length cap ys) (fun _ i _ => ts.length - (intOf i).toNat)
  case atStart => exact ⟨0, s, ts, 0, Nat.zero_le _, rfl, rfl, hp0, hu0, HR0.out⟩
  case round =>
    clear hp0 hu0 hd0
    obtain ⟨k, s', ys, sum, hk, rfl, rfl, p, u, hr⟩ := hrel
    by_cases hlt : k < ts.length
    · have hyl := hr.len
      obtain ⟨c1, c2⟩ := hr.cell (j := k) hlt
      have i1 : (k : Int) < (ts.length : Int) := by omega
      obtain ⟨hfb, hbx, hno1, hno2, hno3⟩ := HF'.out wr s' u
      have hin1 := p.inT _ (getD_mem (ts := ys) (k := k) (by omega))
      have hmul : (k + 1) * 2 ^ h.n ≤ ts.length * 2 ^ h.n := Nat.mul_le_mul_right _ (by omega)
      rw [Nat.add_mul] at hmul
      have q1 := p.steps; have q2 := p.le; have q3 := p.cnt
      have hN : ∀ (O : Obj) (W' : World), Keeps (fun _ => False) (wr.alloc O) W' → Calls Tryz.prog 92 #[.pointer (some ⟨h.b, 0, none⟩), .int .i32 (ys.getD k (0, 0)).1] W' (NEnd (wr.alloc O) h s' (ys.getD k (0, 0)).1) := fun O W' kp => by
        have uq : Upd (wr.alloc O) W' h s' s' := (Upd.refl (u.dia.alloc O)).quiet kp
        refine (notL_any h hn s' _ W' uq.dia hin1.1 (by omega) (by omega) (by omega)).mono ?_
        rintro e w1 ⟨s1, kn, he, u1, m1⟩
        exact ⟨s1, kn, he, uq.trans u1, m1⟩
      have hflip := fun (s1 : DS) (kn : Nat) (hw1 : WF h.n s1.nodes) (m : NMean h s' (ys.getD k (0, 0)).1 s1 kn) => p.flip u.dia.inv.wf hw1 hlt m
      have hkeep := fun (s1 : DS) (kn : Nat) (hw1 : WF h.n s1.nodes) (m : NMean h s' (ys.getD k (0, 0)).1 s1 kn) => p.keep u.dia.inv.wf hw1 hlt m
      have hwt := half2_wt p.half
      have hwt2 := wt_mem (ys.getD k (0, 0)) (getD_mem (ts := ys) (k := k) (by omega))
      have hW2 := HW.out
      unfold Wt at hwt hW2
      have hly := hiT_nonneg ys; have hny := loT_nonpos ys; have hlt0 := hiT_nonneg ts; have hnt0 := loT_nonpos ts
      have hdl := u.dia.lt
      have hrs := u.keeps.size
      have hdw := u.dia
      generalize hx : ys.getD k (0, 0) = t at *
      have Hx := Lib.hid hx; have Hp := Lib.hid p; have Hu := Lib.hid u; have Hr := Lib.hid hr; have HN := Lib.hid hN; have Hfl := Lib.hid hflip; have Hke := Lib.hid hkeep; have Hfb := Lib.hid hfb; have Hdl := Lib.hid hdl; have Hdw := Lib.hid hdw
      have ht2 : -1099511627776 ≤ t.2 := by omega
      have ht3 : t.2 ≤ 1099511627776 := by omega
      have hs2 : -1099511627776 ≤ sum := by omega
      have hs3 : sum ≤ 1099511627776 := by omega
      clear p u hr hN hflip hkeep hx hfb hbx hmul q1 q2 q3 hwt hwt2 hW2 hly hny hlt0 hnt0 hdl hdw hin1
      go_wp2_with fail
      have kW : Keeps (fun _ => False) wr (wr.alloc (Obj.cells #[.int .i32 t.1, .int .i64 t.2] 129)) := (Keeps.refl _ _).alloc _
      have HNW := Lib.hid (HN.out (Obj.cells #[.int .i32 t.1, .int .i64 t.2] 129))
      have htb := heap_alloc_new wr (Obj.cells #[.int .i32 t.1, .int .i64 t.2] 129)
      have hWs : wr.heap.size < (wr.alloc (Obj.cells #[.int .i32 t.1, .int .i64 t.2] 129)).heap.size := by simp
      have hdW : Dia (wr.alloc (Obj.cells #[.int .i32 t.1, .int .i64 t.2] 129)) h s' := Hdw.out.alloc _
      clear HN c1 c2
      generalize (wr.alloc (Obj.cells #[.int .i32 t.1, .int .i64 t.2] 129)) = W at *
      have hfW := Hfb.out.keeps kW (fun e => e)
      have hnoT : ¬ own h s' wr.heap.size := fun e => by have := Hdl.out _ e; omega
      have hS : ∀ W' s1, Upd W W' h s' s1 → W'.cell? ⟨f.b, 0, none⟩ = some (.pointer (some ⟨h.b, 0, none⟩)) ∧ W'.cell? ⟨wr.heap.size, 0, none⟩ = some (.int .i32 t.1) := fun W' s1 u1 =>
        ⟨(hfW.keeps u1.keeps hno1).cells.1, (at_two ((u1.keeps.block _ hWs hnoT).trans htb)).1⟩
      have hT : ∀ W' s1, Upd W W' h s' s1 → W'.cell? ⟨wr.heap.size, 1, none⟩ = some (.int .i64 t.2) := fun W' s1 u1 => (at_two ((u1.keeps.block _ hWs hnoT).trans htb)).2.1
      have HS := Lib.hid hS; have HT := Lib.hid hT; have Hd1 := Lib.hid (Upd.refl hdW); have HkW := Lib.hid kW
      clear hS hT hdW htb hfW kW
      go_region_held3 (fun W' => W'.cell? ⟨f.b, 0, none⟩ = some (.pointer (some ⟨h.b, 0, none⟩)) ∧ W'.cell? ⟨wr.heap.size, 0, none⟩ = some (.int .i32 t.1))
        (first | exact HS.out _ _ (by assumption) | exact HS.out _ _ (Upd.drew (by assumption)) | exact HS.out _ _ Hd1.out | exact HS.out _ _ Hd1.out.drew)
        ((go_at_call 92; (with_reducible refine (HNW.out _ (by first | exact Keeps.refl _ _ | exact (Keeps.refl _ _).drew)).mono ?_); rintro e w1 ⟨s1, kn, rfl, u1, m1⟩))
      obtain ⟨d1, d2⟩ := HS.out _ _ u1
      have d3 := HT.out _ _ u1
      have hwf1 := u1.dia.inv.wf
      have hgw : g < wr.heap.size := Hr.out.lt.2
      have hgW : g < W.heap.size := by omega
      have hrW := Hr.out.keeps HkW.out (fun e => e)
      have hr1 := hrW.of_block (u1.keeps.block g hgW hno2)
      have hu1 : FUpd (fun b => b = g) W0 w1 h s s1 := (Hu.out.quiet HkW.out).trans u1.toF
      have hng1 : ¬ own h s1 g := fun e => by
        rcases u1.own g e with e1 | e1
        · exact hno2 e1
        · omega
      by_cases hltk : kn < t.1
      · have hp2 := Hfl.out s1 kn hwf1 m1 hltk
        have hr2 := hr1.set (j := k) hlt kn (-t.2)
        have hu2 : FUpd (fun b => b = g) W0 ((w1.setCell ⟨g, k * 2, none⟩ (.int .i32 kn)).setCell ⟨g, k * 2 + 1, none⟩ (.int .i64 (-t.2))) h s s1 := hu1.side (S := fun b => b = g) (keep2 _ _ _ _ _ _) (fun b e => Or.inl e) (fun b e => by subst e; exact hng1)
        obtain ⟨e1, e2⟩ := hr1.cell (j := k) hlt
        have f1 := hr1.frozen (k * 2)
        have f2 := hr1.frozen (k * 2 + 1)
        have hw1 : IntKind.i64.wrap (sum + t.2) = sum + t.2 := IntWalk.i64_in _ (by omega)
        have hw2 : IntKind.i64.wrap (-t.2) = -t.2 := IntWalk.i64_in _ (by omega)
        have Hp2 := Lib.hid hp2; have Hr2 := Lib.hid hr2; have Hu2 := Lib.hid hu2
        clear hp2 hr2 hu2 hr1 hu1 hrW u1 m1 hwf1
        go_wp2_with fail
        go_roundw
        case rel => exact ⟨k + 1, s1, _, _, by omega, by go_num, rfl, Hp2.out, Hu2.out, Hr2.out⟩
        case measure => simp [intOf]; omega
      · have hp2 := Hke.out s1 kn hwf1 m1 (by omega)
        have Hp2 := Lib.hid hp2; have Hr2 := Lib.hid hr1; have Hu2 := Lib.hid hu1
        clear hp2 hr1 hu1 hrW u1 m1 hwf1
        go_wp2_with fail
        go_roundw
        case rel => exact ⟨k + 1, s1, _, _, by omega, by go_num, rfl, Hp2.out, Hu2.out, Hr2.out⟩
        case measure => simp [intOf]; omega
    · obtain rfl : k = ts.length := by omega
      have hyl := hr.len
      have hsort := tsort_any base g ts.length cap ys wr hr hn12
      obtain ⟨hfb, hbx, hno1, hno2, hno3⟩ := HF'.out wr s' u
      have Hs := Lib.hid hsort; have Hp := Lib.hid p; have Hu := Lib.hid u
      clear hsort p u hr hfb hbx
      go_wp2_with fail
      refine Hs.out.mono ?_
      rintro e w2 ⟨rfl, vs, inv⟩
      have hu2 : FUpd (fun b => b = g) W0 w2 h s s' := Hu.out.side (S := fun b => b = g) inv.keeps (fun b e => Or.inl e) (fun b e => by subst e; exact hno2)
      have hvl : vs.length = ts.length := inv.row.len
      have hg0 := Gath.start s'.nodes vs
      have hr2 := inv.row
      have Hperm := Lib.hid inv.perm
      have h0c : (0 : Int) ≤ (cap : Int) := by omega
      clear inv Hs
      go_wp2_with fail
      go_loopw [11, 52] (fun v i wr => ∃ (k c : Nat) (zs : List (Nat × Int)), k ≤ ts.length ∧ v = .slice (some ⟨g, 0, none⟩) c cap ∧ i = .int .i64 k ∧ Gath s'.nodes vs k c zs ∧ FUpd (fun b => b = g) W0 wr h s s' ∧ TRow wr base g ts.length cap zs) (fun _ i _ => ts.length - (intOf i).toNat)
      case atStart => exact ⟨0, 0, vs, Nat.zero_le _, rfl, rfl, hg0, hu2, hr2⟩
      case round =>
        clear hg0 hu2 hr2
        obtain ⟨k, c, zs, hk, rfl, rfl, gth, u, hr⟩ := hrel
        have hzl := hr.len
        have hck := gth.le
        by_cases hlt : k < ts.length
        · have hat := gth.at (by omega)
          obtain ⟨c1, c2⟩ := hr.cell (j := k) hlt
          rw [hat] at c1 c2
          have hsk := gth.skip (by omega)
          have hpu := gth.push (by omega)
          have htw : (vs.getD k (0, 0)).1 = 0 ∨ 2 ≤ (vs.getD k (0, 0)).1 := by
            have h1 := Hperm.out.mem_iff.1 (getD_mem (ts := vs) (k := k) (by omega))
            obtain ⟨j, hj, e⟩ := List.getElem_of_mem h1
            have h2 := Hp.out.two j (by have := Hp.out.len; omega)
            have e2 : ys.getD j (0, 0) = ys[j] := by simp [List.getD, hj]
            rw [e2, e] at h2
            exact h2
          have hput : ∀ c', c = c' + 1 → (zs.getD c' (0, 0)).1 = (vs.getD k (0, 0)).1 → Gath s'.nodes vs (k + 1) c (zs.set c' ((zs.getD c' (0, 0)).1, (zs.getD c' (0, 0)).2 + (vs.getD k (0, 0)).2)) := fun c' e he => by subst e; exact gth.put (c := c') (by omega) he
          have hcn : c < ts.length := by omega
          have hwp : Wt ts ≤ 1099511627776 := HW.out
          have hmg : ∀ c', c = c' + 1 → (zs.getD c' (0, 0)).1 = (vs.getD k (0, 0)).1 → -1099511627776 ≤ (zs.getD c' (0, 0)).2 + (vs.getD k (0, 0)).2 ∧ (zs.getD c' (0, 0)).2 + (vs.getD k (0, 0)).2 ≤ 1099511627776 := by
            intro c' e he
            subst e
            have g2 := gth.put (c := c') (by omega) he
            have hmem : ((zs.getD c' (0, 0)).1, (zs.getD c' (0, 0)).2 + (vs.getD k (0, 0)).2) ∈ (zs.set c' ((zs.getD c' (0, 0)).1, (zs.getD c' (0, 0)).2 + (vs.getD k (0, 0)).2)).take (c' + 1) := by
              rw [take_set_last _ _ _ (by omega)]; exact List.mem_append_right _ (List.mem_singleton.2 rfl)
            have h1 := wt_mem _ hmem
            simp only at h1
            have h2 := g2.hi; have h3 := g2.lo
            have h4 := hiT_take_le vs (k + 1)
            have h5 : loT vs ≤ loT (vs.take (k + 1)) := by
              have e1 : loT (vs.take (k + 1) ++ vs.drop (k + 1)) = loT (vs.take (k + 1)) + loT (vs.drop (k + 1)) := addT_append _ _ _
              rw [List.take_append_drop] at e1
              have := loT_nonpos (vs.drop (k + 1))
              omega
            have e6 : hiT vs = hiT ys := addT_perm _ Hperm.out
            have e7 : loT vs = loT ys := addT_perm _ Hperm.out
            have h8 := half2_wt Hp.out.half
            have h9 := hiT_nonneg ys; have h10 := loT_nonpos ys
            unfold Wt at h8 hwp
            omega
          generalize hx : vs.getD k (0, 0) = t at *
          have Hsk := Lib.hid hsk; have Hpu := Lib.hid hpu; have Hput := Lib.hid hput; have Hu := Lib.hid u; have Hr := Lib.hid hr; have Hmg := Lib.hid hmg; have Hx := Lib.hid hx
          have i1 : (k : Int) < (ts.length : Int) := by omega
          have hwr : ∀ o, TRow (wr.alloc o) base g ts.length cap zs := fun o => hr.keeps (S := fun _ => False) ((Keeps.refl _ _).alloc o) (fun e => e)
          have Hwr := Lib.hid hwr
          clear hsk hpu hput u hr hmg hat gth hwp hwr hx
          by_cases hc0 : c = 0
          · subst hc0
            go_wp2_with fail
            go_quiet (fail)
            have htb := heap_alloc_new wr (Obj.cells #[.int .i32 t.1, .int .i64 t.2] 129)
            have kW : Keeps (fun _ => False) wr ((wr.alloc (Obj.cells #[.int .i32 t.1, .int .i64 t.2] 129)).drewN nq) := ((Keeps.refl _ _).alloc _).drewN _
            have htb2 : ((wr.alloc (Obj.cells #[.int .i32 t.1, .int .i64 t.2] 129)).drewN nq).heap[wr.heap.size]? = some (.cells #[.int .i32 t.1, .int .i64 t.2] 129 (0, 0)) := htb
            clear htb c1 c2
            generalize (wr.alloc (Obj.cells #[.int .i32 t.1, .int .i64 t.2] 129)).drewN nq = W at *
            obtain ⟨b1, b2, b3, b4⟩ := at_two htb2
            have hrW := Hr.out.keeps kW (fun e => e)
            have huW := Hu.out.quiet kW
            clear kW htb2
            rcases htw with h0 | h0
            · have hgp := Hsk.out h0
              have Hr3 := Lib.hid hrW; have Hu3 := Lib.hid huW; have Hg3 := Lib.hid hgp
              clear hgp hrW huW
              have hz : ((t.1 : Int) != 0) = false := by simp [h0]
              go_wp2_with fail
              go_roundw
              case rel => exact ⟨k + 1, _, _, by omega, rfl, by go_num, Hg3.out, Hu3.out, Hr3.out⟩
              case measure => simp [intOf]; omega
            · have hrun := app_run hrW hcn hcap t
              have hr3 := (hrW.keeps (S := fun _ => False) ((Keeps.refl _ _).alloc (.cells #[.int .i32 t.1, .int .i64 t.2] 129)) (fun e => e)).set hcn t.1 t.2
              have hu3 : FUpd (fun b => b = g) W0 (((W.alloc (.cells #[.int .i32 t.1, .int .i64 t.2] 129)).setCell ⟨g, 0 * 2, none⟩ (.int .i32 t.1)).setCell ⟨g, 0 * 2 + 1, none⟩ (.int .i64 t.2)) h s s' := (huW.quiet ((Keeps.refl _ _).alloc _)).side (S := fun b => b = g) (keep2 _ _ _ _ _ _) (fun b e => Or.inl e) (fun b e => by subst e; exact hno2)
              have hgp := Hpu.out h0
              have Hr3 := Lib.hid hr3; have Hu3 := Lib.hid hu3; have Hg3 := Lib.hid hgp
              clear hr3 hu3 hgp hrW huW
              have hz : ((t.1 : Int) != 0) = true := by rw [bne_iff_ne]; omega
              go_wp2_with (at_builtin; refine Lib.wpList_append_run _ rfl _ _ _ _ rfl _ _ (by rfl) (by rfl) _ _ hrun ?_)
              go_roundw
              case rel => exact ⟨k + 1, _, _, by omega, rfl, by go_num, Hg3.out, Hu3.out, Hr3.out⟩
              case measure => simp [intOf]; omega
          · obtain ⟨c', rfl⟩ : ∃ c', c = c' + 1 := ⟨c - 1, by omega⟩
            have hpt := Hput.out c' rfl
            have hmg := Hmg.out c' rfl
            obtain ⟨e1, e2⟩ := Hr.out.cell (j := c') (by omega)
            have hgw : g < wr.heap.size := Hr.out.lt.2
            have j1 : (0 : Int) ≤ (c' : Int) := by omega
            have j2 : (c' : Int) < (c' : Int) + 1 := by omega
            have j3 : (c' : Int) < ((c' + 1 : Nat) : Int) := by omega
            generalize hz0 : zs.getD c' (0, 0) = z at *
            have HZ := Lib.hid hz0
            clear hz0
            have Hpt := Lib.hid hpt; have Hmg2 := Lib.hid hmg
            clear hpt hmg Hput Hmg
            by_cases heq : z.1 = t.1
            · have hq : ((z.1 : Int) == (t.1 : Int)) = true := by simp [heq]
              have Heq := Lib.hid heq
              clear heq
              go_wp2_with fail
              go_quiet (fail)
              have htb := heap_alloc_new wr (Obj.cells #[.int .i32 t.1, .int .i64 t.2] 129)
              have kW : Keeps (fun _ => False) wr ((wr.alloc (Obj.cells #[.int .i32 t.1, .int .i64 t.2] 129)).drewN nq) := ((Keeps.refl _ _).alloc _).drewN _
              have htb2 : ((wr.alloc (Obj.cells #[.int .i32 t.1, .int .i64 t.2] 129)).drewN nq).heap[wr.heap.size]? = some (.cells #[.int .i32 t.1, .int .i64 t.2] 129 (0, 0)) := htb
              clear htb c1 c2
              generalize (wr.alloc (Obj.cells #[.int .i32 t.1, .int .i64 t.2] 129)).drewN nq = W at *
              obtain ⟨b1, b2, b3, b4⟩ := at_two htb2
              have hrW := Hr.out.keeps kW (fun e => e)
              have huW := Hu.out.quiet kW
              clear kW htb2
              have hgp := Hpt.out Heq.out
              obtain ⟨m1, m2⟩ := Hmg2.out Heq.out
              obtain ⟨r1, r2⟩ := hrW.cell (j := c') (by omega)
              have rz : zs.getD c' (0, 0) = z := HZ.out
              rw [rz] at r1 r2
              have fz := hrW.frozen (c' * 2 + 1)
              have hw1 : IntKind.i64.wrap (z.2 + t.2) = z.2 + t.2 := IntWalk.i64_in _ (by omega)
              have hr3 := hrW.setW (j := c') (by omega) (z.2 + t.2)
              rw [rz] at hr3
              have hu3 : FUpd (fun b => b = g) W0 (W.setCell ⟨g, c' * 2 + 1, none⟩ (.int .i64 (z.2 + t.2))) h s s' := huW.side (S := fun b => b = g) (Keeps.setCell (S := fun b => b = g) (p := ⟨g, c' * 2 + 1, none⟩) (Keeps.refl _ _) (Or.inl rfl) _) (fun b e => Or.inl e) (fun b e => by subst e; exact hno2)
              have hfin : ∀ V : World, V = (W.setCell ⟨g, c' * 2 + 1, none⟩ (.int .i64 (z.2 + t.2))).drew ∨ V = W.setCell ⟨g, c' * 2 + 1, none⟩ (.int .i64 (z.2 + t.2)) → FUpd (fun b => b = g) W0 V h s s' ∧ TRow V base g ts.length cap (zs.set c' (z.1, z.2 + t.2)) := by
                rintro V (rfl | rfl)
                · exact ⟨hu3.drew, hr3.of_block rfl⟩
                · exact ⟨hu3, hr3⟩
              have Hfin := Lib.hid hfin; have Hg3 := Lib.hid hgp
              clear hfin hgp hr3 hu3 hrW huW
              go_wp2_with fail
              go_region
              all_goals
                go_wp2_with fail
                go_roundw
                case rel => exact ⟨k + 1, _, _, by omega, rfl, by go_num, Hg3.out, (Hfin.out _ (by first | exact Or.inl rfl | exact Or.inr rfl)).1, (Hfin.out _ (by first | exact Or.inl rfl | exact Or.inr rfl)).2⟩
                case measure => simp [intOf]; omega
            · have hq : ((z.1 : Int) == (t.1 : Int)) = false := beq_eq_false_iff_ne.2 (by omega)
              go_wp2_with fail
              go_quiet (fail)
              have htb := heap_alloc_new wr (Obj.cells #[.int .i32 t.1, .int .i64 t.2] 129)
              have kW : Keeps (fun _ => False) wr ((wr.alloc (Obj.cells #[.int .i32 t.1, .int .i64 t.2] 129)).drewN nq) := ((Keeps.refl _ _).alloc _).drewN _
              have htb2 : ((wr.alloc (Obj.cells #[.int .i32 t.1, .int .i64 t.2] 129)).drewN nq).heap[wr.heap.size]? = some (.cells #[.int .i32 t.1, .int .i64 t.2] 129 (0, 0)) := htb
              clear htb c1 c2
              generalize (wr.alloc (Obj.cells #[.int .i32 t.1, .int .i64 t.2] 129)).drewN nq = W at *
              obtain ⟨b1, b2, b3, b4⟩ := at_two htb2
              have hrW := Hr.out.keeps kW (fun e => e)
              have huW := Hu.out.quiet kW
              clear kW htb2
              rcases htw with h0 | h0
              · have hgp := Hsk.out h0
                have Hr3 := Lib.hid hrW; have Hu3 := Lib.hid huW; have Hg3 := Lib.hid hgp
                clear hgp hrW huW
                have hz : ((t.1 : Int) != 0) = false := by simp [h0]
                go_wp2_with fail
                go_roundw
                case rel => exact ⟨k + 1, _, _, by omega, rfl, by go_num, Hg3.out, Hu3.out, Hr3.out⟩
                case measure => simp [intOf]; omega
              · have hrun := app_run hrW hcn hcap t
                have hr3 := (hrW.keeps (S := fun _ => False) ((Keeps.refl _ _).alloc (.cells #[.int .i32 t.1, .int .i64 t.2] 129)) (fun e => e)).set hcn t.1 t.2
                have hu3 : FUpd (fun b => b = g) W0 (((W.alloc (.cells #[.int .i32 t.1, .int .i64 t.2] 129)).setCell ⟨g, (c' + 1) * 2, none⟩ (.int .i32 t.1)).setCell ⟨g, (c' + 1) * 2 + 1, none⟩ (.int .i64 t.2)) h s s' := (huW.quiet ((Keeps.refl _ _).alloc _)).side (S := fun b => b = g) (keep2 _ _ _ _ _ _) (fun b e => Or.inl e) (fun b e => by subst e; exact hno2)
                have hgp := Hpu.out h0
                have Hr3 := Lib.hid hr3; have Hu3 := Lib.hid hu3; have Hg3 := Lib.hid hgp
                clear hr3 hu3 hgp hrW huW
                have hz : ((t.1 : Int) != 0) = true := by rw [bne_iff_ne]; omega
                go_wp2_with (at_builtin; refine Lib.wpList_append_run _ rfl _ _ _ _ rfl _ _ (by rfl) (by rfl) _ _ hrun ?_)
                go_roundw
                case rel => exact ⟨k + 1, _, _, by omega, rfl, by go_num, Hg3.out, Hu3.out, Hr3.out⟩
                case measure => simp [intOf]; omega
        · obtain rfl : k = ts.length := by omega
          have hcc : c ≤ ts.length := by omega
          have hlc : (zs.take c).length = c := by rw [List.length_take]; omega
          have hrc := hr.cut (c := c) hcc [] (c * 2) (Nat.le_refl _) (by simp; omega)
          have hdel := tdelete_any base g cap (zs.take c) wr (by rw [hlc]; exact hrc) (by omega)
          rw [hlc] at hdel
          have hsm := settle_fin Hp.out Hperm.out (by rw [hvl]; exact gth)
          have hdu : ∀ e w3, DelEnd wr base g cap (zs.take c) e w3 → e = .returned (.slice (some ⟨g, 0, none⟩) (keepT (zs.take c)).length cap) ∧ FUpd (fun b => b = g) W0 w3 h s s' ∧ TRow w3 base g (keepT (zs.take c)).length cap (keepT (zs.take c)) := by
            rintro e w3 ⟨he, hr3, hk3⟩
            exact ⟨he, u.side hk3 (fun b e => Or.inl e) (fun b e => by subst e; exact hno2), hr3⟩
          have Hdel := Lib.hid hdel; have Hdu := Lib.hid hdu; have Hsm := Lib.hid hsm
          clear hdel hdu hsm hrc u hr gth
          go_wp2_with fail
          refine Hdel.out.mono ?_
          rintro e w3 he
          obtain ⟨rfl, u3, hr3⟩ := Hdu.out _ _ he
          clear he
          obtain ⟨_, hbx3, hno4, hno5, hno6⟩ := HF'.out w3 s' u3
          obtain ⟨x1, x2, x3, x4⟩ := at_two hbx3
          have hgs : g ≠ w.heap.size := by omega
          have kk : Keeps (fun b => b = w.heap.size) w3 ((w3.setCell ⟨w.heap.size, 0, none⟩ (.int .i32 al)).setCell ⟨w.heap.size, 1, none⟩ (.slice (some ⟨g, 0, none⟩) (keepT (zs.take c)).length cap)) := keep2 _ _ _ _ _ _
          have hfin : SettleEnd w h s base g cap L al ts (.returned (.tuple #[.agg #[.int .i32 al, .slice (some ⟨g, 0, none⟩) (keepT (zs.take c)).length cap], .int .i64 sum])) ((w3.setCell ⟨w.heap.size, 0, none⟩ (.int .i32 al)).setCell ⟨w.heap.size, 1, none⟩ (.slice (some ⟨g, 0, none⟩) (keepT (zs.take c)).length cap)) :=
            ⟨s', _, sum, rfl, (HU0.out.trans u3).side kk (fun b e => Or.inr (by omega)) (fun b e => by subst e; exact hno6), hr3.keeps kk hgs, Hsm.out⟩
          generalize keepT (zs.take c) = us at *
          have Hfin := Lib.hid hfin
          have z1 : ((w3.setCell ⟨w.heap.size, 0, none⟩ (.int .i32 al)).setCell ⟨w.heap.size, 1, none⟩ (.slice (some ⟨g, 0, none⟩) us.length cap)).cell? ⟨w.heap.size, 0, none⟩ = some (.int .i32 al) := by
            rw [World.cell?_setCell_other (h := by intro e; cases e)]; exact World.cell?_setCell_same _ _ _ x1
          have z2 : ((w3.setCell ⟨w.heap.size, 0, none⟩ (.int .i32 al)).setCell ⟨w.heap.size, 1, none⟩ (.slice (some ⟨g, 0, none⟩) us.length cap)).cell? ⟨w.heap.size, 1, none⟩ = some (.slice (some ⟨g, 0, none⟩) us.length cap) := by
            have q : (w3.setCell ⟨w.heap.size, 0, none⟩ (.int .i32 al)).cell? ⟨w.heap.size, 1, none⟩ = some (.slice none 0 0) := by
              rw [World.cell?_setCell_other (h := by intro e; cases e)]; exact x2
            exact World.cell?_setCell_same _ _ _ q
          clear hfin kk hr3 u3 hbx3
          go_wp2_with fail
          refine bodyPost_ret (v := .tuple #[.agg #[.int .i32 al, .slice (some ⟨g, 0, none⟩) us.length cap], .int .i64 sum]) ?_ rfl Hfin.out
          generalize ((w3.setCell ⟨w.heap.size, 0, none⟩ (.int .i32 al)).setCell ⟨w.heap.size, 1, none⟩ (.slice (some ⟨g, 0, none⟩) us.length cap)) = V at *
          simp [results, Tryz.results77, go_sem, z1, z2]
end Go.Proofs.YtngjjmniigkeoaaGreatDoor
