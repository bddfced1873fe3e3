/- What a call of the finder's leaves; not, with levels; the steps of settle (plain). -/
import Derived.Test.YtpebjjpiehhobaaGreatDoorTDel
import Derived.Test.YtpebjjpiehhobaaGreatDoorAll
namespace Go.Proofs.YtpebjjpiehhobaaGreatDoor
open Go Go.RowKit Go.WideMaps Go.Maps
set_option linter.unusedSimpArgs false
set_option linter.unusedVariables false

structure FUpd (G : Nat → Prop) (w w' : World) (h : DH) (s s' : DS) : Prop where
  dia : Dia w' h s'
  ext : Ext s.nodes s'.nodes
  keeps : Keeps (fun k => own h s k ∨ G k) w w'
  own : ∀ k, own h s' k → own h s k ∨ w.heap.size ≤ k
theorem FUpd.refl {G : Nat → Prop} {w : World} {h : DH} {s : DS} (d : Dia w h s) : FUpd G w w h s s := ⟨d, Ext.refl _, Keeps.refl _ _, fun _ hk => Or.inl hk⟩
theorem Upd.toF {G : Nat → Prop} {w w' : World} {h : DH} {s s' : DS} (u : Upd w w' h s s') : FUpd G w w' h s s' := ⟨u.dia, u.ext, u.keeps.mono (fun k hk => Or.inl (Or.inl hk)), u.own⟩
theorem FUpd.mono {G G' : Nat → Prop} {w w' : World} {h : DH} {s s' : DS} (u : FUpd G w w' h s s') (hG : ∀ k, G k → G' k ∨ w.heap.size ≤ k) : FUpd G' w w' h s s' :=
  ⟨u.dia, u.ext, u.keeps.mono (fun k hk => by
    rcases hk with h1 | h1
    · exact Or.inl (Or.inl h1)
    · rcases hG k h1 with h2 | h2
      · exact Or.inl (Or.inr h2)
      · exact Or.inr h2), u.own⟩
theorem FUpd.trans {G : Nat → Prop} {a b c : World} {h : DH} {s s' s'' : DS} (u : FUpd G a b h s s') (v : FUpd G b c h s' s'') : FUpd G a c h s s'' :=
  ⟨v.dia, u.ext.trans v.ext, u.keeps.trans v.keeps (fun k hk => by
    rcases hk with h1 | h1
    · rcases u.own k h1 with h2 | h2
      · exact Or.inl (Or.inl h2)
      · exact Or.inr h2
    · exact Or.inl (Or.inr h1)), fun k hk => by
    rcases v.own k hk with h1 | h1
    · exact u.own k h1
    · exact Or.inr (Nat.le_trans u.keeps.size h1)⟩
/-- A side effect that does not touch the diagrams. -/
theorem FUpd.side {G : Nat → Prop} {a w w' : World} {h : DH} {s s' : DS} {S : Nat → Prop} (u : FUpd G a w h s s') (k : Keeps S w w') (h1 : ∀ b, S b → G b ∨ a.heap.size ≤ b) (h2 : ∀ b, S b → ¬ Go.Proofs.YtpebjjpiehhobaaGreatDoor.own h s' b) : FUpd G a w' h s s' :=
  ⟨u.dia.kept (fun j hj => k.block j (u.dia.lt j hj) (fun e => h2 j e hj)), u.ext, u.keeps.trans k (fun b hb => by
    rcases h1 b hb with h3 | h3
    · exact Or.inl (Or.inr h3)
    · exact Or.inr h3), u.own⟩
theorem FUpd.drew {G : Nat → Prop} {a w : World} {h : DH} {s s' : DS} (u : FUpd G a w h s s') : FUpd G a w.drew h s s' := u.side (S := fun _ => False) (Keeps.refl _ _).drew (fun _ e => e.elim) (fun _ e => e.elim)
theorem FUpd.quiet {G : Nat → Prop} {a w w' : World} {h : DH} {s s' : DS} (u : FUpd G a w h s s') (k : Keeps (fun _ => False) w w') : FUpd G a w' h s s' := u.side k (fun _ e => e.elim) (fun _ e => e.elim)
theorem FUpd.block {G : Nat → Prop} {w w' : World} {h : DH} {s s' : DS} (u : FUpd G w w' h s s') {b : Nat} (hb : b < w.heap.size) (h1 : ¬ Go.Proofs.YtpebjjpiehhobaaGreatDoor.own h s b) (h2 : ¬ G b) : w'.heap[b]? = w.heap[b]? := u.keeps.block b hb (fun e => e.elim h1 h2)
theorem FUpd.no {G : Nat → Prop} {w w' : World} {h : DH} {s s' : DS} (u : FUpd G w w' h s s') {b : Nat} (hb : b < w.heap.size) (h1 : ¬ Go.Proofs.YtpebjjpiehhobaaGreatDoor.own h s b) : ¬ Go.Proofs.YtpebjjpiehhobaaGreatDoor.own h s' b := fun e => by
  rcases u.own b e with h2 | h2
  · exact h1 h2
  · omega
theorem Upd.quiet {a w w' : World} {h : DH} {s s' : DS} (u : Upd a w h s s') (k : Keeps (fun _ => False) w w') : Upd a w' h s s' := upd_side u k (fun _ e => e.elim) (fun _ e => e.elim)

structure NMean (h : DH) (s : DS) (a : Nat) (s' : DS) (k : Nat) : Prop where
  ext : Ext s.nodes s'.nodes
  hk : k < s'.nodes.length
  mean : ∀ σ, sem s'.nodes k σ = !(sem s.nodes a σ)
  low : (ndAt s.nodes a).lev ≤ (ndAt s'.nodes k).lev
  steps : s.steps ≤ s'.steps + (2 ^ h.n : Nat)
  le : s'.steps ≤ s.steps
  cnt : s'.cnt ≤ s.cnt + 2 * 2 ^ h.n
def NEnd (W : World) (h : DH) (s : DS) (a : Nat) (e : Ending) (w' : World) : Prop := ∃ s' k, e = .returned (.int .i32 (k : Nat)) ∧ Upd W w' h s s' ∧ NMean h s a s' k

set_option maxHeartbeats 800000 in
theorem notL_any (h : DH) (hn : h.n < 2 ^ 31) (s : DS) (a : Nat) (w : World) (d : Dia w h s) (ha : a < s.nodes.length) (hst : ((2 ^ h.n : Nat) : Int) ≤ s.steps) (hst2 : s.steps ≤ 4611686018427387904) (hcnt : s.cnt + 2 * 2 ^ h.n < 2 ^ 30) :
    Calls Tryz.prog 92 #[.pointer (some ⟨h.b, 0, none⟩), .int .i32 a] w (NEnd w h s a) := by
  have h2 := d.inv.wf.two
  have h2p : 0 < 2 ^ h.n := Nat.two_pow_pos _
  have hll := d.inv.wf.lev_le ha
  have hl0 : (ndAt s.nodes 0).lev = h.n := by rw [d.inv.wf.no]
  have hj := (join_any h (-6) (by omega) hn h.n s 0 a w d (by omega) ha (by omega) (by omega) hst2 hcnt).mono (R' := NEnd w h s a) (by
    rintro e w' ⟨s', k, he, p⟩
    refine ⟨s', k, he, p.upd, p.upd.ext, p.hk, fun σ => ?_, ?_, ?_, p.le, ?_⟩
    · rw [p.mean, sem_no]; cases sem s.nodes a σ <;> rfl
    · have := p.lev; omega
    · have := p.steps; omega
    · have := p.cnt; omega)
  have Hj := Lib.hid hj
  clear hj d
  go_enter Tryz.func92, Tryz.ntmps92
  go_wp2_with fail
  refine Hj.out.mono ?_
  rintro e w1 ⟨s1, k, rfl, p1⟩
  go_wp2_with fail
  go_ret
  exact ⟨s1, k, rfl, p1⟩

/-! ### the first steps of settle -/
def Wt (ts : List (Nat × Int)) : Int := hiT ts - loT ts
theorem wt_mem {ts : List (Nat × Int)} : ∀ t ∈ ts, loT ts ≤ t.2 ∧ t.2 ≤ hiT ts := by
  induction ts with
  | nil => intro t ht; simp at ht
  | cons u ts ih =>
    intro t ht
    have e1 : hiT (u :: ts) = max 0 u.2 + hiT ts := rfl
    have e2 : loT (u :: ts) = min 0 u.2 + loT ts := rfl
    have h1 := hiT_nonneg ts
    have h2 := loT_nonpos ts
    rcases List.mem_cons.1 ht with rfl | h
    · omega
    · have := ih t h; omega
theorem getD_mem {ts : List (Nat × Int)} {k : Nat} (hk : k < ts.length) : ts.getD k (0, 0) ∈ ts := by simp [List.getD, hk]
theorem half2_wt {l l' : List Nd} {ts ys : List (Nat × Int)} {sum : Int} (h : Half2 l ts l' ys sum) : Wt ys ≤ Wt ts ∧ loT ts ≤ sum ∧ sum ≤ hiT ts := by
  have h1 := h.hi; have h2 := h.lo
  have h3 := hiT_nonneg ys; have h4 := loT_nonpos ys
  unfold Wt
  omega

structure P1 (h : DH) (s : DS) (L : Nat) (ts : List (Nat × Int)) (k : Nat) (s' : DS) (ys : List (Nat × Int)) (sum : Int) : Prop where
  ext : Ext s.nodes s'.nodes
  len : ys.length = ts.length
  half : Half2 s.nodes ts s'.nodes ys sum
  inT : InT s'.nodes L ys
  two : ∀ j, j < k → (ys.getD j (0, 0)).1 = 0 ∨ 2 ≤ (ys.getD j (0, 0)).1
  steps : s.steps ≤ s'.steps + (k * 2 ^ h.n : Nat)
  le : s'.steps ≤ s.steps
  cnt : s'.cnt ≤ s.cnt + 2 * (k * 2 ^ h.n)
theorem P1.start {h : DH} {s : DS} {L : Nat} {ts : List (Nat × Int)} (hi : InT s.nodes L ts) : P1 h s L ts 0 s ts 0 := ⟨Ext.refl _, rfl, Half2.refl _ _, hi, fun j hj => by omega, by omega, Int.le_refl _, by omega⟩

theorem P1.keep {h : DH} {s s' s1 : DS} {L k kn : Nat} {ts ys : List (Nat × Int)} {sum : Int} (p : P1 h s L ts k s' ys sum) (hw : WF h.n s'.nodes) (hw1 : WF h.n s1.nodes) (hk : k < ts.length) (m : NMean h s' (ys.getD k (0, 0)).1 s1 kn) (hge : (ys.getD k (0, 0)).1 ≤ kn) : P1 h s L ts (k + 1) s1 ys sum := by
  have hlen := p.len
  have hin := p.inT _ (getD_mem (ts := ys) (k := k) (by omega))
  refine ⟨p.ext.trans m.ext, p.len, ?_, p.inT.ext m.ext, ?_, ?_, ?_, ?_⟩
  · have := p.half.trans (Half2.ext p.inT m.ext hw)
    rw [Int.add_zero] at this; exact this
  · intro j hj
    rcases Nat.lt_or_ge j k with h1 | h1
    · exact p.two j h1
    · have : j = k := by omega
      subst this
      by_cases h0 : (ys.getD j (0, 0)).1 = 1
      · exfalso
        have hz : kn = 0 := by
          apply canon hw1 (max kn 0 + 1) kn 0 m.hk (by have := hw1.two; omega) (by omega) (by omega)
          intro σ
          rw [m.mean σ, h0, sem_yes, sem_no]; rfl
        omega
      · omega
  · have := p.steps; have := m.steps; rw [Nat.add_mul]; omega
  · have := p.le; have := m.le; omega
  · have := p.cnt; have := m.cnt; rw [Nat.add_mul]; omega
theorem P1.flip {h : DH} {s s' s1 : DS} {L k kn : Nat} {ts ys : List (Nat × Int)} {sum : Int} (p : P1 h s L ts k s' ys sum) (hw : WF h.n s'.nodes) (hw1 : WF h.n s1.nodes) (hk : k < ts.length) (m : NMean h s' (ys.getD k (0, 0)).1 s1 kn) (hlt : kn < (ys.getD k (0, 0)).1) :
    P1 h s L ts (k + 1) s1 (ys.set k (kn, -(ys.getD k (0, 0)).2)) (sum + (ys.getD k (0, 0)).2) := by
  have hlen := p.len
  have hin := p.inT _ (getD_mem (ts := ys) (k := k) (by omega))
  have hi1 := p.inT.ext m.ext
  refine ⟨p.ext.trans m.ext, by simp [hlen], ?_, ?_, ?_, ?_, ?_, ?_⟩
  · have h1 := p.half.trans (Half2.ext p.inT m.ext hw)
    rw [Int.add_zero] at h1
    exact h1.trans (half2_flip (by omega) (fun σ => by rw [m.mean σ, m.ext.sem hw hin.1]))
  · intro t ht
    rcases List.mem_or_eq_of_mem_set ht with h1 | rfl
    · exact hi1 t h1
    · exact ⟨m.hk, Nat.le_trans hin.2 m.low⟩
  · intro j hj
    rcases Nat.lt_or_ge j k with h1 | h1
    · have e : (ys.set k (kn, -(ys.getD k (0, 0)).2)).getD j (0, 0) = ys.getD j (0, 0) := by simp [List.getD, List.getElem?_set, show ¬ k = j by omega]
      rw [e]; exact p.two j h1
    · have : j = k := by omega
      subst this
      have e : (ys.set j (kn, -(ys.getD j (0, 0)).2)).getD j (0, 0) = (kn, -(ys.getD j (0, 0)).2) := by simp [List.getD, show j < ys.length by omega]
      rw [e]
      by_cases h0 : kn = 1
      · exfalso
        have hz : (ys.getD j (0, 0)).1 = 0 := by
          apply canon hw (max (ys.getD j (0, 0)).1 0 + 1) _ 0 hin.1 (by have := hw.two; omega) (by omega) (by omega)
          intro σ
          have := m.mean σ
          rw [h0, sem_yes] at this
          rw [sem_no]
          cases hs : sem s'.nodes (ys.getD j (0, 0)).1 σ with
          | false => rfl
          | true => rw [hs] at this; cases this
        omega
      · show kn = 0 ∨ 2 ≤ kn
        omega
  · have := p.steps; have := m.steps; rw [Nat.add_mul]; omega
  · have := p.le; have := m.le; omega
  · have := p.cnt; have := m.cnt; rw [Nat.add_mul]; omega

/-- What settle leaves of terms. -/
structure SMean (h : DH) (s : DS) (L : Nat) (ts : List (Nat × Int)) (s' : DS) (us : List (Nat × Int)) (sum : Int) : Prop where
  ext : Ext s.nodes s'.nodes
  half : Half2 s.nodes ts s'.nodes us sum
  inT : InT s'.nodes L us
  two : Two us
  len : us.length ≤ ts.length
  steps : s.steps ≤ s'.steps + (ts.length * 2 ^ h.n : Nat)
  le : s'.steps ≤ s.steps
  cnt : s'.cnt ≤ s.cnt + 2 * (ts.length * 2 ^ h.n)
theorem settle_fin {h : DH} {s s' : DS} {L c : Nat} {ts ys zs vs : List (Nat × Int)} {sum : Int} (p : P1 h s L ts ts.length s' ys sum) (hp : vs.Perm ys) (g : Gath s'.nodes vs vs.length c zs) : SMean h s L ts s' (keepT (zs.take c)) sum := by
  have hmem : ∀ t ∈ keepT (zs.take c), t ∈ zs.take c := fun t ht => (List.mem_filter.1 ht).1
  refine ⟨p.ext, ?_, ?_, fun t ht => g.two t (hmem t ht), ?_, p.steps, p.le, p.cnt⟩
  · have h1 := ((p.half.trans (half2_perm hp)).trans g.half).trans (half2_zero s'.nodes (zs.take c))
    rw [Int.add_zero, Int.add_zero, Int.add_zero] at h1
    exact h1
  · intro t ht
    obtain ⟨u, hu, e⟩ := g.mem t (hmem t ht)
    rw [← e]
    exact p.inT u (hp.mem_iff.1 hu)
  · have h1 : (keepT (zs.take c)).length ≤ (zs.take c).length := List.length_filter_le _ _
    have h2 := g.le
    have h3 := hp.length_eq
    have h4 := p.len
    rw [List.length_take] at h1
    omega
end Go.Proofs.YtpebjjpiehhobaaGreatDoor
