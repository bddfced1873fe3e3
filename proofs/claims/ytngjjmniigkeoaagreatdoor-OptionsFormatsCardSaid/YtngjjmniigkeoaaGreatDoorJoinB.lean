/- join: And, Or, Same of two knots. -/
import Derived.Test.YtngjjmniigkeoaaGreatDoorJoin
namespace Go.Proofs.YtngjjmniigkeoaaGreatDoor
open Go Go.RowKit Go.WideMaps Go.Maps
set_option linter.unusedSimpArgs false
set_option linter.unusedVariables false

def loAt (l : List Nd) (L k : Nat) : Nat := if L < (ndAt l k).lev then k else (ndAt l k).lo
def hiAt (l : List Nd) (L k : Nat) : Nat := if L < (ndAt l k).lev then k else (ndAt l k).hi

theorem step_two (h : DH) (s : DS) (k lev : Nat) (w : World) (d : Dia w h s) (hk : k < s.nodes.length) (hl : lev ≤ h.n) (hn : h.n < 2 ^ 31) :
    Calls Tryz.prog 97 #[.pointer (some ⟨h.b, 0, none⟩), .int .i32 k, .int .i64 lev] w fun e w' => e = .returned (.tuple #[.int .i32 (loAt s.nodes lev k), .int .i32 (hiAt s.nodes lev k)]) ∧ Upd w w' h s s :=
  step_any h s k lev w d hk hl hn

theorem at_facts {n : Nat} {l : List Nd} (h : WF n l) {k L : Nat} (hk : k < l.length) (hL : L ≤ (ndAt l k).lev) (hn : L < n) :
    loAt l L k < l.length ∧ hiAt l L k < l.length ∧ L < (ndAt l (loAt l L k)).lev ∧ L < (ndAt l (hiAt l L k)).lev ∧ ∀ σ, sem l k σ = if σ L then sem l (hiAt l L k) σ else sem l (loAt l L k) σ := by
  unfold loAt hiAt
  by_cases hlt : L < (ndAt l k).lev
  · rw [if_pos hlt, if_pos hlt]
    exact ⟨hk, hk, hlt, hlt, fun σ => by split <;> rfl⟩
  · rw [if_neg hlt, if_neg hlt]
    have he : (ndAt l k).lev = L := by omega
    have h2 : 2 ≤ k := by
      refine Nat.le_of_not_lt fun hlt2 => ?_
      have : k = 0 ∨ k = 1 := by omega
      rcases this with rfl | rfl
      · rw [h.no] at he; simp at he; omega
      · rw [h.yes] at he; simp at he; omega
    have a1 := h.lo k h2 hk
    have a2 := h.hi k h2 hk
    refine ⟨by omega, by omega, ?_, ?_, fun σ => ?_⟩
    · have := h.upL k h2 hk; omega
    · have := h.upH k h2 hk; omega
    · rw [sem_node h h2 hk, he]

theorem opF_if (op : Int) (c : Bool) (x y x' y' : Bool) : (if c = true then opF op x y else opF op x' y') = opF op (if c = true then x else x') (if c = true then y else y') := by cases c <;> rfl

theorem min_cast (x y : Nat) : min (x : Int) (y : Int) = ((min x y : Nat) : Int) := by omega

set_option maxHeartbeats 1600000 in
theorem join_plain (h : DH) (op : Int) (ho : op = -4 ∨ op = -5 ∨ op = -6) (m : Nat) (s : DS) (a b x y : Nat) (w : World) (d : Dia w h s) (hxy : x = a ∧ y = b ∨ x = b ∧ y = a ∧ a < b) (hab : a ≤ b) (hb : b < s.nodes.length)
    (hp : (plainF op a b).2 = true) (hcnt : s.cnt < 2 ^ 30) :
    Calls Tryz.prog 76 #[.pointer (some ⟨h.b, 0, none⟩), .int .i64 op, .int .i32 x, .int .i32 y] w (JoinEnd w h s op a b m) := by
  have hlen := d.inv.cnt
  obtain ⟨p1, p2, p3⟩ := plainF_mean d.inv.wf ho hab hb hp
  have hfin : JoinEnd w h s op a b m (.returned (.int .i32 ((plainF op a b).1 : Nat))) w := ⟨s, _, rfl, Upd.refl d, p1, p2, p3, by omega, Int.le_refl _, by omega⟩
  have hpl := fun W => plain_any op a b W ho hab (by omega)
  unfold PlainEnd at hpl
  rw [hp] at hpl
  generalize (plainF op a b).1 = r at *
  have Hf := Lib.hid hfin
  have Hpl := Lib.hid hpl
  clear hfin hpl p2 p3 d hp ho
  rcases hxy with ⟨rfl, rfl⟩ | ⟨rfl, rfl, hlt⟩
  all_goals
    go_enter Tryz.func76, Tryz.ntmps76
    go_wp2_with (go_at_call 95; refine (Hpl.out _).mono ?_; rintro e w1 ⟨rfl, rfl⟩)
    go_ret
    exact Hf.out

theorem plainF_no {op : Int} {a b : Nat} (h : ¬ (plainF op a b).2 = true) (ho : op = -4 ∨ op = -5 ∨ op = -6) (hab : a ≤ b) : 2 ≤ b ∧ a < b := by
  unfold plainF at h
  by_cases e1 : a = b
  · rw [if_pos e1] at h; split at h <;> simp at h
  rw [if_neg e1] at h
  by_cases e2 : a = 1
  · subst e2
    rw [if_neg (by omega), if_pos rfl] at h
    split at h <;> simp at h
  by_cases e0 : a = 0
  · subst e0
    rw [if_pos rfl] at h
    rcases ho with rfl | rfl | rfl <;> simp at h
    omega
  · exact ⟨by omega, by omega⟩

def JoinSpec (h : DH) (op : Int) (m : Nat) : Prop := ∀ (s : DS) (a b : Nat) (w : World), Dia w h s → a < s.nodes.length → b < s.nodes.length →
    h.n ≤ min (ndAt s.nodes a).lev (ndAt s.nodes b).lev + m → ((2 ^ m - 1 : Nat) : Int) ≤ s.steps → s.steps ≤ 4611686018427387904 → s.cnt + 2 * 2 ^ m < 2 ^ 30 →
    Calls Tryz.prog 76 #[.pointer (some ⟨h.b, 0, none⟩), .int .i64 op, .int .i32 a, .int .i32 b] w (JoinEnd w h s op a b (2 ^ m - 1))

theorem joinSpec_of {h : DH} {op : Int} {m : Nat} (H : ∀ (s : DS) (a b x y : Nat) (w : World), Dia w h s → (x = a ∧ y = b ∨ x = b ∧ y = a ∧ a < b) → a ≤ b → b < s.nodes.length →
    h.n ≤ min (ndAt s.nodes a).lev (ndAt s.nodes b).lev + m → ((2 ^ m - 1 : Nat) : Int) ≤ s.steps → s.steps ≤ 4611686018427387904 → s.cnt + 2 * 2 ^ m < 2 ^ 30 →
    Calls Tryz.prog 76 #[.pointer (some ⟨h.b, 0, none⟩), .int .i64 op, .int .i32 x, .int .i32 y] w (JoinEnd w h s op a b (2 ^ m - 1))) : JoinSpec h op m := by
  intro s a b w d ha hb hm hst hst2 hcnt
  rcases Nat.lt_or_ge b a with hlt | hge
  · exact (H s b a a b w d (.inr ⟨rfl, rfl, hlt⟩) (Nat.le_of_lt hlt) ha (by rw [Nat.min_comm]; exact hm) hst hst2 hcnt).mono fun e w' j => j.swap
  · exact H s a b a b w d (.inl ⟨rfl, rfl⟩) hge hb hm hst hst2 hcnt

theorem join_fin {w W1 W5 W6 W7 W8 W9 : World} {h : DH} {s s6 s7 s8 : DS} {op : Int} {a b L m k1 k2 k : Nat} (d : Dia w h s) (U1 : Upd w W1 h s s) (U5 : Upd W1 W5 h s { s with steps := s.steps - 1 })
    (p6 : JoinPost W5 h { s with steps := s.steps - 1 } op (loAt s.nodes L a) (loAt s.nodes L b) (2 ^ m - 1) W6 s6 k1) (p7 : JoinPost W6 h s6 op (hiAt s.nodes L a) (hiAt s.nodes L b) (2 ^ m - 1) W7 s7 k2)
    (p8 : ForkPost W7 h s7 L k1 k2 W8 s8 k) (ha : a < s.nodes.length) (hb : b < s.nodes.length) (hLn : L < h.n) (hLa : L ≤ (ndAt s.nodes a).lev) (hLb : L ≤ (ndAt s.nodes b).lev) (hLm : L = min (ndAt s.nodes a).lev (ndAt s.nodes b).lev) (ho : op < 0)
    (hm9 : MapV W9 Tryz.prog 152 h.bd (s8.cnt + 1) (putV s8.fd (tkV op a b) (.int .i32 k))) (hg9 : W8.grownBy W9 (some h.bd)) :
    JoinEnd w h s op a b (2 ^ (m + 1) - 1) (.returned (.int .i32 k)) W9 := by
  have h2m : 0 < 2 ^ m := Nat.two_pow_pos m
  have h2m1 : 2 ^ (m + 1) = 2 * 2 ^ m := by rw [Nat.pow_succ]; omega
  obtain ⟨a1, a2, a3, a4, a5⟩ := at_facts d.inv.wf ha hLa hLn
  obtain ⟨b1, b2, b3, b4, b5⟩ := at_facts d.inv.wf hb hLb hLn
  have e6 : Ext s.nodes s6.nodes := p6.upd.ext
  have e7 : Ext s6.nodes s7.nodes := p7.upd.ext
  have e8 : Ext s7.nodes s8.nodes := p8.upd.ext
  have wf6 := p6.upd.dia.inv.wf
  have wf7 := p7.upd.dia.inv.wf
  have e : Ext s.nodes s8.nodes := (e6.trans e7).trans e8
  have hl := e.len
  have hmean : ∀ σ, sem s8.nodes k σ = opF op (sem s.nodes a σ) (sem s.nodes b σ) := by
    intro σ
    have q1 : sem s7.nodes k1 σ = opF op (sem s.nodes (loAt s.nodes L a) σ) (sem s.nodes (loAt s.nodes L b) σ) := by rw [e7.sem wf6 p6.hk]; exact p6.mean σ
    have q2 : sem s7.nodes k2 σ = opF op (sem s.nodes (hiAt s.nodes L a) σ) (sem s.nodes (hiAt s.nodes L b) σ) := by rw [p7.mean σ, e6.sem d.inv.wf a2, e6.sem d.inv.wf b2]
    rw [p8.mean, q1, q2, a5 σ, b5 σ, opF_if]
  have hlev : min (ndAt s.nodes a).lev (ndAt s.nodes b).lev ≤ (ndAt s8.nodes k).lev := by rw [← hLm]; exact p8.lev
  have ht : TaskOk s8.nodes op a b k := ⟨p8.hk, by omega, fun _ => ⟨by omega, fun σ => by rw [hmean, e.sem d.inv.wf ha, e.sem d.inv.wf hb], by rw [e.at ha, e.at hb]; exact hlev⟩, fun hp => by omega⟩
  have u9 := p8.upd.dia.remember ht hm9 hg9
  have c6 := p6.cnt; have c7 := p7.cnt; have c8 := p8.cnt
  have t6 := p6.steps; have t7 := p7.steps; have t8 := p8.steps
  have l6 := p6.le; have l7 := p7.le
  simp at c6 t6 l6
  refine ⟨_, k, rfl, ((((U1.trans U5).trans p6.upd).trans p7.upd).trans p8.upd).trans u9, p8.hk, hmean, hlev, ?_, ?_, ?_⟩
  · show s.steps ≤ s8.steps + _
    omega
  · show s8.steps ≤ s.steps
    omega
  · show s8.cnt + 1 ≤ _
    omega

set_option maxRecDepth 100000 in
set_option maxHeartbeats 6400000 in
theorem join_le (h : DH) (op : Int) (ho : op = -4 ∨ op = -5 ∨ op = -6) (hn : h.n < 2 ^ 31) : ∀ (m : Nat) (s : DS) (a b x y : Nat) (w : World), Dia w h s → (x = a ∧ y = b ∨ x = b ∧ y = a ∧ a < b) → a ≤ b → b < s.nodes.length →
    h.n ≤ min (ndAt s.nodes a).lev (ndAt s.nodes b).lev + m → ((2 ^ m - 1 : Nat) : Int) ≤ s.steps → s.steps ≤ 4611686018427387904 → s.cnt + 2 * 2 ^ m < 2 ^ 30 →
    Calls Tryz.prog 76 #[.pointer (some ⟨h.b, 0, none⟩), .int .i64 op, .int .i32 x, .int .i32 y] w (JoinEnd w h s op a b (2 ^ m - 1)) := by
  intro m
  induction m with
  | zero =>
    intro s a b x y w d hxy hab hb hm hst hst2 hcnt
    refine join_plain h op ho _ s a b x y w d hxy hab hb ?_ (by omega)
    refine Classical.byContradiction fun hp => ?_
    obtain ⟨h2, _⟩ := plainF_no hp ho hab
    have := d.inv.wf.lev b h2 hb
    omega
  | succ m ih =>
    intro s a b x y w d hxy hab hb hm hst hst2 hcnt
    have h2m : 0 < 2 ^ m := Nat.two_pow_pos m
    have h2m1 : 2 ^ (m + 1) = 2 * 2 ^ m := by rw [Nat.pow_succ]; omega
    by_cases hp : (plainF op a b).2 = true
    · exact join_plain h op ho _ s a b x y w d hxy hab hb hp (by omega)
    obtain ⟨hb2, hablt⟩ := plainF_no hp ho hab
    have hlen := d.inv.cnt
    have hopb : -6 ≤ op ∧ op ≤ 2 := by omega
    have hblt := d.lt h.b (Or.inl rfl)
    have hpl := fun W => plain_any op a b W ho hab (by omega)
    unfold PlainEnd at hpl
    rw [show (plainF op a b).2 = false by simpa using hp] at hpl
    generalize (plainF op a b).1 = r at hpl
    have hopw : IntKind.i32.wrap op = op := by rcases ho with rfl | rfl | rfl <;> rfl
    obtain ⟨kl, hkl⟩ := key_tk op a b hopb (by omega) (by omega)
    simp only [tkV] at hkl
    have hrun : ∀ (O : Obj) (q : Nat), (Instr.lookup 110 (.map (some h.bd)) (.agg #[.int .i32 op, .int .i32 a, .int .i32 b]) true).run Tryz.prog ((w.alloc O).drewN q) = .ok (.tuple #[(s.fd (tkV op a b)).getD (.int .i32 0), .bool (s.fd (tkV op a b)).isSome]) ((w.alloc O).drewN q) :=
      fun O q => ((d.alloc O).drewN q).dne.look_ok taskLaw Tryz.underlying110 (zeroKnot _) hkl
    obtain ⟨c0, c1, c2, c3, c4, c5⟩ := d.cells
    have ho1 : -6 ≤ op := by omega
    have ho2 : op ≤ -4 := by omega
    by_cases hex : ∃ v, s.fd (tkV op a b) = some v
    · obtain ⟨v, hv⟩ := hex
      obtain ⟨c, rfl, ht⟩ := d.inv.done _ _ _ _ hv
      rw [hv] at hrun
      simp only [Option.getD_some, Option.isSome_some] at hrun
      have hfin : ∀ O q, JoinEnd w h s op a b (2 ^ (m + 1) - 1) (.returned (.int .i32 c)) ((w.alloc O).drewN q) := fun O q => by
        obtain ⟨_, t2, t3⟩ := ht.neg (by omega)
        exact ⟨s, c, rfl, ((Upd.refl d).alloc O).drewN q, ht.hc, t2, t3, by omega, Int.le_refl _, by omega⟩
      have Hf := Lib.hid hfin; have Hpl := Lib.hid hpl; have Ho := Lib.hid hopw
      clear hfin hpl d ih hkl hv ht hopw hm
      rcases hxy with ⟨rfl, rfl⟩ | ⟨rfl, rfl, hlt⟩
      all_goals
        go_enter Tryz.func76, Tryz.ntmps76
        go_wp2_with (go_at_call 95; refine (Hpl.out _).mono ?_; rintro e w1 ⟨rfl, rfl⟩)
        go_quiet (fail)
        go_wp2
        go_ret
        exact Hf.out _ _
    · have hff : s.fd (tkV op a b) = none := by
        cases e : s.fd (tkV op a b) with
        | none => rfl
        | some v => exact absurd ⟨v, e⟩ hex
      rw [hff] at hrun
      simp only [Option.getD_none, Option.isSome_none] at hrun
      have Hpl := Lib.hid hpl; have Ho := Lib.hid hopw; have Hd := Lib.hid d; have Hj := Lib.hid (joinSpec_of ih); have Hm := Lib.hid hm
      clear hpl d ih hopw hm
      have hal : a < s.nodes.length := by omega
      rcases hxy with ⟨hx, hy⟩ | ⟨hx, hy, hlt⟩
      all_goals
        subst x
        subst y
        go_enter Tryz.func76, Tryz.ntmps76
        go_wp2_with (go_at_call 95; refine (Hpl.out _).mono ?_; rintro e w1 ⟨rfl, rfl⟩)
        go_quiet (fail)
        go_wp2_with fail
        have hU1 : Upd w ((w.alloc (.cells #[.int .i32 op, .int .i32 a, .int .i32 b] 152)).drewN nq) h s s := ((Upd.refl Hd.out).alloc _).drewN _
        have t0 : ((w.alloc (.cells #[.int .i32 op, .int .i32 a, .int .i32 b] 152)).drewN nq).cell? ⟨w.heap.size, 0, none⟩ = some (.int .i32 op) := by simp
        have t1 : ((w.alloc (.cells #[.int .i32 op, .int .i32 a, .int .i32 b] 152)).drewN nq).cell? ⟨w.heap.size, 1, none⟩ = some (.int .i32 a) := by simp
        have t2 : ((w.alloc (.cells #[.int .i32 op, .int .i32 a, .int .i32 b] 152)).drewN nq).cell? ⟨w.heap.size, 2, none⟩ = some (.int .i32 b) := by simp
        have tsz : w.heap.size < ((w.alloc (.cells #[.int .i32 op, .int .i32 a, .int .i32 b] 152)).drewN nq).heap.size := by simp
        have tno : ¬ own h s w.heap.size := fun hk => absurd (Hd.out.lt _ hk) (by omega)
        clear hrun c0 c1 c2 c3 c4 c5
        generalize (w.alloc (.cells #[.int .i32 op, .int .i32 a, .int .i32 b] 152)).drewN nq = W1 at *
        refine (spend_any h s 1 W1 hU1.dia (by omega) (by omega) hst2).mono ?_
        rintro e W2 ⟨rfl, hU2⟩
        obtain ⟨d0, d1, d2, d3, d4, d5⟩ := hU2.dia.cells
        obtain ⟨g, cap, eg, hcs, hg, hgb⟩ := hU2.dia.node
        obtain ⟨na0, na1, na2⟩ := hcs a hal
        obtain ⟨nb0, nb1, nb2⟩ := hcs b hb
        rw [eg] at d2
        have i1 : (a : Int) < (s.nodes.length : Int) := by omega
        have i2 : (b : Int) < (s.nodes.length : Int) := by omega
        have Heg := Lib.hid eg; have HU1 := Lib.hid hU1; have HU2 := Lib.hid hU2
        clear eg hcs hU1 hU2
        have hLL : ∃ L M : Nat, L < h.n ∧ L ≤ (ndAt s.nodes a).lev ∧ L ≤ (ndAt s.nodes b).lev ∧ L = min (ndAt s.nodes a).lev (ndAt s.nodes b).lev ∧ ((ndAt s.nodes a).lev = L ∧ (ndAt s.nodes b).lev = M ∧ L ≤ M ∨ (ndAt s.nodes a).lev = M ∧ (ndAt s.nodes b).lev = L ∧ L < M) := by
          have hlb := Hd.out.inv.wf.lev b hb2 hb
          rcases Nat.lt_or_ge (ndAt s.nodes b).lev (ndAt s.nodes a).lev with hlt2 | hge
          · exact ⟨_, _, by omega, by omega, Nat.le_refl _, by omega, .inr ⟨rfl, rfl, hlt2⟩⟩
          · exact ⟨_, _, by omega, Nat.le_refl _, by omega, by omega, .inl ⟨rfl, rfl, hge⟩⟩
        obtain ⟨L, M, hLn, hLa, hLb, hLm, hLM⟩ := hLL
        have HLm := Lib.hid hLm
        clear hLm
        rcases hLM with ⟨hA, hB, hle⟩ | ⟨hA, hB, hle⟩
        all_goals
          have hle' : (L : Int) ≤ (M : Int) := by omega
          rw [hA] at na0
          rw [hB] at nb0
          have HA := Lib.hid hA; have HB := Lib.hid hB
          have HLa := Lib.hid hLa; have HLb := Lib.hid hLb
          clear hA hB hLa hLb
          go_wp2_with fail
          go_quiet (fail)
          go_wp2_with fail
          have U2 : Upd W1 (W2.drewN nq) h s { s with steps := s.steps - 1 } := HU2.out.drewN nq
          clear na0 na1 na2 nb0 nb1 nb2 d0 d1 d2 d3 d4 d5 HU2
          generalize W2.drewN nq = W3 at *
          refine (step_two h { s with steps := s.steps - 1 } a L W3 U2.dia hal (by omega) hn).mono ?_
          rintro e W4 ⟨rfl, u4⟩
          have U4 := U2.trans u4
          clear u4 U2
          go_wp2_with fail
          refine (step_two h { s with steps := s.steps - 1 } b L W4 U4.dia hb (by omega) hn).mono ?_
          rintro e W5 ⟨rfl, u5⟩
          have U5 := U4.trans u5
          clear u5 U4
          obtain ⟨a1, a2, a3, a4, a5⟩ := at_facts Hd.out.inv.wf hal HLa.out hLn
          obtain ⟨b1, b2, b3, b4, b5⟩ := at_facts Hd.out.inv.wf hb HLb.out hLn
          clear a5 b5
          go_wp2_with fail
          refine (Hj.out { s with steps := s.steps - 1 } (loAt s.nodes L a) (loAt s.nodes L b) W5 U5.dia a1 b1 (by have := Hm.out; have := HLm.out; show h.n ≤ min (ndAt s.nodes (loAt s.nodes L a)).lev (ndAt s.nodes (loAt s.nodes L b)).lev + m; omega) (by show _ ≤ s.steps - 1; omega) (by show s.steps - 1 ≤ _; omega) (by show s.cnt + _ < _; omega)).mono ?_
          rintro e W6 ⟨s6, k1, rfl, p6⟩
          have e6 : Ext s.nodes s6.nodes := p6.upd.ext
          have l6 := e6.len
          have t6 := p6.steps; have q6 := p6.le; have c6 := p6.cnt; have v6 := p6.lev; have hk6 := p6.hk
          have Ea := Lib.hid (e6.at a2); have Eb := Lib.hid (e6.at b2)
          go_wp2_with fail
          refine (Hj.out s6 (hiAt s.nodes L a) (hiAt s.nodes L b) W6 p6.upd.dia (by omega) (by omega) (by have := Hm.out; have := HLm.out; rw [Ea.out, Eb.out]; omega) (by omega) (by omega) (by omega)).mono ?_
          rintro e W7 ⟨s7, k2, rfl, p7⟩
          have e7 : Ext s6.nodes s7.nodes := p7.upd.ext
          have l7 := e7.len
          have c7 := p7.cnt; have hk7 := p7.hk
          have v7 : L < (ndAt s7.nodes k1).lev := by rw [e7.at hk6]; have := p6.lev; simp at this; omega
          have v7' : L < (ndAt s7.nodes k2).lev := by have := p7.lev; rw [Ea.out, Eb.out] at this; omega
          go_wp2_with fail
          refine (fork_any h s7 L k1 k2 W7 p7.upd.dia hLn (by omega) hk7 v7 v7' hn (by omega)).mono ?_
          rintro e W8 ⟨s8, k, rfl, p8⟩
          have hd8 := p8.upd.dia
          obtain ⟨d0, d1, d2, d3, d4, d5⟩ := hd8.cells
          have ub : Upd W1 W8 h s s8 := ((U5.trans p6.upd).trans p7.upd).trans p8.upd
          have r0 := ub.keeps.cell t0 tno
          have r1 := ub.keeps.cell t1 tno
          have r2 := ub.keeps.cell t2 tno
          have c8 := p8.cnt
          obtain ⟨W9, hrun9, hm9, hg9⟩ := (hd8.dne.kept (w' := W8.drew) rfl).update (t := 110) (val := .int .i32 k) taskLaw Tryz.underlying110 (by unfold maxLen; omega) hkl
          have hfin := join_fin Hd.out HU1.out U5 p6 p7 p8 hal hb hLn HLa.out HLb.out HLm.out (by omega) hm9 ⟨hg9.os, hg9.tape, hg9.output, hg9.size, hg9.block⟩
          have Hfin := Lib.hid hfin
          clear hfin hm9 hg9 ub p6 p7 p8 U5 hd8 e6 e7 t0 t1 t2 Ea Eb d0 d1 d2 d3 d5 a1 a2 a3 a4 b1 b2 b3 b4 v6 v7 v7' t6 q6 c6 c7 c8 l6 l7 hk6 hk7
          go_wp2_with fail
          go_region
          all_goals
            go_wp2
            go_ret
            exact Hfin.out
end Go.Proofs.YtngjjmniigkeoaaGreatDoor
