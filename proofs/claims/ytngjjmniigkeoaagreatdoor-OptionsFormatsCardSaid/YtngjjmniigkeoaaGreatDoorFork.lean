/- fork: the knot that asks for a level. -/
import Derived.Test.YtngjjmniigkeoaaGreatDoorDia
import Derived.Deep.AppendLies
import Derived.Deep.RegionLaw
import Derived.BigRegion
namespace Go.Proofs.YtngjjmniigkeoaaGreatDoor
open Go Go.RowKit Go.WideMaps Go.Maps
set_option linter.unusedSimpArgs false
set_option linter.unusedVariables false

theorem MapV.mono {w : World} {P : Program} {k : TypeId} {b n n' : Nat} {f : Value → Option Value} (h : MapV w P k b n f) (hn : n ≤ n') : MapV w P k b n' f := by
  obtain ⟨D, h1, h2⟩ := h; exact ⟨D, h1.mono hn, h2⟩

theorem MapV.update {P : Program} {w : World} {t k e : TypeId} {b n : Nat} {f : Value → Option Value} (hown : MapV w P k b n f) (K : Keyed P k) (ht : P.underlying t = some (.map k e)) (hn : n < maxLen) {key val : Value} {kl : Lit}
    (hkey : keyOf P k key = some kl) : ∃ w', (Instr.mapUpdate t (.map (some b)) key val).run P w = .ok () w' ∧ MapV w' P k b (n + 1) (putV f key val) ∧ w.grownBy w' (some b) := by
  obtain ⟨D, hD, hf⟩ := hown
  obtain ⟨w', hrun, h1, h2⟩ := hD.update K ht hn (val := val) (d := .held val) (ps := []) hkey rfl
  refine ⟨w', hrun, ⟨_, h1, ?_⟩, h2⟩
  intro y yl hy
  have hM := ownsMap_isMap hD
  by_cases h : y = key
  · subst h
    rw [hy] at hkey; cases hkey
    rw [putV_same]
    refine ⟨by rw [Maps.has_put_same hM (K.key hy)]; rfl, ?_⟩
    intro v' hv' z
    cases hv'
    exact Maps.atKey_put_same hM (K.key hy) _ _
  · rw [putV_other f key val h]
    have hne := keyed_lit_ne K hy hkey h
    rw [Maps.has_put_other hne]
    refine ⟨(hf y yl hy).1, fun v' hv' z => ?_⟩
    rw [Maps.atKey_put_other hne]
    exact (hf y yl hy).2 v' hv' z

theorem zeroKnot (w : World) : (zeroValue 82).run Tryz.prog w = .ok (.int .i32 0) w := by kernel_rfl

theorem infoNode : (Tryz.prog.info? 107).map (fun i => (i.zero, i.size, i.bytes)) = some (some (.agg #[.int .i64 0, .int .i32 0, .int .i32 0]), 3, 16) := by kernel_rfl

/-- fork leaves a knot that asks for the level. -/
structure ForkPost (w : World) (h : DH) (s : DS) (lev lo hi : Nat) (w' : World) (s' : DS) (k : Nat) : Prop where
  upd : Upd w w' h s s'
  hk : k < s'.nodes.length
  mean : ∀ σ, sem s'.nodes k σ = if σ lev then sem s.nodes hi σ else sem s.nodes lo σ
  lev : lev ≤ (ndAt s'.nodes k).lev
  steps : s'.steps = s.steps
  cnt : s'.cnt ≤ s.cnt + 1
def ForkEnd (w : World) (h : DH) (s : DS) (lev lo hi : Nat) (e : Ending) (w' : World) : Prop := ∃ s' k, e = .returned (.int .i32 (k : Nat)) ∧ ForkPost w h s lev lo hi w' s' k

theorem find_push {l : List Nd} {f : Value → Option Value} (hf : FindOk l f) {x : Nd} (hnew : ∀ k, 2 ≤ k → k < l.length → ndAt l k ≠ x) (h2 : 2 ≤ l.length) : FindOk (l ++ [x]) (putV f (ndV x) (.int .i32 l.length)) := by
  refine ⟨fun i i2 hi => ?_, fun y hy => ?_⟩
  · have : i < l.length ∨ i = l.length := by simp at hi; omega
    rcases this with hlt | rfl
    · rw [ndAt_append hlt, putV_other _ _ _ (fun e => hnew i i2 hlt (ndV_inj e))]; exact hf.yes i i2 hlt
    · rw [ndAt_last, putV_same]
  · have hyx : y ≠ x := by
      rintro rfl
      exact hy l.length (by omega) (by simp) (ndAt_last l y)
    rw [putV_other _ _ _ (fun e => hyx (ndV_inj e))]
    exact hf.no y (fun i i2 hi e => hy i i2 (by simp; omega) (by rw [ndAt_append hi]; exact e))

theorem done_ext {n : Nat} {l l' : List Nd} {f : Value → Option Value} (h : DoneOk l f) (e : Ext l l') (hw : WF n l) : DoneOk l' f := by
  intro op a b v hv
  obtain ⟨c, hc, ht⟩ := h op a b v hv
  exact ⟨c, hc, ht.ext e hw⟩

theorem Dia.map_ne {w : World} {h : DH} {s : DS} (d : Dia w h s) : h.bf ≠ h.b ∧ h.bd ≠ h.b ∧ (∀ g, s.nv.ownBlock = some g → h.bf ≠ g ∧ h.bd ≠ g) := by
  have key : ∀ (m : Nat), (∃ es clock, w.heap[m]? = some (.map es clock)) → m ≠ h.b ∧ ∀ g, s.nv.ownBlock = some g → m ≠ g := by
    rintro m ⟨es, clock, h0⟩
    refine ⟨fun e => (by rw [e, d.blk] at h0; cases h0), fun g hg e => ?_⟩
    subst e
    rcases d.row.2 with ⟨hn, _⟩ | ⟨g', cap, cur, e, hb, hgg, _⟩
    · rw [hn] at hg; simp [Value.ownBlock] at hg
    · rw [e] at hg; simp [Value.ownBlock] at hg; subst hg; rw [hgg] at h0; cases h0
  obtain ⟨D, ⟨es, clock, h0, _⟩, _⟩ := d.fnd
  obtain ⟨D', ⟨es', clock', h0', _⟩, _⟩ := d.dne
  have k1 := key h.bf ⟨es, clock, h0⟩
  have k2 := key h.bd ⟨es', clock', h0'⟩
  exact ⟨k1.1, k2.1, fun g hg => ⟨k1.2 g hg, k2.2 g hg⟩⟩

/-- Behind the append and the store: the map does not know the node yet. -/
structure Half (w W3 : World) (h : DH) (s : DS) (x : Nd) (nv2 : Value) : Prop where
  keeps : Keeps (own h s) w W3
  blk : W3.heap[h.b]? = some (.cells #[h.ov, h.lv, nv2, .map (some h.bf), .map (some h.bd), .int .i64 s.steps] 112 (0, 0))
  row : W3.ownsRow 0 107 3 nv2 (s.nodes.length + 1) (s.nodes.flatMap ndCells ++ ndCells x)
  fnd : MapV W3 Tryz.prog 107 h.bf s.cnt s.ff
  dne : MapV W3 Tryz.prog 152 h.bd s.cnt s.fd
  own : ∀ k, nv2.ownBlock = some k → s.nv.ownBlock = some k ∨ w.heap.size ≤ k
  neb : ∀ k, nv2.ownBlock = some k → k ≠ h.b ∧ k ≠ h.bf ∧ k ≠ h.bd

theorem half_of {w W w2 : World} {h : DH} {s : DS} {x : Nd} {g cap g2 cap2 : Nat} (d : Dia w h s) (hW : Keeps (fun _ => False) w W) (hnv : s.nv = .slice (some ⟨g, 0, none⟩) s.nodes.length cap)
    (hk2 : Keeps (fun k => k = g) W w2) (hown : w2.ownsRow 0 107 3 (.slice (some ⟨g2, 0, none⟩) (s.nodes.length + 1) cap2) (s.nodes.length + 1) (s.nodes.flatMap ndCells ++ ndCells x))
    (hat : g2 = g ∨ W.heap.size ≤ g2) (hb2 : w2.heap[h.b]? = some (.cells #[h.ov, h.lv, s.nv, .map (some h.bf), .map (some h.bd), .int .i64 s.steps] 112 (0, 0))) :
    Half w (w2.setCell ⟨h.b, 2, none⟩ (.slice (some ⟨g2, 0, none⟩) (s.nodes.length + 1) cap2)) h s x (.slice (some ⟨g2, 0, none⟩) (s.nodes.length + 1) cap2) := by
  obtain ⟨m1, m2, m3⟩ := d.map_ne
  have hgown : s.nv.ownBlock = some g := by rw [hnv]; rfl
  obtain ⟨m4, m5⟩ := m3 g hgown
  have hl := d.lt
  have hbl := hl h.b (Or.inl rfl)
  have hfl := hl h.bf (Or.inr (Or.inl rfl))
  have hdl := hl h.bd (Or.inr (Or.inr (Or.inl rfl)))
  have hsz := hW.size
  have hgb : g ≠ h.b := by
    obtain ⟨g', cap', e', _, _, hne⟩ := d.node
    rw [hnv] at e'; simp at e'; rw [e'.1]; exact hne
  have hg2b : g2 ≠ h.b ∧ g2 ≠ h.bf ∧ g2 ≠ h.bd := by
    rcases hat with e | e
    · subst e; exact ⟨hgb, fun e => m4 e.symm, fun e => m5 e.symm⟩
    · exact ⟨by omega, by omega, by omega⟩
  have hk3 : Keeps (own h s) w (w2.setCell ⟨h.b, 2, none⟩ (.slice (some ⟨g2, 0, none⟩) (s.nodes.length + 1) cap2)) :=
    ((hW.mono (fun k hk => hk.elim)).trans hk2 (fun k hk => by subst hk; exact Or.inl (Or.inr (Or.inr (Or.inr hgown))))).setCell (Or.inl (Or.inl rfl)) _
  have hset : ∀ k, k ≠ h.b → (w2.setCell ⟨h.b, 2, none⟩ (.slice (some ⟨g2, 0, none⟩) (s.nodes.length + 1) cap2)).heap[k]? = w2.heap[k]? := fun k hk => Below.heap_setCell _ _ _ _ hk
  have hmap : ∀ k, k < w.heap.size → k ≠ h.b → k ≠ g → (w2.setCell ⟨h.b, 2, none⟩ (.slice (some ⟨g2, 0, none⟩) (s.nodes.length + 1) cap2)).heap[k]? = w.heap[k]? := fun k h1 h2 h3 =>
    (hset k h2).trans ((hk2.block k (by omega) h3).trans (hW.block k h1 (fun hf => hf)))
  refine ⟨hk3, ?_, ?_, d.fnd.kept (hmap _ hfl m1 m4), d.dne.kept (hmap _ hdl m2 m5), ?_, ?_⟩
  · simp [World.setCell, Array.getElem?_modify, hb2]
  · exact hown.kept (row := some h.b) ⟨rfl, rfl, rfl, by simp [World.setCell], fun k _ hk => hset k (by simpa using hk)⟩ (Or.inr (by simpa [Value.ownBlock] using hg2b.1))
  · intro k hk
    simp [Value.ownBlock] at hk
    subst hk
    rcases hat with e | e
    · subst e; exact Or.inl hgown
    · exact Or.inr (by omega)
  · intro k hk
    simp [Value.ownBlock] at hk
    subst hk
    exact hg2b

theorem fork_push {w W3 w4 : World} {h : DH} {s : DS} {lev lo hi : Nat} {nv2 : Value} (d : Dia w h s) (hh : Half w W3 h s ⟨lev, lo, hi⟩ nv2) (hl : lev < h.n) (h1 : lo < s.nodes.length) (h2 : hi < s.nodes.length) (hL : lev < (ndAt s.nodes lo).lev) (hH : lev < (ndAt s.nodes hi).lev)
    (hne : lo ≠ hi) (hnew : ∀ k, 2 ≤ k → k < s.nodes.length → ndAt s.nodes k ≠ ⟨lev, lo, hi⟩) (hm4 : MapV w4 Tryz.prog 107 h.bf (s.cnt + 1) (putV s.ff (ndV ⟨lev, lo, hi⟩) (.int .i32 s.nodes.length))) (hg4 : W3.grownBy w4 (some h.bf)) :
    ForkEnd w h s lev lo hi (.returned (.int .i32 s.nodes.length)) w4 := by
  have hwf := d.inv.wf.push ⟨lev, lo, hi⟩ hl h1 h2 hne hL hH hnew
  have hext : Ext s.nodes (s.nodes ++ [⟨lev, lo, hi⟩]) := ⟨_, rfl⟩
  obtain ⟨m1, m2, m3⟩ := d.map_ne
  have hsz := hh.keeps.size
  have hb : ∀ k, k < W3.heap.size → k ≠ h.bf → w4.heap[k]? = W3.heap[k]? := fun k hk hn => hg4.block k hk (by simpa using hn)
  have h2len := d.inv.wf.two
  refine ⟨⟨s.nodes ++ [⟨lev, lo, hi⟩], nv2, putV s.ff (ndV ⟨lev, lo, hi⟩) (.int .i32 s.nodes.length), s.fd, s.steps, s.cnt + 1⟩, s.nodes.length, rfl, ⟨⟨?_, hext, ?_, ?_⟩, by simp, ?_, ?_, rfl, Nat.le_refl _⟩⟩
  · have hblt := (Array.getElem?_eq_some_iff.1 hh.blk).1
    refine ⟨(hb _ hblt (fun e => m1 e.symm)).trans hh.blk, ?_, hm4, ((hh.dne.kept (hb _ hh.dne.lt (fun e => d.ne e.symm))).mono (Nat.le_succ _)), d.ne, ⟨hwf, find_push d.inv.find hnew h2len, done_ext d.inv.done hext d.inv.wf, by have := d.inv.cnt; simp; omega⟩⟩
    have := hh.row.kept hg4 (Or.inr (fun e => (hh.neb _ e).2.1 rfl))
    simpa [List.flatMap_append] using this
  · exact hh.keeps.trans (S' := fun k => k = h.bf) ⟨hg4.os, hg4.tape, hg4.output, hg4.size, fun k hk hn => hb k hk hn⟩ (fun k e => Or.inl (Or.inr (Or.inl e)))
  · intro k hk
    rcases hk with rfl | rfl | rfl | hk
    · exact Or.inl (Or.inl rfl)
    · exact Or.inl (Or.inr (Or.inl rfl))
    · exact Or.inl (Or.inr (Or.inr (Or.inl rfl)))
    · rcases hh.own k hk with e | e
      · exact Or.inl (Or.inr (Or.inr (Or.inr e)))
      · exact Or.inr e
  · intro σ
    show sem (s.nodes ++ [⟨lev, lo, hi⟩]) s.nodes.length σ = _
    rw [sem_node hwf h2len (by simp), ndAt_last, hext.sem d.inv.wf h1, hext.sem d.inv.wf h2]
  · show lev ≤ (ndAt (s.nodes ++ [⟨lev, lo, hi⟩]) s.nodes.length).lev
    rw [ndAt_last]; exact Nat.le_refl _

set_option maxHeartbeats 3200000 in
theorem fork_any (h : DH) (s : DS) (lev lo hi : Nat) (w : World) (d : Dia w h s) (hl : lev < h.n) (h1 : lo < s.nodes.length) (h2 : hi < s.nodes.length) (hL : lev < (ndAt s.nodes lo).lev) (hH : lev < (ndAt s.nodes hi).lev)
    (hn : h.n < 2 ^ 31) (hc : s.cnt < 2 ^ 30) :
    Calls Tryz.prog 93 #[.pointer (some ⟨h.b, 0, none⟩), .int .i64 lev, .int .i32 lo, .int .i32 hi] w (ForkEnd w h s lev lo hi) := by
  have hcnt := d.inv.cnt
  by_cases heq : lo = hi
  · subst heq
    have hfin : ForkEnd w h s lev lo lo (.returned (.int .i32 lo)) w := ⟨s, lo, rfl, Upd.refl d, h1, fun σ => by split <;> rfl, by omega, rfl, by omega⟩
    have Hf := Lib.hid hfin
    clear hfin d
    go_enter Tryz.func93, Tryz.ntmps93
    go_wp2
    go_ret
    exact Hf.out
  have heq' : ((lo : Int) == (hi : Int)) = false := beq_eq_false_iff_ne.2 (by omega)
  have hblt : h.b < w.heap.size := d.lt _ (Or.inl rfl)
  obtain ⟨kl, hkl⟩ := key_nd ⟨lev, lo, hi⟩ (by simp; omega) (by simp; omega) (by simp; omega)
  simp only [ndV] at hkl
  have hrun : ∀ (O : Obj) (q : Nat), (Instr.lookup 109 (.map (some h.bf)) (.agg #[.int .i64 lev, .int .i32 lo, .int .i32 hi]) true).run Tryz.prog ((w.alloc O).drewN q) = .ok (.tuple #[(s.ff (ndV ⟨lev, lo, hi⟩)).getD (.int .i32 0), .bool (s.ff (ndV ⟨lev, lo, hi⟩)).isSome]) ((w.alloc O).drewN q) :=
    fun O q => ((d.alloc O).drewN q).fnd.look_ok nodeLaw Tryz.underlying109 (zeroKnot _) hkl
  by_cases hex : ∃ i, 2 ≤ i ∧ i < s.nodes.length ∧ ndAt s.nodes i = ⟨lev, lo, hi⟩
  · obtain ⟨i, i2, hi', hnd⟩ := hex
    have hff : s.ff (ndV ⟨lev, lo, hi⟩) = some (.int .i32 i) := by rw [← hnd]; exact d.inv.find.yes i i2 hi'
    rw [hff] at hrun
    simp only [Option.getD_some, Option.isSome_some] at hrun
    have hfin : ∀ O q, ForkEnd w h s lev lo hi (.returned (.int .i32 i)) ((w.alloc O).drewN q) := fun O q =>
      ⟨s, i, rfl, ((Upd.refl d).alloc O).drewN q, hi', fun σ => by rw [sem_node d.inv.wf i2 hi', hnd], by rw [hnd]; exact Nat.le_refl _, rfl, by omega⟩
    obtain ⟨c0, c1, c2, c3, c4, c5⟩ := d.cells
    have Hf := Lib.hid hfin
    clear hfin d hkl hff hnd
    go_enter Tryz.func93, Tryz.ntmps93
    go_wp2
    go_quiet (fail)
    go_wp2
    go_ret
    exact Hf.out _ _
  · have hff : s.ff (ndV ⟨lev, lo, hi⟩) = none := d.inv.find.no _ (fun i i2 hi' e => hex ⟨i, i2, hi', e⟩)
    rw [hff] at hrun
    simp only [Option.getD_none, Option.isSome_none] at hrun
    obtain ⟨c0, c1, c2, c3, c4, c5⟩ := d.cells
    obtain ⟨g, cap, e, hcs, hg, hgb⟩ := d.node
    rw [e] at c2
    have Hd := Lib.hid d
    have He := Lib.hid e
    clear d e hcs
    go_enter Tryz.func93, Tryz.ntmps93
    go_wp2
    go_quiet (fail)
    go_wp2
    have hW : Dia ((w.alloc (.cells #[.int .i64 lev, .int .i32 lo, .int .i32 hi] 107)).drewN nq) h s := ((Hd.out).alloc _).drewN _
    have hsz : ((w.alloc (.cells #[.int .i64 lev, .int .i32 lo, .int .i32 hi] 107)).drewN nq).heap.size = w.heap.size + 1 := by simp
    have n0 : ((w.alloc (.cells #[.int .i64 lev, .int .i32 lo, .int .i32 hi] 107)).drewN nq).cell? ⟨w.heap.size, 0, none⟩ = some (.int .i64 lev) := by simp
    have n1 : ((w.alloc (.cells #[.int .i64 lev, .int .i32 lo, .int .i32 hi] 107)).drewN nq).cell? ⟨w.heap.size, 1, none⟩ = some (.int .i32 lo) := by simp
    have n2 : ((w.alloc (.cells #[.int .i64 lev, .int .i32 lo, .int .i32 hi] 107)).drewN nq).cell? ⟨w.heap.size, 2, none⟩ = some (.int .i32 hi) := by simp
    have hkp : Keeps (fun _ => False) w ((w.alloc (.cells #[.int .i64 lev, .int .i32 lo, .int .i32 hi] 107)).drewN nq) := ((Keeps.refl _ _).alloc _).drewN _
    clear hrun
    generalize (w.alloc (.cells #[.int .i64 lev, .int .i32 lo, .int .i32 hi] 107)).drewN nq = W at *
    obtain ⟨C0, C1, C2, C3, C4, C5⟩ := hW.cells
    rw [He.out] at C2
    have hrow := hW.row
    have Hrow := Lib.hid hrow; have HW := Lib.hid hW; have Hsz := Lib.hid hsz
    clear hrow hW hsz c0 c1 c2 c3 c4 c5
    obtain ⟨i0, hi0, hz0, hz1, hz2⟩ := info_parts infoNode
    have hlen : s.nodes.length < 2 ^ 30 + 2 := by omega
    have hblt2 : h.b < W.heap.size := by rw [Hsz.out]; omega
    have hone : ∀ u ∈ ndCells ⟨lev, lo, hi⟩, u.oneCell' = true := by intro u hu; simp [ndCells] at hu; rcases hu with rfl | rfl | rfl <;> rfl
    have Hone := Lib.hid hone
    clear hone
    have hblk := HW.out.blk
    rw [He.out] at hblk
    have Hblk := Lib.hid hblk
    clear hblk
    have hnew := heap_alloc_new W (Obj.cells #[.int .i64 lev, .int .i32 lo, .int .i32 hi] 107)
    have Hnew := Lib.hid hnew
    clear hnew
    go_region_law (go_loud (refine step_append_lies _ rfl (.tmp 41) (.tmp 43) 108 rfl 0 107 i0 (.agg #[.int .i64 0, .int .i32 0, .int .i32 0]) 3 16 Tryz.underlying108 hi0 hz0 hz1 hz2 rfl (by decide) (.slice (some ⟨g, 0, none⟩) s.nodes.length cap) s.nodes.length (s.nodes.flatMap ndCells) (by simp [Act.eval, Act.put]) (by rw [← He.out]; first | exact Hrow.out.alloc _ | exact (Hrow.out.alloc _).drew) ⟨W.heap.size, 0, none⟩ 1 1 (ndCells ⟨lev, lo, hi⟩) (by simp [Act.eval, Act.put]) rfl (World.news_of_block (cs := #[.int .i64 lev, .int .i32 lo, .int .i32 hi]) (t := 107) (fr := (0, 0)) (by exact Hnew.out)) Hone.out (by omega) (by unfold maxLen; omega) (by omega) (Nat.zero_le _) _ rfl ?_); intro g2 cap2 w2 hown hgrow hat hlt2; have hk2 : Keeps (fun k => k = g) W w2 := (by first | exact ((Keeps.refl _ W).alloc _).drew.grown hgrow (fun k e => Or.inl (by simpa [Value.ownBlock] using e.symm)) | exact ((Keeps.refl _ W).drew.alloc _).grown hgrow (fun k e => Or.inl (by simpa [Value.ownBlock] using e.symm))); have hat2 : g2 = g ∨ W.heap.size ≤ g2 := hat.imp (fun e => by simpa [Value.ownBlock] using e.symm) (fun e => by simp at e; omega); have hb2 : w2.heap[h.b]? = some (.cells #[h.ov, h.lv, .slice (some ⟨g, 0, none⟩) s.nodes.length cap, .map (some h.bf), .map (some h.bd), .int .i64 s.steps] 112 (0, 0)) := (hk2.block h.b hblt2 (by omega)).trans Hblk.out; have hc2 : w2.cell? ⟨h.b, 2, none⟩ = some (.slice (some ⟨g, 0, none⟩) s.nodes.length cap) := (cell_of_row w2 h.b _ _ _ (0, 0) hb2).trans rfl; have hf2 : w2.frozen? ⟨h.b, 2, none⟩ = false := (by simp [World.frozen?, hb2]); clear hgrow hat)
    all_goals
      have hh := half_of (x := ⟨lev, lo, hi⟩) Hd.out hkp He.out hk2 hown hat2 (by rw [He.out]; exact hb2)
      have hm0 : w2.cell? ⟨w.heap.size, 0, none⟩ = some (.int .i64 lev) := hk2.cell n0 (by omega)
      have hm1 : w2.cell? ⟨w.heap.size, 1, none⟩ = some (.int .i32 lo) := hk2.cell n1 (by omega)
      have hm2 : w2.cell? ⟨w.heap.size, 2, none⟩ = some (.int .i32 hi) := hk2.cell n2 (by omega)
      have hm3 : w2.cell? ⟨h.b, 3, none⟩ = some (.map (some h.bf)) := (cell_of_row w2 h.b _ _ _ (0, 0) hb2).trans rfl
      have hbn : h.b ≠ w.heap.size := by omega
      have hnew : ∀ k, 2 ≤ k → k < s.nodes.length → ndAt s.nodes k ≠ ⟨lev, lo, hi⟩ := fun k k2 hk e => hex ⟨k, k2, hk, e⟩
      have q : ∀ o v, w2.cell? ⟨w.heap.size, o, none⟩ = some v → (w2.setCell ⟨h.b, 2, none⟩ (.slice (some ⟨g2, 0, none⟩) (s.nodes.length + 1) cap2)).cell? ⟨w.heap.size, o, none⟩ = some v := fun o v hv => (World.cell?_of_block (Below.heap_setCell w2 ⟨h.b, 2, none⟩ _ _ (fun e => hbn e.symm))).trans hv
      have q0 := q 0 _ hm0
      have q1 := q 1 _ hm1
      have q2 := q 2 _ hm2
      have q3 : (w2.setCell ⟨h.b, 2, none⟩ (.slice (some ⟨g2, 0, none⟩) (s.nodes.length + 1) cap2)).cell? ⟨h.b, 3, none⟩ = some (.map (some h.bf)) := (cell_of_row _ h.b _ _ _ (0, 0) hh.blk).trans rfl
      clear q hm0 hm1 hm2 hm3 hown hk2 hb2 hc2 hf2 n0 n1 n2 C0 C1 C2 C3 C4 C5
      generalize w2.setCell ⟨h.b, 2, none⟩ (.slice (some ⟨g2, 0, none⟩) (s.nodes.length + 1) cap2) = W3 at *
      obtain ⟨w4, hrun4, hm4, hg4⟩ := (hh.fnd.kept (w' := W3.drew) rfl).update (t := 109) (val := .int .i32 s.nodes.length) nodeLaw Tryz.underlying109 (by unfold maxLen; omega) hkl
      have hfin := fork_push Hd.out hh hl h1 h2 hL hH heq hnew hm4 ⟨hg4.os, hg4.tape, hg4.output, hg4.size, hg4.block⟩
      have Hfin := Lib.hid hfin
      clear hfin hm4 hg4 hh
      go_wp2
      go_region
      all_goals
        go_wp2
        go_ret
        exact Hfin.out
end Go.Proofs.YtngjjmniigkeoaaGreatDoor
