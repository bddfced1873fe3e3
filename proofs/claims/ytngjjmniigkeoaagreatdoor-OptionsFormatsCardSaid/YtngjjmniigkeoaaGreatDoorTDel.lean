/- Clone, IndexFunc, DeleteFunc of terms. IndexFunc, DeleteFunc: terms of the weight 0 are left out. -/
import Derived.Test.YtngjjmniigkeoaaGreatDoorTSort
import Derived.Lib.AppendZeros
import Derived.Laws.AppendOwnNone
import Derived.Lib.SliceRun
namespace Go.Proofs.YtngjjmniigkeoaaGreatDoor
open Go Go.RowKit Go.WideMaps Go.Maps
set_option linter.unusedSimpArgs false
set_option linter.unusedVariables false

theorem infoTerm : (Tryz.prog.info? 129).map (fun i => (i.zero, i.size, i.bytes)) = some (some (.agg #[.int .i32 0, .int .i64 0]), 2, 16) := by kernel_rfl

theorem terms_news {w : World} {ad : Addr} {ts : List (Nat × Int)} (h : TermsAt w (some ad) ts) : ∀ j u, (ts.flatMap tmCells)[j]? = some u → w.cell? (ad.add j) = some u := by
  intro j u hu
  have hl := flat2_len ts
  obtain ⟨hj, _⟩ := List.getElem?_eq_some_iff.1 hu
  obtain ⟨g, e, hc⟩ := h.cells (by omega)
  cases e
  have hadd : (⟨g, 0, none⟩ : Addr).add j = ⟨g, j, none⟩ := by unfold Addr.add; split <;> simp_all
  rw [hadd]
  have hk : j / 2 < ts.length := by omega
  obtain ⟨f0, f1⟩ := flat2_at ts (j / 2) hk
  obtain ⟨c0, c1⟩ := hc (j / 2) hk
  rcases Nat.mod_two_eq_zero_or_one j with h0 | h0
  · have e2 : j / 2 * 2 = j := by omega
    rw [e2] at f0 c0
    rw [hu] at f0
    rw [c0, ← f0]
  · have e2 : j / 2 * 2 + 1 = j := by omega
    rw [e2] at f1 c1
    rw [hu] at f1
    rw [c1, ← f1]
theorem tm_one (ts : List (Nat × Int)) : ∀ u ∈ ts.flatMap tmCells, u.oneCell' = true := by
  intro u hu
  obtain ⟨t, _, ht⟩ := List.mem_flatMap.1 hu
  simp [tmCells] at ht
  rcases ht with rfl | rfl <;> rfl

def TCloneEnd (w : World) (ts : List (Nat × Int)) (e : Ending) (w' : World) : Prop := ∃ g cap, e = .returned (.slice (some ⟨g, 0, none⟩) ts.length cap) ∧ TRow w' w.heap.size g ts.length cap ts ∧ Keeps (fun _ => False) w w'

set_option maxHeartbeats 800000 in
set_option maxRecDepth 100000 in
theorem tclone_any (ad : Addr) (cap : Nat) (ts : List (Nat × Int)) (w : World) (ht : TermsAt w (some ad) ts) :
    Calls Tryz.prog 124 #[.slice (some ad) ts.length cap] w (TCloneEnd w ts) := by
  obtain ⟨i0, hi0, hz0, hz1, hz2⟩ := info_parts infoTerm
  have hl := ht.len
  have hl2 := flat2_len ts
  have hnews := terms_news (ht.keeps (S := fun _ => False) ((Keeps.refl _ w).alloc (.cells #[] 129)) (fun _ _ _ e => e))
  have hrow : (w.alloc (.cells #[] 129)).ownsRow w.heap.size 129 2 (.slice (some ⟨w.heap.size, 0, none⟩) 0 0) 0 [] := ⟨rfl, .inr ⟨w.heap.size, 0, #[], rfl, Nat.le_refl _, heap_alloc_new _ _, Nat.le_refl _, by unfold maxLen; omega, rfl, rfl⟩⟩
  have heq := Lib.run_eql_slice_nil (P := Tryz.prog) w 127 129 (some ad) ts.length cap 0 0 Tryz.underlying127
  simp only [Option.isNone_some] at heq
  have hk1 : Keeps (fun _ => False) w (w.alloc (.cells #[] 129)) := (Keeps.refl _ w).alloc _
  have Hn := Lib.hid hnews; have Hr := Lib.hid hrow; have Hk := Lib.hid hk1
  clear hnews hrow hk1 ht
  go_enter Tryz.func124, Tryz.ntmps124
  go_wp2_with (at_builtin; refine wpList_append_own _ rfl _ _ 127 rfl w.heap.size 129 i0 (.agg #[.int .i32 0, .int .i64 0]) 2 16 Tryz.underlying127 hi0 hz0 hz1 hz2 rfl (by decide) _ 0 [] rfl Hr.out ad ts.length cap (ts.flatMap tmCells) rfl hl2 Hn.out (tm_one ts) (by unfold maxLen; omega) (by omega) (by simp) ?_; intro v' w' hown hgrow hnil)
  have hv : ∃ g cap, v' = .slice (some ⟨g, 0, none⟩) ts.length cap := by
    rcases hown.2 with ⟨e, _⟩ | ⟨g, cap', cur, e, _⟩
    · have := hnil.1 e; cases this.1
    · exact ⟨g, cap', by rw [e]; congr 1; omega⟩
  obtain ⟨g, cap', rfl⟩ := hv
  have hrow2 : TRow w' w.heap.size g ts.length cap' ts := ⟨by simpa using hown⟩
  have hg' : (w.alloc (.cells #[] 129)).grownBy w' (some w.heap.size) := hgrow
  have hk2 : Keeps (fun _ => False) w w' := by
    have := (Hk.out.mono (S' := fun b => b = w.heap.size) (fun _ e => e.elim)).grown hg' (fun k e => by cases e; exact Or.inl rfl)
    exact this.mono (fun k e => Or.inr (by omega))
  have Hr2 := Lib.hid hrow2; have Hk2 := Lib.hid hk2
  clear hrow2 hk2 hown hgrow hnil hg'
  go_ret
  exact ⟨g, cap', rfl, Hr2.out, Hk2.out⟩

open Go Go.RowKit Go.WideMaps Go.Maps
set_option linter.unusedSimpArgs false
set_option linter.unusedVariables false

def IndexEnd (ts : List (Nat × Int)) (e : Ending) : Prop :=
  (∃ k : Nat, k < ts.length ∧ (ts.getD k (0, 0)).2 = 0 ∧ (∀ j, j < k → (ts.getD j (0, 0)).2 ≠ 0) ∧ e = .returned (.int .i64 k)) ∨ ((∀ j, j < ts.length → (ts.getD j (0, 0)).2 ≠ 0) ∧ e = .returned (.int .i64 (-1)))

set_option maxRecDepth 100000 in
set_option maxHeartbeats 1600000 in
theorem tindex_any (ad : Addr) (cap : Nat) (ts : List (Nat × Int)) (w : World) (ht : TermsAt w (some ad) ts) :
    Calls Tryz.prog 121 #[.slice (some ad) ts.length cap, .func (Fn.func 102) #[] #[]] w fun e w' => IndexEnd ts e ∧ Keeps (fun _ => False) w w' := by
  have hl := ht.len
  have Ht := Lib.hid ht
  clear ht
  go_enter Tryz.func121, Tryz.ntmps121
  go_wp2_with fail
  go_loopw [8] (fun i wr => ∃ k : Nat, k ≤ ts.length ∧ i = .int .i64 k ∧ (∀ j, j < k → (ts.getD j (0, 0)).2 ≠ 0) ∧ Keeps (fun _ => False) w wr) (fun i _ => ts.length - (intOf i).toNat)
  case atStart => exact ⟨0, Nat.zero_le _, rfl, fun j hj => by omega, Keeps.refl _ _⟩
  case round =>
    obtain ⟨k, hk, rfl, hno, kp⟩ := hrel
    by_cases hlt : k < ts.length
    · obtain ⟨g, e, hc⟩ := (Ht.out.keeps kp (fun _ _ _ e => e)).cells (by omega)
      cases e
      obtain ⟨c1, c2⟩ := hc k hlt
      have j1 : (k : Int) < (ts.length : Int) := by omega
      by_cases hz : (ts.getD k (0, 0)).2 = 0
      · have hfin : IndexEnd ts (.returned (.int .i64 k)) := .inl ⟨k, hlt, hz, hno, rfl⟩
        have hzb : ((ts.getD k (0, 0)).2 == 0) = true := beq_iff_eq.2 hz
        have Hf := Lib.hid hfin; have Hkp := Lib.hid kp
        clear hfin hno kp hc hz
        generalize ts.getD k (0, 0) = t at *
        go_wp2_with fail
        refine (settle2_any t.1 t.2 _).mono ?_
        rintro e w1 ⟨rfl, kp1⟩
        have hk2 := Hkp.out.trans kp1 (fun _ e => e.elim)
        clear kp1
        go_wp2_with fail
        go_ret
        exact ⟨Hf.out, hk2⟩
      · have hno2 : ∀ j, j < k + 1 → (ts.getD j (0, 0)).2 ≠ 0 := by
          intro j hj
          rcases Nat.lt_or_ge j k with h1 | h1
          · exact hno j h1
          · have : j = k := by omega
            rw [this]; exact hz
        have hzb : ((ts.getD k (0, 0)).2 == 0) = false := beq_eq_false_iff_ne.2 hz
        have Hno := Lib.hid hno2; have Hkp := Lib.hid kp
        clear hno hno2 kp hc hz
        generalize ts.getD k (0, 0) = t at *
        go_wp2_with fail
        refine (settle2_any t.1 t.2 _).mono ?_
        rintro e w1 ⟨rfl, kp1⟩
        have hk2 := Hkp.out.trans kp1 (fun _ e => e.elim)
        clear kp1
        go_wp2_with fail
        go_roundw
        case rel => exact ⟨k + 1, by omega, by go_num, Hno.out, hk2⟩
        case measure => simp [intOf]; omega
    · obtain rfl : k = ts.length := by omega
      have hfin : IndexEnd ts (.returned (.int .i64 (-1))) := .inr ⟨hno, rfl⟩
      have Hf := Lib.hid hfin
      clear hfin hno
      go_wp2_with fail
      go_ret
      exact ⟨Hf.out, kp⟩

def keepT (ts : List (Nat × Int)) : List (Nat × Int) := ts.filter (fun t => !(t.2 == 0))
/-- As terms are left out: the first c are what stays of the first j. -/
structure Del (zs : List (Nat × Int)) (j c : Nat) (ys : List (Nat × Int)) : Prop where
  len : ys.length = zs.length
  le : c ≤ j
  rest : ys.drop j = zs.drop j
  take : ys.take c = keepT (zs.take j)
theorem keepT_all {ts : List (Nat × Int)} (h : ∀ j, j < ts.length → (ts.getD j (0, 0)).2 ≠ 0) : keepT ts = ts := by
  unfold keepT
  rw [List.filter_eq_self]
  intro t ht
  obtain ⟨j, hj, rfl⟩ := List.getElem_of_mem ht
  have := h j hj
  simp [List.getD, hj] at this
  simp [this]
theorem Del.start {zs : List (Nat × Int)} {k : Nat} (hk : k < zs.length) (hz : (zs.getD k (0, 0)).2 = 0) (hno : ∀ j, j < k → (zs.getD j (0, 0)).2 ≠ 0) : Del zs (k + 1) k zs := by
  refine ⟨rfl, by omega, rfl, ?_⟩
  have h1 : keepT (zs.take k) = zs.take k := keepT_all (fun j hj => by
    rw [List.length_take] at hj
    have := hno j (by omega)
    simpa [List.getD, List.getElem?_take, show j < k by omega] using this)
  have h2 : keepT (zs.take (k + 1)) = keepT (zs.take k) ++ keepT [zs.getD k (0, 0)] := by
    unfold keepT
    rw [List.take_succ_eq_append_getElem hk, List.filter_append]
    simp [List.getD, hk]
  rw [h2, h1]
  simp only [keepT, List.filter_cons, hz]
  simp
theorem Del.at {zs ys : List (Nat × Int)} {j c : Nat} (h : Del zs j c ys) (hj : j < zs.length) : ys.getD j (0, 0) = zs.getD j (0, 0) := by
  have h1 := h.rest
  rw [List.drop_eq_getElem_cons (by rw [h.len]; exact hj), List.drop_eq_getElem_cons hj] at h1
  simp [List.getD, hj, h.len]
  exact (List.cons.inj h1).1
theorem Del.rest1 {zs ys : List (Nat × Int)} {j c : Nat} (h : Del zs j c ys) : ys.drop (j + 1) = zs.drop (j + 1) := by
  have e : ∀ l : List (Nat × Int), l.drop (j + 1) = (l.drop j).drop 1 := fun l => by rw [List.drop_drop]
  rw [e, e, h.rest]
theorem keepT_succ {zs : List (Nat × Int)} {j : Nat} (hj : j < zs.length) : keepT (zs.take (j + 1)) = keepT (zs.take j) ++ keepT [zs.getD j (0, 0)] := by
  unfold keepT
  rw [List.take_succ_eq_append_getElem hj, List.filter_append]
  simp [List.getD, hj]
theorem Del.skip {zs ys : List (Nat × Int)} {j c : Nat} (h : Del zs j c ys) (hj : j < zs.length) (hz : (zs.getD j (0, 0)).2 = 0) : Del zs (j + 1) c ys := by
  refine ⟨h.len, by have := h.le; omega, h.rest1, ?_⟩
  rw [keepT_succ hj, h.take]
  simp only [keepT, List.filter_cons, hz]
  simp
theorem Del.push {zs ys : List (Nat × Int)} {j c : Nat} (h : Del zs j c ys) (hj : j < zs.length) (hz : (zs.getD j (0, 0)).2 ≠ 0) : Del zs (j + 1) (c + 1) (ys.set c (zs.getD j (0, 0))) := by
  have hle := h.le
  have hlen := h.len
  refine ⟨by simp [hlen], by omega, by rw [drop_set_lt _ _ _ _ (by omega)]; exact h.rest1, ?_⟩
  rw [take_set_last _ _ _ (by omega), keepT_succ hj, h.take]
  congr 1
  generalize zs.getD j (0, 0) = t at *
  simp [keepT, hz]

theorem wpList_clear_run {P : Program} {w : World} {ops : Array Oper} {rest : List Oper} {o : Oper} {a : Act} {Q : Exit → Act → World → Prop} (hgd : o.guard = none) (s : Operand) (t : TypeId)
    (ho : o.op = .call { callee := .builtin .clear, args := #[s], argTypes := #[t] }) (vs : Value) (hs : a.eval s = vs)
    (v' : Value) (w' : World) (hr : (Builtin.clear_ #[t] o.type #[vs]).run P w = .ok v' w') (h : wpList P ops Q rest (a.put o.dst v') w') : wpList P ops Q (o :: rest) a w :=
  wpList_plain hgd fun _ hK => by
    unfold Oper.wp execOp
    simp only [ho, resolve, invoke, builtin, Sem.run_bind, Sem.run_pure, Result.andThen_ok, List.map_toArray, List.map_cons, List.map_nil, hs, hr]
    exact hK _ _ h

theorem zeroTerm (w : World) : (zeroValue 129).run Tryz.prog w = .ok (.agg #[.int .i32 0, .int .i64 0]) w := by kernel_rfl
def zeroTerms (n : Nat) : List Value := (Builtin.zeroCells (Value.agg #[.int .i32 0, .int .i64 0]).cells n).toList
theorem zeroTerms_one (n : Nat) : ∀ v ∈ zeroTerms n, v.oneCell' = true := by
  intro v hv
  simp [zeroTerms, Builtin.zeroCells] at hv
  obtain ⟨i, hi, rfl⟩ := hv
  have : i % 2 = 0 ∨ i % 2 = 1 := by omega
  rcases this with h | h <;> simp [Value.cells, h] <;> rfl
theorem zeroTerms_len (n : Nat) : (zeroTerms n).length = n * 2 := by simp [zeroTerms, Builtin.zeroCells, Value.cells]
theorem run_clear_terms (w : World) (ty : TypeId) (b o n c : Nat) (hn : 0 < n) (hc : ∀ j, j < n * 2 → (w.cell? ⟨b, o + j, none⟩).isSome = true) (hf : ∀ j, j < n * 2 → w.frozen? ⟨b, o + j, none⟩ = false) :
    (Builtin.clear_ #[127] ty #[.slice (some ⟨b, o, none⟩) n c]).run Tryz.prog w = .ok (.tuple #[]) (w.setCells b o (zeroTerms n)) := by
  have hl := zeroTerms_len n
  have hst := run_storeCells_cells (P := Tryz.prog) b o (zeroTerms n) 0 w (by rw [hl]; simpa using hc) (by rw [hl]; simpa using hf) (zeroTerms_one n)
  simp only [Nat.add_zero] at hst
  obtain ⟨m, rfl⟩ : ∃ m, n = m + 1 := ⟨n - 1, by omega⟩
  unfold zeroTerms at hst
  simp [Builtin.clear_, run_underlying Tryz.underlying127, zeroTerm, hst, zeroTerms]

/-- What stands behind the first c is let go. -/
theorem TRow.cut {w : World} {base g n cap : Nat} {ys : List (Nat × Int)} (h : TRow w base g n cap ys) {c : Nat} (hc : c ≤ n) : ∀ (vs : List Value) (o : Nat), c * 2 ≤ o → o + vs.length ≤ n * 2 → TRow (w.setCells g o vs) base g c cap (ys.take c) := by
  have hl := h.len
  have key : ∀ (vs : List Value) (o : Nat) (w : World) (xs : List Value), c * 2 ≤ o → xs.take (c * 2) = (ys.take c).flatMap tmCells → w.ownsRow base 129 2 (.slice (some ⟨g, 0, none⟩) n cap) n xs →
      ∃ xs', xs'.take (c * 2) = (ys.take c).flatMap tmCells ∧ (w.setCells g o vs).ownsRow base 129 2 (.slice (some ⟨g, 0, none⟩) n cap) n xs' := by
    intro vs
    induction vs with
    | nil => intro o w xs _ hx hr; exact ⟨xs, hx, hr⟩
    | cons v vs ih =>
      intro o w xs ho hx hr
      refine ih (o + 1) _ (xs.set o v) (by omega) ?_ (hr.stored o v).1
      rw [List.take_set_of_le (by omega), hx]
  intro vs o ho hov
  have hx0 : (ys.flatMap tmCells).take (c * 2) = (ys.take c).flatMap tmCells := by
    have e : ys.flatMap tmCells = (ys.take c).flatMap tmCells ++ (ys.drop c).flatMap tmCells := by rw [← List.flatMap_append, List.take_append_drop]
    rw [e, List.take_append_of_le_length (by rw [flat2_len, List.length_take]; omega), List.take_of_length_le (by rw [flat2_len, List.length_take]; omega)]
  obtain ⟨xs', h1, h2⟩ := key vs o w _ ho hx0 h.row
  refine ⟨by rw [flat2_len, List.length_take]; omega, ?_⟩
  rcases h2.2 with ⟨e, _⟩ | ⟨g', cap', cur, e, hb, hg, hnc, hcm, hcs, htake⟩
  · cases e
  · simp only [Value.slice.injEq, Option.some.injEq, Addr.mk.injEq, and_true, true_and] at e
    obtain ⟨rfl, rfl⟩ := e
    refine .inr ⟨g, cap, cur, rfl, hb, hg, by omega, hcm, hcs, ?_⟩
    rw [← h1, ← htake, List.take_take]
    congr 1; omega

def DelEnd (w : World) (base g cap : Nat) (zs : List (Nat × Int)) (e : Ending) (w' : World) : Prop := e = .returned (.slice (some ⟨g, 0, none⟩) (keepT zs).length cap) ∧ TRow w' base g (keepT zs).length cap (keepT zs) ∧ Keeps (fun b => b = g) w w'

theorem del_fin {w W : World} {base g n cap c : Nat} {zs ys : List (Nat × Int)} (hr : TRow W base g n cap ys) (hk : Keeps (fun b => b = g) w W) (d : Del zs n c ys) (hn : zs.length = n) (hcn : c < n) :
    (Builtin.clear_ #[127] 0 #[.slice (some ⟨g, c * 2, none⟩) (n - c) (cap - c)]).run Tryz.prog W = .ok (.tuple #[]) (W.setCells g (c * 2) (zeroTerms (n - c))) ∧ (keepT zs).length = c ∧ DelEnd w base g cap zs (.returned (.slice (some ⟨g, 0, none⟩) c cap)) (W.setCells g (c * 2) (zeroTerms (n - c))) := by
  have hl := zeroTerms_len (n - c)
  have hyl := hr.len
  have ht : keepT zs = ys.take c := by rw [d.take, List.take_of_length_le (by omega)]
  have hkl : (keepT zs).length = c := by rw [ht, List.length_take]; omega
  have hcut := hr.cut (c := c) (by omega) (zeroTerms (n - c)) (c * 2) (Nat.le_refl _) (by omega)
  refine ⟨run_clear_terms W 0 g (c * 2) (n - c) (cap - c) (by omega) (fun j hj => ?_) (fun j hj => hr.frozen _), hkl, ?_⟩
  · have h2 := flat2_len ys
    rw [hr.row.cellAt (c * 2 + j) (by omega), List.getElem?_eq_getElem (by omega)]; rfl
  · refine ⟨by rw [hkl], by rw [hkl, ht]; exact hcut, ?_⟩
    have : ∀ (vs : List Value) (o : Nat) (W : World), Keeps (fun b => b = g) w W → Keeps (fun b => b = g) w (W.setCells g o vs) := by
      intro vs
      induction vs with
      | nil => intro o W k; exact k
      | cons v vs ih => intro o W k; exact ih (o + 1) _ (k.setCell (p := ⟨g, o, none⟩) (Or.inl rfl) v)
    exact this _ _ _ hk

set_option maxRecDepth 100000 in
set_option maxHeartbeats 3200000 in
theorem tdelete_any (base g cap : Nat) (zs : List (Nat × Int)) (w : World) (hr : TRow w base g zs.length cap zs) (hn : zs.length ≤ 1000) :
    Calls Tryz.prog 101 #[.slice (some ⟨g, 0, none⟩) zs.length cap, .func (Fn.func 102) #[] #[]] w (DelEnd w base g cap zs) := by
  have hix := tindex_any ⟨g, 0, none⟩ cap zs w (hr.terms hn)
  have hcap : zs.length ≤ cap := by
    rcases hr.row.2 with ⟨e, _⟩ | ⟨g', cap', cur, e, hb, hg, hnc, _⟩
    · cases e
    · simp only [Value.slice.injEq, Option.some.injEq, Addr.mk.injEq, and_true, true_and] at e
      omega
  have Hix := Lib.hid hix; have Hr := Lib.hid hr
  clear hix hr
  go_enter Tryz.func101, Tryz.ntmps101
  go_wp2_with fail
  refine Hix.out.mono ?_
  rintro e w1 ⟨hi, kp⟩
  rcases hi with ⟨k, hk, hz, hno, rfl⟩ | ⟨hno, rfl⟩
  · have hd := Del.start hk hz hno
    have hr1 := Hr.out.keeps kp (fun e => e)
    have hk1 : Keeps (fun b => b = g) w w1 := kp.mono (fun _ e => e.elim)
    have i0 : ((k : Int) == -1) = false := beq_eq_false_iff_ne.2 (by omega)
    clear kp hz hno
    go_wp2_with fail
    go_loopw [5, 6] (fun i j wr => ∃ (c m : Nat) (ys : List (Nat × Int)), c < m ∧ m ≤ zs.length ∧ i = .int .i64 c ∧ j = .int .i64 m ∧ Del zs m c ys ∧ TRow wr base g zs.length cap ys ∧ Keeps (fun b => b = g) w wr) (fun _ j _ => zs.length - (intOf j).toNat)
    case atStart => exact ⟨k, k + 1, zs, by omega, by omega, rfl, by go_num, hd, hr1, hk1⟩
    case round =>
      clear hd hr1 hk1 i0
      obtain ⟨c, m, ys, hcm, hm, rfl, rfl, hd, hr, hkp⟩ := hrel
      by_cases hlt : m < zs.length
      · have hat := hd.at hlt
        obtain ⟨c1, c2⟩ := hr.cell (j := m) hlt
        rw [hat] at c1 c2
        have hyl := hr.len
        have hgl := hr.lt
        have j1 : (m : Int) < (zs.length : Int) := by omega
        have j2 : (c : Int) < (zs.length : Int) := by omega
        by_cases hz : (zs.getD m (0, 0)).2 = 0
        · have hzb : ((zs.getD m (0, 0)).2 == 0) = true := beq_iff_eq.2 hz
          have hd2 := hd.skip hlt hz
          have Hd := Lib.hid hd2; have Hr2 := Lib.hid hr; have Hk2 := Lib.hid hkp
          clear hd hd2 hr hkp hz hat
          generalize zs.getD m (0, 0) = t at *
          go_wp2_with fail
          refine (settle2_any t.1 t.2 _).mono ?_
          rintro e w2 ⟨rfl, kp1⟩
          have kp2 : Keeps (fun _ => False) wr w2 := ((Keeps.refl _ wr).alloc _).trans kp1 (fun _ e => e.elim)
          have hr3 := Hr2.out.keeps kp2 (fun e => e)
          have hk3 : Keeps (fun b => b = g) w w2 := Hk2.out.trans kp2 (fun _ e => e.elim)
          clear kp1 kp2 c1 c2
          go_wp2_with fail
          go_roundw
          case rel => exact ⟨c, m + 1, ys, by omega, by omega, rfl, by go_num, Hd.out, hr3, hk3⟩
          case measure => simp [intOf]; omega
        · have hzb : ((zs.getD m (0, 0)).2 == 0) = false := beq_eq_false_iff_ne.2 hz
          have hd2 := hd.push hlt hz
          have Hd := Lib.hid hd2; have Hr2 := Lib.hid hr; have Hk2 := Lib.hid hkp
          clear hd hd2 hr hkp hz hat
          generalize zs.getD m (0, 0) = t at *
          go_wp2_with fail
          refine (settle2_any t.1 t.2 _).mono ?_
          rintro e w2 ⟨rfl, kp1⟩
          have kp2 : Keeps (fun _ => False) wr w2 := ((Keeps.refl _ wr).alloc _).trans kp1 (fun _ e => e.elim)
          have hr3 := Hr2.out.keeps kp2 (fun e => e)
          have hk3 : Keeps (fun b => b = g) w w2 := Hk2.out.trans kp2 (fun _ e => e.elim)
          have t0 : w2.cell? ⟨wr.heap.size, 0, none⟩ = some (.int .i32 t.1) := kp1.cell (by simp) (fun e => e)
          have t1 : w2.cell? ⟨wr.heap.size, 1, none⟩ = some (.int .i64 t.2) := kp1.cell (by simp) (fun e => e)
          obtain ⟨q1, q2⟩ := hr3.cell (j := c) (by omega)
          have f1 := hr3.frozen (c * 2)
          have f2 := hr3.frozen (c * 2 + 1)
          have hr4 := hr3.set (j := c) (by omega) t.1 t.2
          have hk4 := (hk3.setCell (p := ⟨g, c * 2, none⟩) (Or.inl rfl) (.int .i32 t.1)).setCell (p := ⟨g, c * 2 + 1, none⟩) (Or.inl rfl) (.int .i64 t.2)
          have Hr4 := Lib.hid hr4; have Hk4 := Lib.hid hk4
          clear kp1 kp2 c1 c2 hr3 hk3 hr4 hk4
          go_wp2_with fail
          go_roundw
          case rel => exact ⟨c + 1, m + 1, _, by omega, by omega, by go_num, by go_num, Hd.out, Hr4.out, Hk4.out⟩
          case measure => simp [intOf]; omega
      · obtain rfl : m = zs.length := by omega
        obtain ⟨hrun, hkl, hend⟩ := del_fin hr hkp hd rfl hcm
        generalize wr.setCells g (c * 2) (zeroTerms (zs.length - c)) = W2 at *
        have Hend := Lib.hid hend
        have i1 : (c : Int) ≤ (zs.length : Int) := by omega
        have i2 : (zs.length : Int) ≤ (cap : Int) := by omega
        have i3 : (c : Int) ≤ (cap : Int) := by omega
        clear hd hr hkp hend hkl
        go_wp2_with fail
        go_ret
        exact Hend.out
  · have hall := keepT_all hno
    have hfin : DelEnd w base g cap zs (.returned (.slice (some ⟨g, 0, none⟩) zs.length cap)) w1 := ⟨by rw [hall], by rw [hall]; exact Hr.out.keeps kp (fun e => e), kp.mono (fun _ e => e.elim)⟩
    have Hf := Lib.hid hfin
    clear hfin hall hno kp
    go_wp2_with fail
    go_ret
    exact Hf.out
end Go.Proofs.YtngjjmniigkeoaaGreatDoor
