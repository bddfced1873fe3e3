/- Terms in memory; limit, next. -/
import Derived.Test.YtngjjmniigkeoaaGreatDoorRestrict
import Derived.Test.YtngjjmniigkeoaaGreatDoorRest
import Derived.Test.YtngjjmniigkeoaaGreatDoorNew
namespace Go.Proofs.YtngjjmniigkeoaaGreatDoor
open Go Go.RowKit Go.WideMaps Go.Maps
set_option linter.unusedSimpArgs false
set_option linter.unusedVariables false

/-- Terms that are read. -/
structure TermsAt (w : World) (ao : Option Addr) (ts : List (Nat × Int)) : Prop where
  len : ts.length ≤ 1000
  cells : 0 < ts.length → ∃ g, ao = some ⟨g, 0, none⟩ ∧ ∀ k, k < ts.length → w.cell? ⟨g, k * 2, none⟩ = some (.int .i32 ((ts.getD k (0, 0)).1 : Nat)) ∧ w.cell? ⟨g, k * 2 + 1, none⟩ = some (.int .i64 (ts.getD k (0, 0)).2)
theorem TermsAt.keeps {S : Nat → Prop} {w w' : World} {ao : Option Addr} {ts : List (Nat × Int)} (h : TermsAt w ao ts) (k : Keeps S w w') (hS : ∀ g, 0 < ts.length → ao = some ⟨g, 0, none⟩ → ¬ S g) : TermsAt w' ao ts := by
  refine ⟨h.len, fun h0 => ?_⟩
  obtain ⟨g, e, hc⟩ := h.cells h0
  exact ⟨g, e, fun j hj => ⟨k.cell (hc j hj).1 (hS g h0 e), k.cell (hc j hj).2 (hS g h0 e)⟩⟩

def LimitEnd (ts : List (Nat × Int)) (e : Ending) : Prop := e = .returned (.int .i64 (hiT ts))

theorem hiT_take (ts : List (Nat × Int)) (k : Nat) (hk : k < ts.length) : hiT (ts.take (k + 1)) = hiT (ts.take k) + max 0 (ts.getD k (0, 0)).2 := addT_take _ _ _ hk
theorem hiT_take_le (ts : List (Nat × Int)) (k : Nat) : hiT (ts.take k) ≤ hiT ts := by
  have h1 : hiT (ts.take k ++ ts.drop k) = hiT (ts.take k) + hiT (ts.drop k) := addT_append _ _ _
  rw [List.take_append_drop] at h1
  have := hiT_nonneg (ts.drop k)
  omega

set_option maxRecDepth 100000 in
set_option maxHeartbeats 1600000 in
theorem limit_any (a : Nat) (ao : Option Addr) (cap : Nat) (ts : List (Nat × Int)) (w : World) (ht : TermsAt w ao ts) (hb : hiT ts ≤ 1099511627776) :
    Calls Tryz.prog 103 #[.agg #[.int .i32 a, .slice ao ts.length cap]] w fun e w' => e = .returned (.int .i64 (hiT ts)) ∧ Keeps (fun _ => False) w w' := by
  have hl := ht.len
  have Ht := Lib.hid ht
  clear ht
  have hk1 : ∀ o, Keeps (fun _ => False) w (w.alloc o) := fun o => (Keeps.refl _ _).alloc o
  have Hk1 := Lib.hid hk1
  clear hk1
  go_enter Tryz.func103, Tryz.ntmps103
  go_wp2_with fail
  have hk2 := Hk1.out (.cells #[.int .i32 a, .slice ao ts.length cap] 131)
  generalize (w.alloc (.cells #[.int .i32 a, .slice ao ts.length cap] 131)) = W at *
  go_loopw [3, 9] (fun v i wr => ∃ k : Nat, k ≤ ts.length ∧ v = .int .i64 (hiT (ts.take k)) ∧ i = .int .i64 k ∧ Keeps (fun _ => False) w wr) (fun _ i _ => ts.length - (intOf i).toNat)
  case atStart => exact ⟨0, Nat.zero_le _, rfl, rfl, hk2⟩
  case round =>
    clear hk2
    obtain ⟨k, hk, rfl, rfl, kp⟩ := hrel
    by_cases hlt : k < ts.length
    · obtain ⟨g, rfl, hc⟩ := (Ht.out.keeps kp (fun _ _ _ e => e)).cells (by omega)
      obtain ⟨c1, c2⟩ := hc k hlt
      have i1 : (k : Int) < (ts.length : Int) := by omega
      have h0 := hiT_nonneg (ts.take k)
      have h1 := hiT_take_le ts (k + 1)
      have hs := hiT_take ts k hlt
      rw [hs] at h1
      have Hs := Lib.hid hs
      have Hkp := Lib.hid kp
      clear hs hc kp
      generalize ts.getD k (0, 0) = t at *
      have hmx : 0 ≤ max 0 t.2 := by omega
      go_wp2_with fail
      go_roundw
      case rel => exact ⟨k + 1, by omega, by rw [Hs.out]; congr 1; split <;> omega, by go_num, Hkp.out.alloc _⟩
      case measure => simp [intOf]; omega
    · obtain rfl : k = ts.length := by omega
      rw [List.take_length]
      go_wp2_with fail
      go_ret
      exact ⟨rfl, kp⟩

/-- The first level that is asked for. -/
def nextL (l : List Nd) (a : Nat) (ts : List (Nat × Int)) : Nat := ts.foldl (fun m t => min m (ndAt l t.1).lev) (ndAt l a).lev
theorem nextL_take (l : List Nd) (a : Nat) (ts : List (Nat × Int)) (k : Nat) (hk : k < ts.length) : nextL l a (ts.take (k + 1)) = min (nextL l a (ts.take k)) (ndAt l (ts.getD k (0, 0)).1).lev := by
  unfold nextL
  rw [List.take_succ_eq_append_getElem hk, List.foldl_append]
  simp [List.getD, hk]
theorem nextL_le (l : List Nd) : ∀ (ts : List (Nat × Int)) (m : Nat), ts.foldl (fun m t => min m (ndAt l t.1).lev) m ≤ m ∧ ∀ t ∈ ts, ts.foldl (fun m t => min m (ndAt l t.1).lev) m ≤ (ndAt l t.1).lev
  | [], m => ⟨Nat.le_refl _, fun t ht => by simp at ht⟩
  | u :: ts, m => by
    obtain ⟨h1, h2⟩ := nextL_le l ts (min m (ndAt l u.1).lev)
    simp only [List.foldl_cons]
    refine ⟨by omega, fun t ht => ?_⟩
    rcases List.mem_cons.1 ht with rfl | h
    · omega
    · exact h2 t h
theorem nextL_ge (l : List Nd) (L : Nat) : ∀ (ts : List (Nat × Int)) (m : Nat), L ≤ m → (∀ t ∈ ts, L ≤ (ndAt l t.1).lev) → L ≤ ts.foldl (fun m t => min m (ndAt l t.1).lev) m
  | [], m, h, _ => h
  | u :: ts, m, h, ht => by
    simp only [List.foldl_cons]
    exact nextL_ge l L ts _ (by have := ht u (List.mem_cons_self ..); omega) (fun t h' => ht t (List.mem_cons_of_mem _ h'))

/-- Where the finder lies: its own block, its map of bounds. -/
structure FH where
  b : Nat
  bb : Nat
/-- The finder's struct. -/
def FBlk (w : World) (h : DH) (f : FH) : Prop := w.heap[f.b]? = some (.cells #[.pointer (some ⟨h.b, 0, none⟩), .map (some f.bb)] 126 (0, 0))
theorem FBlk.cells {w : World} {h : DH} {f : FH} (d : FBlk w h f) : w.cell? ⟨f.b, 0, none⟩ = some (.pointer (some ⟨h.b, 0, none⟩)) ∧ w.cell? ⟨f.b, 1, none⟩ = some (.map (some f.bb)) ∧ f.b < w.heap.size := by
  refine ⟨?_, ?_, (Array.getElem?_eq_some_iff.1 d).1⟩ <;> rw [cell_of_row w f.b _ _ _ (0, 0) d] <;> rfl
theorem FBlk.keeps {S : Nat → Prop} {w w' : World} {h : DH} {f : FH} (d : FBlk w h f) (k : Keeps S w w') (hS : ¬ S f.b) : FBlk w' h f := (k.block f.b (Array.getElem?_eq_some_iff.1 d).1 hS).trans d

set_option maxRecDepth 100000 in
set_option maxHeartbeats 3200000 in
theorem next_any (h : DH) (s : DS) (f : FH) (a : Nat) (ao : Option Addr) (cap : Nat) (ts : List (Nat × Int)) (w : World) (d : Dia w h s) (hf : FBlk w h f) (hn : h.n < 2 ^ 31) (ha : a < s.nodes.length) (hin : InT s.nodes 0 ts) (ht : TermsAt w ao ts) :
    Calls Tryz.prog 105 #[.pointer (some ⟨f.b, 0, none⟩), .agg #[.int .i32 a, .slice ao ts.length cap]] w fun e w' => e = .returned (.int .i64 (nextL s.nodes a ts)) ∧ Keeps (fun _ => False) w w' := by
  have hl := ht.len
  have hlen := d.inv.cnt
  have hln := d.inv.wf.lev_le ha
  have hk1 : ∀ o, Keeps (fun _ => False) w (w.alloc o) := fun o => (Keeps.refl _ _).alloc o
  obtain ⟨f0, f1, f2⟩ := hf.cells
  obtain ⟨c0, c1, c2, c3, c4, c5⟩ := d.cells
  obtain ⟨g, gc, eg, hcs, hg, hgb⟩ := d.node
  obtain ⟨n0, n1, n2⟩ := hcs a ha
  rw [eg] at c2
  have i1 : (a : Int) < (s.nodes.length : Int) := by omega
  have hblt := d.lt h.b (Or.inl rfl)
  have Ht := Lib.hid ht; have Hk1 := Lib.hid hk1; have Hd := Lib.hid d; have Hf := Lib.hid hf; have Hin := Lib.hid hin
  clear ht hk1 d hf hin eg hcs
  generalize hA : (ndAt s.nodes a).lev = A at *
  have HA := Lib.hid hA
  clear hA
  go_enter Tryz.func105, Tryz.ntmps105
  go_wp2_with fail
  go_quiet (fail)
  go_wp2_with fail
  have hk2 := (Hk1.out (.cells #[.int .i32 a, .slice ao ts.length cap] 131)).drewN nq
  generalize (w.alloc (.cells #[.int .i32 a, .slice ao ts.length cap] 131)).drewN nq = W at *
  clear f0 f1 c0 c1 c2 c3 c4 c5 n0 n1 n2
  go_loopw [5, 23] (fun v i wr => ∃ k : Nat, k ≤ ts.length ∧ v = .int .i64 (nextL s.nodes a (ts.take k) : Nat) ∧ i = .int .i64 k ∧ Keeps (fun _ => False) w wr) (fun _ i _ => ts.length - (intOf i).toNat)
  case atStart => exact ⟨0, Nat.zero_le _, by simp [nextL, HA.out], rfl, hk2⟩
  case round =>
    clear hk2
    obtain ⟨k, hk, rfl, rfl, kp⟩ := hrel
    by_cases hlt : k < ts.length
    · obtain ⟨tg, rfl, hc⟩ := (Ht.out.keeps kp (fun _ _ _ e => e)).cells (by omega)
      obtain ⟨t1, t2⟩ := hc k hlt
      have j1 : (k : Int) < (ts.length : Int) := by omega
      have hs := nextL_take s.nodes a ts k hlt
      have hdr := Hd.out.kept (fun j hj => kp.block j (Hd.out.lt j hj) (fun e => e))
      obtain ⟨f0, f1, f2⟩ := (Hf.out.keeps kp (fun e => e)).cells
      obtain ⟨c0, c1, c2, c3, c4, c5⟩ := hdr.cells
      obtain ⟨g, gc, eg, hcs, hg, hgb⟩ := hdr.node
      have hblt := hdr.lt h.b (Or.inl rfl)
      have htk := (Hin.out (ts.getD k (0, 0)) (by simp [List.getD, hlt])).1
      obtain ⟨n0, n1, n2⟩ := hcs _ htk
      rw [eg] at c2
      have hln := Hd.out.inv.wf.lev_le htk
      have hB := (nextL_le s.nodes (ts.take k) (ndAt s.nodes a).lev).1
      rw [HA.out] at hB
      have hBe : (ts.take k).foldl (fun m t => min m (ndAt s.nodes t.1).lev) A = nextL s.nodes a (ts.take k) := by unfold nextL; rw [HA.out]
      rw [hBe] at hB
      have Hs := Lib.hid hs; have Hkp := Lib.hid kp
      clear hs hc kp hdr eg hcs hBe
      have j2 : (((ts.getD k (0, 0)).1 : Nat) : Int) < (s.nodes.length : Int) := by omega
      generalize ts.getD k (0, 0) = t at *
      generalize nextL s.nodes a (ts.take k) = B at *
      generalize (ndAt s.nodes t.1).lev = T at *
      go_wp2_with fail
      go_quiet (fail)
      go_wp2_with fail
      go_roundw
      case rel => exact ⟨k + 1, by omega, by rw [Hs.out]; congr 1; omega, by go_num, (Hkp.out.alloc _).drewN _⟩
      case measure => simp [intOf]; omega
    · obtain rfl : k = ts.length := by omega
      rw [List.take_length]
      go_wp2_with fail
      go_ret
      exact ⟨rfl, kp⟩
end Go.Proofs.YtngjjmniigkeoaaGreatDoor
