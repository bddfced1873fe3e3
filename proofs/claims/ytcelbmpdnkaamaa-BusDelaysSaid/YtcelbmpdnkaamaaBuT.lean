/- The look at the examples that every statement ends with: works succeeds. -/
import Derived.Test.YtcelbmpdnkaamaaBuS
import Derived.Test.YtcelbmpdnkaamaaBuM
namespace Go.Proofs.Ytcelbmpdnkaamaa
open Go Go.RowKit Go.WideMaps Go.Maps
set_option linter.unusedSimpArgs false
set_option linter.unusedVariables false

def exL : List Fr := [⟨2, 10, 0, 6, 1⟩, ⟨3, 15, 2, 12, 2⟩, ⟨4, 20, 0, 20, 3⟩]
def exG : List Ga := [(10, 2), (10, 2)]
def exFl : List Fl := [⟨20, 5, [0, 1]⟩, ⟨15, 5, [1]⟩]
theorem ex_err : frErr exL = 0 := by kernel_rfl
theorem ex_resp : respL exL 3 = [5, 10, 9] := by kernel_rfl
theorem ex_net : netErr exG exFl = 0 := by kernel_rfl
theorem ex_bounds : (boundsOf exG exFl).map (fun s => (s.ws, s.ds)) = some ([1, 3], [8, 5]) := by kernel_rfl
theorem ex_some : ∃ bs, boundsOf exG exFl = some ⟨[1, 3], [8, 5], bs⟩ := by
  have h := ex_bounds
  cases hb : boundsOf exG exFl with
  | none => rw [hb] at h; cases h
  | some s =>
    rw [hb] at h
    simp only [Option.map_some, Option.some.injEq, Prod.mk.injEq] at h
    exact ⟨s.bs, by obtain ⟨ws, ds, bs⟩ := s; simp only at h; rw [h.1, h.2]⟩

theorem ints_of_block {W : World} {b : Nat} {cs : Array Value} {t : TypeId} {xs : List Int} (h : W.heap[b]? = some (.cells cs t (0, 0))) (e : cs = (xs.map (fun x => Value.int .i64 x)).toArray) (hl : xs.length ≤ 1000) : IntsAt W (some ⟨b, 0, none⟩) xs := by
  subst e
  refine ⟨by unfold maxLen; omega, fun _ => ⟨b, 0, rfl, fun k hk => ?_⟩⟩
  rw [Nat.zero_add, cell_of_row W b k _ _ (0, 0) h]
  simp [List.getD, hk]

def ExEnd (w : World) (e : Ending) (w' : World) : Prop := ∃ b, e = .returned (.slice (some ⟨b, 0, none⟩) 3 3) ∧ FramesAt w' (some ⟨b, 0, none⟩) exL ∧ Kp w w'
def exObj : Obj := .cells #[.int .i64 2, .int .i64 10, .int .i64 0, .int .i64 6, .int .i64 1, .int .i64 3, .int .i64 15, .int .i64 2, .int .i64 12, .int .i64 2, .int .i64 4, .int .i64 20, .int .i64 0, .int .i64 20, .int .i64 3] 56
theorem frames_ex {W : World} {b : Nat} (h : W.heap[b]? = some exObj) : FramesAt W (some ⟨b, 0, none⟩) exL := by
  refine ⟨by decide, fun _ => ⟨b, 0, rfl, fun k hk => ?_⟩⟩
  have hc : ∀ j, W.cell? ⟨b, j, none⟩ = _ := fun j => cell_of_row W b j _ _ (0, 0) h
  have hk2 : k = 0 ∨ k = 1 ∨ k = 2 := by simp [exL] at hk; omega
  rcases hk2 with rfl | rfl | rfl <;> (refine ⟨?_, ?_, ?_, ?_, ?_⟩ <;> rw [hc] <;> rfl)

set_option maxRecDepth 100000 in
set_option maxHeartbeats 1600000 in
theorem example_any (w : World) : Calls Try.prog 36 #[] w (ExEnd w) := by
  have hfin : ExEnd w (.returned (.slice (some ⟨w.heap.size, 0, none⟩) 3 3)) (w.alloc exObj) := ⟨w.heap.size, rfl, frames_ex (heap_alloc_new w _), kp_alloc w _⟩
  have Hfin := Lib.hid hfin
  clear hfin
  unfold exObj at Hfin
  go_enter Try.func36, Try.ntmps36
  go_wp2_with fail
  go_ret
  exact Hfin.out

theorem responses_ex (b : Nat) (w : World) (h : FramesAt w (some ⟨b, 0, none⟩) exL) : Calls Try.prog 14 #[.slice (some ⟨b, 0, none⟩) 3 3] w fun e w' => (∃ a c, e = .returned (.tuple #[.slice a 3 c, .int .i64 0]) ∧ IntsAt w' a [5, 10, 9]) ∧ Kp w w' := by
  refine (responses_any (some ⟨b, 0, none⟩) 3 exL w h (by decide) (by decide)).mono fun e w' hh => ?_
  unfold RespEnd at hh
  rw [if_pos ex_err] at hh
  obtain ⟨⟨a, c, e1, i1⟩, k⟩ := hh
  have e2 : respL exL exL.length = [5, 10, 9] := ex_resp
  rw [e2] at i1
  exact ⟨⟨a, c, e1, i1⟩, k⟩
theorem delays_ex (ga fa : Option Addr) (w : World) (hg : GatesAt w ga exG) (hf : FlowsAt w fa exFl) : Calls Try.prog 31 #[.agg #[.slice ga 2 2, .slice fa 2 2]] w fun e w' => (∃ gw gd, e = .returned (.tuple #[.slice (some ⟨gw, 0, none⟩) 2 2, .slice (some ⟨gd, 0, none⟩) 2 2, .int .i64 0]) ∧ IntsAt w' (some ⟨gw, 0, none⟩) [1, 3] ∧ IntsAt w' (some ⟨gd, 0, none⟩) [8, 5]) ∧ Kp w w' := by
  refine (delays_any ga fa 2 2 exG exFl w hg hf).mono fun e w' hh => ?_
  unfold DelEnd at hh
  rw [if_pos ex_net] at hh
  obtain ⟨bs, hb⟩ := ex_some
  rw [hb] at hh
  exact hh

theorem boxes5 (w : World) (o0 o1 o2 o3 o4 : Obj) : (((((w.alloc o0).alloc o1).alloc o2).alloc o3).alloc o4).heap[w.heap.size]? = some o0 ∧ (((((w.alloc o0).alloc o1).alloc o2).alloc o3).alloc o4).heap[w.heap.size + 1]? = some o1 ∧ (((((w.alloc o0).alloc o1).alloc o2).alloc o3).alloc o4).heap[w.heap.size + 2]? = some o2 ∧
    (((((w.alloc o0).alloc o1).alloc o2).alloc o3).alloc o4).heap[w.heap.size + 3]? = some o3 ∧ (((((w.alloc o0).alloc o1).alloc o2).alloc o3).alloc o4).heap[w.heap.size + 4]? = some o4 ∧ (((((w.alloc o0).alloc o1).alloc o2).alloc o3).alloc o4).heap.size = w.heap.size + 5 ∧ Kp w (((((w.alloc o0).alloc o1).alloc o2).alloc o3).alloc o4) := by
  have up : ∀ (W : World) (o o' : Obj) (j : Nat), W.heap[j]? = some o → (W.alloc o').heap[j]? = some o := fun W o o' j hj => (kp_alloc W o').blk hj
  have nw : ∀ (W : World) (o : Obj) (j : Nat), W.heap.size = j → (W.alloc o).heap[j]? = some o := fun W o j hj => by subst hj; exact heap_alloc_new _ _
  refine ⟨up _ _ _ _ (up _ _ _ _ (up _ _ _ _ (up _ _ _ _ (nw _ _ _ rfl)))), up _ _ _ _ (up _ _ _ _ (up _ _ _ _ (nw _ _ _ (by simp)))), up _ _ _ _ (up _ _ _ _ (nw _ _ _ (by simp))), up _ _ _ _ (nw _ _ _ (by simp)), nw _ _ _ (by simp), by simp, ?_⟩
  exact ((((kp_alloc _ _).step (kp_alloc _ _)).step (kp_alloc _ _)).step (kp_alloc _ _)).step (kp_alloc _ _)
theorem net_ex (w : World) : ∀ W, W = (((((w.alloc (.cells #[.int .i64 10, .int .i64 2, .int .i64 10, .int .i64 2] 59)).alloc (.cells #[.int .i64 0, .int .i64 1] 3)).alloc (.cells #[.int .i64 1] 3)).alloc (.cells #[.int .i64 20, .int .i64 5, .slice (some ⟨w.heap.size + 1, 0, none⟩) 2 2, .int .i64 15, .int .i64 5, .slice (some ⟨w.heap.size + 1 + 1, 0, none⟩) 1 1] 61)).alloc (.cells #[.slice (some ⟨w.heap.size, 0, none⟩) 2 2, .slice (some ⟨w.heap.size + 1 + 1 + 1, 0, none⟩) 2 2] 47)) →
    GatesAt W (some ⟨w.heap.size, 0, none⟩) exG ∧ FlowsAt W (some ⟨w.heap.size + 1 + 1 + 1, 0, none⟩) exFl ∧ Kp w W := by
  intro W hW
  obtain ⟨x0, x1, x2, x3, _, _, kp⟩ := boxes5 w (.cells #[.int .i64 10, .int .i64 2, .int .i64 10, .int .i64 2] 59) (.cells #[.int .i64 0, .int .i64 1] 3) (.cells #[.int .i64 1] 3) (.cells #[.int .i64 20, .int .i64 5, .slice (some ⟨w.heap.size + 1, 0, none⟩) 2 2, .int .i64 15, .int .i64 5, .slice (some ⟨w.heap.size + 1 + 1, 0, none⟩) 1 1] 61) (.cells #[.slice (some ⟨w.heap.size, 0, none⟩) 2 2, .slice (some ⟨w.heap.size + 1 + 1 + 1, 0, none⟩) 2 2] 47)
  rw [← hW] at x0 x1 x2 x3 kp
  clear hW
  refine ⟨⟨by decide, fun _ => ⟨_, 0, rfl, fun k hk => ?_⟩⟩, ⟨by decide, fun _ => ⟨_, 0, rfl, fun k hk => ?_⟩⟩, kp⟩
  · have hc : ∀ j, W.cell? ⟨w.heap.size, j, none⟩ = _ := fun j => cell_of_row W _ j _ _ (0, 0) x0
    have hk2 : k = 0 ∨ k = 1 := by simp [exG] at hk; omega
    rcases hk2 with rfl | rfl <;> (refine ⟨?_, ?_⟩ <;> rw [hc] <;> rfl)
  · have hc : ∀ j, W.cell? ⟨w.heap.size + 1 + 1 + 1, j, none⟩ = _ := fun j => cell_of_row W _ j _ _ (0, 0) x3
    have i1 : IntsAt W (some ⟨w.heap.size + 1, 0, none⟩) [0, 1] := ints_of_block x1 rfl (by decide)
    have i2 : IntsAt W (some ⟨w.heap.size + 1 + 1, 0, none⟩) [1] := ints_of_block x2 rfl (by decide)
    have hk2 : k = 0 ∨ k = 1 := by simp [exFl] at hk; omega
    rcases hk2 with rfl | rfl
    · exact ⟨by rw [hc]; rfl, by rw [hc]; rfl, some ⟨w.heap.size + 1, 0, none⟩, 2, by rw [hc]; rfl, i1, by decide, by decide⟩
    · exact ⟨by rw [hc]; rfl, by rw [hc]; rfl, some ⟨w.heap.size + 1 + 1, 0, none⟩, 1, by rw [hc]; rfl, i2, by decide, by decide⟩
theorem same_block (xs : List Int) (a : Option Addr) (c : Nat) (w : World) (hx : IntsAt w a xs) (cs : Array Value) (e : cs = (xs.map (fun x => Value.int .i64 x)).toArray) (hl : xs.length ≤ 1000) :
    Calls Try.prog 16 #[.slice a xs.length c, .slice (some ⟨w.heap.size, 0, none⟩) xs.length xs.length] (w.alloc (.cells cs 3)) fun e w' => e = .returned (.bool true) ∧ Kp w w' :=
  (sameInts_any a (some ⟨w.heap.size, 0, none⟩) c xs.length xs xs _ (hx.kp (kp_alloc _ _)) (ints_of_block (heap_alloc_new w _) e hl) rfl).mono fun e w' hh => ⟨hh.1, (kp_alloc _ _).step hh.2⟩

set_option maxRecDepth 100000 in
set_option maxHeartbeats 3200000 in
theorem works_any (w : World) : Calls Try.prog 11 #[] w fun e w' => e = .returned (.bool true) ∧ Kp w w' := by
  have hex := example_any w
  have Hex := Lib.hid hex
  clear hex
  go_enter Try.func11, Try.ntmps11
  go_wp2_with fail
  refine Hex.out.mono ?_
  rintro e w1 ⟨b, rfl, hfr, kp1⟩
  have hr := responses_ex b w1 hfr
  have Hr := Lib.hid hr; have K1 := Lib.hid kp1
  clear hr hfr kp1 Hex
  go_wp2_with fail
  refine Hr.out.mono ?_
  rintro e w2 ⟨⟨a, c, rfl, hi⟩, kp2⟩
  have K2 := Lib.hid (K1.out.step kp2); have Hi := Lib.hid hi
  clear hi kp2 Hr K1
  go_wp2_with fail
  obtain ⟨hg, hf, kp3⟩ := net_ex w2 _ rfl
  generalize (((((w2.alloc (.cells #[.int .i64 10, .int .i64 2, .int .i64 10, .int .i64 2] 59)).alloc (.cells #[.int .i64 0, .int .i64 1] 3)).alloc (.cells #[.int .i64 1] 3)).alloc (.cells #[.int .i64 20, .int .i64 5, .slice (some ⟨w2.heap.size + 1, 0, none⟩) 2 2, .int .i64 15, .int .i64 5, .slice (some ⟨w2.heap.size + 1 + 1, 0, none⟩) 1 1] 61)).alloc (.cells #[.slice (some ⟨w2.heap.size, 0, none⟩) 2 2, .slice (some ⟨w2.heap.size + 1 + 1 + 1, 0, none⟩) 2 2] 47)) = W at *
  refine (delays_ex _ _ W hg hf).mono ?_
  rintro e w3 ⟨⟨gw, gd, rfl, i1, i2⟩, kp4⟩
  have K3 := Lib.hid (K2.out.step (kp3.step kp4))
  have I0 := Lib.hid (Hi.out.kp (kp3.step kp4)); have I1 := Lib.hid i1; have I2 := Lib.hid i2
  clear hg hf kp3 kp4 i1 i2 Hi K2
  go_wp2_with fail
  refine (same_block [5, 10, 9] a c w3 I0.out _ rfl (by decide)).mono ?_
  rintro e w4 ⟨rfl, kp5⟩
  have K4 := Lib.hid (K3.out.step kp5); have J1 := Lib.hid (I1.out.kp kp5); have J2 := Lib.hid (I2.out.kp kp5)
  clear kp5 I0 I1 I2 K3
  go_wp2_with fail
  refine (same_block [1, 3] _ 2 w4 J1.out _ rfl (by decide)).mono ?_
  rintro e w5 ⟨rfl, kp5⟩
  have K5 := Lib.hid (K4.out.step kp5); have L2 := Lib.hid (J2.out.kp kp5)
  clear kp5 J1 J2 K4
  go_wp2_with fail
  refine (same_block [8, 5] _ 2 w5 L2.out _ rfl (by decide)).mono ?_
  rintro e w6 ⟨rfl, kp5⟩
  have K6 := Lib.hid (K5.out.step kp5)
  clear kp5 L2 K5
  go_wp2_with fail
  go_ret
  exact ⟨rfl, K6.out⟩
end Go.Proofs.Ytcelbmpdnkaamaa
