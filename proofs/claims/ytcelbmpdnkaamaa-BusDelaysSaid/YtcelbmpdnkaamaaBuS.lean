/- rivalsOf and Responses. -/
import Derived.Test.YtcelbmpdnkaamaaBuR
namespace Go.Proofs.Ytcelbmpdnkaamaa
open Go Go.RowKit Go.WideMaps Go.Maps
set_option linter.unusedSimpArgs false
set_option linter.unusedVariables false

def abTo (ls : List Fr) (r : Int) : Nat → List Fr
  | 0 => []
  | k + 1 => if (frAt ls k).r < r then abTo ls r k ++ [frAt ls k] else abTo ls r k
def restTo (ls : List Fr) (r : Int) : Nat → Int
  | 0 => 0
  | k + 1 => if r < (frAt ls k).r then max (restTo ls r k) ((frAt ls k).s - 1) else restTo ls r k
theorem abTo_len (ls : List Fr) (r : Int) : ∀ k, (abTo ls r k).length ≤ k
  | 0 => by simp [abTo]
  | k + 1 => by
    have := abTo_len ls r k
    unfold abTo; split
    · simp; omega
    · omega
def FrsOk (ls : List Fr) : Prop := ls.length ≤ 40 ∧ ∀ k, k < ls.length → FrOk (frAt ls k)
theorem restTo_bd {ls : List Fr} (h : FrsOk ls) (r : Int) : ∀ k, k ≤ ls.length → 0 ≤ restTo ls r k ∧ restTo ls r k ≤ 1000
  | 0, _ => by simp [restTo]
  | k + 1, hk => by
    have h1 := restTo_bd h r k (by omega)
    have h2 := (h.2 k (by omega)).s
    unfold restTo; split <;> omega
theorem abTo_ok {ls : List Fr} (h : FrsOk ls) (r : Int) : ∀ k, k ≤ ls.length → ∀ f ∈ abTo ls r k, FrOk f
  | 0, _, f, hf => by simp [abTo] at hf
  | k + 1, hk, f, hf => by
    unfold abTo at hf
    split at hf
    · rcases List.mem_append.1 hf with h1 | h1
      · exact abTo_ok h r k (by omega) f h1
      · simp at h1; subst h1; exact h.2 k (by omega)
    · exact abTo_ok h r k (by omega) f hf
theorem framesB_ok {ls : List Fr} (h : framesB ls = true) : FrsOk ls := by
  unfold framesB at h
  rw [Bool.and_eq_true, decide_eq_true_eq] at h
  refine ⟨h.1, fun k hk => ?_⟩
  have := allR_get h.2 hk
  unfold frAtB at this
  rw [Bool.and_eq_true] at this
  exact frB_ok this.1
theorem rivOk_of {ls : List Fr} (h : FrsOk ls) {f : Fr} (hf : FrOk f) : RivOk f (abTo ls f.r ls.length) (restTo ls f.r ls.length) := by
  refine ⟨hf, fun k hk => ?_, ?_, restTo_bd h _ _ (Nat.le_refl _)⟩
  · refine abTo_ok h f.r ls.length (Nat.le_refl _) _ ?_
    have : (abTo ls f.r ls.length)[k] = frAt (abTo ls f.r ls.length) k := by simp [frAt, List.getD, hk]
    rw [← this]; exact List.getElem_mem _
  · have := abTo_len ls f.r ls.length
    have := h.1
    omega

theorem Riv.kp {w w' : World} {b B : Nat} {a : Option Addr} {c : Nat} {ls : List Fr} {rest : Int} (h : Riv w b B a c ls rest) (k : Kp w w') : Riv w' b B a c ls rest :=
  ⟨k.blk h.box, h.own.kp k, h.lt, Nat.le_trans h.sz k.size⟩
def RivEnd (w : World) (ab : List Fr) (rest : Int) (e : Ending) (w' : World) : Prop := ∃ a c, e = .returned (.agg #[.slice a ab.length c, .int .i64 rest]) ∧ FramesAt w' a ab ∧ Kp w w'

set_option maxRecDepth 100000 in
set_option maxHeartbeats 3200000 in
theorem rivalsOf_any (la : Option Addr) (lc : Nat) (ls : List Fr) (f : Fr) (w : World) (h : FramesAt w la ls) (ok : FrsOk ls) :
    Calls Try.prog 39 #[.slice la ls.length lc, frV f] w (RivEnd w (abTo ls f.r ls.length) (restTo ls f.r ls.length)) := by
  have hl40 := ok.1
  unfold frV
  have k1 := kp_alloc w (.cells #[.int .i64 f.s, .int .i64 f.e, .int .i64 f.j, .int .i64 f.d, .int .i64 f.r] 56)
  have c4 : (w.alloc (.cells #[.int .i64 f.s, .int .i64 f.e, .int .i64 f.j, .int .i64 f.d, .int .i64 f.r] 56)).cell? ⟨w.heap.size, 4, none⟩ = some (.int .i64 f.r) := by simp
  have s1 : (w.alloc (.cells #[.int .i64 f.s, .int .i64 f.e, .int .i64 f.j, .int .i64 f.d, .int .i64 f.r] 56)).heap.size = w.heap.size + 1 := by simp
  generalize hV1 : (w.alloc (.cells #[.int .i64 f.s, .int .i64 f.e, .int .i64 f.j, .int .i64 f.d, .int .i64 f.r] 56)) = V1 at *
  have k2 := kp_alloc V1 (.cells #[.slice none 0 0, .int .i64 0] 65)
  have s2 : (V1.alloc (.cells #[.slice none 0 0, .int .i64 0] 65)).heap.size = w.heap.size + 2 := by simp; omega
  have b2 : (V1.alloc (.cells #[.slice none 0 0, .int .i64 0] 65)).heap[w.heap.size + 1]? = some (rivObj none 0 0 0) := by rw [← s1]; exact heap_alloc_new _ _
  generalize hV2 : (V1.alloc (.cells #[.slice none 0 0, .int .i64 0] 65)) = V2 at *
  have k3 := kp_alloc V2 (.cells #[.slice none 0 0, .int .i64 0] 65)
  have s3 : (V2.alloc (.cells #[.slice none 0 0, .int .i64 0] 65)).heap.size = w.heap.size + 3 := by simp; omega
  have b3 : (V2.alloc (.cells #[.slice none 0 0, .int .i64 0] 65)).heap[w.heap.size + 2]? = some (rivObj none 0 0 0) := by rw [← s2]; exact heap_alloc_new _ _
  have kV := (k1.step k2).step k3
  have hriv : Riv (V2.alloc (.cells #[.slice none 0 0, .int .i64 0] 65)) (w.heap.size + 2) (w.heap.size + 3) none 0 (abTo ls f.r 0) (restTo ls f.r 0) := ⟨b3, OwnF.nil _ _, by omega, by omega⟩
  have b2' := k3.blk b2
  have c4' := k3.cell (k2.cell c4)
  have hla := h.kp kV
  have hrb := fun k hk => restTo_bd ok f.r k hk
  have Hk := Lib.hid kV; have Hriv := Lib.hid hriv; have Hla0 := Lib.hid h; have Hok := Lib.hid ok.2; have Hrb := Lib.hid hrb
  subst hV2 hV1
  clear k1 k2 k3 s1 s2 b2 b3 kV hriv h ok c4 hla hrb
  go_enter Try.func39, Try.ntmps39
  go_wp2_with fail
  generalize ((w.alloc (.cells #[.int .i64 f.s, .int .i64 f.e, .int .i64 f.j, .int .i64 f.d, .int .i64 f.r] 56)).alloc (.cells #[.slice none 0 0, .int .i64 0] 65)).alloc (.cells #[.slice none 0 0, .int .i64 0] 65) = W0 at *
  go_loopw [10] (fun i wq => ∃ (k : Nat) (a : Option Addr) (c : Nat), k ≤ ls.length ∧ i = .int .i64 k ∧ Riv wq (w.heap.size + 1 + 1) (w.heap.size + 3) a c (abTo ls f.r k) (restTo ls f.r k) ∧ Kp w wq ∧ wq.heap[w.heap.size + 1]? = some (rivObj none 0 0 0) ∧ wq.cell? ⟨w.heap.size, 4, none⟩ = some (.int .i64 f.r)) (fun i _ => ls.length - (intOf i).toNat)
  case atStart => exact ⟨0, none, 0, Nat.zero_le _, rfl, Hriv.out, Hk.out, b2', c4'⟩
  case round =>
    clear b2' c4' Hriv Hk
    obtain ⟨k, a, c, hk, rfl, riv, kp, hb2, hc4⟩ := hrel
    by_cases hlt : k < ls.length
    · obtain ⟨b1, o1, rfl, hc1⟩ := (Hla0.out.kp kp).cells (by omega)
      obtain ⟨c0, c1, c2, c3, c4⟩ := hc1 k hlt
      have i1 : (k : Int) < (ls.length : Int) := by omega
      have hsz := riv.sz
      have ka := kp_alloc wr (.cells #[.int .i64 (frAt ls k).s, .int .i64 (frAt ls k).e, .int .i64 (frAt ls k).j, .int .i64 (frAt ls k).d, .int .i64 (frAt ls k).r] 56)
      have riv2 := riv.kp ka
      have hb3 := ka.blk hb2
      have hc5 := ka.cell hc4
      have fo := Hok.out k hlt
      have hal := abTo_len ls f.r k
      have hrb := Hrb.out k hk
      have hya : (frAt ls k).r < f.r → abTo ls f.r (k + 1) = abTo ls f.r k ++ [frAt ls k] ∧ restTo ls f.r (k + 1) = restTo ls f.r k := fun hh => by
        constructor
        · show (if (frAt ls k).r < f.r then abTo ls f.r k ++ [frAt ls k] else abTo ls f.r k) = _
          rw [if_pos hh]
        · show (if f.r < (frAt ls k).r then max (restTo ls f.r k) ((frAt ls k).s - 1) else restTo ls f.r k) = _
          rw [if_neg (by omega)]
      have hna : f.r < (frAt ls k).r → abTo ls f.r (k + 1) = abTo ls f.r k ∧ restTo ls f.r (k + 1) = max (restTo ls f.r k) ((frAt ls k).s - 1) := fun hh => by
        constructor
        · show (if (frAt ls k).r < f.r then abTo ls f.r k ++ [frAt ls k] else abTo ls f.r k) = _
          rw [if_neg (by omega)]
        · show (if f.r < (frAt ls k).r then max (restTo ls f.r k) ((frAt ls k).s - 1) else restTo ls f.r k) = _
          rw [if_pos hh]
      have hea : (frAt ls k).r = f.r → abTo ls f.r (k + 1) = abTo ls f.r k ∧ restTo ls f.r (k + 1) = restTo ls f.r k := fun hh => by
        constructor
        · show (if (frAt ls k).r < f.r then abTo ls f.r k ++ [frAt ls k] else abTo ls f.r k) = _
          rw [if_neg (by omega)]
        · show (if f.r < (frAt ls k).r then max (restTo ls f.r k) ((frAt ls k).s - 1) else restTo ls f.r k) = _
          rw [if_neg (by omega)]
      have kpa := kp.step ka
      have hfs := fo.s
      have hy := add_yes (w.heap.size + 1 + 1) (w.heap.size + 3) a c (abTo ls f.r k) (restTo ls f.r k) (frAt ls k) _ riv2 (by omega)
      have hn := add_no (w.heap.size + 1 + 1) (w.heap.size + 3) a c (abTo ls f.r k) (restTo ls f.r k) (frAt ls k) _ riv2 hfs hrb
      unfold frV at hy hn
      have hbw : w.heap.size < wr.heap.size := by omega
      generalize abTo ls f.r k = A1 at *
      generalize restTo ls f.r k = R1 at *
      generalize hfk : frAt ls k = o at *
      have hwa : Kp w (wr.alloc (.cells #[.int .i64 o.s, .int .i64 o.e, .int .i64 o.j, .int .i64 o.d, .int .i64 o.r] 56)) := kpa
      have hnext : ∀ X : World, Keeps (fun j => j = w.heap.size + 1 + 1 ∨ w.heap.size + 3 ≤ j) (wr.alloc (.cells #[.int .i64 o.s, .int .i64 o.e, .int .i64 o.j, .int .i64 o.d, .int .i64 o.r] 56)) X → Kp w X ∧ X.heap[w.heap.size + 1]? = some (rivObj none 0 0 0) ∧ X.cell? ⟨w.heap.size, 4, none⟩ = some (.int .i64 f.r) := fun X kx =>
        ⟨hwa.trans kx (fun j e => Or.inr (by omega)), (kx.block _ (Array.getElem?_eq_some_iff.1 hb3).1 (by omega)).trans hb3, kx.cell hc5 (by show ¬ _; omega)⟩
      have Hy := Lib.hid hy; have Hn := Lib.hid hn; have Hya := Lib.hid hya; have Hna := Lib.hid hna; have Hea := Lib.hid hea; have Hnext := Lib.hid hnext; have Riv2 := Lib.hid riv2; have Hwa := Lib.hid hwa; have Hb3 := Lib.hid hb3; have Hc5 := Lib.hid hc5
      clear hy hn hya hna hea hnext riv2 hwa hb3 hc1 riv kp ka kpa hfk fo hb2
      rcases Int.lt_trichotomy o.r f.r with hr | hr | hr
      · obtain ⟨h1, h2⟩ := Hya.out hr
        have q1 : (o.r != f.r) = true := by rw [bne_iff_ne]; omega
        have q2 : decide (o.r < f.r) = true := decide_eq_true hr
        have He := Lib.hid (And.intro h1 h2)
        clear h1 h2
        go_wp2_with fail
        refine Hy.out.mono ?_
        rintro e w2 ⟨rfl, ⟨a2, c2', riv3⟩, kx⟩
        obtain ⟨n1, n2, n3⟩ := Hnext.out _ kx
        have Rr := Lib.hid riv3; have N := Lib.hid (And.intro n1 (And.intro n2 n3))
        clear riv3 kx n1 n2 n3
        go_wp2_with fail
        go_roundw
        case rel => exact ⟨k + 1, a2, c2', by omega, by go_num, by rw [He.out.1, He.out.2]; exact Rr.out, N.out.1, N.out.2.1, N.out.2.2⟩
        case measure => simp [intOf]; omega
      · obtain ⟨h1, h2⟩ := Hea.out hr
        have q1 : (o.r != f.r) = false := by simp [hr]
        have He := Lib.hid (And.intro h1 h2)
        clear h1 h2 hr
        go_wp2_with fail
        go_roundw
        case rel => exact ⟨k + 1, a, c, by omega, by go_num, by rw [He.out.1, He.out.2]; exact Riv2.out, Hwa.out, Hb3.out, Hc5.out⟩
        case measure => simp [intOf]; omega
      · obtain ⟨h1, h2⟩ := Hna.out hr
        have q1 : (o.r != f.r) = true := by rw [bne_iff_ne]; omega
        have q2 : decide (o.r < f.r) = false := decide_eq_false (by omega)
        have He := Lib.hid (And.intro h1 h2)
        clear h1 h2
        go_wp2_with fail
        refine Hn.out.mono ?_
        rintro e w2 ⟨rfl, ⟨a2, c2', riv3⟩, kx⟩
        obtain ⟨n1, n2, n3⟩ := Hnext.out _ kx
        have Rr := Lib.hid riv3; have N := Lib.hid (And.intro n1 (And.intro n2 n3))
        clear riv3 kx n1 n2 n3
        go_wp2_with fail
        go_roundw
        case rel => exact ⟨k + 1, a2, c2', by omega, by go_num, by rw [He.out.1, He.out.2]; exact Rr.out, N.out.1, N.out.2.1, N.out.2.2⟩
        case measure => simp [intOf]; omega
    · obtain rfl : k = ls.length := by omega
      have d0 : wr.cell? ⟨w.heap.size + 1 + 1, 0, none⟩ = some (.slice a (abTo ls f.r ls.length).length c) := (cell_of_row _ _ 0 _ _ (0, 0) riv.box).trans rfl
      have d1 : wr.cell? ⟨w.heap.size + 1 + 1, 1, none⟩ = some (.int .i64 (restTo ls f.r ls.length)) := (cell_of_row _ _ 1 _ _ (0, 0) riv.box).trans rfl
      have e0 : wr.cell? ⟨w.heap.size + 1, 0, none⟩ = some (.slice none 0 0) := (cell_of_row _ _ 0 _ _ (0, 0) hb2).trans rfl
      have e1 : wr.cell? ⟨w.heap.size + 1, 1, none⟩ = some (.int .i64 0) := (cell_of_row _ _ 1 _ _ (0, 0) hb2).trans rfl
      have f0 : ∀ j, wr.frozen? ⟨w.heap.size + 1, j, none⟩ = false := fun j => by simp [World.frozen?, hb2, rivObj]
      have f1 := f0 1
      have f2 := f0 0
      have hal := abTo_len ls f.r ls.length
      have hfr := riv.own.frames (by unfold maxLen; omega)
      have Rr := Lib.hid riv; have Kq := Lib.hid kp; have Hb2 := Lib.hid hb2
      clear riv kp hfr
      go_wp2_with fail
      have hs1 := heap_setCell_same wr (w.heap.size + 1) 0 _ _ (.slice a (abTo ls f.r ls.length).length c) Hb2.out
      have hs2 := heap_setCell_same _ (w.heap.size + 1) 1 _ _ (.int .i64 (restTo ls f.r ls.length)) hs1
      have k1 : Keeps (fun j => j = w.heap.size + 1) wr (wr.setCell ⟨w.heap.size + 1, 0, none⟩ (.slice a (abTo ls f.r ls.length).length c)) := (Keeps.refl (fun j => j = w.heap.size + 1) wr).setCell (p := ⟨w.heap.size + 1, 0, none⟩) (Or.inl rfl) _
      have k2 : Keeps (fun j => j = w.heap.size + 1) wr ((wr.setCell ⟨w.heap.size + 1, 0, none⟩ (.slice a (abTo ls f.r ls.length).length c)).setCell ⟨w.heap.size + 1, 1, none⟩ (.int .i64 (restTo ls f.r ls.length))) := k1.setCell (p := ⟨w.heap.size + 1, 1, none⟩) (Or.inl rfl) _
      have hfr2 := (Rr.out.own.ks k2 (fun j e => by omega)).frames (by unfold maxLen; omega)
      have hk2 : Kp w _ := Kq.out.trans k2 (fun j e => Or.inr (by omega))
      generalize ((wr.setCell ⟨w.heap.size + 1, 0, none⟩ (.slice a (abTo ls f.r ls.length).length c)).setCell ⟨w.heap.size + 1, 1, none⟩ (.int .i64 (restTo ls f.r ls.length))) = X at *
      have z1 : X.cell? ⟨w.heap.size + 1, 0, none⟩ = some (.slice a (abTo ls f.r ls.length).length c) := (cell_of_row _ _ 0 _ _ (0, 0) hs2).trans rfl
      have z2 : X.cell? ⟨w.heap.size + 1, 1, none⟩ = some (.int .i64 (restTo ls f.r ls.length)) := (cell_of_row _ _ 1 _ _ (0, 0) hs2).trans rfl
      refine bodyPost_ret (v := .agg #[.slice a (abTo ls f.r ls.length).length c, .int .i64 (restTo ls f.r ls.length)]) ?_ rfl ⟨a, c, rfl, hfr2, hk2⟩
      simp [results, Try.results39, go_sem, z1, z2]

/-! ### Responses -/
def respI (ls : List Fr) (k : Nat) : Int := (respOf (restTo ls (frAt ls k).r ls.length) (abTo ls (frAt ls k).r ls.length) (frAt ls k) 9223372036854775807).getD (-1)
def respL (ls : List Fr) (n : Nat) : List Int := (List.range n).map (respI ls)
theorem respL_succ (ls : List Fr) (n : Nat) : respL ls (n + 1) = respL ls n ++ [respI ls n] := by
  unfold respL; rw [List.range_succ, List.map_append]; rfl
theorem respL_len (ls : List Fr) (n : Nat) : (respL ls n).length = n := by simp [respL]

def RespEnd (w : World) (ls : List Fr) (e : Ending) (w' : World) : Prop :=
  if frErr ls = 0 then (∃ a c, e = .returned (.tuple #[.slice a ls.length c, .int .i64 0]) ∧ IntsAt w' a (respL ls ls.length)) ∧ Kp w w'
  else e = .returned (.tuple #[.slice none 0 0, .int .i64 (frErr ls)]) ∧ Kp w w'

set_option maxRecDepth 100000 in
set_option maxHeartbeats 6400000 in
theorem responses_any (la : Option Addr) (lc : Nat) (ls : List Fr) (w : World) (h : FramesAt w la ls) (hlc : ls.length ≤ lc) (hlc2 : lc ≤ maxLen) :
    Calls Try.prog 14 #[.slice la ls.length lc] w (RespEnd w ls) := by
  have hch := check_any la lc ls w h hlc hlc2
  by_cases h0 : frErr ls = 0
  case neg =>
    have hfin : ∀ w', Kp w w' → RespEnd w ls (.returned (.tuple #[.slice none 0 0, .int .i64 (frErr ls)])) w' := fun w' k => by
      unfold RespEnd; rw [if_neg h0]; exact ⟨rfl, k⟩
    have hne : ((frErr ls) != 0) = true := by simpa using h0
    have Hf := Lib.hid hfin; have Hch := Lib.hid hch
    clear hfin h0 hch h
    generalize frErr ls = x at *
    go_enter Try.func14, Try.ntmps14
    go_wp2_with fail
    refine Hch.out.mono ?_
    rintro e w1 ⟨rfl, kp1⟩
    go_wp2_with fail
    go_ret2
    exact Hf.out _ kp1
  have hfb : framesB ls = true := by unfold frErr at h0; split at h0; assumption; cases h0
  have ok := framesB_ok hfb
  have hfin : ∀ a c w', IntsAt w' a (respL ls ls.length) → Kp w w' → RespEnd w ls (.returned (.tuple #[.slice a ls.length c, .int .i64 0])) w' := fun a c w' i k => by
    unfold RespEnd; rw [if_pos h0]; exact ⟨⟨a, c, rfl, i⟩, k⟩
  have hl40 := ok.1
  obtain ⟨i0, hi0, hz0, hz1, hz2⟩ := info_parts infoInt
  have Hf := Lib.hid hfin; have Hch := Lib.hid hch; have H0 := Lib.hid h0; have Hok := Lib.hid ok; have Hh := Lib.hid h
  clear hfin h0 hch h hfb ok
  go_enter Try.func14, Try.ntmps14
  go_wp2_with fail
  refine Hch.out.mono ?_
  rintro e w1 ⟨rfl, kp1⟩
  rw [H0.out]
  have K1 := Lib.hid kp1
  clear kp1
  go_wp2_with fail
  go_loopw [5, 17] (fun l i wq => ∃ (k : Nat) (a : Option Addr) (c : Nat), k ≤ ls.length ∧ i = .int .i64 k ∧ l = .slice a k c ∧ OwnI wq w.heap.size a c (respL ls k) ∧ Kp w wq) (fun _ i _ => ls.length - (intOf i).toNat)
  case atStart => exact ⟨0, none, 0, Nat.zero_le _, rfl, rfl, OwnI.nil _ _, K1.out⟩
  case round =>
    clear K1
    obtain ⟨w3, rfl⟩ : ∃ w3, w3 = wr := ⟨wr, rfl⟩
    obtain ⟨k, a, c, hk, rfl, rfl, hown, kp⟩ := hrel
    by_cases hlt : k < ls.length
    · obtain ⟨b1, o1, rfl, hc1⟩ := (Hh.out.kp kp).cells (by omega)
      obtain ⟨c0, c1, c2, c3, c4⟩ := hc1 k hlt
      have i1 : (k : Int) < (ls.length : Int) := by omega
      have ka := kp_alloc w3 (.cells #[.int .i64 (frAt ls k).s, .int .i64 (frAt ls k).e, .int .i64 (frAt ls k).j, .int .i64 (frAt ls k).d, .int .i64 (frAt ls k).r] 56)
      have kwa := kp.step ka
      have d0 : (w3.alloc (.cells #[.int .i64 (frAt ls k).s, .int .i64 (frAt ls k).e, .int .i64 (frAt ls k).j, .int .i64 (frAt ls k).d, .int .i64 (frAt ls k).r] 56)).cell? ⟨w3.heap.size, 0, none⟩ = some (.int .i64 (frAt ls k).s) := by simp
      have d1 : (w3.alloc (.cells #[.int .i64 (frAt ls k).s, .int .i64 (frAt ls k).e, .int .i64 (frAt ls k).j, .int .i64 (frAt ls k).d, .int .i64 (frAt ls k).r] 56)).cell? ⟨w3.heap.size, 1, none⟩ = some (.int .i64 (frAt ls k).e) := by simp
      have d2 : (w3.alloc (.cells #[.int .i64 (frAt ls k).s, .int .i64 (frAt ls k).e, .int .i64 (frAt ls k).j, .int .i64 (frAt ls k).d, .int .i64 (frAt ls k).r] 56)).cell? ⟨w3.heap.size, 2, none⟩ = some (.int .i64 (frAt ls k).j) := by simp
      have d3 : (w3.alloc (.cells #[.int .i64 (frAt ls k).s, .int .i64 (frAt ls k).e, .int .i64 (frAt ls k).j, .int .i64 (frAt ls k).d, .int .i64 (frAt ls k).r] 56)).cell? ⟨w3.heap.size, 3, none⟩ = some (.int .i64 (frAt ls k).d) := by simp
      have d4 : (w3.alloc (.cells #[.int .i64 (frAt ls k).s, .int .i64 (frAt ls k).e, .int .i64 (frAt ls k).j, .int .i64 (frAt ls k).d, .int .i64 (frAt ls k).r] 56)).cell? ⟨w3.heap.size, 4, none⟩ = some (.int .i64 (frAt ls k).r) := by simp
      have fo := Hok.out.2 k hlt
      have rok := rivOk_of Hok.out fo
      have hri := fun W (kW : Kp w W) => rivalsOf_any (some ⟨b1, o1, none⟩) lc ls (frAt ls k) W (Hh.out.kp kW) Hok.out
      have hre := fun W a c (hA : FramesAt W a (abTo ls (frAt ls k).r ls.length)) => response_any a c (abTo ls (frAt ls k).r ls.length) (restTo ls (frAt ls k).r ls.length) (frAt ls k) 9223372036854775807 W hA rok
      have hrs := respL_succ ls k
      have hrI : respI ls k = (respOf (restTo ls (frAt ls k).r ls.length) (abTo ls (frAt ls k).r ls.length) (frAt ls k) 9223372036854775807).getD (-1) := rfl
      have hrl := respL_len ls k
      have hsz := kp.size
      unfold frV at hri hre
      generalize abTo ls (frAt ls k).r ls.length = A at *
      generalize restTo ls (frAt ls k).r ls.length = R at *
      generalize respOf R A (frAt ls k) 9223372036854775807 = O at *
      generalize respI ls k = I at *
      generalize respL ls k = L at *
      generalize frAt ls k = f at *
      have Hri := Lib.hid hri; have Hre := Lib.hid hre; have Hrs := Lib.hid hrs; have HrI := Lib.hid hrI; have Hown := Lib.hid (hown.kp ka); have Kq := Lib.hid kwa
      clear hri hre hrs hrI hown kwa ka hc1 kp fo rok
      cases O with
      | none =>
        have hI : I = -1 := HrI.out
        subst hI
        go_wp2_with fail
        generalize (w3.alloc (.cells #[.int .i64 f.s, .int .i64 f.e, .int .i64 f.j, .int .i64 f.d, .int .i64 f.r] 56)) = W at *
        have hbl : w3.heap.size < W.heap.size := World.block_lt_of_cell? W _ d0
        go_region_law (first
          | (go_simp; go_at_call 39; refine (Hri.out _ (by first | exact Kq.out | exact Keeps.drew Kq.out)).mono ?_; rintro e w5 ⟨a5, c5, rfl, hA5, kp5⟩; have d0 := kp5.cell (show W.drew.cell? _ = _ from d0); have d1 := kp5.cell (show W.drew.cell? _ = _ from d1); have d2 := kp5.cell (show W.drew.cell? _ = _ from d2); have d3 := kp5.cell (show W.drew.cell? _ = _ from d3); have d4 := kp5.cell (show W.drew.cell? _ = _ from d4))
          | (go_simp; go_at_call 40; refine (Hre.out _ a5 c5 hA5).mono ?_; rintro e w6 ⟨rfl, kp6⟩; unfold optV))
        all_goals
         have kW6 : Kp W w6 := ⟨(kp5.step kp6).os, (kp5.step kp6).tape, (kp5.step kp6).output, (kp5.step kp6).size, (kp5.step kp6).block⟩
         have K6 := Lib.hid (Kq.out.step kW6); have Hown6 := Lib.hid (Hown.out.kp kW6)
         have hsz6 := K6.out.size
         have hLl : L.length = k := hrl
         clear kp5 kp6 kW6 hA5 d0 d1 d2 d3 d4
         have Hown7 : Hid (∀ X, Kp w6 X → X.ownsRow w.heap.size 3 1 (.slice a k c) k (L.map encI)) := Lib.hid (fun X kX => by have := Hown6.out.kp kX; unfold OwnI at this; rw [hLl] at this; exact this)
         go_simp
         go_wp2_with (at_builtin; refine wpList_append_lies _ rfl (.tmp 31) (.tmp 33) 28 rfl w.heap.size 3 i0 (.int .i64 0) 1 8 Try.underlying28 hi0 hz0 hz1 hz2 rfl (by decide) (.slice a k c) k (L.map encI) (by rfl) (Hown7.out _ (kp_alloc _ _)) ⟨w6.heap.size, 0, none⟩ 1 1 [.int .i64 (-1)] (by rfl) rfl (World.news_of_block (cs := #[.int .i64 (-1)]) (t := 3) (fr := (0, 0)) (heap_alloc_new w6 _)) (by intro u hu; simp at hu; subst hu; rfl) (by omega) (by unfold maxLen; omega) (by omega) (by simp; omega) _ rfl ?_; intro g2 cap2 w7 hown7 hgrow hat hlt7)
         rw [← hLl] at hown7 hgrow
         obtain ⟨hown8, hk8⟩ := own_push (a := a) (c := c) hown7 hgrow
         have kp8 : Kp w w7 := K6.out.trans hk8 (fun j e => Or.inr (Hown6.out.lt e).1)
         have Hown8 := Lib.hid hown8; have Kp8 := Lib.hid kp8
         clear hown7 hgrow hat hown8 hk8 kp8
         go_wp2_with fail
         go_roundw
         case rel => exact ⟨k + 1, some ⟨g2, 0, none⟩, cap2, by omega, by go_num, rfl, by rw [Hrs.out]; exact Hown8.out, Kp8.out⟩
         case measure => simp [intOf]; omega
      | some v =>
        have hI : I = v := HrI.out
        subst hI
        go_wp2_with fail
        generalize (w3.alloc (.cells #[.int .i64 f.s, .int .i64 f.e, .int .i64 f.j, .int .i64 f.d, .int .i64 f.r] 56)) = W at *
        have hbl : w3.heap.size < W.heap.size := World.block_lt_of_cell? W _ d0
        go_region_law (first
          | (go_simp; go_at_call 39; refine (Hri.out _ (by first | exact Kq.out | exact Keeps.drew Kq.out)).mono ?_; rintro e w5 ⟨a5, c5, rfl, hA5, kp5⟩; have d0 := kp5.cell (show W.drew.cell? _ = _ from d0); have d1 := kp5.cell (show W.drew.cell? _ = _ from d1); have d2 := kp5.cell (show W.drew.cell? _ = _ from d2); have d3 := kp5.cell (show W.drew.cell? _ = _ from d3); have d4 := kp5.cell (show W.drew.cell? _ = _ from d4))
          | (go_simp; go_at_call 40; refine (Hre.out _ a5 c5 hA5).mono ?_; rintro e w6 ⟨rfl, kp6⟩; unfold optV))
        all_goals
         have kW6 : Kp W w6 := ⟨(kp5.step kp6).os, (kp5.step kp6).tape, (kp5.step kp6).output, (kp5.step kp6).size, (kp5.step kp6).block⟩
         have K6 := Lib.hid (Kq.out.step kW6); have Hown6 := Lib.hid (Hown.out.kp kW6)
         have hsz6 := K6.out.size
         have hLl : L.length = k := hrl
         clear kp5 kp6 kW6 hA5 d0 d1 d2 d3 d4
         have Hown7 : Hid (∀ X, Kp w6 X → X.ownsRow w.heap.size 3 1 (.slice a k c) k (L.map encI)) := Lib.hid (fun X kX => by have := Hown6.out.kp kX; unfold OwnI at this; rw [hLl] at this; exact this)
         go_simp
         go_wp2_with (at_builtin; refine wpList_append_lies _ rfl (.tmp 31) (.tmp 33) 28 rfl w.heap.size 3 i0 (.int .i64 0) 1 8 Try.underlying28 hi0 hz0 hz1 hz2 rfl (by decide) (.slice a k c) k (L.map encI) (by rfl) (Hown7.out _ (kp_alloc _ _)) ⟨w6.heap.size, 0, none⟩ 1 1 [.int .i64 I] (by rfl) rfl (World.news_of_block (cs := #[.int .i64 I]) (t := 3) (fr := (0, 0)) (heap_alloc_new w6 _)) (by intro u hu; simp at hu; subst hu; rfl) (by omega) (by unfold maxLen; omega) (by omega) (by simp; omega) _ rfl ?_; intro g2 cap2 w7 hown7 hgrow hat hlt7)
         rw [← hLl] at hown7 hgrow
         obtain ⟨hown8, hk8⟩ := own_push (a := a) (c := c) hown7 hgrow
         have kp8 : Kp w w7 := K6.out.trans hk8 (fun j e => Or.inr (Hown6.out.lt e).1)
         have Hown8 := Lib.hid hown8; have Kp8 := Lib.hid kp8
         clear hown7 hgrow hat hown8 hk8 kp8
         go_wp2_with fail
         go_roundw
         case rel => exact ⟨k + 1, some ⟨g2, 0, none⟩, cap2, by omega, by go_num, rfl, by rw [Hrs.out]; exact Hown8.out, Kp8.out⟩
         case measure => simp [intOf]; omega
    · obtain rfl : k = ls.length := by omega
      have hrl := respL_len ls ls.length
      have hi := hown.ints (by unfold maxLen; omega)
      go_wp2_with fail
      go_ret2
      exact Hf.out _ _ _ hi kp
end Go.Proofs.Ytcelbmpdnkaamaa
