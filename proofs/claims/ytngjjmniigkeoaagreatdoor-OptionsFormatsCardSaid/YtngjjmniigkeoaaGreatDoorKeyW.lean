/- key: the text of a rest. -/
import Derived.Test.YtngjjmniigkeoaaGreatDoorTerm
import Derived.Test.YtngjjmniigkeoaaGreatDoorKey
import Derived.Test.YtngjjmniigkeoaaGreatDoorShelf
import Derived.Laws.IdiomStrings
import Derived.Lib.ItoaLen
import Derived.Deep.AppendLies
import Derived.Deep.RegionHeld3
namespace Go.Proofs.YtngjjmniigkeoaaGreatDoor
open Go Go.RowKit Go.WideMaps Go.Maps
set_option linter.unusedSimpArgs false
set_option linter.unusedVariables false

theorem infoU8 : (Tryz.prog.info? 5).map (fun i => (i.zero, i.size, i.bytes)) = some (some (.int .u8 0), 1, 1) := by kernel_rfl
def Tab (B : Nat) (w : World) : Prop := Lib.TabBelow Tryz.prog B w "internal/strconv.uint64pow10" .u64 Lib.pow10Tab
theorem Tab.on {B : Nat} {w w' : World} (h : Tab B w) (hb : Below B w w') : Tab B w' := Lib.TabBelow.on h hb
theorem Tab.up {B B' : Nat} {w : World} (h : Tab B w) (hB : B ≤ B') : Tab B' w := fun w' hb => h w' (hb.mono hB)

theorem TermsAt.below {B : Nat} {w w' : World} {ao : Option Addr} {ts : List (Nat × Int)} (h : TermsAt w ao ts) (hb : Below B w w') (hB : w.heap.size ≤ B) : TermsAt w' ao ts := by
  refine ⟨h.len, fun h0 => ?_⟩
  obtain ⟨g, e, hc⟩ := h.cells h0
  exact ⟨g, e, fun j hj => ⟨cell_kept (hc j hj).1 hb hB, cell_kept (hc j hj).2 hb hB⟩⟩

/-- The text so far. -/
structure KeyInv (w : World) (l : List UInt8) (wr : World) (g cap : Nat) : Prop where
  row : wr.ownsRow w.heap.size 5 1 (.slice (some ⟨g, 0, none⟩) l.length cap) l.length (Lib.byteCells l)
  below : Below w.heap.size w wr
theorem KeyInv.of {w wr : World} {v : Value} {l : List UInt8} {n : Nat} {xs : List Value} (h : wr.ownsRow w.heap.size 5 1 v n xs) (hx : xs = Lib.byteCells l) (h0 : 0 < n) (hb : Below w.heap.size w wr) : ∃ g cap, v = .slice (some ⟨g, 0, none⟩) l.length cap ∧ KeyInv w l wr g cap := by
  subst hx
  have hl : l.length = n := by have := h.1; rw [Lib.byteCells_length] at this; omega
  subst hl
  obtain ⟨g, cap, rfl, _, _⟩ := World.ownsRow.form h h0
  exact ⟨g, cap, rfl, h, hb⟩
theorem KeyInv.lt {w wr : World} {l : List UInt8} {g cap : Nat} (h : KeyInv w l wr g cap) : w.heap.size ≤ g ∧ g < wr.heap.size := h.row.lt g rfl

theorem itoa_pos (i : Int) : 0 < (Lib.itoa i).length := by
  have hd : ∀ u, 0 < (Lib.decDigits u).length := by
    intro u
    rw [Lib.decDigits]
    split <;> simp
  unfold Lib.itoa
  split
  · simp
  · exact hd _
theorem keyT_len : ∀ ts : List (Nat × Int), (∀ t ∈ ts, (t.1 : Int) ≤ 9223372036854775807 ∧ -9223372036854775808 ≤ t.2 ∧ t.2 ≤ 9223372036854775807) → (keyT ts).length ≤ ts.length * 44
  | [], _ => by simp [keyT]
  | t :: ts, h => by
    have ih := keyT_len ts (fun u hu => h u (List.mem_cons_of_mem _ hu))
    obtain ⟨h1, h2, h3⟩ := h t (List.mem_cons_self ..)
    have e1 := Lib.itoa_length_le (t.1 : Int) (by omega) h1
    have e2 := Lib.itoa_length_le t.2 h2 h3
    have e : keyT (t :: ts) = ((32 :: Lib.itoa (t.1 : Int)) ++ (32 :: Lib.itoa t.2)) ++ keyT ts := by simp [keyT]
    rw [e]
    simp at ih ⊢
    omega

theorem app_keep {W w2 : World} {tb g c n : Nat} {x : Obj} (hbox : W.heap[tb]? = some x) (ho : Obj) (hg : (W.alloc ho).drew.grownBy w2 (Value.slice (some ⟨g, 0, none⟩) n c).ownBlock) (hne : tb ≠ g) : w2.heap[tb]? = some x := by
  have h1 : tb < W.heap.size := (Array.getElem?_eq_some_iff.1 hbox).1
  refine (hg.block tb (by simp; omega) (by simp [Value.ownBlock]; omega)).trans ?_
  exact (Below.heap_alloc W ho tb h1).trans hbox
theorem app_below {B : Nat} {w W w2 : World} {g c n : Nat} (hb : Below B w W) (hB : B ≤ W.heap.size) (ho : Obj) (hg : (W.alloc ho).drew.grownBy w2 (Value.slice (some ⟨g, 0, none⟩) n c).ownBlock) (hBg : B ≤ g) : Below B w w2 := by
  have h1 : Below B w (W.alloc ho).drew := (hb.alloc hB ho).drew
  exact h1.grown hg (by simp; omega) (fun k e => by simp [Value.ownBlock] at e; omega)
theorem two0 {w : World} {b : Nat} {x y : Value} {t : TypeId} (h : w.heap[b]? = some (.cells #[x, y] t (0, 0))) : w.cell? ⟨b, 0, none⟩ = some x := (cell_of_row w b _ _ _ (0, 0) h).trans rfl
theorem two1 {w : World} {b : Nat} {x y : Value} {t : TypeId} (h : w.heap[b]? = some (.cells #[x, y] t (0, 0))) : w.cell? ⟨b, 1, none⟩ = some y := (cell_of_row w b _ _ _ (0, 0) h).trans rfl

theorem ok_keep {w w' : World} {tb : Nat} {cs : Array Value} {T : TypeId} {fz : Nat × Nat} (h : Lib.OthersKept 5 none w w') (hb : w.heap[tb]? = some (.cells cs T fz)) (hT : T ≠ 5) : w'.heap[tb]? = some (.cells cs T fz) :=
  h _ _ hb (by simp) (fun c f e => by cases e; exact hT rfl)

def KeyOk (a : Nat) (ts : List (Nat × Int)) : Prop := a < 2 ^ 31 ∧ ∀ t ∈ ts, t.1 < 2 ^ 31 ∧ -9223372036854775808 ≤ t.2 ∧ t.2 ≤ 9223372036854775807

theorem byteCells_append (a b : List UInt8) : Lib.byteCells (a ++ b) = Lib.byteCells a ++ Lib.byteCells b := by simp [Lib.byteCells]

set_option maxRecDepth 100000 in
set_option maxHeartbeats 3200000 in
theorem key_any (a : Nat) (ao : Option Addr) (cap : Nat) (ts : List (Nat × Int)) (w : World) (ht : TermsAt w ao ts) (hk : KeyOk a ts) (htab : Tab w.heap.size w) :
    Calls Tryz.prog 104 #[.agg #[.int .i32 a, .slice ao ts.length cap]] w fun e w' => e = .returned (.string ⟨(keyR a ts).toArray⟩) ∧ Keeps (fun _ => False) w w' := by
  obtain ⟨ha, hts⟩ := hk
  have hl := ht.len
  obtain ⟨i0, hi0, hz0, hz1, hz2⟩ := info_parts infoU8
  have hlen : ∀ k, (keyR a (ts.take k)).length ≤ 50000 := by
    intro k
    have h1 := Lib.itoa_length_le (a : Int) (by omega) (by omega)
    have h2 := keyT_len (ts.take k) (fun t h => by have := hts t (List.mem_of_mem_take h); omega)
    have h3 : (ts.take k).length ≤ 1000 := by rw [List.length_take]; omega
    unfold keyR
    rw [List.length_append]
    omega
  have hai : ∀ (i : Int) (W : World) (n : Nat) (xs : List Value) (sv : Value), -9223372036854775808 ≤ i → i ≤ 9223372036854775807 → Below w.heap.size w W → W.ownsRow w.heap.size 5 1 sv n xs → n ≤ 100000 →
      Calls Tryz.prog 122 #[sv, .int .i64 i, .int .i64 10] W fun e w' => ∃ v', e = .returned v' ∧ w'.ownsRow w.heap.size 5 1 v' (n + (Lib.itoa i).length) (xs ++ Lib.byteCells (Lib.itoa i)) ∧ Below w.heap.size W w' ∧ Lib.OthersKept 5 none W w' := fun i W n xs sv h0 h1 hb ho hn =>
    Tryz.strconv_AppendInt_10 w.heap.size n i h0 h1 sv xs W ho hb.size (by omega) (htab.on hb)
  have hk1 : ∀ o, Below w.heap.size w (w.alloc o) := fun o => below_alloc w o
  have Ht := Lib.hid ht; have Hai := Lib.hid hai; have Hk1 := Lib.hid hk1; have Hts := Lib.hid hts; have Hlen := Lib.hid hlen
  clear ht hai hk1 htab hts hlen
  go_enter Tryz.func104, Tryz.ntmps104
  go_wp2_with fail
  refine (Hai.out (a : Int) _ 0 [] _ (by omega) (by omega) (Hk1.out _) (World.ownsRow_nil _ _ _ _) (by omega)).mono ?_
  rintro e w1 ⟨v1, rfl, hown1, hb1, hok1⟩
  have hbox0 : (w.alloc (.cells #[.int .i32 a, .slice ao ts.length cap] 131)).heap[w.heap.size]? = some (.cells #[.int .i32 a, .slice ao ts.length cap] 131 (0, 0)) := heap_alloc_new _ _
  have hbox1 : w1.heap[w.heap.size]? = some (.cells #[.int .i32 a, .slice ao ts.length cap] 131 (0, 0)) := hok1 _ _ hbox0 (by simp) (by rintro _ _ e; cases e)
  have hc1 : w1.cell? ⟨w.heap.size, 1, none⟩ = some (.slice ao ts.length cap) := (cell_of_row w1 w.heap.size _ _ _ (0, 0) hbox1).trans rfl
  obtain ⟨g1, cap1, rfl, inv1⟩ := KeyInv.of hown1 (l := Lib.itoa (a : Int)) (by simp) (by have := itoa_pos (a : Int); omega) ((Hk1.out _).trans hb1)
  clear hown1 hb1 hok1 hbox0 hbox1
  have e0 : keyR a (ts.take 0) = Lib.itoa (a : Int) := by simp [keyR, keyT]
  rw [← e0] at inv1
  have E0 := Lib.hid e0
  clear e0
  go_wp2_with fail
  go_loopw [3, 13] (fun v i wr => ∃ (k g c : Nat), k ≤ ts.length ∧ i = .int .i64 k ∧ v = .slice (some ⟨g, 0, none⟩) (keyR a (ts.take k)).length c ∧ KeyInv w (keyR a (ts.take k)) wr g c) (fun _ i _ => ts.length - (intOf i).toNat)
  case atStart => exact ⟨0, g1, cap1, Nat.zero_le _, rfl, by rw [E0.out], inv1⟩
  case round =>
    clear inv1 hc1
    obtain ⟨k, g, c, hk, rfl, rfl, inv⟩ := hrel
    by_cases hlt : k < ts.length
    · obtain ⟨tg, rfl, hc⟩ := (Ht.out.below inv.below (Nat.le_refl _)).cells (by omega)
      obtain ⟨c1, c2⟩ := hc k hlt
      have j1 : (k : Int) < (ts.length : Int) := by omega
      have hs := keyR_take (a := a) hlt
      have hll := Hlen.out k
      obtain ⟨q1, q2, q3⟩ := Hts.out (ts.getD k (0, 0)) (by simp [List.getD, hlt])
      have Hs := Lib.hid hs
      clear hs hc
      generalize ts.getD k (0, 0) = t at *
      generalize keyR a (ts.take k) = l at *
      have hgl := inv.lt
      have Hi := Lib.hid inv
      clear inv
      go_wp2_with fail
      have hc10 : (wr.alloc (.cells #[.int .i32 t.1, .int .i64 t.2] 129)).cell? ⟨wr.heap.size, 0, none⟩ = some (.int .i32 t.1) := by simp
      have hbox := heap_alloc_new wr (Obj.cells #[.int .i32 t.1, .int .i64 t.2] 129)
      have hrow := Hi.out.row.alloc (Obj.cells #[.int .i32 t.1, .int .i64 t.2] 129)
      have hbel : Below w.heap.size w (wr.alloc (.cells #[.int .i32 t.1, .int .i64 t.2] 129)) := Hi.out.below.alloc (by omega) _
      have hWs : wr.heap.size < (wr.alloc (.cells #[.int .i32 t.1, .int .i64 t.2] 129)).heap.size := by simp
      clear c1 c2
      generalize (wr.alloc (.cells #[.int .i32 t.1, .int .i64 t.2] 129)) = W at *
      have Hbox := Lib.hid hbox; have Hrow := Lib.hid hrow; have Hbel := Lib.hid hbel
      clear hbox hrow hbel
      have hcv : IntKind.i64.wrap ((t.1 : Nat) : Int) = (t.1 : Int) := IntWalk.i64_in _ (by omega)
      have hne : wr.heap.size ≠ g := by omega
      have hBW : w.heap.size ≤ W.heap.size := by omega
      have hBg : w.heap.size ≤ g := hgl.1
      go_region_held3 (fun w' => w'.cell? ⟨wr.heap.size, 0, none⟩ = some (.int .i32 t.1)) (go_keep)
        (first
          | ((refine step_append_lies _ rfl (.tmp 17) (.tmp 18) 183 rfl w.heap.size 5 i0 (.int .u8 0) 1 1 Tryz.underlying183 hi0 hz0 hz1 hz2 rfl (by decide) (.slice (some ⟨g, 0, none⟩) l.length c) l.length (Lib.byteCells l) (by simp [Act.eval, Act.put]) ((Hrow.out.alloc _).drew) ⟨W.heap.size, 0, none⟩ 1 1 [.int .u8 32] (by simp [Act.eval, Act.put]) rfl (World.news_of_block (cs := #[.int .u8 32]) (t := 5) (fr := (0, 0)) (heap_alloc_new W _)) (by simp [Value.oneCell']) (by omega) (by unfold maxLen; omega) (by omega) (by simp; omega) (W.heap.size + 1) (by simp) ?_); intro g2 c2 w2 hown2 hgrow2 hat2 hlt2; have hbox2 := app_keep Hbox.out _ hgrow2 hne; have hcb2 := two0 hbox2; have hb2 := app_below Hbel.out hBW _ hgrow2 hBg)
          | (go_at_call 122; (with_reducible refine (Hai.out (t.1 : Int) _ (l.length + 1) (Lib.byteCells l ++ [.int .u8 32]) _ (by omega) (by omega) hb2 hown2 (by omega)).mono ?_); rintro e w3 ⟨v3, rfl, hown3, hb3, hok3⟩; have hbox3 := ok_keep hok3 hbox2 (by decide); have hcb3 := two0 hbox3))
      obtain ⟨g3, c3, rfl, inv3⟩ := KeyInv.of hown3 (l := l ++ (32 :: Lib.itoa (t.1 : Int))) (by rw [byteCells_append]; simp [Lib.byteCells]) (by omega) (hb2.trans hb3)
      have hcb31 := two1 hbox3
      have hl3 : (l ++ (32 :: Lib.itoa (t.1 : Int))).length ≤ 60000 := by
        have := Lib.itoa_length_le (t.1 : Int) (by omega) (by omega)
        simp; omega
      have hlt3 : wr.heap.size < w3.heap.size := (Array.getElem?_eq_some_iff.1 hbox3).1
      have hgl3 := inv3.lt
      have hgn3 : wr.heap.size ≠ g3 := by
        intro e
        have := World.block_lt_of_cell? w3 _ hcb31
        rcases inv3.row.2 with ⟨e1, _⟩ | ⟨g', cap', cur, e1, _, hgg, _⟩
        · cases e1
        · simp at e1
          rw [← e1.1, ← e, hbox3] at hgg
          cases hgg
      clear hown3 hb3 hok3 hbox2 hb2 hown2 hgrow2 hat2 hlt2 hcb2 hcb3
      generalize hl' : l ++ (32 :: Lib.itoa (t.1 : Int)) = l' at *
      have Hl' := Lib.hid hl'
      have Hi3 := Lib.hid inv3; have Hb3 := Lib.hid hbox3
      clear hl' inv3 hbox3
      have hBW3 : w.heap.size ≤ w3.heap.size := by omega
      go_wp2_with fail
      go_region_held3 (fun w' => w'.cell? ⟨wr.heap.size, 1, none⟩ = some (.int .i64 t.2)) (go_keep)
        (first
          | ((refine step_append_lies _ rfl (.tmp 24) (.tmp 25) 183 rfl w.heap.size 5 i0 (.int .u8 0) 1 1 Tryz.underlying183 hi0 hz0 hz1 hz2 rfl (by decide) (.slice (some ⟨g3, 0, none⟩) l'.length c3) l'.length (Lib.byteCells l') (by simp [Act.eval, Act.put]) ((Hi3.out.row.alloc _).drew) ⟨w3.heap.size, 0, none⟩ 1 1 [.int .u8 32] (by simp [Act.eval, Act.put]) rfl (World.news_of_block (cs := #[.int .u8 32]) (t := 5) (fr := (0, 0)) (heap_alloc_new w3 _)) (by simp [Value.oneCell']) (by omega) (by unfold maxLen; omega) (by omega) (by simp; omega) (w3.heap.size + 1) (by simp) ?_); intro g4 c4 w4 hown4 hgrow4 hat4 hlt4; have hbox4 := app_keep Hb3.out _ hgrow4 hgn3; have hcb4 := two1 hbox4; have hb4 := app_below Hi3.out.below hBW3 _ hgrow4 hgl3.1)
          | (go_at_call 122; (with_reducible refine (Hai.out t.2 _ (l'.length + 1) (Lib.byteCells l' ++ [.int .u8 32]) _ (by omega) (by omega) hb4 hown4 (by omega)).mono ?_); rintro e w5 ⟨v5, rfl, hown5, hb5, hok5⟩; have hbox5 := ok_keep hok5 hbox4 (by decide); have hcb5 := two1 hbox5))
      obtain ⟨g5, c5, rfl, inv5⟩ := KeyInv.of hown5 (l := l' ++ (32 :: Lib.itoa t.2)) (by rw [byteCells_append]; simp [Lib.byteCells]) (by omega) (hb4.trans hb5)
      clear hown5 hb5 hok5 hbox4 hb4 hown4 hgrow4 hat4 hlt4 hcb4 hcb5 hbox5
      have Hi5 := Lib.hid inv5
      clear inv5
      have hrel : keyR a (ts.take (k + 1)) = l' ++ (32 :: Lib.itoa t.2) := by rw [Hs.out]
      have Hrel := Lib.hid hrel
      clear hrel
      go_wp2_with fail
      go_roundw
      case rel => exact ⟨k + 1, g5, c5, by omega, by go_num, by rw [Hrel.out], by rw [Hrel.out]; exact Hi5.out⟩
      case measure => simp [intOf]; omega
    · obtain rfl : k = ts.length := by omega
      rw [List.take_length] at inv
      have hconv := run_convert_bytes_back (P := Tryz.prog) wr 183 9 5 ⟨g, 0, none⟩ c (keyR a ts) Tryz.underlying183 Tryz.underlying5 Tryz.underlying9 (fun j hj => by
        have h1 := inv.row.cellAt j (by simp; exact hj)
        have e : (⟨g, 0, none⟩ : Addr).add j = ⟨g, j, none⟩ := by unfold Addr.add; split <;> simp_all
        rw [e, h1]
        simp [Lib.byteCells, List.getElem?_eq_getElem hj])
      have hk2 : Keeps (fun _ => False) w wr := Keeps.of_below inv.below (Nat.le_refl _)
      rw [List.take_length]
      generalize hl2 : keyR a ts = l at *
      have Hk := Lib.hid hk2; have HL := Lib.hid hl2
      clear inv hk2 hl2
      go_wp2_with fail
      refine bodyPost_ret (results_tmp rfl _ _ _) rfl ?_
      exact ⟨by rw [HL.out]; rfl, Hk.out⟩
end Go.Proofs.YtngjjmniigkeoaaGreatDoor
