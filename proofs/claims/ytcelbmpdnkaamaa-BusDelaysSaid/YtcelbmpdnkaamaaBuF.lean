/- Rows of ints of the call's own; the flows through a gate, and the gates behind one. -/
import Derived.Test.YtcelbmpdnkaamaaBuE
namespace Go.Proofs.Ytcelbmpdnkaamaa
open Go Go.RowKit Go.WideMaps Go.Maps
set_option linter.unusedSimpArgs false
set_option linter.unusedVariables false

theorem infoInt : (Try.prog.info? 3).map (fun i => (i.zero, i.size, i.bytes)) = some (some (.int .i64 0), 1, 8) := by kernel_rfl
theorem info_parts {t : TypeId} {z : Value} {s b : Nat} (h : (Try.prog.info? t).map (fun i => (i.zero, i.size, i.bytes)) = some (some z, s, b)) : ∃ i, Try.prog.info? t = some i ∧ i.zero = some z ∧ i.size = s ∧ i.bytes = b := by
  cases hi : Try.prog.info? t with
  | none => rw [hi] at h; cases h
  | some i =>
    rw [hi] at h
    simp only [Option.map_some, Option.some.injEq, Prod.mk.injEq] at h
    exact ⟨i, rfl, h.1, h.2.1, h.2.2⟩
theorem madeCells_one (v : Value) (n : Nat) : (madeCells #[v] (n * 1)).toList = List.replicate n v := by
  rw [List.eq_replicate_iff]
  refine ⟨by simp [madeCells], fun b hb => ?_⟩
  simp [madeCells] at hb
  obtain ⟨a, ha, rfl⟩ := hb
  rw [Nat.mod_one]; rfl

def encI (x : Int) : Value := .int .i64 x
structure IRow (w : World) (base g n cap : Nat) (xs : List Int) : Prop where
  row : w.ownsRow base 3 1 (.slice (some ⟨g, 0, none⟩) n cap) n (xs.map encI)
theorem IRow.len {w : World} {base g n cap : Nat} {xs : List Int} (h : IRow w base g n cap xs) : xs.length = n := by have := h.row.1; simpa using this
theorem IRow.cell {w : World} {base g n cap : Nat} {xs : List Int} (h : IRow w base g n cap xs) {j : Nat} (hj : j < n) : w.cell? ⟨g, j, none⟩ = some (.int .i64 (xs.getD j 0)) := by
  have hl := h.len
  rw [h.row.cellAt j (by omega)]
  simp [encI, List.getD, show j < xs.length by omega]
theorem IRow.frozen {w : World} {base g n cap : Nat} {xs : List Int} (h : IRow w base g n cap xs) (j : Nat) : w.frozen? ⟨g, j, none⟩ = false := h.row.frozenAt j
theorem IRow.set {w : World} {base g n cap : Nat} {xs : List Int} (h : IRow w base g n cap xs) (j : Nat) (x : Int) : IRow (w.setCell ⟨g, j, none⟩ (.int .i64 x)) base g n cap (xs.set j x) :=
  ⟨by rw [List.map_set]; exact (h.row.stored j (.int .i64 x)).1⟩
theorem ownsRow_of_block {w w' : World} {base size n : Nat} {e : TypeId} {v : Value} {xs : List Value} (h : w.ownsRow base e size v n xs) (hk : ∀ k, v.ownBlock = some k → w'.heap[k]? = w.heap[k]?) : w'.ownsRow base e size v n xs := by
  refine ⟨h.1, ?_⟩
  rcases h.2 with ⟨e1, e2⟩ | ⟨g, cap, cur, e1, e2, e3, e4⟩
  · exact .inl ⟨e1, e2⟩
  · exact .inr ⟨g, cap, cur, e1, e2, (hk g (by rw [e1]; rfl)).trans e3, e4⟩
theorem IRow.of_block {w w' : World} {base g n cap : Nat} {xs : List Int} (h : IRow w base g n cap xs) (hk : w'.heap[g]? = w.heap[g]?) : IRow w' base g n cap xs :=
  ⟨ownsRow_of_block h.row (fun k e => by simp [Value.ownBlock] at e; subst e; exact hk)⟩
theorem IRow.lt {w : World} {base g n cap : Nat} {xs : List Int} (h : IRow w base g n cap xs) : base ≤ g ∧ g < w.heap.size := h.row.lt g rfl
theorem IRow.kp {w w' : World} {base g n cap : Nat} {xs : List Int} (h : IRow w base g n cap xs) (k : Kp w w') : IRow w' base g n cap xs := h.of_block (k.block g h.lt.2 (fun e => e))
theorem IRow.ints {w : World} {base g n cap : Nat} {xs : List Int} (h : IRow w base g n cap xs) (hn : n ≤ maxLen) : IntsAt w (some ⟨g, 0, none⟩) xs := by
  have hl := h.len
  refine ⟨by omega, fun h0 => ⟨g, 0, rfl, fun k hk => ?_⟩⟩
  rw [Nat.zero_add]; exact h.cell (by omega)
theorem irow_made {w : World} {base g n : Nat} (h : w.ownsRow base 3 1 (.slice (some ⟨g, 0, none⟩) n n) n (madeCells (Value.int .i64 0).cells (n * 1)).toList) : IRow w base g n n (List.replicate n 0) := ⟨by
  have e : (madeCells (Value.int .i64 0).cells (n * 1)).toList = (List.replicate n (0 : Int)).map encI := by
    rw [List.map_replicate]; exact madeCells_one _ _
  rw [← e]; exact h⟩

/-- A row of ints of the call's own, empty or not. -/
def OwnI (w : World) (B : Nat) (a : Option Addr) (c : Nat) (xs : List Int) : Prop := w.ownsRow B 3 1 (.slice a xs.length c) xs.length (xs.map encI)
theorem OwnI.nil (w : World) (B : Nat) : OwnI w B none 0 [] := World.ownsRow_nil _ _ _ _
theorem OwnI.ints {w : World} {B : Nat} {a : Option Addr} {c : Nat} {xs : List Int} (h : OwnI w B a c xs) (hl : xs.length ≤ maxLen) : IntsAt w a xs := by
  have h0 : w.ownsRow B 3 1 (.slice a xs.length c) xs.length (xs.map encI) := h
  rcases h0.2 with ⟨e1, e2⟩ | ⟨g, cap, cur, e1, e2⟩
  · simp only [Value.slice.injEq] at e1
    exact ⟨hl, fun h2 => by omega⟩
  · simp only [Value.slice.injEq] at e1
    obtain ⟨rfl, -, rfl⟩ := e1
    exact (IRow.mk h0).ints hl
theorem OwnI.kp {w w' : World} {B : Nat} {a : Option Addr} {c : Nat} {xs : List Int} (h : OwnI w B a c xs) (k : Kp w w') : OwnI w' B a c xs := by
  have h0 : w.ownsRow B 3 1 (.slice a xs.length c) xs.length (xs.map encI) := h
  exact ownsRow_of_block h0 (fun j e => k.block j (h0.lt j e).2 (fun e => e))

/-- The first k numbers that something holds of. -/
def pick (f : Nat → Bool) (k : Nat) : List Int := ((List.range k).filter f).map (fun (i : Nat) => (i : Int))
theorem pick_yes {f : Nat → Bool} {k : Nat} (h : f k = true) : pick f (k + 1) = pick f k ++ [(k : Int)] := by
  unfold pick; rw [List.range_succ, List.filter_append, List.map_append]; simp [h]
theorem pick_no {f : Nat → Bool} {k : Nat} (h : f k = false) : pick f (k + 1) = pick f k := by
  unfold pick; rw [List.range_succ, List.filter_append, List.map_append]; simp [h]
theorem pick_len (f : Nat → Bool) (k : Nat) : (pick f k).length ≤ k := by
  unfold pick; rw [List.length_map]; exact Nat.le_trans (List.length_filter_le _ _) (by simp)
def thrF (fs : List Fl) (g : Int) (i : Nat) : Bool := hasI (flAt fs i).p g

theorem OwnI.mono {w : World} {B B' : Nat} {a : Option Addr} {c : Nat} {xs : List Int} (h : OwnI w B a c xs) (hB : B' ≤ B) : OwnI w B' a c xs := by
  have h0 : w.ownsRow B 3 1 (.slice a xs.length c) xs.length (xs.map encI) := h
  refine ⟨h0.1, ?_⟩
  rcases h0.2 with h1 | ⟨g, cap, cur, e1, e2, e3⟩
  · exact .inl h1
  · exact .inr ⟨g, cap, cur, e1, Nat.le_trans hB e2, e3⟩
def ListEnd (w : World) (xs : List Int) (e : Ending) (w' : World) : Prop := ∃ a c, e = .returned (.slice a xs.length c) ∧ OwnI w' w.heap.size a c xs ∧ Kp w w'

set_option maxHeartbeats 1600000 in
theorem through_any (ga fa : Option Addr) (ng gc fc : Nat) (fs : List Fl) (g : Int) (w : World) (hf : FlowsAt w fa fs) (hl : fs.length ≤ 40) :
    Calls Try.prog 89 #[.agg #[.slice ga ng gc, .slice fa fs.length fc], .int .i64 g] w (ListEnd w (pick (thrF fs g) fs.length)) := by
  have hk := kp_alloc w (.cells #[.slice ga ng gc, .slice fa fs.length fc] 47)
  have hbx := box0 w (.slice ga ng gc) (.slice fa fs.length fc) 47
  have hbx1 := box1 w (.slice ga ng gc) (.slice fa fs.length fc) 47
  obtain ⟨i0, hi0, hz0, hz1, hz2⟩ := info_parts infoInt
  have hga := fun W k => hf.kp (w' := W) (hk.step k)
  have Hk := Lib.hid hk; have Hga := Lib.hid hga
  clear hk hga hf
  go_enter Try.func89, Try.ntmps89
  go_wp2_with fail
  have hVs : (w.alloc (.cells #[.slice ga ng gc, .slice fa fs.length fc] 47)).heap.size = w.heap.size + 1 := by simp
  generalize hV : (w.alloc (.cells #[.slice ga ng gc, .slice fa fs.length fc] 47)) = V at *
  clear hV
  go_loopw [5, 11] (fun l i wr => ∃ (k : Nat) (a : Option Addr) (c : Nat), k ≤ fs.length ∧ i = .int .i64 k ∧ l = .slice a (pick (thrF fs g) k).length c ∧ OwnI wr (w.heap.size + 1) a c (pick (thrF fs g) k) ∧ Kp V wr) (fun _ i _ => fs.length - (intOf i).toNat)
  case atStart => exact ⟨0, none, 0, Nat.zero_le _, rfl, rfl, OwnI.nil _ _, Kp.refl _⟩
  case round =>
    obtain ⟨k, a, c, hk, rfl, rfl, hown, kp⟩ := hrel
    by_cases hlt : k < fs.length
    · obtain ⟨b1, o1, rfl, hc1⟩ := (Hga.out _ kp).cells (by omega)
      obtain ⟨c0, c1, pa, pc, c2, c3, c4, c5⟩ := hc1 k hlt
      have i1 : (k : Int) < (fs.length : Int) := by omega
      have hth : thrF fs g k = hasI (flAt fs k).p g := rfl
      have hpl := pick_len (thrF fs g) k
      have hyes := pick_yes (f := thrF fs g) (k := k)
      have hnoo := pick_no (f := thrF fs g) (k := k)
      generalize flAt fs k = f at *
      generalize thrF fs g k = y at *
      obtain ⟨fb, fr, p⟩ := f
      dsimp only at *
      have hcon : ∀ W, Kp wr W → Calls Try.prog 99 #[.slice pa p.length pc, .int .i64 g] W fun e w' => e = .returned (.bool (hasI p g)) ∧ Kp W w' := fun W kW => contains_any pa pc p g W (c3.kp kW)
      have ka := kp_alloc wr (.cells #[.int .i64 fb, .int .i64 fr, .slice pa p.length pc] 61)
      have hsz := kp.size
      have Hcon := Lib.hid hcon; have Kq := Lib.hid kp; have Hown := Lib.hid hown; have Ka := Lib.hid ka; have Hyes := Lib.hid hyes; have Hno := Lib.hid hnoo; have Hth := Lib.hid hth
      clear hcon kp hown ka hyes hnoo hc1 c3 c4 c5 hth
      generalize pick (thrF fs g) k = L at *
      go_wp2_with fail
      refine (Hcon.out _ (by first | exact Ka.out | exact Kp.refl _)).mono ?_
      rintro e w1 ⟨rfl, kp1⟩
      have K1 := Lib.hid (Ka.out.step kp1)
      have hsz1 := K1.out.size
      clear kp1
      cases hx : hasI p g
      · have Hz := Lib.hid (Hno.out (by rw [Hth.out, hx]))
        clear hx
        go_wp2_with fail
        go_roundw
        case rel => exact ⟨k + 1, a, c, by omega, by go_num, by rw [Hz.out], by rw [Hz.out]; exact Hown.out.kp K1.out, Kq.out.step K1.out⟩
        case measure => simp [intOf]; omega
      · have Hz := Lib.hid (Hyes.out (by rw [Hth.out, hx]))
        have Hown1 := Lib.hid (Hown.out.kp K1.out)
        clear hx
        go_wp2_with (at_builtin; refine wpList_append_lies _ rfl (.tmp 20) (.tmp 22) 28 rfl (w.heap.size + 1) 3 i0 (.int .i64 0) 1 8 Try.underlying28 hi0 hz0 hz1 hz2 rfl (by decide) (.slice a L.length c) L.length (L.map encI) (by rfl) (Hown1.out.kp (kp_alloc _ _)) ⟨w1.heap.size, 0, none⟩ 1 1 [.int .i64 (k : Int)] (by rfl) rfl (World.news_of_block (cs := #[.int .i64 (k : Int)]) (t := 3) (fr := (0, 0)) (heap_alloc_new w1 _)) (by intro u hu; simp at hu; subst hu; rfl) (by omega) (by unfold maxLen; omega) (by omega) (by simp; omega) _ rfl ?_; intro g2 cap2 w3 hown3 hgrow hat hlt2)
        have hk3 : Kp V w3 := by
          have hb : ∀ j, (Value.slice a L.length c).ownBlock = some j → V.heap.size ≤ j := fun j e => by
            have := (Hown1.out.lt j e).1; omega
          exact ((Kq.out.step K1.out).step (kp_alloc _ _)).trans (S' := fun j => (Value.slice a L.length c).ownBlock = some j) ((Keeps.refl _ _).grown hgrow (fun j e => Or.inl e)) (fun j e => Or.inr (hb j e))
        have hown4 : OwnI w3 (w.heap.size + 1) (some ⟨g2, 0, none⟩) cap2 (L ++ [(k : Int)]) := by
          unfold OwnI
          have e1 : (L ++ [(k : Int)]).length = L.length + 1 := by simp
          rw [e1, List.map_append]
          exact hown3
        have Hk3 := Lib.hid hk3; have Hown4 := Lib.hid hown4
        clear hk3 hown4 hown3 hgrow hat
        go_wp2_with fail
        go_roundw
        case rel => exact ⟨k + 1, some ⟨g2, 0, none⟩, cap2, by omega, by go_num, by rw [Hz.out]; simp, by rw [Hz.out]; exact Hown4.out, Hk3.out⟩
        case measure => simp [intOf]; omega
    · obtain rfl : k = fs.length := by omega
      have hpl := pick_len (thrF fs g) fs.length
      go_wp2_with fail
      go_ret
      exact ⟨a, c, rfl, hown.mono (by omega), Hk.out.step kp⟩
end Go.Proofs.Ytcelbmpdnkaamaa
