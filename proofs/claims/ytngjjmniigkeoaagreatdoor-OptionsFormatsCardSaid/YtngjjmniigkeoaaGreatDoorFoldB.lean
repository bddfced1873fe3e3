/- fold at knots: the walk. -/
import Derived.Test.YtngjjmniigkeoaaGreatDoorFold
import Derived.IntWalk
namespace Go.Proofs.YtngjjmniigkeoaaGreatDoor
open Go Go.RowKit Go.WideMaps Go.Maps
set_option linter.unusedSimpArgs false
set_option linter.unusedVariables false

theorem infoKnot : (Tryz.prog.info? 82).map (fun i => (i.zero, i.size, i.bytes)) = some (some (.int .i32 0), 1, 4) := by kernel_rfl

theorem opC_cases (x : Int) : opC x = 0 ∨ opC x = 1 ∨ opC x = 2 := by have := opC_le x; omega

/-- The operands as the code finds them. -/
theorem top_at {w : World} {base g n cap : Nat} {ks : List Nat} (h : w.ownsRow base 82 1 (.slice (some ⟨g, 0, none⟩) n cap) n (ks.reverse.map (fun (x : Nat) => Value.int .i32 x))) (j : Nat) (hj : j < ks.length) : w.cell? ⟨g, ks.length - 1 - j, none⟩ = some (.int .i32 (ks.getD j 0)) := by
  have hc := h.cells (g := g) rfl (ks.length - 1 - j) (.int .i32 (ks.getD j 0)) (by
    rw [List.getElem?_map, List.getElem?_reverse (by omega)]
    have : ks.length - 1 - (ks.length - 1 - j) = j := by omega
    rw [this]
    simp [List.getD, hj])
  have hadd : (⟨g, 0, none⟩ : Addr).add (ks.length - 1 - j) = ⟨g, ks.length - 1 - j, none⟩ := by unfold Addr.add; split <;> simp_all
  rw [hadd] at hc; exact hc

theorem cut_row {w : World} {base g cap c : Nat} {ks : List Nat} (h : w.ownsRow base 82 1 (.slice (some ⟨g, 0, none⟩) ks.length cap) ks.length (ks.reverse.map (fun (x : Nat) => Value.int .i32 x))) (hc : c ≤ ks.length) :
    w.ownsRow base 82 1 (.slice (some ⟨g, 0, none⟩) (ks.length - c) cap) (ks.length - c) ((ks.drop c).reverse.map (fun (x : Nat) => Value.int .i32 x)) := by
  have h1 := ownsRow_take h (m := ks.length - c) (by omega)
  have e : (ks.reverse.map (fun (x : Nat) => Value.int .i32 x)).take (ks.length - c) = (ks.drop c).reverse.map (fun (x : Nat) => Value.int .i32 x) := by
    rw [← List.map_take, List.take_reverse]
    congr 3
    omega
  rw [e] at h1; exact h1

set_option maxRecDepth 100000 in
set_option maxHeartbeats 6400000 in
theorem foldKnot_any (h : DH) (hn : h.n < 2 ^ 31) (s : DS) (ls : List Nat) (tb : Nat) (af : Option Addr) (cf : Nat) (f : List Int) (w : World) (d : Dia w h s) (hl : Lv w h s ls) (hbox : w.cell? ⟨tb, 0, none⟩ = some (.pointer (some ⟨h.b, 0, none⟩))) (hbo : Out w h s tb) (hf : OutInts w h s af cf f)
    (hv : lack h.n 1 f = some 0) (hlf : f.length ≤ 100)
    (hst : ((f.length * 2 ^ h.n : Nat) : Int) ≤ s.steps) (hst2 : s.steps ≤ 4611686018427387904) (hcnt : s.cnt + 2 * (f.length * 2 ^ h.n) < 2 ^ 30) :
    Calls Tryz.prog 90 #[.slice af f.length cf, .func (Fn.func 91) #[] #[.pointer (some ⟨tb, 0, none⟩)]] w (OfEnd w h s (fun σ => evalF (byLev ls σ) f) (f.length * 2 ^ h.n)) := by
  have hfpos : 0 < f.length := by
    cases f with
    | nil => simp [lack] at hv
    | cons x xs => simp
  have hstart := FoldInv.start (ls := ls) (f := f) d
  have Hl := Lib.hid hl; have Hd := Lib.hid d; have Hf := Lib.hid hf; have Hv := Lib.hid hv
  clear hl d hf hv
  go_enter Tryz.func90, Tryz.ntmps90
  go_wp2_with fail
  go_loopw [6, 5] (fun i v wr => ∃ (k : Nat) (s' : DS) (ks : List Nat), i = .int .i64 ((k : Int) - 1) ∧ FoldInv w h s ls f k v wr s' ks) (fun i _ _ => (intOf i + 1).toNat)
  case atStart => exact ⟨f.length, s, [], by go_num, hstart⟩
  case round =>
    obtain ⟨k, s', ks, rfl, inv⟩ := hrel
    have hkl := inv.hk
    by_cases hk0 : k = 0
    · subst hk0
      have hlen1 : ks.length = 1 := by rw [inv.length (fun _ => false)]; exact foldS_length _ _ h.n _ _ (by simpa using Hv.out)
      obtain ⟨g, cap, rfl, hbase, hglt⟩ := World.ownsRow.form inv.row (by omega)
      have ht0 := top_at inv.row 0 (by omega)
      rw [hlen1] at ht0
      have hfin : OfEnd w h s (fun σ => evalF (byLev ls σ) f) (f.length * 2 ^ h.n) (.returned (.int .i32 (ks.getD 0 0 : Nat))) wr := by
        refine ⟨s', _, rfl, inv.upd, inv.lt _ (by simp [List.getD, hlen1]), fun σ => ?_, by simpa using inv.steps, inv.le, by simpa using inv.cnt⟩
        unfold evalF
        have := inv.mean σ
        rw [List.drop_zero] at this
        rw [← this, getD_map _ _ _ 0 _ (by omega)]
      generalize ks.getD 0 0 = r at *
      have Hfin := Lib.hid hfin
      rw [hlen1]
      clear hfin inv
      go_wp2_with fail
      go_ret
      exact Hfin.out
    · obtain ⟨j, rfl⟩ : ∃ j, k = j + 1 := ⟨k - 1, by omega⟩
      have hjl : j < f.length := by omega
      obtain ⟨hop, hcl⟩ := lack_at Hv.out hjl
      have hcl0 := hcl Bool (tk (byLev ls (fun _ => false))) false
      rw [← inv.length] at hcl0
      obtain ⟨fb, off, rfl, hcs⟩ := (Hf.out.upd inv.upd).ints.cells (by omega)
      have hcj := hcs j hjl
      have u0 : Upd w wr.drew h s s' := ⟨inv.upd.dia.drew, inv.upd.ext, inv.upd.keeps.drew, inv.upd.own⟩
      have hlv := Hl.out.upd u0
      have hbx := hbo.cell u0 hbox
      have hmul : (f.length - (j + 1)) * 2 ^ h.n + 2 ^ h.n ≤ f.length * 2 ^ h.n := by rw [← Nat.succ_mul]; exact Nat.mul_le_mul_right _ (by omega)
      have hsteps := inv.steps
      have hcnt2 := inv.cnt
      have hle2 := inv.le
      have hstep := fun (w1 w2 : World) (s1 : DS) (v2 : Value) (k1 a b : Nat) => FoldInv.step (w1 := w1) (w2 := w2) (s1 := s1) (v2 := v2) (k1 := k1) (a := a) (b := b) inv Hv.out hjl
      have htake := fun (a b : Nat) (ha : a < s'.nodes.length) (hb : b < s'.nodes.length) => take_any h hn s' ls tb (f.getD j 0) a b wr.drew inv.upd.dia.drew hlv hbx hop ha hb (by omega) (by omega) (by omega)
      have h2l := inv.upd.dia.inv.wf.two
      have hsz := inv.upd.keeps.size
      have hcx := opC_cases (f.getD j 0)
      have hkn : ks.length ≤ f.length := by
        rw [inv.length (fun _ => false)]
        have : ∀ (T : Type) (take : Int → T → T → T) (z : T) (xs : List Int), (foldS take z xs).length ≤ xs.length := by
          intro T take z xs
          induction xs with
          | nil => simp [foldS]
          | cons x xs ih => unfold foldS; split; (simp; omega); split <;> (simp; omega)
        have h1 := this Bool (tk (byLev ls (fun _ => false))) false (f.drop (j + 1))
        simp at h1 ⊢; omega
      obtain ⟨i0, hi0, hz0, hz1, hz2⟩ := info_parts infoKnot
      generalize f.getD j 0 = x at *
      have Hs := Lib.hid hstep; have Ht := Lib.hid htake
      clear hstep htake hop hcl hlv hbx hmul hcs u0 hsteps hcnt2 hle2 hstart
      rcases hcx with hc | hc | hc
      · have Hc := Lib.hid hc
        clear hc hcl0
        by_cases hks : ks = []
        · subst hks
          obtain rfl := inv.nil rfl
          have Hi := Lib.hid inv
          clear inv
          have hw0 : IntKind.i64.wrap 0 = 0 := by decide
          go_wp2_with (go_at_call 66; refine (operands_any _ _ _ (by omega)).mono ?_; rintro e w' ⟨rfl, rfl⟩; rw [Hc.out])
          go_region_law? (first | (refine step_append_lies _ rfl (.tmp 47) (.tmp 56) 119 rfl w.heap.size 82 i0 (.int .i32 0) 1 4 Tryz.underlying119 hi0 hz0 hz1 hz2 rfl (by decide) (.slice none 0 0) 0 [] (by simp [Act.eval, Act.put]) (World.ownsRow_nil _ _ _ _) ⟨w1.heap.size, 0, none⟩ 1 1 [.int .i32 k1] (by simp [Act.eval, Act.put]) rfl (World.news_of_block (cs := #[.int .i32 k1]) (t := 82) (fr := (0, 0)) (by exact heap_alloc_new w1 _)) (by intro u hu; simp at hu; subst hu; rfl) (by omega) (by unfold maxLen; omega) (by omega) (by simp; omega) _ rfl ?_; intro g2 cap2 w2 hown hgrow hat hlt2) | (go_simp; go_at_call 91; refine (Ht.out 0 0 (by omega) (by omega)).mono ?_; rintro e w1 ⟨s1, k1, rfl, p1⟩; have hsz1 := p1.upd.keeps.size; simp at hsz1))
          all_goals
            have hk2 : Keeps (fun b => (Value.slice none 0 0).ownBlock = some b) w1 w2 := ((Keeps.refl _ w1).alloc _).grown hgrow (fun k e => Or.inl e)
            have hat2 : ∀ b, (Value.slice (some ⟨g2, 0, none⟩) 1 cap2).ownBlock = some b → (Value.slice none 0 0).ownBlock = some b ∨ w1.heap.size ≤ b := by
              intro b hb
              simp [Value.ownBlock] at hb
              subst hb
              rcases hat with e | e
              · exact Or.inl e
              · right; simp at e; omega
            have inv2 := Hs.out w1 w2 s1 (.slice (some ⟨g2, 0, none⟩) 1 cap2) k1 0 0 (by omega) (by omega) (fun hh => absurd hh (by rw [Hc.out]; omega)) (fun hh => absurd hh (by rw [Hc.out]; omega)) p1 (by rw [Hc.out]; exact hown) hk2 hat2
            have Hi2 := Lib.hid inv2
            clear inv2 hk2 hat2 hown hgrow hat p1
            go_wp2_with fail
            go_roundw
            case rel => exact ⟨j, s1, _, by go_num, Hi2.out⟩
            case measure => simp [intOf] <;> omega
        · have hpos : 0 < ks.length := by cases ks with | nil => exact absurd rfl hks | cons y ys => simp
          obtain ⟨g, cap, rfl, hbase, hglt⟩ := World.ownsRow.form inv.row hpos
          have hrow := inv.row
          have hgno := inv.sep g rfl
          have Hi := Lib.hid inv; have Hr := Lib.hid hrow
          have hcap : ks.length ≤ cap := by
            rcases hrow.2 with ⟨e, _⟩ | ⟨g', cap', cur, e, _, _, q1, _⟩
            · cases e
            · simp at e; omega
          clear inv hrow hks
          have hw0 : IntKind.i64.wrap (ks.length : Int) = (ks.length : Int) := IntWalk.i64_in _ (by omega)
          have i1 : (0 : Int) ≤ (ks.length : Int) := by omega
          have i2 : (ks.length : Int) ≤ (cap : Int) := by omega
          go_wp2_with (go_at_call 66; refine (operands_any _ _ _ (by omega)).mono ?_; rintro e w' ⟨rfl, rfl⟩; rw [Hc.out])
          go_region_law (first | (refine step_append_lies _ rfl (.tmp 47) (.tmp 56) 119 rfl w.heap.size 82 i0 (.int .i32 0) 1 4 Tryz.underlying119 hi0 hz0 hz1 hz2 rfl (by decide) (.slice (some ⟨g, 0, none⟩) (ks.length - 0) cap) (ks.length - 0) ((ks.drop 0).reverse.map (fun (x : Nat) => Value.int .i32 x)) (by simp [Act.eval, Act.put]) (by exact (hcut.alloc _)) ⟨w1.heap.size, 0, none⟩ 1 1 [.int .i32 k1] (by simp [Act.eval, Act.put]) rfl (World.news_of_block (cs := #[.int .i32 k1]) (t := 82) (fr := (0, 0)) (by exact heap_alloc_new w1 _)) (by intro u hu; simp at hu; subst hu; rfl) (by omega) (by unfold maxLen; omega) (by omega) (by simp; omega) _ rfl ?_; intro g2 cap2 w2 hown hgrow hat hlt2) | (go_simp; go_at_call 91; refine (Ht.out 0 0 (by omega) (by omega)).mono ?_; rintro e w1 ⟨s1, k1, rfl, p1⟩; have hsz1 := p1.upd.keeps.size; simp at hsz1; have hcut := ownsRow_of_block (w' := w1) Hr.out (fun k e => by simp [Value.ownBlock] at e; subst e; exact p1.upd.keeps.block _ hglt hgno)))
          all_goals
            have hk2 : Keeps (fun b => (Value.slice (some ⟨g, 0, none⟩) ks.length cap).ownBlock = some b) w1 w2 := ((Keeps.refl _ w1).alloc _).grown hgrow (fun k e => Or.inl e)
            have hat2 : ∀ b, (Value.slice (some ⟨g2, 0, none⟩) (ks.length - 0 + 1) cap2).ownBlock = some b → (Value.slice (some ⟨g, 0, none⟩) ks.length cap).ownBlock = some b ∨ w1.heap.size ≤ b := by
              intro b hb
              simp [Value.ownBlock] at hb
              subst hb
              rcases hat with e | e
              · exact Or.inl e
              · right; simp at e; omega
            have inv2 := Hs.out w1 w2 s1 (.slice (some ⟨g2, 0, none⟩) (ks.length - 0 + 1) cap2) k1 0 0 (by omega) (by omega) (fun hh => absurd hh (by rw [Hc.out]; omega)) (fun hh => absurd hh (by rw [Hc.out]; omega)) p1 (by rw [Hc.out]; exact hown) hk2 hat2
            have Hi2 := Lib.hid inv2
            clear inv2 hk2 hat2 hown hgrow hat p1
            go_wp2_with fail
            go_roundw
            case rel => exact ⟨j, s1, _, by go_num, Hi2.out⟩
            case measure => simp [intOf] <;> omega
      · rw [hc] at hcl0
        have Hc := Lib.hid hc
        clear hc
        obtain ⟨g, cap, rfl, hbase, hglt⟩ := World.ownsRow.form inv.row (by omega)
        have hrow := inv.row
        have hgno := inv.sep g rfl
        have ht0 := top_at hrow 0 (by omega)
        have ha := inv.lt (ks.getD 0 0) (by simp [List.getD, show 0 < ks.length by omega])
        simp only [Nat.sub_zero] at ht0
        have Hi := Lib.hid inv; have Hr := Lib.hid (cut_row (c := 1) hrow (by omega))
        have hcap : ks.length ≤ cap := by
          rcases hrow.2 with ⟨e, _⟩ | ⟨g', cap', cur, e, _, _, q1, _⟩
          · cases e
          · simp at e; omega
        clear inv hrow
        have hw0 : IntKind.i64.wrap ((ks.length : Int) - 1) = (ks.length : Int) - 1 := IntWalk.i64_in _ (by omega)
        have hw1 : ((ks.length : Int) - 1).toNat = ks.length - 1 := by omega
        have i0' : (0 : Int) ≤ (ks.length : Int) - 1 := by omega
        have i1 : (0 : Int) ≤ (ks.length : Int) := by omega
        have i2 : (ks.length : Int) - 1 ≤ (cap : Int) := by omega
        have i3 : (1 : Int) ≤ (ks.length : Int) := by omega
        obtain ⟨a, hA⟩ : ∃ a, ks.getD 0 0 = a := ⟨_, rfl⟩
        rw [hA] at ht0 ha
        have HA := Lib.hid hA
        clear hA
        go_wp2_with (go_at_call 66; refine (operands_any _ _ _ (by omega)).mono ?_; rintro e w' ⟨rfl, rfl⟩; rw [Hc.out])
        go_region_law (first | (refine step_append_lies _ rfl (.tmp 47) (.tmp 56) 119 rfl w.heap.size 82 i0 (.int .i32 0) 1 4 Tryz.underlying119 hi0 hz0 hz1 hz2 rfl (by decide) (.slice (some ⟨g, 0, none⟩) (ks.length - 1) cap) (ks.length - 1) ((ks.drop 1).reverse.map (fun (x : Nat) => Value.int .i32 x)) (by simp [Act.eval, Act.put]) (by exact (hcut.alloc _)) ⟨w1.heap.size, 0, none⟩ 1 1 [.int .i32 k1] (by simp [Act.eval, Act.put]) rfl (World.news_of_block (cs := #[.int .i32 k1]) (t := 82) (fr := (0, 0)) (by exact heap_alloc_new w1 _)) (by intro u hu; simp at hu; subst hu; rfl) (by omega) (by unfold maxLen; omega) (by omega) (by simp; omega) _ rfl ?_; intro g2 cap2 w2 hown hgrow hat hlt2) | (go_simp; go_at_call 91; refine (Ht.out a 0 ha (by omega)).mono ?_; rintro e w1 ⟨s1, k1, rfl, p1⟩; have hsz1 := p1.upd.keeps.size; simp at hsz1; have hcut := ownsRow_of_block (w' := w1) Hr.out (fun k e => by simp [Value.ownBlock] at e; subst e; exact p1.upd.keeps.block _ hglt hgno)))
        all_goals
          have hk2 : Keeps (fun b => (Value.slice (some ⟨g, 0, none⟩) ks.length cap).ownBlock = some b) w1 w2 := ((Keeps.refl _ w1).alloc _).grown hgrow (fun k e => Or.inl e)
          have hat2 : ∀ b, (Value.slice (some ⟨g2, 0, none⟩) (ks.length - 1 + 1) cap2).ownBlock = some b → (Value.slice (some ⟨g, 0, none⟩) ks.length cap).ownBlock = some b ∨ w1.heap.size ≤ b := by
            intro b hb
            simp [Value.ownBlock] at hb
            subst hb
            rcases hat with e | e
            · exact Or.inl e
            · right; simp at e; omega
          have inv2 := Hs.out w1 w2 s1 (.slice (some ⟨g2, 0, none⟩) (ks.length - 1 + 1) cap2) k1 a 0 ha (by omega) (fun _ => HA.out.symm) (fun hh => absurd hh (by rw [Hc.out]; omega)) p1 (by rw [Hc.out]; exact hown) hk2 hat2
          have Hi2 := Lib.hid inv2
          clear inv2 hk2 hat2 hown hgrow hat p1
          go_wp2_with fail
          go_roundw
          case rel => exact ⟨j, s1, _, by go_num, (by have := Hi2.out; rwa [show ks.length - 1 + 1 = ks.length by omega] at this)⟩
          case measure => simp [intOf] <;> omega
      · rw [hc] at hcl0
        have Hc := Lib.hid hc
        clear hc
        obtain ⟨g, cap, rfl, hbase, hglt⟩ := World.ownsRow.form inv.row (by omega)
        have hrow := inv.row
        have hgno := inv.sep g rfl
        have ht0 := top_at hrow 0 (by omega)
        have ha := inv.lt (ks.getD 0 0) (by simp [List.getD, show 0 < ks.length by omega])
        have ht1 := top_at hrow 1 (by omega)
        have hb := inv.lt (ks.getD 1 0) (by simp [List.getD, show 1 < ks.length by omega])
        rw [show ks.length - 1 - 1 = ks.length - 2 by omega] at ht1
        simp only [Nat.sub_zero] at ht0
        have Hi := Lib.hid inv; have Hr := Lib.hid (cut_row (c := 2) hrow (by omega))
        have hcap : ks.length ≤ cap := by
          rcases hrow.2 with ⟨e, _⟩ | ⟨g', cap', cur, e, _, _, q1, _⟩
          · cases e
          · simp at e; omega
        clear inv hrow
        have hw0 : IntKind.i64.wrap ((ks.length : Int) - 2) = (ks.length : Int) - 2 := IntWalk.i64_in _ (by omega)
        have hw1 : ((ks.length : Int) - 2).toNat = ks.length - 2 := by omega
        have i0' : (0 : Int) ≤ (ks.length : Int) - 2 := by omega
        have i1 : (0 : Int) ≤ (ks.length : Int) := by omega
        have i2 : (ks.length : Int) - 2 ≤ (cap : Int) := by omega
        have i3 : (2 : Int) ≤ (ks.length : Int) := by omega
        obtain ⟨a, hA⟩ : ∃ a, ks.getD 0 0 = a := ⟨_, rfl⟩
        rw [hA] at ht0 ha
        have HA := Lib.hid hA
        clear hA
        obtain ⟨b, hB⟩ : ∃ b, ks.getD 1 0 = b := ⟨_, rfl⟩
        rw [hB] at ht1 hb
        have HB := Lib.hid hB
        clear hB
        go_wp2_with (go_at_call 66; refine (operands_any _ _ _ (by omega)).mono ?_; rintro e w' ⟨rfl, rfl⟩; rw [Hc.out])
        go_region_law (first | (refine step_append_lies _ rfl (.tmp 47) (.tmp 56) 119 rfl w.heap.size 82 i0 (.int .i32 0) 1 4 Tryz.underlying119 hi0 hz0 hz1 hz2 rfl (by decide) (.slice (some ⟨g, 0, none⟩) (ks.length - 2) cap) (ks.length - 2) ((ks.drop 2).reverse.map (fun (x : Nat) => Value.int .i32 x)) (by simp [Act.eval, Act.put]) (by exact (hcut.alloc _)) ⟨w1.heap.size, 0, none⟩ 1 1 [.int .i32 k1] (by simp [Act.eval, Act.put]) rfl (World.news_of_block (cs := #[.int .i32 k1]) (t := 82) (fr := (0, 0)) (by exact heap_alloc_new w1 _)) (by intro u hu; simp at hu; subst hu; rfl) (by omega) (by unfold maxLen; omega) (by omega) (by simp; omega) _ rfl ?_; intro g2 cap2 w2 hown hgrow hat hlt2) | (go_simp; go_at_call 91; refine (Ht.out a b ha hb).mono ?_; rintro e w1 ⟨s1, k1, rfl, p1⟩; have hsz1 := p1.upd.keeps.size; simp at hsz1; have hcut := ownsRow_of_block (w' := w1) Hr.out (fun k e => by simp [Value.ownBlock] at e; subst e; exact p1.upd.keeps.block _ hglt hgno)))
        all_goals
          have hk2 : Keeps (fun b => (Value.slice (some ⟨g, 0, none⟩) ks.length cap).ownBlock = some b) w1 w2 := ((Keeps.refl _ w1).alloc _).grown hgrow (fun k e => Or.inl e)
          have hat2 : ∀ b, (Value.slice (some ⟨g2, 0, none⟩) (ks.length - 2 + 1) cap2).ownBlock = some b → (Value.slice (some ⟨g, 0, none⟩) ks.length cap).ownBlock = some b ∨ w1.heap.size ≤ b := by
            intro b hb
            simp [Value.ownBlock] at hb
            subst hb
            rcases hat with e | e
            · exact Or.inl e
            · right; simp at e; omega
          have inv2 := Hs.out w1 w2 s1 (.slice (some ⟨g2, 0, none⟩) (ks.length - 2 + 1) cap2) k1 a b ha hb (fun _ => HA.out.symm) (fun _ => HB.out.symm) p1 (by rw [Hc.out]; exact hown) hk2 hat2
          have Hi2 := Lib.hid inv2
          clear inv2 hk2 hat2 hown hgrow hat p1
          go_wp2_with fail
          go_roundw
          case rel => exact ⟨j, s1, _, by go_num, Hi2.out⟩
          case measure => simp [intOf] <;> omega
end Go.Proofs.YtngjjmniigkeoaaGreatDoor
