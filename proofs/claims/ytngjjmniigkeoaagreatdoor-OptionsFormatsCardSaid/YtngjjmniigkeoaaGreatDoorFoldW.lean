/- fold at texts: the walk. -/
import Derived.Test.YtngjjmniigkeoaaGreatDoorFoldE
import Derived.IntWalk
namespace Go.Proofs.YtngjjmniigkeoaaGreatDoor
open Go Go.RowKit Go.WideMaps Go.Maps
set_option linter.unusedSimpArgs false
set_option linter.unusedVariables false

theorem infoEStr : (Tryz.prog.info? 9).map (fun i => (i.zero, i.size, i.bytes)) = some (some (.string ByteArray.empty), 1, 16) := by kernel_rfl

set_option maxRecDepth 100000 in
set_option maxHeartbeats 6400000 in
theorem foldStr_any (vb : Nat) (n : Nat) (take : Int → ByteArray → ByteArray → ByteArray) (caps : Array Value) (af : Option Addr) (cf : Nat) (f : List Int) (w : World) (hf : IntsAt w af cf f) (hcaps : caps = #[.pointer (some ⟨vb, 0, none⟩)])
    (hv : lack n 1 f = some 0) (hlf : f.length ≤ 100) (hsz0 : ∀ k, k ≤ f.length → ∀ s ∈ foldS take ByteArray.empty (f.drop k), s.size ≤ 1000)
    (htk : ∀ (wr : World) (x : Int) (a b : ByteArray), Keeps (fun _ => False) w wr → opB x n = true → a.size ≤ 1000 → b.size ≤ 1000 → Calls Tryz.prog 56 #[.int .i64 x, .string a, .string b, .pointer (some ⟨vb, 0, none⟩)] wr fun e w' => e = .returned (.string (take x a b)) ∧ Keeps (fun _ => False) wr w') :
    Calls Tryz.prog 55 #[.slice af f.length cf, .func (Fn.func 56) #[] #[.pointer (some ⟨vb, 0, none⟩)]] w fun e w' => e = .returned (.string ((foldS take ByteArray.empty f).getD 0 ByteArray.empty)) ∧ Keeps (fun _ => False) w w' := by
  have hfpos : 0 < f.length := by
    cases f with
    | nil => simp [lack] at hv
    | cons x xs => simp
  have hstart := FoldE.start (Value.string) 9 take ByteArray.empty w f
  have Hf := Lib.hid hf; have Hv := Lib.hid hv; have Htk := Lib.hid htk
  clear hf hv htk
  go_enter Tryz.func55, Tryz.ntmps55
  go_wp2_with fail
  go_loopw [6, 5] (fun i v wr => ∃ (k : Nat) (ks : List ByteArray), i = .int .i64 ((k : Int) - 1) ∧ FoldE (Value.string) 9 take ByteArray.empty w f k v wr ks) (fun i _ _ => (intOf i + 1).toNat)
  case atStart => exact ⟨f.length, [], by go_num, hstart⟩
  case round =>
    obtain ⟨k, ks, rfl, inv⟩ := hrel
    have hkl := inv.hk
    by_cases hk0 : k = 0
    · subst hk0
      have hlen1 : ks.length = 1 := by rw [inv.mean]; exact foldS_length _ _ n _ _ (by simpa using Hv.out)
      obtain ⟨g, cap, rfl, hbase, hglt⟩ := World.ownsRow.form inv.row (by omega)
      have ht0 := topE (z := ByteArray.empty) inv.row 0 (by omega)
      rw [hlen1] at ht0
      have hfin : ks.getD 0 ByteArray.empty = (foldS take ByteArray.empty f).getD 0 ByteArray.empty := by rw [inv.mean, List.drop_zero]
      have hkp := inv.keeps
      generalize ks.getD 0 ByteArray.empty = r at *
      have Hfin := Lib.hid hfin
      rw [hlen1]
      clear hfin inv
      go_wp2_with fail
      go_ret
      exact ⟨by rw [Hfin.out]; rfl, hkp⟩
    · obtain ⟨j, rfl⟩ : ∃ j, k = j + 1 := ⟨k - 1, by omega⟩
      have hjl : j < f.length := by omega
      obtain ⟨hop, hcl⟩ := lack_at Hv.out hjl
      have hcl0 := hcl ByteArray take ByteArray.empty
      rw [← inv.mean] at hcl0
      obtain ⟨fb, off, rfl, hcs⟩ := (Hf.out.keeps inv.keeps).cells (by omega)
      have hcj := hcs j hjl
      have hstep := fun (w2 : World) (v2 : Value) (a b : ByteArray) => FoldE.step (w2 := w2) (v2 := v2) (a := a) (b := b) inv hjl
      have hok : ∀ s ∈ ks, s.size ≤ 1000 := by rw [inv.mean]; exact hsz0 (j + 1) (by omega)
      have htake := fun (a b : ByteArray) => Htk.out wr.drew (f.getD j 0) a b inv.keeps.drew hop
      have hsz := inv.keeps.size
      have hcx := opC_cases (f.getD j 0)
      have hkn : ks.length ≤ f.length := by
        rw [inv.mean]
        have h1 := foldS_le take ByteArray.empty (f.drop (j + 1))
        simp at h1 ⊢; omega
      obtain ⟨i0, hi0, hz0, hz1, hz2⟩ := info_parts infoEStr
      generalize f.getD j 0 = x at *
      have Hs := Lib.hid hstep; have Ht := Lib.hid htake
      clear hstep htake hop hcl hcs hstart
      rcases hcx with hc | hc | hc
      · have Hc := Lib.hid hc
        clear hc hcl0
        by_cases hks : ks = []
        · subst hks
          obtain rfl := inv.nil rfl
          have Hi := Lib.hid inv
          clear inv
          have hw0 : IntKind.i64.wrap 0 = 0 := by decide
          go_wp2_with (go_at_call 66; refine (operands_any _ _ _ (by omega)).mono ?_; rintro e w' ⟨rfl, rfl⟩; rw [Hc.out])
          go_region_law (first | (refine step_append_lies _ rfl (.tmp 47) (.tmp 56) 22 rfl w.heap.size 9 i0 (.string ByteArray.empty) 1 16 Tryz.underlying22 hi0 hz0 hz1 hz2 rfl (by decide) (.slice none 0 0) 0 [] (by simp [Act.eval, Act.put]) (World.ownsRow_nil _ _ _ _) ⟨w1.heap.size, 0, none⟩ 1 1 [.string (take x ByteArray.empty ByteArray.empty)] (by simp [Act.eval, Act.put]) rfl (World.news_of_block (cs := #[.string (take x ByteArray.empty ByteArray.empty)]) (t := 9) (fr := (0, 0)) (by exact heap_alloc_new w1 _)) (by intro u hu; simp at hu; subst hu; rfl) (by omega) (by unfold maxLen; omega) (by omega) (by simp; omega) _ rfl ?_; intro g2 cap2 w2 hown hgrow hat hlt2) | (go_simp; go_at_call 56; refine (Ht.out ByteArray.empty ByteArray.empty (by simp) (by simp)).mono ?_; rintro e w1 ⟨rfl, k1⟩; have hsz1 := k1.size; simp at hsz1))
          all_goals
            have hk2 : Keeps (fun b => (Value.slice none 0 0).ownBlock = some b) wr w2 := ((k1.mono (fun _ e => e.elim)).alloc _).grown hgrow (fun k e => Or.inl e) |> fun q => ⟨q.os, q.tape, q.output, q.size, q.block⟩
            have inv2 := Hs.out w2 (.slice (some ⟨g2, 0, none⟩) 1 cap2) ByteArray.empty ByteArray.empty (by rw [Hc.out]; rfl) (by rw [Hc.out]; rfl) (by rw [Hc.out]; exact hown) hk2
            have Hi2 := Lib.hid inv2
            clear inv2 hk2 hown hgrow hat
            go_wp2_with fail
            go_roundw
            case rel => exact ⟨j, _, by go_num, Hi2.out⟩
            case measure => simp [intOf] <;> omega
        · have hpos : 0 < ks.length := by cases ks with | nil => exact absurd rfl hks | cons y ys => simp
          obtain ⟨g, cap, rfl, hbase, hglt⟩ := World.ownsRow.form inv.row hpos
          have hrow := inv.row
          have Hi := Lib.hid inv; have Hr := Lib.hid hrow
          have hcap : ks.length ≤ cap := by
            rcases hrow.2 with ⟨e, _⟩ | ⟨g', cap', cur, e, _, _, q1, _⟩
            · cases e
            · simp at e; omega
          clear inv hrow hks
          have hw0 : IntKind.i64.wrap (ks.length : Int) = (ks.length : Int) := IntWalk.i64_in _ (by omega)
          have i1 : (0 : Int) ≤ (ks.length : Int) := by omega
          have i2 : (ks.length : Int) ≤ (cap : Int) := by omega
          go_wp2_with (go_at_call 66; refine (operands_any _ _ _ (by omega)).mono ?_; rintro e w' ⟨rfl, rfl⟩; rw [Hc.out])
          go_region_law (first | (refine step_append_lies _ rfl (.tmp 47) (.tmp 56) 22 rfl w.heap.size 9 i0 (.string ByteArray.empty) 1 16 Tryz.underlying22 hi0 hz0 hz1 hz2 rfl (by decide) (.slice (some ⟨g, 0, none⟩) (ks.length - 0) cap) (ks.length - 0) ((ks.drop 0).reverse.map (Value.string)) (by simp [Act.eval, Act.put]) (by exact (hcut.alloc _)) ⟨w1.heap.size, 0, none⟩ 1 1 [.string (take x ByteArray.empty ByteArray.empty)] (by simp [Act.eval, Act.put]) rfl (World.news_of_block (cs := #[.string (take x ByteArray.empty ByteArray.empty)]) (t := 9) (fr := (0, 0)) (by exact heap_alloc_new w1 _)) (by intro u hu; simp at hu; subst hu; rfl) (by omega) (by unfold maxLen; omega) (by omega) (by simp; omega) _ rfl ?_; intro g2 cap2 w2 hown hgrow hat hlt2) | (go_simp; go_at_call 56; refine (Ht.out ByteArray.empty ByteArray.empty (by simp) (by simp)).mono ?_; rintro e w1 ⟨rfl, k1⟩; have hsz1 := k1.size; simp at hsz1; have hcut := ownsRow_of_block (w' := w1) Hr.out (fun k e => by simp [Value.ownBlock] at e; subst e; exact k1.block _ hglt (fun e => e))))
          all_goals
            have hk2 : Keeps (fun b => (Value.slice (some ⟨g, 0, none⟩) ks.length cap).ownBlock = some b) wr w2 := ((k1.mono (fun _ e => e.elim)).alloc _).grown hgrow (fun k e => Or.inl e) |> fun q => ⟨q.os, q.tape, q.output, q.size, q.block⟩
            have inv2 := Hs.out w2 (.slice (some ⟨g2, 0, none⟩) (ks.length - 0 + 1) cap2) ByteArray.empty ByteArray.empty (by rw [Hc.out]; rfl) (by rw [Hc.out]; rfl) (by rw [Hc.out]; exact hown) hk2
            have Hi2 := Lib.hid inv2
            clear inv2 hk2 hown hgrow hat
            go_wp2_with fail
            go_roundw
            case rel => exact ⟨j, _, by go_num, Hi2.out⟩
            case measure => simp [intOf] <;> omega
      · rw [hc] at hcl0
        have Hc := Lib.hid hc
        clear hc
        obtain ⟨g, cap, rfl, hbase, hglt⟩ := World.ownsRow.form inv.row (by omega)
        have hrow := inv.row
        have ht0 := topE (z := ByteArray.empty) hrow 0 (by omega)
        simp only [Nat.sub_zero] at ht0
        have Hi := Lib.hid inv; have Hr := Lib.hid (cutE (c := 1) hrow (by omega))
        have hcap : ks.length ≤ cap := by
          rcases hrow.2 with ⟨e, _⟩ | ⟨g', cap', cur, e, _, _, q1, _⟩
          · cases e
          · simp at e; omega
        clear inv hrow
        have hw0 : IntKind.i64.wrap ((ks.length : Int) - 1) = (ks.length : Int) - 1 := IntWalk.i64_in _ (by omega)
        have hw1 : ((ks.length : Int) - 1).toNat = ks.length - 1 := by omega
        have i0' : (0 : Int) ≤ (ks.length : Int) - 1 := by omega
        have i1 : (0 : Int) ≤ (ks.length : Int) := by omega
        have i2 : (ks.length : Int) - 1 ≤ (cap : Int) := by omega
        have i3 : (1 : Int) ≤ (ks.length : Int) := by omega
        have ha : (ks.getD 0 ByteArray.empty).size ≤ 1000 := hok _ (by simp [List.getD, show 0 < ks.length by omega])
        obtain ⟨a, hA⟩ : ∃ a, ks.getD 0 ByteArray.empty = a := ⟨_, rfl⟩
        rw [hA] at ht0 ha
        have HA := Lib.hid hA
        clear hA
        go_wp2_with (go_at_call 66; refine (operands_any _ _ _ (by omega)).mono ?_; rintro e w' ⟨rfl, rfl⟩; rw [Hc.out])
        go_region_law (first | (refine step_append_lies _ rfl (.tmp 47) (.tmp 56) 22 rfl w.heap.size 9 i0 (.string ByteArray.empty) 1 16 Tryz.underlying22 hi0 hz0 hz1 hz2 rfl (by decide) (.slice (some ⟨g, 0, none⟩) (ks.length - 1) cap) (ks.length - 1) ((ks.drop 1).reverse.map (Value.string)) (by simp [Act.eval, Act.put]) (by exact (hcut.alloc _)) ⟨w1.heap.size, 0, none⟩ 1 1 [.string (take x a ByteArray.empty)] (by simp [Act.eval, Act.put]) rfl (World.news_of_block (cs := #[.string (take x a ByteArray.empty)]) (t := 9) (fr := (0, 0)) (by exact heap_alloc_new w1 _)) (by intro u hu; simp at hu; subst hu; rfl) (by omega) (by unfold maxLen; omega) (by omega) (by simp; omega) _ rfl ?_; intro g2 cap2 w2 hown hgrow hat hlt2) | (go_simp; go_at_call 56; refine (Ht.out a ByteArray.empty ha (by simp)).mono ?_; rintro e w1 ⟨rfl, k1⟩; have hsz1 := k1.size; simp at hsz1; have hcut := ownsRow_of_block (w' := w1) Hr.out (fun k e => by simp [Value.ownBlock] at e; subst e; exact k1.block _ hglt (fun e => e))))
        all_goals
          have hk2 : Keeps (fun b => (Value.slice (some ⟨g, 0, none⟩) ks.length cap).ownBlock = some b) wr w2 := ((k1.mono (fun _ e => e.elim)).alloc _).grown hgrow (fun k e => Or.inl e) |> fun q => ⟨q.os, q.tape, q.output, q.size, q.block⟩
          have inv2 := Hs.out w2 (.slice (some ⟨g2, 0, none⟩) (ks.length - 1 + 1) cap2) a ByteArray.empty (by rw [Hc.out, HA.out]; rfl) (by rw [Hc.out]; rfl) (by rw [Hc.out]; exact hown) hk2
          have Hi2 := Lib.hid inv2
          clear inv2 hk2 hown hgrow hat
          go_wp2_with fail
          go_roundw
          case rel => exact ⟨j, _, by go_num, (by have := Hi2.out; rwa [show ks.length - 1 + 1 = ks.length by omega] at this)⟩
          case measure => simp [intOf] <;> omega
      · rw [hc] at hcl0
        have Hc := Lib.hid hc
        clear hc
        obtain ⟨g, cap, rfl, hbase, hglt⟩ := World.ownsRow.form inv.row (by omega)
        have hrow := inv.row
        have ht0 := topE (z := ByteArray.empty) hrow 0 (by omega)
        have ht1 := topE (z := ByteArray.empty) hrow 1 (by omega)
        rw [show ks.length - 1 - 1 = ks.length - 2 by omega] at ht1
        simp only [Nat.sub_zero] at ht0
        have Hi := Lib.hid inv; have Hr := Lib.hid (cutE (c := 2) hrow (by omega))
        have hcap : ks.length ≤ cap := by
          rcases hrow.2 with ⟨e, _⟩ | ⟨g', cap', cur, e, _, _, q1, _⟩
          · cases e
          · simp at e; omega
        clear inv hrow
        have hw0 : IntKind.i64.wrap ((ks.length : Int) - 2) = (ks.length : Int) - 2 := IntWalk.i64_in _ (by omega)
        have hw1 : ((ks.length : Int) - 2).toNat = ks.length - 2 := by omega
        have i0' : (0 : Int) ≤ (ks.length : Int) - 2 := by omega
        have i1 : (0 : Int) ≤ (ks.length : Int) := by omega
        have i2 : (ks.length : Int) - 2 ≤ (cap : Int) := by omega
        have i3 : (2 : Int) ≤ (ks.length : Int) := by omega
        have ha : (ks.getD 0 ByteArray.empty).size ≤ 1000 := hok _ (by simp [List.getD, show 0 < ks.length by omega])
        have hb : (ks.getD 1 ByteArray.empty).size ≤ 1000 := hok _ (by simp [List.getD, show 1 < ks.length by omega])
        obtain ⟨a, hA⟩ : ∃ a, ks.getD 0 ByteArray.empty = a := ⟨_, rfl⟩
        rw [hA] at ht0 ha
        have HA := Lib.hid hA
        clear hA
        obtain ⟨b, hB⟩ : ∃ b, ks.getD 1 ByteArray.empty = b := ⟨_, rfl⟩
        rw [hB] at ht1 hb
        have HB := Lib.hid hB
        clear hB
        go_wp2_with (go_at_call 66; refine (operands_any _ _ _ (by omega)).mono ?_; rintro e w' ⟨rfl, rfl⟩; rw [Hc.out])
        go_region_law (first | (refine step_append_lies _ rfl (.tmp 47) (.tmp 56) 22 rfl w.heap.size 9 i0 (.string ByteArray.empty) 1 16 Tryz.underlying22 hi0 hz0 hz1 hz2 rfl (by decide) (.slice (some ⟨g, 0, none⟩) (ks.length - 2) cap) (ks.length - 2) ((ks.drop 2).reverse.map (Value.string)) (by simp [Act.eval, Act.put]) (by exact (hcut.alloc _)) ⟨w1.heap.size, 0, none⟩ 1 1 [.string (take x a b)] (by simp [Act.eval, Act.put]) rfl (World.news_of_block (cs := #[.string (take x a b)]) (t := 9) (fr := (0, 0)) (by exact heap_alloc_new w1 _)) (by intro u hu; simp at hu; subst hu; rfl) (by omega) (by unfold maxLen; omega) (by omega) (by simp; omega) _ rfl ?_; intro g2 cap2 w2 hown hgrow hat hlt2) | (go_simp; go_at_call 56; refine (Ht.out a b ha hb).mono ?_; rintro e w1 ⟨rfl, k1⟩; have hsz1 := k1.size; simp at hsz1; have hcut := ownsRow_of_block (w' := w1) Hr.out (fun k e => by simp [Value.ownBlock] at e; subst e; exact k1.block _ hglt (fun e => e))))
        all_goals
          have hk2 : Keeps (fun b => (Value.slice (some ⟨g, 0, none⟩) ks.length cap).ownBlock = some b) wr w2 := ((k1.mono (fun _ e => e.elim)).alloc _).grown hgrow (fun k e => Or.inl e) |> fun q => ⟨q.os, q.tape, q.output, q.size, q.block⟩
          have inv2 := Hs.out w2 (.slice (some ⟨g2, 0, none⟩) (ks.length - 2 + 1) cap2) a b (by rw [Hc.out, HA.out]; rfl) (by rw [Hc.out, HB.out]; rfl) (by rw [Hc.out]; exact hown) hk2
          have Hi2 := Lib.hid inv2
          clear inv2 hk2 hown hgrow hat
          go_wp2_with fail
          go_roundw
          case rel => exact ⟨j, _, by go_num, Hi2.out⟩
          case measure => simp [intOf] <;> omega
end Go.Proofs.YtngjjmniigkeoaaGreatDoor
