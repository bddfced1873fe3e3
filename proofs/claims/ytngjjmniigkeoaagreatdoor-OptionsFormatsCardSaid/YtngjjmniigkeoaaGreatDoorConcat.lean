/- slices.Concat of lists of formulas. -/
import Derived.Test.YtngjjmniigkeoaaGreatDoorGrow
import Derived.Test.YtngjjmniigkeoaaGreatDoorCount
namespace Go.Proofs.YtngjjmniigkeoaaGreatDoor
open Go Go.RowKit Go.WideMaps Go.Maps
set_option linter.unusedSimpArgs false
set_option linter.unusedVariables false

/-- Slice values whose lists of numbers lie in w. -/
structure Rows (w : World) (us : List Value) (fs : List (List Int)) : Prop where
  len : us.length = fs.length
  get : ∀ k, k < fs.length → ∃ a c, us[k]? = some (.slice a (fs.getD k []).length c) ∧ IntsAt w a c (fs.getD k [])

theorem Rows.nil (w : World) : Rows w [] [] := ⟨rfl, fun k hk => by simp at hk⟩
theorem Rows.append {w : World} {us vs : List Value} {fs gs : List (List Int)} (h : Rows w us fs) (g : Rows w vs gs) : Rows w (us ++ vs) (fs ++ gs) := by
  refine ⟨by simp [h.len, g.len], fun k hk => ?_⟩
  have h1 := h.len
  by_cases hlt : k < fs.length
  · obtain ⟨a, c, e, i⟩ := h.get k hlt
    have e2 : (fs ++ gs).getD k [] = fs.getD k [] := by simp [List.getD, List.getElem?_append_left hlt]
    rw [e2]
    exact ⟨a, c, by rw [List.getElem?_append_left (by omega)]; exact e, i⟩
  · have hk2 : k - fs.length < gs.length := by simp at hk; omega
    obtain ⟨a, c, e, i⟩ := g.get (k - fs.length) hk2
    have e2 : (fs ++ gs).getD k [] = gs.getD (k - fs.length) [] := by simp [List.getD, List.getElem?_append_right (by omega : fs.length ≤ k)]
    rw [e2]
    exact ⟨a, c, by rw [List.getElem?_append_right (by omega), h1]; exact e, i⟩
theorem Rows.one {w : World} {us : List Value} {fs : List (List Int)} (h : Rows w us fs) : ∀ u ∈ us, u.oneCell' = true := by
  intro u hu
  obtain ⟨k, hk, e⟩ := List.getElem_of_mem hu
  have h1 := h.len
  obtain ⟨a, c, e2, _⟩ := h.get k (by omega)
  rw [List.getElem?_eq_getElem hk, e] at e2
  cases e2; rfl

theorem forms_rows {w : World} {ao : Option Addr} {fs : List (List Int)} (h : FormsAt w ao fs) (h0 : 0 < fs.length) : ∃ b off us, ao = some ⟨b, off, none⟩ ∧ Rows w us fs ∧ ∀ j u, us[j]? = some u → w.cell? ⟨b, off + j, none⟩ = some u := by
  obtain ⟨b, off, e, hc⟩ := h.cells h0
  refine ⟨b, off, (List.range fs.length).map (fun k => cellOr w ⟨b, off + k, none⟩), e, ⟨by simp, fun k hk => ?_⟩, fun j u hj => ?_⟩
  · obtain ⟨a, c, h1, h2⟩ := hc k hk
    refine ⟨a, c, ?_, h2⟩
    simp [List.getElem?_range hk, cellOr, h1]
  · have hj2 : j < fs.length := by
      rcases Nat.lt_or_ge j fs.length with h' | h'
      · exact h'
      · rw [List.getElem?_eq_none (by simpa using h')] at hj; cases hj
    obtain ⟨a, c, h1, h2⟩ := hc j hj2
    simp [List.getElem?_range hj2, cellOr, h1] at hj
    rw [← hj]; exact h1

theorem rows_forms {w w' : World} {B g n cap : Nat} {us : List Value} {fs : List (List Int)} (h : Rows w us fs) (hb : Below w.heap.size w w') (hr : w'.ownsRow B 27 1 (.slice (some ⟨g, 0, none⟩) n cap) n us) : FormsAt w' (some ⟨g, 0, none⟩) fs := by
  have h1 := h.len
  have h2 := hr.1
  refine ⟨?_, fun h0 => ⟨g, 0, rfl, fun k hk => ?_⟩⟩
  · rcases hr.2 with ⟨e, _⟩ | ⟨g', cap', cur, e, _, _, hn, hc, _⟩
    · cases e
    · omega
  · obtain ⟨a, c, e, i⟩ := h.get k hk
    refine ⟨a, c, ?_, i.kept hb (Nat.le_refl _)⟩
    rw [Nat.zero_add, hr.cellAt k (by omega), e]

/-- The parts of a joined list: where each lies, its room, its formulas. -/
def PartsAt (w : World) (pb : Nat) (ps : List (Option Addr × Nat × List (List Int))) : Prop :=
  ∀ k, k < ps.length → ∃ a c fs, ps[k]? = some (a, c, fs) ∧ w.cell? ⟨pb, k, none⟩ = some (.slice a fs.length c) ∧ FormsAt w a fs ∧ (a = none → c = 0)
def joined (ps : List (Option Addr × Nat × List (List Int))) : List (List Int) := ps.flatMap (fun p => p.2.2)
theorem joined_step {ps : List (Option Addr × Nat × List (List Int))} {k : Nat} {a : Option Addr} {c : Nat} {fs : List (List Int)} (h : ps[k]? = some (a, c, fs)) : joined (ps.take (k + 1)) = joined (ps.take k) ++ fs := by
  unfold joined; rw [List.take_add_one, h]; simp
theorem joined_le (ps : List (Option Addr × Nat × List (List Int))) (k : Nat) : (joined (ps.take k)).length ≤ (joined ps).length := by
  have e : joined ps = joined (ps.take k) ++ joined (ps.drop k) := by
    unfold joined; rw [← List.flatMap_append, List.take_append_drop]
  rw [e, List.length_append]; omega

theorem part_news {w : World} {a : Option Addr} {fs : List (List Int)} (h : FormsAt w a fs) : (a = none ∧ fs = []) ∨ ∃ ad us, a = some ad ∧ Rows w us fs ∧ ∀ j u, us[j]? = some u → w.cell? (ad.add j) = some u := by
  by_cases h0 : 0 < fs.length
  · obtain ⟨b, off, us, e, hr, hc⟩ := forms_rows h h0
    exact .inr ⟨_, us, e, hr, fun j u hj => by first | exact hc j u hj | (rw [Addr.add_lit]; exact hc j u hj) | simpa [Addr.add] using hc j u hj⟩
  · have e : fs = [] := List.length_eq_zero_iff.1 (by omega)
    subst e
    cases a with
    | none => exact .inl ⟨rfl, rfl⟩
    | some ad => exact .inr ⟨ad, [], rfl, Rows.nil w, fun j u hj => by simp at hj⟩

def ConcatEnd (w : World) (fs : List (List Int)) (e : Ending) (w' : World) : Prop := ∃ a c, e = .returned (.slice a fs.length c) ∧ FormsAt w' a fs ∧ (a = none → c = 0) ∧ Below w.heap.size w w'
theorem concat_end {w w' : World} {v : Value} {us : List Value} {fs : List (List Int)} (hr : w'.ownsRow w.heap.size 27 1 v fs.length us) (h : Rows w us fs) (hb : Below w.heap.size w w') : ConcatEnd w fs (.returned v) w' := by
  rcases hr.2 with ⟨rfl, h0⟩ | ⟨g, cap, cur, rfl, _⟩
  · have e : fs = [] := List.length_eq_zero_iff.1 h0
    subst e
    exact ⟨none, 0, rfl, ⟨Nat.zero_le _, fun h => by simp at h⟩, fun _ => rfl, hb⟩
  · exact ⟨_, cap, rfl, rows_forms h hb hr, fun e => (by cases e), hb⟩

set_option maxRecDepth 100000 in
set_option maxHeartbeats 3200000 in
theorem concat_any (pb pc : Nat) (ps : List (Option Addr × Nat × List (List Int))) (w : World) (hp : PartsAt w pb ps) (hl : ps.length ≤ 1000) (hj : (joined ps).length ≤ 1000) :
    Calls Tryz.prog 51 #[.slice (some ⟨pb, 0, none⟩) ps.length pc] w (ConcatEnd w (joined ps)) := by
  obtain ⟨i0, hi0, hz0, hz1, hz2⟩ := info_parts infoForm
  have hgrow := grow_any (joined ps).length hj w
  have Hg := Lib.hid hgrow; have Hp := Lib.hid hp
  clear hgrow hp
  go_enter Tryz.func51, Tryz.ntmps51
  go_wp2_with fail
  go_loopw [11, 3] (fun i z wr => ∃ k : Nat, k ≤ ps.length ∧ i = .int .i64 k ∧ z = .int .i64 ((joined (ps.take k)).length : Nat) ∧ wr = w) (fun i _ _ => ps.length - (intOf i).toNat)
  case atStart => exact ⟨0, Nat.zero_le _, rfl, by simp [joined], rfl⟩
  case round =>
    obtain ⟨k, hk, rfl, rfl, hww⟩ := hrel
    subst wr
    by_cases hlt : k < ps.length
    · obtain ⟨a, c, fs, e, hc, hf, _⟩ := Hp.out k hlt
      have hs := joined_step e
      have hle := joined_le ps (k + 1)
      have hle0 := joined_le ps k
      have i1 : (k : Int) < (ps.length : Int) := by omega
      rw [hs] at hle
      rw [List.length_append] at hle
      have hs2 : (joined (ps.take (k + 1))).length = (joined (ps.take k)).length + fs.length := by rw [hs, List.length_append]
      have Hs := Lib.hid hs2
      generalize (joined (ps.take k)).length = A at *
      clear hf e hs hs2
      go_wp2_with fail
      go_roundw
      case rel => exact ⟨k + 1, by omega, by go_num, by rw [Hs.out]; go_num, trivial⟩
      case measure => simp [intOf]; omega
    · obtain rfl : k = ps.length := by omega
      rw [List.take_length]
      go_wp2_with fail
      refine Hg.out.mono ?_
      rintro e w1 ⟨v, rfl, hr, hb⟩
      have Hb := Lib.hid hb; have Hr := Lib.hid hr
      clear hb hr hlt
      go_wp2_with fail
      go_loopw [27, 6] (fun i v wr => ∃ (k : Nat) (us : List Value), k ≤ ps.length ∧ i = .int .i64 k ∧ wr.ownsRow w.heap.size 27 1 v (joined (ps.take k)).length us ∧ Rows w us (joined (ps.take k)) ∧ Below w.heap.size w wr) (fun i _ _ => ps.length - (intOf i).toNat)
      case atStart => exact ⟨0, [], Nat.zero_le _, rfl, Hr.out, Rows.nil w, Hb.out⟩
      case round =>
        clear Hr Hb
        obtain ⟨k, us, hk, rfl, hr, hu, hb⟩ := hrel
        by_cases hlt : k < ps.length
        · obtain ⟨a, c, fs, e, hc, hf, hcz⟩ := Hp.out k hlt
          have hs := joined_step e
          have hle := joined_le ps (k + 1)
          rw [hs, List.length_append] at hle
          have hc1 := cell_kept hc hb (Nat.le_refl _)
          have i1 : (k : Int) < (ps.length : Int) := by omega
          rcases part_news hf with ⟨rfl, rfl⟩ | ⟨ad, vs, rfl, hv, hn⟩
          · obtain rfl := hcz rfl
            rw [List.append_nil] at hs
            have Hs := Lib.hid hs; have Hu := Lib.hid hu; have Hb := Lib.hid hb
            clear hs hu hb hf hc e hcz
            go_wp2_with (at_builtin; refine wpList_append_own_none rfl (.tmp 31) (.tmp 32) 23 rfl w.heap.size 27 i0 1 Tryz.underlying23 hi0 _ _ us (by rfl) hr (by rfl) ?_)
            go_roundw
            case rel => exact ⟨k + 1, us, by omega, by go_num, by rw [Hs.out]; exact hr, by rw [Hs.out]; exact Hu.out, Hb.out⟩
            case measure => simp [intOf]; omega
          · have hn2 : ∀ j u, vs[j]? = some u → wr.cell? (ad.add j) = some u := fun j u hj => (hb.cell (World.block_lt_of_cell? w _ (hn j u hj))).trans (hn j u hj)
            have hvl := hv.len
            have hv1 := hv.one
            have huv := hu.append hv
            have hgb := fun x hx => (hr.lt x hx).1
            have Hs := Lib.hid hs; have Hu := Lib.hid huv; have Hb := Lib.hid hb; have Hgb := Lib.hid hgb
            clear hs hu huv hb hf hc e hcz hn hgb
            go_wp2_with (at_builtin; refine wpList_append_own _ rfl (.tmp 31) (.tmp 32) 23 rfl w.heap.size 27 i0 (.slice none 0 0) 1 24 Tryz.underlying23 hi0 hz0 hz1 hz2 rfl (by omega) _ _ us (by rfl) hr ad fs.length c vs (by rfl) (by omega) hn2 hv1 (by unfold maxLen; omega) (by omega) Hb.out.size ?_; intro v2 w2 hown2 hgrow2 _; have hb2 := Hb.out.grown hgrow2 Hb.out.size Hgb.out; have Hb2 := Lib.hid hb2; clear hb2 hgrow2)
            go_roundw
            case rel => exact ⟨k + 1, us ++ vs, by omega, by go_num, by rw [Hs.out, List.length_append]; exact hown2, by rw [Hs.out]; exact Hu.out, Hb2.out⟩
            case measure => simp [intOf]; omega
        · obtain rfl : k = ps.length := by omega
          rw [List.take_length] at hr hu
          have Hu := Lib.hid hu; have Hb := Lib.hid hb; have Hr := Lib.hid hr
          clear hu hb hr
          go_wp2_with fail
          go_ret
          exact concat_end Hr.out Hu.out Hb.out
end Go.Proofs.YtngjjmniigkeoaaGreatDoor
