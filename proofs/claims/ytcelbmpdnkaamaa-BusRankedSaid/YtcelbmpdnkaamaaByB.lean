/- firstInTime: the walk. -/
import Derived.Test.YtcelbmpdnkaamaaByA
namespace Go.Proofs.Ytcelbmpdnkaamaa
open Go Go.RowKit Go.WideMaps Go.Maps
set_option linter.unusedSimpArgs false
set_option linter.unusedVariables false

/-- A frame in a box of its own. -/
def FBox (w : World) (b : Nat) (f : Fr) : Prop := w.heap[b]? = some (.cells #[.int .i64 f.s, .int .i64 f.e, .int .i64 f.j, .int .i64 f.d, .int .i64 f.r] 56 (0, 0))
theorem FBox.lt {w : World} {b : Nat} {f : Fr} (h : FBox w b f) : b < w.heap.size := (Array.getElem?_eq_some_iff.1 h).1
theorem FBox.ks {S : Nat → Prop} {w w' : World} {b : Nat} {f : Fr} (h : FBox w b f) (k : Keeps S w w') (hb : ¬ S b) : FBox w' b f := (k.block b h.lt hb).trans h
theorem FBox.c0 {w : World} {b : Nat} {f : Fr} (h : FBox w b f) : w.cell? ⟨b, 0, none⟩ = some (.int .i64 f.s) := (cell_of_row _ _ 0 _ _ (0, 0) h).trans rfl
theorem FBox.c1 {w : World} {b : Nat} {f : Fr} (h : FBox w b f) : w.cell? ⟨b, 1, none⟩ = some (.int .i64 f.e) := (cell_of_row _ _ 1 _ _ (0, 0) h).trans rfl
theorem FBox.c2 {w : World} {b : Nat} {f : Fr} (h : FBox w b f) : w.cell? ⟨b, 2, none⟩ = some (.int .i64 f.j) := (cell_of_row _ _ 2 _ _ (0, 0) h).trans rfl
theorem FBox.c3 {w : World} {b : Nat} {f : Fr} (h : FBox w b f) : w.cell? ⟨b, 3, none⟩ = some (.int .i64 f.d) := (cell_of_row _ _ 3 _ _ (0, 0) h).trans rfl
theorem FBox.c4 {w : World} {b : Nat} {f : Fr} (h : FBox w b f) : w.cell? ⟨b, 4, none⟩ = some (.int .i64 f.r) := (cell_of_row _ _ 4 _ _ (0, 0) h).trans rfl
theorem FBox.new (w : World) (f : Fr) : FBox (w.alloc (.cells #[.int .i64 f.s, .int .i64 f.e, .int .i64 f.j, .int .i64 f.d, .int .i64 f.r] 56)) w.heap.size f := heap_alloc_new _ _

set_option maxRecDepth 100000 in
set_option maxHeartbeats 6400000 in
theorem firstInTime_any (la ra : Option Addr) (lc rc : Nat) (ls : List Fr) (rk : List Int) (w : World) (h : FramesAt w la ls) (hr : IntsAt w ra rk) (hrl : rk.length = ls.length) (ok : FrsOk ls) :
    Calls Try.prog 71 #[.slice la ls.length lc, .slice ra ls.length rc] w fun e w' => e = .returned (.int .i64 (firstI ls rk)) ∧ Kp w w' := by
  have hl40 := ok.1
  have hnone := first_none (ls := ls) (rk := rk)
  have hat := fun k => first_at (ls := ls) (rk := rk) (k := k)
  have H := Lib.hid h; have Hr := Lib.hid hr; have Hok := Lib.hid ok; have Hnone := Lib.hid hnone; have Hat := Lib.hid hat
  clear h hr ok hnone hat
  go_enter Try.func71, Try.ntmps71
  go_wp2_with fail
  go_loopw [12] (fun i wq => ∃ (k : Nat), k ≤ ls.length ∧ i = .int .i64 k ∧ Kp w wq ∧ Hid (∀ j, j < k → okF ls rk j = false)) (fun i _ => ls.length - (intOf i).toNat)
  case atStart => exact ⟨0, Nat.zero_le _, rfl, Kp.refl _, Lib.hid (fun j hj => by omega)⟩
  case round =>
    obtain ⟨w3, rfl⟩ : ∃ w3, w3 = wr := ⟨wr, rfl⟩
    obtain ⟨k, hk, rfl, kp, hno⟩ := hrel
    by_cases hlt : k < ls.length
    case neg =>
      obtain rfl : k = ls.length := by omega
      have He : Hid (firstI ls rk = -1) := Lib.hid (by unfold firstI; rw [Hnone.out hno.out])
      have Kq := Lib.hid kp
      clear hno kp
      go_wp2_with fail
      go_ret
      exact ⟨by rw [He.out]; rfl, Kq.out⟩
    case pos =>
      obtain ⟨b1, o1, rfl, hc1⟩ := H.out.cells (by omega)
      obtain ⟨b2, o2, rfl, hc2⟩ := Hr.out.cells (by omega)
      have c0 := kp.cell (hc1 k hlt).1; have c1 := kp.cell (hc1 k hlt).2.1; have c2 := kp.cell (hc1 k hlt).2.2.1; have c3 := kp.cell (hc1 k hlt).2.2.2.1; have c4 := kp.cell (hc1 k hlt).2.2.2.2
      have e0 := kp.cell (hc2 k (by omega))
      have i1 : (k : Int) < (ls.length : Int) := by omega
      have ka := kp_alloc w3 (.cells #[.int .i64 (frAt ls k).s, .int .i64 (frAt ls k).e, .int .i64 (frAt ls k).j, .int .i64 (frAt ls k).d, .int .i64 (frAt ls k).r] 56)
      have hfb := FBox.new w3 (frAt ls k)
      have hof : okF ls rk k = ((rk.getD k 0 == -1) && !(lateF ls rk k)) := rfl
      have hnx : okF ls rk k = false → ∀ j, j < k + 1 → okF ls rk j = false := fun e j hj => by
        by_cases e2 : j = k
        · subst e2; exact e
        · exact hno.out j (by omega)
      have e1 := ka.cell e0
      have Hc1 := Lib.hid hc1; have Hc2 := Lib.hid hc2; have Kq := Lib.hid kp; have Ka := Lib.hid ka; have Hfb := Lib.hid hfb; have Hof := Lib.hid hof; have Hnx := Lib.hid hnx
      have hsz := kp.size
      clear hc1 hc2 kp ka hfb hof hnx e0
      by_cases hrk : rk.getD k 0 = -1
      case neg =>
        have q1 : (rk.getD k 0 != -1) = true := by simpa using hrk
        have q2 : (rk.getD k 0 == -1) = false := by simpa using hrk
        have Hz := Lib.hid (Hnx.out (by rw [Hof.out, q2]; rfl))
        clear hrk q2 Hof Hnx Hfb
        generalize rk.getD k 0 = x at *
        go_wp2_with fail
        go_roundw
        case rel => exact ⟨k + 1, by omega, by go_num, Kq.out.step Ka.out, Hz⟩
        case measure => simp [intOf]; omega
      case pos =>
        rw [hrk] at e1 Hof
        have fo := Hok.out.2 k hlt
        have rok := rivF_ok Hok.out rk hlt
        have kb := kp_alloc (w3.alloc (.cells #[.int .i64 (frAt ls k).s, .int .i64 (frAt ls k).e, .int .i64 (frAt ls k).j, .int .i64 (frAt ls k).d, .int .i64 (frAt ls k).r] 56)) (.cells #[.slice none 0 0, .int .i64 0] 65)
        have hfb2 := Hfb.out.ks kb (fun e => e)
        have hV1 : (w3.alloc (.cells #[.int .i64 (frAt ls k).s, .int .i64 (frAt ls k).e, .int .i64 (frAt ls k).j, .int .i64 (frAt ls k).d, .int .i64 (frAt ls k).r] 56)).heap.size = w3.heap.size + 1 := by simp
        have hbox : ((w3.alloc (.cells #[.int .i64 (frAt ls k).s, .int .i64 (frAt ls k).e, .int .i64 (frAt ls k).j, .int .i64 (frAt ls k).d, .int .i64 (frAt ls k).r] 56)).alloc (.cells #[.slice none 0 0, .int .i64 0] 65)).heap[w3.heap.size + 1]? = some (rivObj none 0 0 0) := by rw [← hV1]; exact heap_alloc_new _ _
        have hV2 : ((w3.alloc (.cells #[.int .i64 (frAt ls k).s, .int .i64 (frAt ls k).e, .int .i64 (frAt ls k).j, .int .i64 (frAt ls k).d, .int .i64 (frAt ls k).r] 56)).alloc (.cells #[.slice none 0 0, .int .i64 0] 65)).heap.size = w3.heap.size + 2 := by simp
        have hriv : Riv ((w3.alloc (.cells #[.int .i64 (frAt ls k).s, .int .i64 (frAt ls k).e, .int .i64 (frAt ls k).j, .int .i64 (frAt ls k).d, .int .i64 (frAt ls k).r] 56)).alloc (.cells #[.slice none 0 0, .int .i64 0] 65)) (w3.heap.size + 1) (w3.heap.size + 2) none 0 (abF ls rk k 0) (restF ls rk k 0) := ⟨hbox, OwnF.nil _ _, by omega, by omega⟩
        have K0 : Hid (Keeps (fun j => w3.heap.size ≤ j) w3 ((w3.alloc (.cells #[.int .i64 (frAt ls k).s, .int .i64 (frAt ls k).e, .int .i64 (frAt ls k).j, .int .i64 (frAt ls k).d, .int .i64 (frAt ls k).r] 56)).alloc (.cells #[.slice none 0 0, .int .i64 0] 65))) := Lib.hid (((Keeps.refl (fun j => w3.heap.size ≤ j) w3).alloc _).alloc _)
        have Hriv := Lib.hid hriv; have Hfb2 := Lib.hid hfb2; have Rok := Lib.hid rok; have Fo := Lib.hid fo
        clear hriv hfb2 rok fo kb hbox hV1 hV2 Hfb Ka hrk
        go_wp2_with fail
        generalize ((w3.alloc (.cells #[.int .i64 (frAt ls k).s, .int .i64 (frAt ls k).e, .int .i64 (frAt ls k).j, .int .i64 (frAt ls k).d, .int .i64 (frAt ls k).r] 56)).alloc (.cells #[.slice none 0 0, .int .i64 0] 65)) = V at *
        go_loopw [24] (fun i wq => ∃ (q : Nat) (a : Option Addr) (c : Nat), q ≤ ls.length ∧ i = .int .i64 q ∧ Riv wq (w3.heap.size + 1) (w3.heap.size + 2) a c (abF ls rk k q) (restF ls rk k q) ∧ FBox wq w3.heap.size (frAt ls k) ∧ Keeps (fun j => w3.heap.size ≤ j) w3 wq) (fun i _ => ls.length - (intOf i).toNat)
        case atStart => exact ⟨0, none, 0, Nat.zero_le _, rfl, Hriv.out, Hfb2.out, K0.out⟩
        case round =>
          clear Hriv Hfb2 K0 c0 c1 c2 c3 c4 e1
          obtain ⟨w5, rfl⟩ : ∃ w5, w5 = wr := ⟨wr, rfl⟩
          obtain ⟨q, a, c, hq, rfl, riv, fb, ks⟩ := hrel
          have kw : Kp w w5 := Kq.out.trans ks (fun j e => Or.inr (by omega))
          by_cases hlq : q < ls.length
          case pos =>
            have c0 := kw.cell (Hc1.out q hlq).1; have c1 := kw.cell (Hc1.out q hlq).2.1; have c2 := kw.cell (Hc1.out q hlq).2.2.1; have c3 := kw.cell (Hc1.out q hlq).2.2.2.1; have c4 := kw.cell (Hc1.out q hlq).2.2.2.2
            have e0 := kw.cell (Hc2.out q (by omega))
            have i2 : (q : Int) < (ls.length : Int) := by omega
            have fo := Hok.out.2 q hlq
            have hfs := fo.s
            have hal := abF_len ls rk k q
            have hrb := restF_bd Hok.out rk k q hq
            have ka := kp_alloc w5 (.cells #[.int .i64 (frAt ls q).s, .int .i64 (frAt ls q).e, .int .i64 (frAt ls q).j, .int .i64 (frAt ls q).d, .int .i64 (frAt ls q).r] 56)
            have riv2 := riv.kp ka
            have fb2 := fb.ks ka (fun e => e)
            have ks2 : Keeps (fun j => w3.heap.size ≤ j) w3 (w5.alloc (.cells #[.int .i64 (frAt ls q).s, .int .i64 (frAt ls q).e, .int .i64 (frAt ls q).j, .int .i64 (frAt ls q).d, .int .i64 (frAt ls q).r] 56)) := ks.alloc _
            have e1 := ka.cell e0
            have hsz5 := ks.size
            have hob := FBox.new w5 (frAt ls q)
            have d0 := hob.c0; have d1 := hob.c1; have d2 := hob.c2; have d3 := hob.c3; have d4 := hob.c4
            have hya : q ≠ k → rk.getD q 0 = -1 → abF ls rk k (q + 1) = abF ls rk k q ++ [frAt ls q] ∧ restF ls rk k (q + 1) = restF ls rk k q := fun h1 h2 => by
              constructor
              · show (if q ≠ k ∧ rk.getD q 0 = -1 then _ else _) = _
                rw [if_pos ⟨h1, h2⟩]
              · show (if q ≠ k ∧ rk.getD q 0 ≠ -1 then _ else _) = _
                rw [if_neg (fun hh => hh.2 h2)]
            have hna : q ≠ k → rk.getD q 0 ≠ -1 → abF ls rk k (q + 1) = abF ls rk k q ∧ restF ls rk k (q + 1) = max (restF ls rk k q) ((frAt ls q).s - 1) := fun h1 h2 => by
              constructor
              · show (if q ≠ k ∧ rk.getD q 0 = -1 then _ else _) = _
                rw [if_neg (fun hh => h2 hh.2)]
              · show (if q ≠ k ∧ rk.getD q 0 ≠ -1 then _ else _) = _
                rw [if_pos ⟨h1, h2⟩]
            have hea : q = k → abF ls rk k (q + 1) = abF ls rk k q ∧ restF ls rk k (q + 1) = restF ls rk k q := fun h1 => by
              constructor
              · show (if q ≠ k ∧ rk.getD q 0 = -1 then _ else _) = _
                rw [if_neg (fun hh => hh.1 h1)]
              · show (if q ≠ k ∧ rk.getD q 0 ≠ -1 then _ else _) = _
                rw [if_neg (fun hh => hh.1 h1)]
            have hy := fun X (kX : Kp (w5.alloc (.cells #[.int .i64 (frAt ls q).s, .int .i64 (frAt ls q).e, .int .i64 (frAt ls q).j, .int .i64 (frAt ls q).d, .int .i64 (frAt ls q).r] 56)) X) => add_yes (w3.heap.size + 1) (w3.heap.size + 2) a c (abF ls rk k q) (restF ls rk k q) (frAt ls q) X (riv2.kp kX) (by omega)
            have hn := fun X (kX : Kp (w5.alloc (.cells #[.int .i64 (frAt ls q).s, .int .i64 (frAt ls q).e, .int .i64 (frAt ls q).j, .int .i64 (frAt ls q).d, .int .i64 (frAt ls q).r] 56)) X) => add_no (w3.heap.size + 1) (w3.heap.size + 2) a c (abF ls rk k q) (restF ls rk k q) (frAt ls q) X (riv2.kp kX) hfs hrb
            unfold frV at hy hn
            generalize abF ls rk k q = A1 at *
            generalize restF ls rk k q = R1 at *
            have hbw : w3.heap.size < w5.heap.size := fb.lt
            have Hy := Lib.hid hy; have Hn := Lib.hid hn; have Hya := Lib.hid hya; have Hna := Lib.hid hna; have Hea := Lib.hid hea; have Riv2 := Lib.hid riv2; have Fb2 := Lib.hid fb2; have Ks2 := Lib.hid ks2
            clear hy hn hya hna hea riv2 fb2 ks2 ka riv fb ks kw fo e0 hob
            generalize frAt ls q = o at *
            by_cases hqk : q = k
            case pos =>
              obtain ⟨z1, z2⟩ := Hea.out hqk
              have He := Lib.hid (And.intro z1 z2)
              have q1 : ((q : Int) != (k : Int)) = false := by simp [hqk]
              clear z1 z2 hqk
              go_wp2_with fail
              go_roundw
              case rel => exact ⟨q + 1, a, c, by omega, by go_num, by rw [He.out.1, He.out.2]; exact Riv2.out, Fb2.out, Ks2.out⟩
              case measure => simp [intOf]; omega
            case neg =>
              have q1 : ((q : Int) != (k : Int)) = true := by rw [bne_iff_ne]; omega
              by_cases hrq : rk.getD q 0 = -1
              case pos =>
                obtain ⟨z1, z2⟩ := Hya.out hqk hrq
                have He := Lib.hid (And.intro z1 z2)
                rw [hrq] at e1
                clear z1 z2 hrq
                go_wp2_with fail
                generalize (w5.alloc (.cells #[.int .i64 o.s, .int .i64 o.e, .int .i64 o.j, .int .i64 o.d, .int .i64 o.r] 56)) = W at *
                have hbl : w5.heap.size < W.heap.size := World.block_lt_of_cell? W _ d0
                go_region_law (go_simp; go_at_call 64; refine (Hy.out _ (by first | exact Kp.refl _ | exact Keeps.drew (Kp.refl _))).mono ?_; rintro e w6 ⟨rfl, ⟨a2, c2', riv3⟩, kx⟩)
                all_goals
                 have kx2 : Keeps (fun j => j = w3.heap.size + 1 ∨ w3.heap.size + 2 ≤ j) W w6 := ⟨kx.os, kx.tape, kx.output, kx.size, kx.block⟩
                 have K6 : Hid (Keeps (fun j => w3.heap.size ≤ j) w3 w6) := Lib.hid (Ks2.out.trans kx2 (fun j e => Or.inl (by omega)))
                 have Fb6 : Hid (FBox w6 w3.heap.size (frAt ls k)) := Lib.hid (Fb2.out.ks kx2 (by omega))
                 have Rr := Lib.hid riv3
                 clear riv3 kx kx2 d0 d1 d2 d3 d4
                 go_simp
                 go_wp2_with fail
                 go_roundw
                 case rel => exact ⟨q + 1, a2, c2', by omega, by go_num, by rw [He.out.1, He.out.2]; exact Rr.out, Fb6.out, K6.out⟩
                 case measure => simp [intOf]; omega
              case neg =>
                obtain ⟨z1, z2⟩ := Hna.out hqk hrq
                have He := Lib.hid (And.intro z1 z2)
                have q2 : (rk.getD q 0 == -1) = false := by simpa using hrq
                generalize rk.getD q 0 = x at *
                clear z1 z2 hrq
                go_wp2_with fail
                generalize (w5.alloc (.cells #[.int .i64 o.s, .int .i64 o.e, .int .i64 o.j, .int .i64 o.d, .int .i64 o.r] 56)) = W at *
                have hbl : w5.heap.size < W.heap.size := World.block_lt_of_cell? W _ d0
                go_region_law (go_simp; go_at_call 64; refine (Hn.out _ (by first | exact Kp.refl _ | exact Keeps.drew (Kp.refl _))).mono ?_; rintro e w6 ⟨rfl, ⟨a2, c2', riv3⟩, kx⟩)
                all_goals
                 have kx2 : Keeps (fun j => j = w3.heap.size + 1 ∨ w3.heap.size + 2 ≤ j) W w6 := ⟨kx.os, kx.tape, kx.output, kx.size, kx.block⟩
                 have K6 : Hid (Keeps (fun j => w3.heap.size ≤ j) w3 w6) := Lib.hid (Ks2.out.trans kx2 (fun j e => Or.inl (by omega)))
                 have Fb6 : Hid (FBox w6 w3.heap.size (frAt ls k)) := Lib.hid (Fb2.out.ks kx2 (by omega))
                 have Rr := Lib.hid riv3
                 clear riv3 kx kx2 d0 d1 d2 d3 d4
                 go_simp
                 go_wp2_with fail
                 go_roundw
                 case rel => exact ⟨q + 1, a2, c2', by omega, by go_num, by rw [He.out.1, He.out.2]; exact Rr.out, Fb6.out, K6.out⟩
                 case measure => simp [intOf]; omega
          case neg =>
            obtain rfl : q = ls.length := by omega
            have d0 : w5.cell? ⟨w3.heap.size + 1, 0, none⟩ = some (.slice a (abF ls rk k ls.length).length c) := (cell_of_row _ _ 0 _ _ (0, 0) riv.box).trans rfl
            have d1 : w5.cell? ⟨w3.heap.size + 1, 1, none⟩ = some (.int .i64 (restF ls rk k ls.length)) := (cell_of_row _ _ 1 _ _ (0, 0) riv.box).trans rfl
            have g0 := fb.c0; have g1 := fb.c1; have g2 := fb.c2; have g3 := fb.c3; have g4 := fb.c4
            have hal := abF_len ls rk k ls.length
            have hfr := riv.own.frames (by unfold maxLen; omega)
            have hml := makeLate_any a c (abF ls rk k ls.length) (restF ls rk k ls.length) (frAt ls k) w5 hfr Rok.out
            have hlf : lateF ls rk k = !(respOf (restF ls rk k ls.length) (abF ls rk k ls.length) (frAt ls k) (frAt ls k).d).isSome := rfl
            rw [← hlf] at hml
            unfold frV at hml
            have Hml := Lib.hid hml; have K5 := Lib.hid kw
            clear hml hlf hfr riv fb ks kw
            generalize hLF : lateF ls rk k = LF at *
            generalize abF ls rk k ls.length = A1 at *
            generalize restF ls rk k ls.length = R1 at *
            generalize frAt ls k = f at *
            cases LF
            · have hok : okF ls rk k = true := by rw [Hof.out]; rfl
              have He : Hid (firstI ls rk = k) := Lib.hid (by unfold firstI; rw [Hat.out k hlt hok hno.out])
              clear hok hLF
              go_wp2_with fail
              refine Hml.out.mono ?_
              rintro e w6 ⟨rfl, kp6⟩
              go_wp2_with fail
              go_ret
              exact ⟨by rw [He.out]; rfl, K5.out.step kp6⟩
            · have Hz := Lib.hid (Hnx.out (by rw [Hof.out]; rfl))
              clear hLF
              go_wp2_with fail
              refine Hml.out.mono ?_
              rintro e w6 ⟨rfl, kp6⟩
              have K6 := Lib.hid (K5.out.step kp6)
              clear kp6
              go_wp2_with fail
              go_roundw
              case rel => exact ⟨k + 1, by omega, by go_num, K6.out, Hz⟩
              case measure => simp [intOf]; omega
end Go.Proofs.Ytcelbmpdnkaamaa
