/- The reference's response. -/
import Derived.Test.YtcelbmpdnkaamaaBwE
namespace Go.Proofs.Ytcelbmpdnkaamaa
open Go Go.RowKit Go.WideMaps Go.Maps
set_option linter.unusedSimpArgs false
set_option linter.unusedVariables false

set_option maxRecDepth 100000 in
set_option maxHeartbeats 6400000 in
theorem refResponse1_any (la : Option Addr) (lc : Nat) (ls : List Fr) (i : Nat) (w : World) (h : FramesAt w la ls) (ok : FrsOk ls) (rk : RankAt ls i) (hi : i < ls.length) :
    Calls Try.prog 42 #[.slice la ls.length lc, .int .i64 i] w fun e w' => e = .returned (.int .i64 (respI ls i)) ∧ Kp w w' := by
  have hn := ok.1
  have rok := rivOk_of ok (ok.2 i hi)
  have hro := rok.ro
  have hfo := rok.fo
  obtain ⟨b1, o1, rfl, hc0⟩ := h.cells (by omega)
  have hby := fun W t (kW : Kp w W) (h1 : 1 ≤ t) (h2 : t ≤ 1000000) => refBusy_any (some ⟨b1, o1, none⟩) lc ls i (rsI ls i) t W (h.kp kW) ok hi hro h1 h2
  have hwt := fun W (q : Nat) x (kW : Kp w W) (hq : q ≤ 2000000) (h1 : 0 ≤ x) (h2 : x ≤ 1000000) => refWait_any (some ⟨b1, o1, none⟩) lc ls i (rsI ls i) q x W (h.kp kW) ok hi hro (by omega) (by omega) h1 h2
  have hbu := busy_up rok
  have hwu := fun q => wait_up0 rok q
  simp only [busy_eq rk hi] at hby
  simp only [wait_eq] at hwt
  have hlate := respI_late (ls := ls) (i := i)
  have hnone := fun t => respI_none (ls := ls) (i := i) (t := t)
  have hsome := fun t m b => respI_some (ls := ls) (i := i) (t := t) (m := m) (b := b)
  have hstep := fun q m b r => respTo_step rok (q := q) (m := m) (b := b) (r := r)
  have hstop := fun q m b => respTo_none rok (q := q) (m := m) (b := b)
  have hok := fun q m b => respTo_ok (lim := huge) rok q m b
  have hrest := fun k (hk : k ≤ ls.length) => restTo_bd ok (frAt ls i).r k hk
  have hwx : ∀ (q : Nat) x, q ≤ 2000000 → 0 ≤ x → x ≤ 1000000 → rsI ls i + q * (frAt ls i).s ≤ waitG (rsI ls i) q (abI ls i) (frAt ls i) x := fun q x hq h1 h2 => wait_nn rok h1 h2
  have cells := fun W (kW : Kp w W) => hc0
  have hs0 := fun k (hk : k < ls.length) => (ok.2 k hk).s
  have H := Lib.hid h; have Hs0 := Lib.hid hs0
  have Hby := Lib.hid hby; have Hwt := Lib.hid hwt; have Hbu := Lib.hid hbu; have Hwu := Lib.hid hwu; have Hlate := Lib.hid hlate; have Hnone := Lib.hid hnone; have Hsome := Lib.hid hsome; have Hstep := Lib.hid hstep; have Hstop := Lib.hid hstop; have Hok := Lib.hid hok; have Hrest := Lib.hid hrest; have Hwx := Lib.hid hwx; have Hc := Lib.hid hc0
  have iI : (i : Int) < (ls.length : Int) := by omega
  have hS := hfo.s; have hE := hfo.e; have hJ := hfo.j
  clear hby hwt hbu hwu hlate hnone hsome hstep hstop hok hrest hwx cells hc0 h ok rk rok hfo hs0
  generalize respI ls i = RES at *
  go_enter Try.func42, Try.ntmps42
  go_wp2_with fail
  go_loopw [5, 6] (fun vb vk wq => ∃ (k : Nat), k ≤ ls.length ∧ vk = .int .i64 k ∧ vb = .int .i64 (restTo ls (frAt ls i).r k) ∧ Kp w wq) (fun _ vk _ => ls.length - (intOf vk).toNat)
  case atStart => exact ⟨0, Nat.zero_le _, rfl, rfl, Kp.refl w⟩
  case round =>
    obtain ⟨w3, rfl⟩ : ∃ w3, w3 = wr := ⟨wr, rfl⟩
    obtain ⟨k, hk, rfl, rfl, kp⟩ := hrel
    have hrk := Hrest.out k hk
    by_cases hlt : k < ls.length
    · have c0 := kp.cell (Hc.out k hlt).1
      have c4 := kp.cell (Hc.out k hlt).2.2.2.2
      have d4 := kp.cell (Hc.out i hi).2.2.2.2
      have i1 : (k : Int) < (ls.length : Int) := by omega
      have hsk := Hs0.out k hlt
      have hnx : restTo ls (frAt ls i).r (k + 1) = if (frAt ls i).r < (frAt ls k).r then max (restTo ls (frAt ls i).r k) ((frAt ls k).s - 1) else restTo ls (frAt ls i).r k := rfl
      have Kq := Lib.hid kp; have Hnx := Lib.hid hnx
      clear kp hnx
      generalize restTo ls (frAt ls i).r k = R at *
      generalize (frAt ls k).s = s' at *
      generalize (frAt ls k).r = r' at *
      by_cases hr : (frAt ls i).r < r'
      · have hd : decide ((frAt ls i).r < r') = true := decide_eq_true hr
        by_cases hm : R < s' - 1
        · go_wp2_with fail
          go_quiet (fail)
          go_wp2_with fail
          go_roundw
          case rel => exact ⟨k + 1, by omega, by go_num, by rw [Hnx.out, if_pos hr]; go_num, Keeps.drewN Kq.out _⟩
          case measure => simp [intOf]; omega
        · go_wp2_with fail
          go_quiet (fail)
          go_wp2_with fail
          go_roundw
          case rel => exact ⟨k + 1, by omega, by go_num, by rw [Hnx.out, if_pos hr]; go_num, Keeps.drewN Kq.out _⟩
          case measure => simp [intOf]; omega
      · have hd : decide ((frAt ls i).r < r') = false := decide_eq_false hr
        go_wp2_with fail
        go_quiet (fail)
        go_wp2_with fail
        go_roundw
        case rel => exact ⟨k + 1, by omega, by go_num, by rw [Hnx.out, if_neg (by omega)], Keeps.drewN Kq.out _⟩
        case measure => simp [intOf]; omega
    · obtain rfl : k = ls.length := by omega
      have K3 := Lib.hid kp
      clear kp Hrest Hs0 hrk
      have hG : ∃ G, G = busyG (rsI ls i) (abI ls i) (frAt ls i) := ⟨_, rfl⟩
      obtain ⟨G, hG⟩ := hG
      unfold rsI abI at *
      simp only [← hG] at Hby Hbu Hlate Hnone Hsome
      obtain ⟨R0, hR0⟩ : ∃ R0, lfp G 1 = R0 := ⟨_, rfl⟩
      rw [hR0] at Hlate
      simp only [hR0] at Hnone Hsome
      have HR0 := Lib.hid hR0
      clear hR0 hG
      obtain ⟨REST, hREST⟩ : ∃ R, restTo ls (frAt ls i).r ls.length = R := ⟨_, rfl⟩
      obtain ⟨AB, hAB⟩ : ∃ R, abTo ls (frAt ls i).r ls.length = R := ⟨_, rfl⟩
      rw [hREST] at hro ⊢
      simp only [hREST, hAB] at Hby Hwt Hbu Hwu Hstep Hstop Hok Hwx Hnone Hsome
      have c0 := (Hc.out i hi).1; have c1 := (Hc.out i hi).2.1; have c2 := (Hc.out i hi).2.2.1
      clear hREST hAB
      generalize hf : frAt ls i = f at *
      have C0 := Lib.hid c0; have C1 := Lib.hid c1; have C2 := Lib.hid c2
      clear c0 c1 c2 Hc hf
      go_wp2_with fail
      go_loopw [7] (fun vt wq => ∃ t : Int, vt = .int .i64 t ∧ 1 ≤ t ∧ t ≤ 1000000 ∧ Hid (t ≤ G t) ∧ Hid (lfp G t = R0) ∧ Kp w wq) (fun vt _ => (1000001 - intOf vt).toNat)
      case atStart => exact ⟨1, rfl, by omega, by omega, Lib.hid (Hbu.out.beg (by omega)), HR0, K3.out⟩
      case round =>
        obtain ⟨w4, rfl⟩ : ∃ w4, w4 = wr := ⟨wr, rfl⟩
        obtain ⟨t, rfl, t1, t2, htg, hl, kp⟩ := hrel
        have hcl := Hby.out w4 t kp t1 t2
        have Hcl := Lib.hid hcl; have Kq := Lib.hid kp
        clear hcl kp
        by_cases h2 : G t = t
        case neg =>
          have hs := lfp_step Hbu.out t1 htg.out t2 h2
          rw [hl.out] at hs
          have htg2 := htg.out
          have hmo := Hbu.out.mono t (G t) t1 htg2
          have q1 : (G t != t) = true := by simpa using h2
          have Hs := Lib.hid hs; have Hmo := Lib.hid hmo
          clear hs hmo hl htg
          have hgt : t < G t := by omega
          clear h2 htg2
          obtain ⟨y, hy⟩ : ∃ y, G t = y := ⟨_, rfl⟩
          rw [hy] at Hcl q1 hgt Hs Hmo
          have Hy := Lib.hid hy
          have hby2 := fun W (kW : Kp w W) => Hby.out W t kW t1 t2
          rw [hy] at hby2
          have Hby2 := Lib.hid hby2
          clear hy hby2
          go_wp2_with fail
          refine Hcl.out.mono ?_
          rintro e w5 ⟨rfl, kp5⟩
          have K5 := Lib.hid (Kq.out.step kp5)
          clear kp5
          go_wp2_with fail
          refine (Hby2.out _ K5.out).mono ?_
          rintro e w6 ⟨rfl, kp6⟩
          have K6 := Lib.hid (K5.out.step kp6)
          clear kp6
          by_cases hbig : 1000000 < y
          · have q2 : decide ((1000000 : Int) < y) = true := decide_eq_true hbig
            have He := Lib.hid (Hlate.out (by rw [Hs.out]; exact lfp_over hbig))
            go_wp2_with fail
            go_ret
            exact ⟨by rw [He.out]; rfl, K6.out⟩
          · have q2 : decide ((1000000 : Int) < y) = false := decide_eq_false hbig
            have h5 := Hmo.out (by omega)
            have H5 : Hid (y ≤ G y) := Lib.hid h5
            clear h5
            go_wp2_with fail
            go_roundw
            case rel => exact ⟨y, rfl, by omega, by omega, H5, Lib.hid Hs.out.symm, K6.out⟩
            case measure => simp [intOf]; omega
        case pos =>
          have hfin := lfp_stop t2 h2
          rw [hl.out] at hfin
          have q1 : (t != t) = false := by simp
          rw [h2] at Hcl
          have hnone := fun h => Hnone.out t hfin h
          have hsome := fun m b h => Hsome.out t m b hfin h
          have hup1 := fun W => refUp_any (t + f.j) f.e W (by omega) (by omega) (by omega) (by omega)
          have hub : 0 ≤ upI (t + f.j) f.e ∧ upI (t + f.j) f.e ≤ t + f.j := upI_nn (by omega) hE.1
          unfold qsOf at hnone hsome
          obtain ⟨U, hU⟩ : ∃ U, upI (t + f.j) f.e = U := ⟨_, rfl⟩
          rw [hU] at hub
          simp only [hU] at hup1 hnone hsome
          obtain ⟨n, rfl⟩ : ∃ n : Nat, U = n := ⟨U.toNat, by omega⟩
          rw [Int.toNat_natCast] at hnone
          simp only [Int.toNat_natCast] at hsome
          have HnoneN := Lib.hid hnone; have HsomeN := Lib.hid hsome; have Hup := Lib.hid hup1
          clear hnone hsome hup1 hU hl htg hfin h2 Hlate Hnone Hsome HR0 Hbu Hby
          go_wp2_with fail
          refine Hcl.out.mono ?_
          rintro e w5 ⟨rfl, kp5⟩
          have K5 := Lib.hid (Kq.out.step kp5)
          clear kp5 Kq Hcl
          go_wp2_with fail
          go_loopw [8, 9] (fun vm vq wq => ∃ (q : Nat) (m b : Int), q ≤ n ∧ vq = .int .i64 q ∧ vm = .int .i64 m ∧ Hid (respTo REST AB f huge q = some (m, b)) ∧ Kp w wq) (fun _ vq _ => n - (intOf vq).toNat)
          case atStart => exact ⟨0, 0, REST, Nat.zero_le _, rfl, rfl, Lib.hid rfl, K5.out⟩
          case round =>
            obtain ⟨w7, rfl⟩ : ∃ w7, w7 = wr := ⟨wr, rfl⟩
            obtain ⟨q, m, b, hq, rfl, rfl, hrt, kp⟩ := hrel
            have c0 := kp.cell C0.out; have c1 := kp.cell C1.out; have c2 := kp.cell C2.out
            have hq1 : wrap64 (t + f.j) = t + f.j := wrap_in (by omega) (by omega)
            have hq1w : IntKind.i64.wrap (t + f.j) = t + f.j := IntWalk.i64_in _ ⟨by omega, by omega⟩
            have K7 := Lib.hid kp
            clear kp
            by_cases hlt : q < n
            case neg =>
              obtain rfl : q = n := by omega
              have He := Lib.hid (HsomeN.out m b hrt.out)
              have i1 : decide ((q : Int) < (q : Int)) = false := by simp
              clear hrt
              go_wp2_with fail
              go_quiet ((go_at_call 62; first | exact Calls.quiet_of_same ((Hup.out _).mono fun e w' h => ⟨h.1, h.2⟩) | exact (Hup.out _).mono fun e w' h => ⟨h.1, _, h.2⟩))
              go_wp2_with fail
              go_ret
              exact ⟨by rw [He.out]; rfl, Keeps.drewN K7.out _⟩
            case pos =>
              have i1 : (q : Int) < (n : Int) := by omega
              have hbeg := Hok.out q m b hrt.out
              have m0 := hbeg.m0; have m1 := hbeg.m1
              have hps := prod_bd (u := (q : Int)) (m := 2000000) (by omega) (by omega) hS.1 hS.2
              have hpe : 0 ≤ (q : Int) * f.e ∧ (q : Int) * f.e ≤ 2000000 * 100000 := ⟨Int.mul_nonneg (by omega) (by omega), Int.mul_le_mul (by omega) (by omega) (by omega) (by omega)⟩
              have hst := fun r h => Hstep.out q m b r hrt.out h
              have hsp := fun h => HnoneN.out (Hstop.out q m b hrt.out h n hlt)
              have hwu := Hwu.out q
              have hwc := fun W x (kW : Kp w W) h1 h2 => Hwt.out W q x kW (by omega) h1 h2
              have hls := fun r h => lfp_some hwu (r := r) h
              obtain ⟨QS, hQS⟩ : ∃ QS, (q : Int) * f.s = QS := ⟨_, rfl⟩
              obtain ⟨QE, hQE⟩ : ∃ QE, (q : Int) * f.e = QE := ⟨_, rfl⟩
              have qw1 : wrap64 ((q : Int) * f.s) = QS := by rw [hQS]; exact wrap_in (by omega) (by omega)
              have qw2 : wrap64 ((q : Int) * f.e) = QE := by rw [hQE]; exact wrap_in (by omega) (by omega)
              have qw1i : IntKind.i64.wrap ((q : Int) * f.s) = QS := by rw [hQS]; exact IntWalk.i64_in _ ⟨by omega, by omega⟩
              have qw2i : IntKind.i64.wrap ((q : Int) * f.e) = QE := by rw [hQE]; exact IntWalk.i64_in _ ⟨by omega, by omega⟩
              rw [hQS] at hps hsp hwu
              rw [hQE] at hpe
              simp only [hQS, hQE] at hst hls
              obtain ⟨g, hg⟩ : ∃ g, waitG REST (↑q) AB f = g := ⟨_, rfl⟩
              rw [hg] at hsp hwu
              simp only [hg] at hst hwc hls
              obtain ⟨RQ, hRQ⟩ : ∃ RQ, lfp g (REST + QS) = RQ := ⟨_, rfl⟩
              rw [hRQ] at hsp
              simp only [hRQ] at hst hls
              have Hst := Lib.hid hst; have Hsp := Lib.hid hsp; have Hg := Lib.hid hwu; have Hwc := Lib.hid hwc; have HRQ := Lib.hid hRQ; have Hls := Lib.hid hls
              clear hst hsp hwu hwc hRQ hls hg hQS hQE hbeg
              go_wp2_with fail
              go_quiet ((go_at_call 62; first | exact Calls.quiet_of_same ((Hup.out _).mono fun e w' h => ⟨h.1, h.2⟩) | exact (Hup.out _).mono fun e w' h => ⟨h.1, _, h.2⟩))
              have K8 := Lib.hid (Keeps.drewN K7.out nq)
              clear K7 c0 c1 c2
              generalize w7.drewN nq = w8 at *
              have c0 := K8.out.cell C0.out
              go_wp2_with fail
              go_loopw [10] (fun vx wq => ∃ x : Int, vx = .int .i64 x ∧ REST + QS ≤ x ∧ Hid (x ≤ 1000000 → x ≤ g x) ∧ Hid (lfp g x = RQ) ∧ Kp w wq) (fun vx _ => (1000001 - intOf vx).toNat)
              case atStart => exact ⟨REST + QS, by first | rfl | simp [qw1i] | simp [qw1] | go_num, Int.le_refl _, Lib.hid Hg.out.beg, HRQ, K8.out⟩
              case round =>
                obtain ⟨w9, rfl⟩ : ∃ w9, w9 = wr := ⟨wr, rfl⟩
                obtain ⟨x, rfl, hx0, hxg, hxl, kp⟩ := hrel
                have c0 := kp.cell C0.out; have c1 := kp.cell C1.out; have c2 := kp.cell C2.out
                have K9 := Lib.hid kp
                clear kp
                by_cases hbig : 1000000 < x
                · have hnone := lfp_over (g := g) hbig
                  rw [hxl.out] at hnone
                  have He := Lib.hid (Hsp.out hnone)
                  have q1 : decide (x ≤ 1000000) = false := decide_eq_false (by omega)
                  have q2 : decide ((1000000 : Int) < x) = true := decide_eq_true hbig
                  clear hnone hxg hxl c0 c1 c2
                  go_wp2_with fail
                  go_ret
                  exact ⟨by rw [He.out]; rfl, K9.out⟩
                have q1 : decide (x ≤ 1000000) = true := decide_eq_true (by omega)
                have q2 : decide ((1000000 : Int) < x) = false := decide_eq_false (by omega)
                have hcl := Hwc.out w9 x K9.out (by omega) (by omega)
                have Hcl := Lib.hid hcl
                clear hcl
                by_cases h2 : g x = x
                case neg =>
                  have hup := hxg.out (by omega)
                  have hs := lfp_step Hg.out hx0 hup (by omega) h2
                  rw [hxl.out] at hs
                  have hmo := Hg.out.mono x (g x) hx0 hup
                  have hcl2 := fun W (kW : Kp w W) => Hwc.out W x kW (by omega) (by omega)
                  obtain ⟨y, hy⟩ : ∃ y, g x = y := ⟨_, rfl⟩
                  rw [hy] at hs hmo hup Hcl h2
                  simp only [hy] at hcl2
                  have q3 : (y != x) = true := by simpa using h2
                  have Hs := Lib.hid hs; have Hmo := Lib.hid hmo; have Hcl2 := Lib.hid hcl2
                  have hxy : x < y := by omega
                  clear hs hmo hcl2 hy h2 hxg hxl c0 c1 c2 hup
                  go_wp2_with fail
                  refine Hcl.out.mono ?_
                  rintro e w10 ⟨rfl, kp10⟩
                  have K10 := Lib.hid (K9.out.step kp10)
                  clear kp10
                  go_wp2_with fail
                  refine (Hcl2.out _ K10.out).mono ?_
                  rintro e w11 ⟨rfl, kp11⟩
                  have K11 := Lib.hid (K10.out.step kp11)
                  clear kp11
                  go_wp2_with fail
                  go_roundw
                  case rel => exact ⟨y, rfl, by omega, Hmo, Lib.hid Hs.out.symm, K11.out⟩
                  case measure => simp [intOf]; omega
                case pos =>
                  have hfin := lfp_stop (by omega) h2
                  rw [hxl.out] at hfin
                  obtain ⟨b', hb'⟩ := Hst.out x hfin
                  have q3 : (x != x) = false := by simp
                  rw [h2] at Hcl
                  have Hb := Lib.hid hb'
                  clear hfin hb' h2 hxg hxl
                  go_wp2_with fail
                  refine Hcl.out.mono ?_
                  rintro e w10 ⟨rfl, kp10⟩
                  have d0 := kp10.cell c0; have d1 := kp10.cell c1; have d2 := kp10.cell c2
                  have K10 := Lib.hid (K9.out.step kp10)
                  clear kp10 c0 c1 c2
                  by_cases hmx : m < x + f.s + f.j - QE
                  · have hmax : max m (x + f.s + f.j - QE) = x + f.s + f.j - QE := by omega
                    rw [hmax] at Hb
                    clear hmax
                    go_wp2_with fail
                    go_quiet (fail)
                    go_wp2_with fail
                    go_roundw
                    case rel => exact ⟨q + 1, x + f.s + f.j - QE, b', by omega, by go_num, by go_num, Hb, Keeps.drewN K10.out _⟩
                    case measure => simp [intOf]; omega
                  · have hmax : max m (x + f.s + f.j - QE) = m := by omega
                    rw [hmax] at Hb
                    clear hmax
                    go_wp2_with fail
                    go_quiet (fail)
                    go_wp2_with fail
                    go_roundw
                    case rel => exact ⟨q + 1, m, b', by omega, by go_num, by go_num, Hb, Keeps.drewN K10.out _⟩
                    case measure => simp [intOf]; omega
end Go.Proofs.Ytcelbmpdnkaamaa
