/- all: the knot of the variants in which all formulas hold. -/
import Derived.Test.YtngjjmniigkeoaaGreatDoorSort
namespace Go.Proofs.YtngjjmniigkeoaaGreatDoor
open Go Go.RowKit Go.WideMaps Go.Maps
set_option linter.unusedSimpArgs false
set_option linter.unusedVariables false

set_option maxHeartbeats 1600000 in
theorem stable_any (h : DH) (hn : h.n < 2 ^ 31) (s : DS) (tb base g n cap : Nat) (xs : List Nat) (w : World) (d : Dia w h s) (hbox : w.cell? ⟨tb, 0, none⟩ = some (.pointer (some ⟨h.b, 0, none⟩))) (htg : tb ≠ g) (hg : ¬ own h s g)
    (hr : KRow w base g n cap xs) (hx : ∀ x ∈ xs, x < s.nodes.length) (hnn : n < 20) :
    Calls Tryz.prog 94 #[.slice (some ⟨g, 0, none⟩) n cap, .int .i64 n, .func (Fn.func 75) #[] #[.pointer (some ⟨tb, 0, none⟩)]] w
      fun e w' => e = .returned (.tuple #[]) ∧ ∃ ys, SortInv w h s base g n cap xs w' ys := by
  have hi := insert_any h hn s tb base g n cap 0 n xs w d hbox htg hg hr hx (Nat.zero_le _) (Nat.le_refl _) (by omega)
  have Hi := Lib.hid hi
  clear hi d hr hx hbox
  go_enter Tryz.func94, Tryz.ntmps94
  go_wp2_with fail
  go_loopw [8, 7] (fun b a wr => b = .int .i64 20 ∧ a = .int .i64 0 ∧ wr = w) (fun _ _ _ => 0)
  case atStart => exact ⟨rfl, rfl, rfl⟩
  case round =>
    obtain ⟨rfl, rfl, rfl⟩ := hrel
    go_wp2_with fail
    refine Hi.out.mono ?_
    rintro e w1 ⟨rfl, ys, inv⟩
    go_wp2_with fail
    go_loopw [6] (fun b wr => b = .int .i64 20 ∧ wr = w1) (fun _ _ => 0)
    case atStart => exact ⟨rfl, rfl⟩
    case round =>
      obtain ⟨rfl, rfl⟩ := hrel
      go_wp2_with fail
      go_end0
      exact ⟨rfl, ys, inv⟩

set_option maxHeartbeats 800000 in
theorem sortStable_any (h : DH) (hn : h.n < 2 ^ 31) (s : DS) (tb base g n cap : Nat) (xs : List Nat) (w : World) (d : Dia w h s) (hbox : w.cell? ⟨tb, 0, none⟩ = some (.pointer (some ⟨h.b, 0, none⟩))) (htg : tb ≠ g) (hg : ¬ own h s g)
    (hr : KRow w base g n cap xs) (hx : ∀ x ∈ xs, x < s.nodes.length) (hnn : n < 20) :
    Calls Tryz.prog 74 #[.slice (some ⟨g, 0, none⟩) n cap, .func (Fn.func 75) #[] #[.pointer (some ⟨tb, 0, none⟩)]] w
      fun e w' => e = .returned (.tuple #[]) ∧ ∃ ys, SortInv w h s base g n cap xs w' ys := by
  have hi := stable_any h hn s tb base g n cap xs w d hbox htg hg hr hx hnn
  have Hi := Lib.hid hi
  clear hi d hr hx hbox
  go_enter Tryz.func74, Tryz.ntmps74
  go_wp2_with fail
  refine Hi.out.mono ?_
  rintro e w1 ⟨rfl, ys, inv⟩
  go_wp2_with fail
  go_end0
  exact ⟨rfl, ys, inv⟩

/-- A list of formulas that no call on the diagrams writes. -/
structure OutForms (w : World) (h : DH) (s : DS) (ao : Option Addr) (fs : List (List Int)) : Prop where
  len : fs.length ≤ maxLen
  cells : 0 < fs.length → ∃ b off, ao = some ⟨b, off, none⟩ ∧ Out w h s b ∧ ∀ k, k < fs.length → ∃ a c, w.cell? ⟨b, off + k, none⟩ = some (.slice a (fs.getD k []).length c) ∧ OutInts w h s a c (fs.getD k [])
theorem OutForms.upd {w w' : World} {h : DH} {s s' : DS} {ao : Option Addr} {fs : List (List Int)} (o : OutForms w h s ao fs) (u : Upd w w' h s s') : OutForms w' h s' ao fs := by
  refine ⟨o.len, fun h0 => ?_⟩
  obtain ⟨b, off, e, ho, hc⟩ := o.cells h0
  refine ⟨b, off, e, ho.upd u, fun k hk => ?_⟩
  obtain ⟨a, c, h1, h2⟩ := hc k hk
  exact ⟨a, c, ho.cell u h1, h2.upd u⟩

/-- Behind some formulas. -/
structure AllInv (w : World) (h : DH) (s : DS) (ls : List Nat) (fs : List (List Int)) (g k : Nat) (wr : World) (s' : DS) (xs : List Nat) : Prop where
  upd : Upd w wr h s s'
  row : KRow wr w.heap.size g fs.length fs.length xs
  no : ¬ own h s' g
  lt : ∀ j, j < k → xs.getD j 0 < s'.nodes.length
  mean : ∀ j, j < k → ∀ σ, sem s'.nodes (xs.getD j 0) σ = evalF (byLev ls σ) (fs.getD j [])
  steps : s.steps ≤ s'.steps + (k * (100 * 2 ^ h.n) : Nat)
  le : s'.steps ≤ s.steps
  cnt : s'.cnt ≤ s.cnt + 2 * (k * (100 * 2 ^ h.n))

theorem AllInv.step {w wr w1 : World} {h : DH} {s s' s1 : DS} {ls : List Nat} {fs : List (List Int)} {g k kn : Nat} {xs : List Nat} (i : AllInv w h s ls fs g k wr s' xs) (hk : k < fs.length) (p : OfPost wr h s' (fun σ => evalF (byLev ls σ) (fs.getD k [])) (100 * 2 ^ h.n) w1 s1 kn) :
    AllInv w h s ls fs g (k + 1) (w1.setCell ⟨g, k, none⟩ (.int .i32 kn)) s1 (xs.set k kn) := by
  have hgl := i.row.lt
  have hno1 : ¬ own h s1 g := fun ho => by
    rcases p.upd.own g ho with h1 | h1
    · exact i.no h1
    · omega
  have u1 := i.upd.trans p.upd
  have hr1 := (i.row.of_block (p.upd.keeps.block g hgl.2 i.no)).set k kn
  have hxl := i.row.len
  have hexp := p.upd.ext
  have hwf := i.upd.dia.inv.wf
  refine ⟨upd_side (S := fun b => b = g) u1 (Keeps.setCell (S := fun b => b = g) (p := ⟨g, k, none⟩) (Keeps.refl _ _) (Or.inl rfl) _) (fun b e => by subst e; exact hgl.1) (fun b e => by subst e; exact hno1), hr1, hno1, ?_, ?_, ?_, ?_, ?_⟩
  · intro j hj
    by_cases e : j = k
    · subst e; simp [List.getD, hxl, hk]; exact p.hk
    · have := i.lt j (by omega); have := hexp.len
      simp [List.getD, List.getElem?_set, show ¬ k = j from fun e' => e e'.symm] at *; omega
  · intro j hj σ
    by_cases e : j = k
    · subst e
      have : (xs.set j kn).getD j 0 = kn := by simp [List.getD, hxl, hk]
      rw [this]; exact p.mean σ
    · have h1 : (xs.set k kn).getD j 0 = xs.getD j 0 := by simp [List.getD, List.getElem?_set, show ¬ k = j from fun e' => e e'.symm]
      rw [h1, hexp.sem hwf (i.lt j (by omega))]; exact i.mean j (by omega) σ
  · have := p.steps; have := i.steps; rw [Nat.add_mul]; omega
  · have := p.le; have := i.le; omega
  · have := p.cnt; have := i.cnt; rw [Nat.add_mul]; omega

/-- Behind the sort, and some joins. -/
structure AndInv (w : World) (h : DH) (s : DS) (g n k a : Nat) (wr : World) (s' : DS) (ys : List Nat) : Prop where
  upd : Upd w wr h s s'
  row : KRow wr w.heap.size g n n ys
  no : ¬ own h s' g
  lt : a < s'.nodes.length
  ylt : ∀ y ∈ ys, y < s'.nodes.length
  mean : ∀ σ, sem s'.nodes a σ = (ys.take k).all (fun y => sem s'.nodes y σ)
  steps : s.steps ≤ s'.steps + (n * (100 * 2 ^ h.n) + k * 2 ^ h.n : Nat)
  le : s'.steps ≤ s.steps
  cnt : s'.cnt ≤ s.cnt + 2 * (n * (100 * 2 ^ h.n) + k * 2 ^ h.n)

theorem AndInv.step {w wr w1 : World} {h : DH} {s s' s1 : DS} {g n k a a1 : Nat} {ys : List Nat} (i : AndInv w h s g n k a wr s' ys) (hk : k < n) (p : OfPost wr h s' (fun σ => opF (-4) (sem s'.nodes a σ) (sem s'.nodes (ys.getD k 0) σ)) (2 ^ h.n) w1 s1 a1) :
    AndInv w h s g n (k + 1) a1 w1 s1 ys := by
  have hgl := i.row.lt
  have hyl := i.row.len
  have hno1 : ¬ own h s1 g := fun ho => by
    rcases p.upd.own g ho with h1 | h1
    · exact i.no h1
    · omega
  have hexp := p.upd.ext
  have hwf := i.upd.dia.inv.wf
  refine ⟨i.upd.trans p.upd, i.row.of_block (p.upd.keeps.block g hgl.2 i.no), hno1, p.hk, fun y hy => Nat.lt_of_lt_of_le (i.ylt y hy) hexp.len, fun σ => ?_, ?_, ?_, ?_⟩
  · have hcongr : ∀ l : List Nat, (∀ y ∈ l, y ∈ ys) → l.all (fun y => sem s1.nodes y σ) = l.all (fun y => sem s'.nodes y σ) := by
      intro l hl
      induction l with
      | nil => rfl
      | cons y l ih =>
        simp only [List.all_cons]
        rw [ih (fun z hz => hl z (List.mem_cons_of_mem _ hz)), hexp.sem hwf (i.ylt y (hl y (List.mem_cons_self ..)))]
    rw [p.mean σ, i.mean σ, hcongr _ (fun y hy => List.mem_of_mem_take hy), List.take_succ_eq_append_getElem (by omega), List.all_append]
    simp [opF, List.getD, show k < ys.length by omega]
  · have := p.steps; have := i.steps; rw [Nat.add_mul]; omega
  · have := p.le; have := i.le; omega
  · have := p.cnt; have := i.cnt; rw [Nat.add_mul]; omega

theorem madeCells_one (v : Value) (n : Nat) : (madeCells #[v] (n * 1)).toList = List.replicate n v := by
  rw [List.eq_replicate_iff]
  refine ⟨by simp [madeCells], fun b hb => ?_⟩
  simp [madeCells] at hb
  obtain ⟨a, ha, rfl⟩ := hb
  rw [Nat.mod_one]; rfl

set_option maxRecDepth 100000 in
set_option maxHeartbeats 6400000 in
theorem all_any (h : DH) (hn : h.n < 2 ^ 31) (s : DS) (ls : List Nat) (al : Option Addr) (cl : Nat) (fs : List (List Int)) (w : World) (d : Dia w h s) (hl : Lv w h s ls) (hf : OutForms w h s al fs) (hv : ∀ k, k < fs.length → validB (fs.getD k []) h.n = true) (hlen : fs.length < 20)
    (hst : ((fs.length * (101 * 2 ^ h.n) : Nat) : Int) ≤ s.steps) (hst2 : s.steps ≤ 4611686018427387904) (hcnt : s.cnt + 2 * (fs.length * (101 * 2 ^ h.n)) < 2 ^ 30) :
    Calls Tryz.prog 53 #[.pointer (some ⟨h.b, 0, none⟩), .slice al fs.length cl] w (OfEnd w h s (fun σ => fs.all (fun f => evalF (byLev ls σ) f)) (fs.length * (101 * 2 ^ h.n))) := by
  have hlt := d.lt
  have hmf : ∀ (fn : Fn) (first cap : Array Value) (w : World), (Instr.makeFunc fn first cap).run Tryz.prog w = .ok (.func fn first cap) w := fun _ _ _ _ => rfl
  have u0 : Upd w (w.alloc (.cells #[.pointer (some ⟨h.b, 0, none⟩)] 81)) h s s := (Upd.refl d).alloc _
  have hbox : (w.alloc (.cells #[.pointer (some ⟨h.b, 0, none⟩)] 81)).cell? ⟨w.heap.size, 0, none⟩ = some (.pointer (some ⟨h.b, 0, none⟩)) := by simp
  have hbo : Out (w.alloc (.cells #[.pointer (some ⟨h.b, 0, none⟩)] 81)) h s w.heap.size := ⟨by simp, fun hk => by have := hlt _ hk; omega⟩
  obtain ⟨i0, hi0, hz0, hz1, hz2⟩ := info_parts infoKnot
  have H0 := Lib.hid u0; have Hl := Lib.hid hl; have Hf := Lib.hid hf; have Hv := Lib.hid hv
  clear hl hf hv d u0
  go_enter Tryz.func53, Tryz.ntmps53
  go_wp2_with (first | (at_make; refine wpList_make_full _ rfl _ _ 119 rfl w.heap.size 82 i0 (.int .i32 0) 1 Tryz.underlying119 hi0 hz0 hz1 .i64 .i64 _ _ fs.length rfl rfl rfl rfl (by rw [hz2]; omega) (by unfold maxLen; omega) (by simp) ?_; intro w2 hown hgrow) | fail)
  have hgs : (w.alloc (.cells #[.pointer (some ⟨h.b, 0, none⟩)] 81)).heap.size = w.heap.size + 1 := by simp
  rw [hgs] at hown
  have k2 : Keeps (fun _ => False) (w.alloc (.cells #[.pointer (some ⟨h.b, 0, none⟩)] 81)) w2 := (Keeps.refl _ _).grown hgrow (fun k e => by cases e)
  have u2 : Upd w w2 h s s := upd_side H0.out k2 (fun b e => e.elim) (fun b e => e.elim)
  have hbox2 := k2.cell hbox (fun e => e)
  have hbo2 : Out w2 h s w.heap.size := ⟨by have := k2.size; omega, hbo.no⟩
  have hno : ¬ own h s (w.heap.size + 1) := fun hk => by have := hlt _ hk; omega
  have hrow0 : KRow w2 w.heap.size (w.heap.size + 1) fs.length fs.length (List.replicate fs.length 0) := ⟨by
    have e : (madeCells (Value.int .i32 0).cells (fs.length * 1)).toList = (List.replicate fs.length 0).map encK := by
      rw [List.map_replicate]; exact madeCells_one _ _
    rw [← e]; exact hown⟩
  have hinv0 : AllInv w h s ls fs (w.heap.size + 1) 0 w2 s (List.replicate fs.length 0) := ⟨u2, hrow0, hno, fun j hj => by omega, fun j hj => by omega, by omega, Int.le_refl _, by omega⟩
  have hP : 0 < 2 ^ h.n := Nat.two_pow_pos _
  clear hown hgrow k2 hbox hbo hrow0 u2
  go_loopw [16] (fun i wr => ∃ (k : Nat) (s' : DS) (xs : List Nat), k ≤ fs.length ∧ i = .int .i64 k ∧ AllInv w h s ls fs (w.heap.size + 1) k wr s' xs ∧ wr.cell? ⟨w.heap.size, 0, none⟩ = some (.pointer (some ⟨h.b, 0, none⟩)) ∧ Out wr h s' w.heap.size) (fun i _ => fs.length - (intOf i).toNat)
  case atStart => exact ⟨0, s, _, Nat.zero_le _, rfl, hinv0, hbox2, hbo2⟩
  case round =>
    clear hinv0 hbox2 hbo2
    obtain ⟨k, s', xs, hk, rfl, inv, hbx, hbo3⟩ := hrel
    by_cases hlt2 : k < fs.length
    · have hof := Hf.out.upd inv.upd
      obtain ⟨fb, off, rfl, hfo, hfc⟩ := hof.cells (by omega)
      obtain ⟨a, c, hck, hints⟩ := hfc k hlt2
      have hvk := Hv.out k hlt2
      have hmul1 : (k + 1) * (100 * 2 ^ h.n) ≤ fs.length * (101 * 2 ^ h.n) := Nat.le_trans (Nat.mul_le_mul_right _ (by omega : k + 1 ≤ fs.length)) (Nat.mul_le_mul_left _ (Nat.mul_le_mul_right _ (by omega)))
      rw [Nat.add_mul] at hmul1
      have t1 := inv.steps; have t2 := inv.le; have t3 := inv.cnt
      have hofk := of_any h hn s' ls a c (fs.getD k []) wr inv.upd.dia (Hl.out.upd inv.upd) hints hvk (by omega) (by omega) (by omega)
      have hstep := fun w1 s1 kn => AllInv.step (w1 := w1) (s1 := s1) (kn := kn) inv hlt2
      have hrow := inv.row
      have hno1 := inv.no
      have hxl := hrow.len
      have Ho := Lib.hid hofk; have Hs := Lib.hid hstep; have Hi := Lib.hid inv; have Hr := Lib.hid hrow
      clear hofk hstep inv hrow hof hfc hints t1 t2 t3 hmul1 hvk hfo
      generalize fs.getD k [] = f at *
      go_wp2_with fail
      refine Ho.out.mono ?_
      rintro e w1 ⟨s1, kn, rfl, p1⟩
      have hb1 := p1.upd.keeps.block (w.heap.size + 1) Hr.out.lt.2 hno1
      have hr1 := Hr.out.of_block hb1
      have hc1 := hr1.cell (j := k) hlt2
      have hf1 := hr1.frozen k
      have i1 : (k : Int) < (fs.length : Int) := by omega
      have inv2 := Hs.out w1 s1 kn p1
      have hbx2 : (w1.setCell ⟨w.heap.size + 1, k, none⟩ (.int .i32 kn)).cell? ⟨w.heap.size, 0, none⟩ = some (.pointer (some ⟨h.b, 0, none⟩)) := by
        have q1 := hbo3.cell p1.upd hbx
        exact (World.cell?_of_block (Below.heap_setCell w1 ⟨w.heap.size + 1, k, none⟩ _ w.heap.size (by simp))).trans q1
      have ho4 := hbo3.upd p1.upd
      have ho5 : Out (w1.setCell ⟨w.heap.size + 1, k, none⟩ (.int .i32 kn)) h s1 w.heap.size := ⟨by have := ho4.lt; simpa [World.setCell] using this, ho4.no⟩
      have Hi2 := Lib.hid inv2; have Hb2 := Lib.hid hbx2; have Ho5 := Lib.hid ho5
      clear inv2 hbx2 hr1 hb1 p1 ho4 ho5
      go_wp2_with fail
      go_roundw
      case rel => exact ⟨k + 1, s1, _, by omega, by go_num, Hi2.out, Hb2.out, Ho5.out⟩
      case measure => simp [intOf]; omega
    · obtain rfl : k = fs.length := by omega
      have hxl := inv.row.len
      have hxlt : ∀ x ∈ xs, x < s'.nodes.length := by
        intro x hx
        obtain ⟨j, hj, rfl⟩ := List.getElem_of_mem hx
        have := inv.lt j (by omega)
        simpa [List.getD, hj] using this
      have hsort := sortStable_any h hn s' w.heap.size w.heap.size (w.heap.size + 1) fs.length fs.length xs wr inv.upd.dia hbx (by omega) inv.no inv.row hxlt hlen
      have Hs := Lib.hid hsort; have Hi := Lib.hid inv; have Hx := Lib.hid hxlt
      clear hsort inv hxlt hxl
      go_wp2_with fail
      refine Hs.out.mono ?_
      rintro e w1 ⟨rfl, ys, si⟩
      have inv := Hi.out
      have u1 : Upd w w1 h s s' := upd_side inv.upd si.keeps (fun b e => by subst e; omega) (fun b e => by subst e; exact inv.no)
      have hbx1 : w1.cell? ⟨w.heap.size, 0, none⟩ = some (.pointer (some ⟨h.b, 0, none⟩)) := si.keeps.cell hbx (by omega)
      have ho1 : Out w1 h s' w.heap.size := ⟨Nat.lt_of_lt_of_le hbo3.lt si.keeps.size, hbo3.no⟩
      have hand0 : AndInv w h s (w.heap.size + 1) fs.length 0 1 w1 s' ys := ⟨u1, si.row, inv.no, by have := inv.upd.dia.inv.wf.two; omega, fun y hy => Hx.out y ((si.same y).1 hy), fun σ => by rw [sem_yes]; simp, by simpa using inv.steps, inv.le, by simpa using inv.cnt⟩
      have hyl := si.row.len
      have hmean : ∀ σ, ys.all (fun y => sem s'.nodes y σ) = fs.all (fun f => evalF (byLev ls σ) f) := by
        intro σ
        have hxl2 := inv.row.len
        rw [Bool.eq_iff_iff, List.all_eq_true, List.all_eq_true]
        constructor
        · intro hy f hf
          obtain ⟨j, hj, rfl⟩ := List.getElem_of_mem hf
          have h1 := inv.mean j hj σ
          have h2 := hy (xs.getD j 0) ((si.same _).2 (by simp [List.getD, show j < xs.length by omega]))
          rw [h1] at h2
          simpa [List.getD, hj] using h2
        · intro hf y hy
          obtain ⟨j, hj, rfl⟩ := List.getElem_of_mem ((si.same y).1 hy)
          have h1 := inv.mean j (by omega) σ
          have e1 : xs.getD j 0 = xs[j] := by simp [List.getD, hj]
          rw [e1] at h1
          rw [h1]
          exact hf _ (by simp [List.getD, show j < fs.length by omega])
      have hext : ∀ s2, Ext s'.nodes s2 → ∀ σ, ys.all (fun y => sem s2 y σ) = fs.all (fun f => evalF (byLev ls σ) f) := by
        intro s2 he σ
        rw [← hmean σ]
        have : ∀ l : List Nat, (∀ y ∈ l, y ∈ ys) → l.all (fun y => sem s2 y σ) = l.all (fun y => sem s'.nodes y σ) := by
          intro l hl
          induction l with
          | nil => rfl
          | cons y l ih =>
            simp only [List.all_cons]
            rw [ih (fun z hz => hl z (List.mem_cons_of_mem _ hz)), he.sem inv.upd.dia.inv.wf (Hx.out y ((si.same y).1 (hl y (List.mem_cons_self ..))))]
        exact this ys (fun _ hy => hy)
      have Hext := Lib.hid hext
      clear hmean hext inv u1 si Hi Hs
      go_wp2_with fail
      obtain ⟨wo, rfl⟩ : ∃ wo : World, wo = w1 := ⟨_, rfl⟩
      go_loopw [33, 8] (fun i v wr => ∃ (k a : Nat) (s2 : DS), k ≤ fs.length ∧ i = .int .i64 k ∧ v = .int .i32 a ∧ AndInv w h s (w.heap.size + 1) fs.length k a wr s2 ys ∧ wr.cell? ⟨w.heap.size, 0, none⟩ = some (.pointer (some ⟨h.b, 0, none⟩)) ∧ Out wr h s2 w.heap.size ∧ Ext s'.nodes s2.nodes) (fun i _ _ => fs.length - (intOf i).toNat)
      case atStart => exact ⟨0, 1, s', Nat.zero_le _, rfl, rfl, hand0, hbx1, ho1, Ext.refl _⟩
      case round =>
        clear hand0 hbx1 ho1
        obtain ⟨k, a, s2, hk, rfl, rfl, inv, hbx2, ho2, hex2⟩ := hrel
        by_cases hlt3 : k < fs.length
        · have hck := inv.row.cell (j := k) hlt3
          have hyk := inv.ylt (ys.getD k 0) (by simp [List.getD, show k < ys.length by omega])
          have hmul1 : fs.length * (100 * 2 ^ h.n) + (k + 1) * 2 ^ h.n ≤ fs.length * (101 * 2 ^ h.n) := by
            have e1 : (k + 1) * 2 ^ h.n ≤ fs.length * 2 ^ h.n := Nat.mul_le_mul_right _ (by omega)
            have e2 : fs.length * (101 * 2 ^ h.n) = fs.length * (100 * 2 ^ h.n) + fs.length * 2 ^ h.n := by rw [← Nat.mul_add]; congr 1; omega
            omega
          rw [Nat.add_mul] at hmul1
          have t1 := inv.steps; have t2 := inv.le; have t3 := inv.cnt
          have hj := join_of h (-4) (by omega) hn s2 a (ys.getD k 0) wr inv.upd.dia inv.lt hyk (by omega) (by omega) (by omega)
          have hstep := fun w1 s1 a1 => AndInv.step (w1 := w1) (s1 := s1) (a1 := a1) inv hlt3
          have Hj := Lib.hid hj; have Hst := Lib.hid hstep
          clear hj hstep inv t1 t2 t3 hmul1 hyk
          generalize ys.getD k 0 = y at *
          go_wp2_with fail
          refine Hj.out.mono ?_
          rintro e w3 ⟨s3, kn, rfl, p1⟩
          have inv2 := Hst.out w3 s3 kn p1
          have hb3 := ho2.cell p1.upd hbx2
          have ho3 := ho2.upd p1.upd
          have he3 := hex2.trans p1.upd.ext
          clear p1
          go_wp2_with fail
          go_roundw
          case rel => exact ⟨k + 1, kn, s3, by omega, by go_num, rfl, inv2, hb3, ho3, he3⟩
          case measure => simp [intOf]; omega
        · obtain rfl : k = fs.length := by omega
          have hfin : OfEnd w h s (fun σ => fs.all (fun f => evalF (byLev ls σ) f)) (fs.length * (101 * 2 ^ h.n)) (.returned (.int .i32 a)) wr := by
            have e2 : fs.length * (101 * 2 ^ h.n) = fs.length * (100 * 2 ^ h.n) + fs.length * 2 ^ h.n := by rw [← Nat.mul_add]; congr 1; omega
            refine ⟨s2, a, rfl, inv.upd, inv.lt, fun σ => ?_, by rw [e2]; exact inv.steps, inv.le, by rw [e2]; exact inv.cnt⟩
            rw [inv.mean σ, List.take_of_length_le (by omega)]
            exact Hext.out _ hex2 σ
          have Hfin := Lib.hid hfin
          clear hfin inv
          go_wp2_with fail
          go_ret
          exact Hfin.out
end Go.Proofs.YtngjjmniigkeoaaGreatDoor
