/- plain and join. -/
import Derived.Test.YtngjjmniigkeoaaGreatDoorFork
namespace Go.Proofs.YtngjjmniigkeoaaGreatDoor
open Go Go.RowKit Go.WideMaps Go.Maps
set_option linter.unusedSimpArgs false
set_option linter.unusedVariables false

def plainF (op : Int) (a b : Nat) : Nat × Bool :=
  if a = b then (if op = -6 then (1, true) else (a, true))
  else if a = 0 then (if op = -4 then (0, true) else if op = -5 then (b, true) else (0, b == 1))
  else if a = 1 then (if op = -5 then (1, true) else (b, true))
  else (0, false)

def PlainEnd (op : Int) (a b : Nat) (e : Ending) : Prop := e = .returned (.tuple #[.int .i32 (plainF op a b).1, .bool (plainF op a b).2])

set_option maxHeartbeats 1600000 in
theorem plain_any (op : Int) (a b : Nat) (w : World) (ho : op = -4 ∨ op = -5 ∨ op = -6) (hab : a ≤ b) (hb : b < 2 ^ 31) :
    Calls Tryz.prog 95 #[.int .i64 op, .int .i32 a, .int .i32 b] w fun e w' => PlainEnd op a b e ∧ w = w' := by
  by_cases e1 : a = b
  · subst e1
    have hr : PlainEnd op a a (.returned (.tuple #[.int .i32 ((if op = -6 then 1 else a : Nat) : Int), .bool true])) := by unfold PlainEnd plainF; rw [if_pos rfl]; split <;> rfl
    rcases ho with rfl | rfl | rfl
    all_goals
      have Hr := Lib.hid hr
      clear hr
      go_enter Tryz.func95, Tryz.ntmps95
      go_wp2
      go_ret2
      exact ⟨Hr.out, rfl⟩
  · have f1 : ((a : Int) == (b : Int)) = false := beq_eq_false_iff_ne.2 (by omega)
    by_cases e0 : a = 0
    · subst e0
      have hr : PlainEnd op 0 b (.returned (.tuple #[.int .i32 ((if op = -4 then 0 else if op = -5 then b else 0 : Nat) : Int), .bool (if op = -4 then true else if op = -5 then true else ((b : Int) == 1))])) := by
        have eb : (b == 1) = ((b : Int) == 1) := by rw [Bool.eq_iff_iff]; simp; omega
        unfold PlainEnd plainF; rw [if_neg e1, if_pos rfl]; split
        · rfl
        · split
          · rfl
          · rw [eb]
      rcases ho with rfl | rfl | rfl
      all_goals
        have Hr := Lib.hid hr
        clear hr
        go_enter Tryz.func95, Tryz.ntmps95
        go_wp2
        go_ret2
        exact ⟨Hr.out, rfl⟩
    · have f0 : ((a : Int) == 0) = false := beq_eq_false_iff_ne.2 (by omega)
      by_cases e2 : a = 1
      · subst e2
        have hr : PlainEnd op 1 b (.returned (.tuple #[.int .i32 ((if op = -5 then 1 else b : Nat) : Int), .bool true])) := by
          unfold PlainEnd plainF; rw [if_neg e1, if_neg e0, if_pos rfl]; split <;> rfl
        rcases ho with rfl | rfl | rfl
        all_goals
          have Hr := Lib.hid hr
          clear hr
          go_enter Tryz.func95, Tryz.ntmps95
          go_wp2
          go_ret2
          exact ⟨Hr.out, rfl⟩
      · have f2 : ((a : Int) == 1) = false := beq_eq_false_iff_ne.2 (by omega)
        have hr : PlainEnd op a b (.returned (.tuple #[.int .i32 0, .bool false])) := by
          unfold PlainEnd plainF; rw [if_neg e1, if_neg e0, if_neg e2]; rfl
        have Hr := Lib.hid hr
        clear hr
        rcases ho with rfl | rfl | rfl
        all_goals
          go_enter Tryz.func95, Tryz.ntmps95
          go_wp2
          go_ret2
          exact ⟨Hr.out, rfl⟩

/-- What plain says is right. -/
theorem plainF_mean {n : Nat} {l : List Nd} (h : WF n l) {op : Int} (ho : op = -4 ∨ op = -5 ∨ op = -6) {a b : Nat} (hab : a ≤ b) (hb : b < l.length) (hp : (plainF op a b).2 = true) :
    (plainF op a b).1 < l.length ∧ (∀ σ, sem l (plainF op a b).1 σ = opF op (sem l a σ) (sem l b σ)) ∧ min (ndAt l a).lev (ndAt l b).lev ≤ (ndAt l (plainF op a b).1).lev := by
  have h2 := h.two
  have hla := h.lev_le (k := a) (by omega)
  have hlb := h.lev_le hb
  have l0 : (ndAt l 0).lev = n := by rw [h.no]
  have l1 : (ndAt l 1).lev = n := by rw [h.yes]
  unfold plainF at hp ⊢
  by_cases e1 : a = b
  · subst e1
    rw [if_pos rfl]
    rcases ho with rfl | rfl | rfl
    · exact ⟨hb, fun σ => by simp [opF], by simp⟩
    · exact ⟨hb, fun σ => by simp [opF], by simp⟩
    · exact ⟨by simp; omega, fun σ => by simp [opF, sem_yes], by simp [l1]; omega⟩
  rw [if_neg e1] at hp ⊢
  by_cases e0 : a = 0
  · subst e0
    rw [if_pos rfl] at hp ⊢
    rcases ho with rfl | rfl | rfl
    · exact ⟨by simp; omega, fun σ => by simp [opF, sem_no], by simp [l0]; omega⟩
    · exact ⟨by simpa using hb, fun σ => by simp [opF, sem_no], by simp; omega⟩
    · simp at hp
      subst hp
      exact ⟨by simp; omega, fun σ => by simp [opF, sem_no, sem_yes], by simp [l0, l1]⟩
  rw [if_neg e0] at hp ⊢
  by_cases e2 : a = 1
  · subst e2
    rw [if_pos rfl] at hp ⊢
    rcases ho with rfl | rfl | rfl
    · exact ⟨by simpa using hb, fun σ => by simp [opF, sem_yes], by simp; omega⟩
    · exact ⟨by simp; omega, fun σ => by simp [opF, sem_yes], by simp [l1]; omega⟩
    · exact ⟨by simpa using hb, fun σ => by simp [opF, sem_yes], by simp; omega⟩
  · rw [if_neg e2] at hp; simp at hp

/-- What join leaves; m bounds the cost. -/
structure JoinPost (w : World) (h : DH) (s : DS) (op : Int) (a b m : Nat) (w' : World) (s' : DS) (k : Nat) : Prop where
  upd : Upd w w' h s s'
  hk : k < s'.nodes.length
  mean : ∀ σ, sem s'.nodes k σ = opF op (sem s.nodes a σ) (sem s.nodes b σ)
  lev : min (ndAt s.nodes a).lev (ndAt s.nodes b).lev ≤ (ndAt s'.nodes k).lev
  steps : s.steps ≤ s'.steps + m
  le : s'.steps ≤ s.steps
  cnt : s'.cnt ≤ s.cnt + 2 * m
def JoinEnd (w : World) (h : DH) (s : DS) (op : Int) (a b m : Nat) (e : Ending) (w' : World) : Prop := ∃ s' k, e = .returned (.int .i32 (k : Nat)) ∧ JoinPost w h s op a b m w' s' k

theorem opF_comm (op : Int) (x y : Bool) : opF op x y = opF op y x := by
  unfold opF; split
  · exact Bool.and_comm x y
  · split
    · exact Bool.or_comm x y
    · cases x <;> cases y <;> rfl

theorem JoinEnd.swap {w : World} {h : DH} {s : DS} {op : Int} {a b m : Nat} {e : Ending} {w' : World} (j : JoinEnd w h s op a b m e w') : JoinEnd w h s op b a m e w' := by
  obtain ⟨s', k, he, p⟩ := j
  exact ⟨s', k, he, p.upd, p.hk, fun σ => by rw [p.mean, opF_comm], by rw [Nat.min_comm]; exact p.lev, p.steps, p.le, p.cnt⟩

theorem zeroKnotE : True := trivial

/-- The done map, behind a new task. -/
theorem done_push {l : List Nd} {f : Value → Option Value} (hd : DoneOk l f) {op : Int} {a b c : Nat} (ht : TaskOk l op a b c) : DoneOk l (putV f (tkV op a b) (.int .i32 c)) := by
  intro op' a' b' v hv
  by_cases e : tkV op' a' b' = tkV op a b
  · obtain ⟨rfl, rfl, rfl⟩ := tkV_inj e
    rw [putV_same] at hv
    cases hv
    exact ⟨c, rfl, ht⟩
  · rw [putV_other _ _ _ e] at hv
    exact hd _ _ _ _ hv

/-- A new task is remembered. -/
theorem Dia.remember {w w' : World} {h : DH} {s : DS} (d : Dia w h s) {op : Int} {a b c : Nat} (ht : TaskOk s.nodes op a b c) (hm : MapV w' Tryz.prog 152 h.bd (s.cnt + 1) (putV s.fd (tkV op a b) (.int .i32 c))) (hg : w.grownBy w' (some h.bd)) :
    Upd w w' h s { s with fd := putV s.fd (tkV op a b) (.int .i32 c), cnt := s.cnt + 1 } := by
  obtain ⟨m1, m2, m3⟩ := d.map_ne
  have hb : ∀ k, k < w.heap.size → k ≠ h.bd → w'.heap[k]? = w.heap[k]? := fun k hk hn => hg.block k hk (by simpa using hn)
  have hl := d.lt
  refine ⟨⟨(hb _ (hl _ (Or.inl rfl)) (fun e => m2 e.symm)).trans d.blk, ?_, (d.fnd.kept (hb _ d.fnd.lt d.ne)).mono (Nat.le_succ _), hm, d.ne, ⟨d.inv.wf, d.inv.find, done_push d.inv.done ht, Nat.le_trans d.inv.cnt (by simp)⟩⟩, Ext.refl _, ?_, fun k hk => Or.inl hk⟩
  · exact d.row.kept hg (Or.inr (fun e => (m3 _ e).2 rfl))
  · exact ⟨hg.os, hg.tape, hg.output, hg.size, fun k hk hn => hb k hk (fun e => hn (Or.inr (Or.inr (Or.inl e))))⟩
end Go.Proofs.YtngjjmniigkeoaaGreatDoor
