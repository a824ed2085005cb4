/- PPlain. -/
import Derived.Test.YtpgeopefamomnaeGreatPG
set_option linter.unusedSimpArgs false
set_option linter.unusedSectionVars false
namespace Go.Proofs.YtpgeopefamomnaeGreat
set_option maxRecDepth 100000
set_option linter.unusedVariables false
structure SAns where
  err : Int
  done : Int
/-- A chip that goes through steps: that as it is by now, what came of each, and all that is done. -/
structure SRun where
  chip : SChip
  ans : List SAns
  done : List SDone
def goStep (t : SRun) (s : SStep) : SRun := ⟨if (doF t.chip s).2.2 = 0 then (doF t.chip s).1 else t.chip, t.ans ++ [⟨(doF t.chip s).2.2, ((doF t.chip s).2.1.length : Nat)⟩], t.done ++ (doF t.chip s).2.1⟩
def runF (c : Cfg) (l : List SStep) : SRun := l.foldl goStep ⟨(newF c).1, [], []⟩
theorem runF_step (c : Cfg) (l : List SStep) (k : Nat) (d : SStep) (h : k < l.length) : runF c (l.take (k + 1)) = goStep (runF c (l.take k)) (l.getD k d) := by
  unfold runF
  rw [List.take_succ_eq_append_getElem h, List.foldl_append]
  simp [List.getD, h]
theorem begin1 (k : SCore) (id home : Int) (o : SOp) : (beginF k id home o).2.2.1.length ≤ 1 := by
  unfold beginF
  (repeat' split) <;> simp
theorem hear1 (k : SCore) (id home : Int) (m : Msg) : (hearF k id home m).2.2.length ≤ 1 := by
  unfold hearF
  split
  · simp
  · simp only []
    cases (hearL (k.line m.line.toNat) k.wait m).2.2 <;> simp
theorem do1 (x : SChip) (s : SStep) : ((doF x s).2.2 ≠ 0 → (doF x s).1 = SChip.zero ∧ (doF x s).2.1 = []) ∧ (doF x s).2.1.length ≤ 1 := by
  have h1 := begin1 (x.core s.node.toNat) s.node x.cores.length s.op
  have h2 := hear1 (x.core (parseF x.cfg (x.frames.getD s.n.toNat [])).1.to.toNat) (parseF x.cfg (x.frames.getD s.n.toNat [])).1.to x.cores.length (parseF x.cfg (x.frames.getD s.n.toNat [])).1
  unfold doF
  (repeat' split) <;> first | exact ⟨fun h => absurd rfl h, h1⟩ | exact ⟨fun h => absurd rfl h, h2⟩ | exact ⟨fun _ => ⟨rfl, rfl⟩, Nat.zero_le _⟩ | exact ⟨fun h => absurd rfl h, Nat.zero_le _⟩
theorem run_keeps {n L : Nat} {V0 : Nat → Int} : ∀ (l : List SStep) {t : SRun} {V : Nat → Int}, XI n L t.chip V → Plays n L V0 t.done V → ∃ V', XI n L (l.foldl goStep t).chip V' ∧ Plays n L V0 (l.foldl goStep t).done V' ∧ (l.foldl goStep t).ans.length = t.ans.length + l.length ∧ (l.foldl goStep t).done.length ≤ t.done.length + l.length
  | [], t, V, X, P => ⟨V, X, P, by simp, by simp⟩
  | s :: r, t, V, X, P => by
    have h1 := (do1 t.chip s).2
    show ∃ V', XI n L (r.foldl goStep (goStep t s)).chip V' ∧ Plays n L V0 (r.foldl goStep (goStep t s)).done V' ∧ (r.foldl goStep (goStep t s)).ans.length = t.ans.length + (s :: r).length ∧ (r.foldl goStep (goStep t s)).done.length ≤ t.done.length + (s :: r).length
    by_cases h : (doF t.chip s).2.2 = 0
    · obtain ⟨V1, X1, T⟩ := xi_do X h
      have e : (goStep t s).chip = (doF t.chip s).1 := if_pos h
      obtain ⟨V', a, b, c, d⟩ := run_keeps r (t := goStep t s) (V := V1) (by rw [e]; exact X1) (Plays.append T.plays P)
      exact ⟨V', a, b, by rw [c]; simp [goStep]; omega, by refine Nat.le_trans d ?_; simp [goStep]; omega⟩
    · have e : (goStep t s).chip = t.chip := if_neg h
      have e2 : (goStep t s).done = t.done := by simp [goStep, ((do1 t.chip s).1 h).2]
      obtain ⟨V', a, b, c, d⟩ := run_keeps r (t := goStep t s) (V := V) (by rw [e]; exact X) (by rw [e2]; exact P)
      exact ⟨V', a, b, by rw [c]; simp [goStep]; omega, by refine Nat.le_trans d ?_; rw [e2]; simp⟩
theorem run_xi {c : Cfg} (h : (newF c).2 = 0) (l : List SStep) : ∃ (n L : Nat) (V : Nat → Int), c.cores = n ∧ c.lines = L ∧ XI n L (runF c l).chip V ∧ Plays n L (fun _ => 0) (runF c l).done V ∧ (runF c l).ans.length = l.length ∧ (runF c l).done.length ≤ l.length := by
  obtain ⟨n, L, h1, h2, X⟩ := xi_new h
  obtain ⟨V', a, b, c', d⟩ := run_keeps (V0 := fun _ => 0) l (t := ⟨(newF c).1, [], []⟩) (V := fun _ => 0) X (fun _ => rfl)
  exact ⟨n, L, V', h1, h2, a, b, by unfold runF; rw [c']; simp, by unfold runF; exact Nat.le_trans d (by simp)⟩
end Go.Proofs.YtpgeopefamomnaeGreat

