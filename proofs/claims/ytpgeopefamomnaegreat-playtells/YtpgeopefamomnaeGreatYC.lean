/- POrder. -/
import Derived.Test.YtpgeopefamomnaeGreatYB
set_option linter.unusedSimpArgs false
set_option linter.unusedSectionVars false
namespace Go.Proofs.YtpgeopefamomnaeGreat
open Go.RowKit
set_option linter.unusedVariables false
set_option linter.unusedSimpArgs false
set_option maxRecDepth 100000
theorem run_more (t : SRun) : ∀ l : List SStep, ∃ a d, (l.foldl goStep t).ans = t.ans ++ a ∧ (l.foldl goStep t).done = t.done ++ d
  | [] => ⟨[], [], by simp, by simp⟩
  | s :: r => by
    obtain ⟨a, d, h1, h2⟩ := run_more (goStep t s) r
    refine ⟨[⟨(doF t.chip s).2.2, ((doF t.chip s).2.1.length : Nat)⟩] ++ a, (doF t.chip s).2.1 ++ d, ?_, ?_⟩
    · show (r.foldl goStep (goStep t s)).ans = _
      rw [h1]
      simp [goStep]
    · show (r.foldl goStep (goStep t s)).done = _
      rw [h2]
      simp [goStep]
theorem run_parts (c : Cfg) (l : List SStep) (n : Nat) : ∃ a d, (runF c l).ans = (runF c (l.take n)).ans ++ a ∧ (runF c l).done = (runF c (l.take n)).done ++ d := by
  obtain ⟨a, d, h1, h2⟩ := run_more (runF c (l.take n)) (l.drop n)
  have e : runF c l = (l.drop n).foldl goStep (runF c (l.take n)) := by
    unfold runF
    rw [← List.foldl_append, List.take_append_drop]
  exact ⟨a, d, by rw [e]; exact h1, by rw [e]; exact h2⟩
theorem getD_mid {α : Type} (a : List α) (x : α) (b : List α) (k : Nat) (h : a.length = k) (d : α) : ((a ++ [x]) ++ b).getD k d = x := by
  subst h
  simp [List.getD]
end Go.Proofs.YtpgeopefamomnaeGreat

