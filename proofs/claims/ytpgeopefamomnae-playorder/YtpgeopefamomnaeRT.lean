/- DDo4 DBuild BTabs. -/
import Derived.Test.YtpgeopefamomnaeRR
import Derived.Test.YtpgeopefamomnaePG
set_option linter.unusedSimpArgs false
set_option linter.unusedSectionVars false
namespace Go.Proofs.Ytpgeopefamomnae
open Go.RowKit
set_option linter.unusedVariables false
set_option maxRecDepth 100000
theorem takeF_in {fs : List (List Nat)} {i : Nat} (h : i < fs.length) : takeF fs i = (fs.eraseIdx i, fs.getD i [], 0) := by
  unfold takeF
  rw [if_pos ⟨Int.natCast_nonneg _, by omega⟩, Int.toNat_natCast]
section
variable {n L : Nat} {x : SChip} {V' : Nat → Int} (X : XI n L x V')
include X
set_option maxHeartbeats 4000000
end
end Go.Proofs.Ytpgeopefamomnae

namespace Go.Proofs.Ytpgeopefamomnae
open Go.RowKit
set_option linter.unusedVariables false
set_option maxRecDepth 100000
section
variable (c : Cfg)
set_option maxHeartbeats 4000000
end
def newT (xs : List AV) (l0 : List (Nat × OS)) : Ans := match xs, l0 with
  | [.agg [.d (.int .i64 a), .d (.int .i64 b)]], [] => some (True, .tup [.agg (chipC (newF ⟨a, b⟩).1), V (newF ⟨a, b⟩).2], [])
  | _, _ => none
def coreOf (u : List DV) : SCore := ⟨linesR (u.getD 0 dz).toR, ⟨toI0 u 1, toI0 u 2, toI0 u 3⟩⟩
def coresR (es : Row) : List SCore := es.map coreOf
theorem coresR_rows (l : List SCore) : coresR (R coreD l) = l := by
  unfold coresR R
  rw [List.map_map]
  exact List.map_id'' (f := coreOf ∘ coreD) (fun c => by
    show (⟨linesR (rowsL c.lines), ⟨c.wait.kind, c.wait.line, c.wait.value⟩⟩ : SCore) = c
    rw [linesR_rows]) l
def SStep.zero : SStep := ⟨0, 0, 0, 0, SOp.zero⟩
def stepD (s : SStep) : List DV := [J s.kind, J s.node, J s.n, J s.bit, J s.op.kind, J s.op.line, J s.op.value]
end Go.Proofs.Ytpgeopefamomnae

namespace Go.Proofs.Ytpgeopefamomnae
open Go.RowKit
set_option linter.unusedVariables false
set_option linter.unusedSimpArgs false
set_option maxRecDepth 100000
def stepOf (u : List DV) : SStep := ⟨toI0 u 0, toI0 u 1, toI0 u 2, toI0 u 3, ⟨toI0 u 4, toI0 u 5, toI0 u 6⟩⟩
def stepsR (es : Row) : List SStep := es.map stepOf
theorem stepsR_rows (l : List SStep) : stepsR (R stepD l) = l := by
  unfold stepsR R
  rw [List.map_map]
  exact List.map_id'' (f := stepOf ∘ stepD) (fun _ => rfl) l
/-- What a chip is that is built. -/
theorem built (c : Cfg) (l : List SStep) : (∃ (n L : Nat) (V : Nat → Int), c.cores = n ∧ c.lines = L ∧ XI n L (buildF c l).1 V) ∨ (buildF c l).1.cores = [] := by
  by_cases h : (newF c).2 = 0
  · obtain ⟨n, L, V, h1, h2, X, _⟩ := xi_build (l := l) h
    exact .inl ⟨n, L, V, h1, h2, X⟩
  · right
    have hb : buildF c l = ((newF c).1, []) := if_neg h
    rw [hb]
    unfold newF at h ⊢
    by_cases k : c.cores < 1 ∨ 4 < c.cores ∨ c.lines < 1 ∨ 4 < c.lines
    · rw [if_pos k]; rfl
    · rw [if_neg k] at h; exact absurd rfl h
end Go.Proofs.Ytpgeopefamomnae

