/- HHomes. -/
import Derived.Test.YtpgeopefamomnaeGreatRR
import Derived.Test.YtpgeopefamomnaeGreatRF
import Derived.Test.YtpgeopefamomnaeGreatRE
set_option linter.unusedSimpArgs false
set_option linter.unusedSectionVars false
namespace Go.Proofs.YtpgeopefamomnaeGreat
open Go.RowKit
set_option linter.unusedVariables false
set_option linter.unusedSimpArgs false
set_option maxRecDepth 100000
/-- A home with entries in range. -/
def Homes (l : List SEntry) : Prop := l.length ≤ 1000 ∧ ∀ e ∈ l, HomeOK e
theorem Homes.la {l : List SEntry} (h : Homes l) : ∀ e ∈ l, e.last.length ≤ 1000 := fun e he => Nat.le_trans (h.2 e he).la (by decide)
theorem Homes.at {l : List SEntry} (h : Homes l) (i : Int) (h0 : 0 ≤ i) (h1 : i < l.length) : HomeOK (l.getD i.toNat SEntry.zero) := by
  have hi : i.toNat < l.length := by omega
  exact h.2 _ (by simp [List.getD, hi])
theorem homes_xi {n L : Nat} {x : SChip} {V : Nat → Int} (X : XI n L x V) : Homes x.home := by
  have hh := X.nh
  have hl4 := X.l4
  refine ⟨by omega, fun e he => ?_⟩
  obtain ⟨j, hj, rfl⟩ := List.getElem_of_mem he
  have h := home_ok2 X (j := j) (by omega)
  have e1 : x.entry j = x.home[j] := by simp [SChip.entry, List.getD, hj]
  rw [e1] at h
  exact h
end Go.Proofs.YtpgeopefamomnaeGreat

