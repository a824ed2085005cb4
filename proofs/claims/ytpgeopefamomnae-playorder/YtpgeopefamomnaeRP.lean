/- DBegin2 DHome DNew. -/
import Derived.Test.YtpgeopefamomnaeRF
import Derived.Test.YtpgeopefamomnaeRE
import Derived.Test.YtpgeopefamomnaePB
import Derived.Test.YtpgeopefamomnaeRD
set_option linter.unusedSimpArgs false
set_option linter.unusedSectionVars false
namespace Go.Proofs.Ytpgeopefamomnae
open Go.RowKit
set_option linter.unusedVariables false
set_option maxRecDepth 100000
def beginV (r : SCore × List Msg × List SDone × Int) : AV := .tup [.agg (coreC (rowsL r.1.lines) r.1.wait), Ro (R msgD r.2.1), Ro (R dnD r.2.2.1), V r.2.2.2]
def noV (e : Int) : AV := .tup [.agg [.d (.row []), I 0, I 0, I 0], Ro [], Ro [], V e]
section
variable (L : Row) (w o : SOp) (id home : Int)
set_option maxHeartbeats 4000000
variable (h1 : 1 ≤ o.kind) (h4 : o.kind ≤ 4)
include h1 h4
variable (h5 : 0 ≤ o.line) (h6 : o.line < (L.length : Int)) (h7 : 0 ≤ o.value) (h8 : o.value ≤ 255) (l : SLine) (hg : L.getD o.line.toNat [] = lineD l)
include h5 h6 h7 h8 hg
end
theorem rowsL_set (ls : List SLine) (i : Nat) (x : SLine) : (rowsL ls).set i (lineD x) = rowsL (ls.set i x) := by simp [rowsL, List.map_set]
end Go.Proofs.Ytpgeopefamomnae

namespace Go.Proofs.Ytpgeopefamomnae
open Go.RowKit
set_option linter.unusedVariables false
set_option maxRecDepth 100000
structure HomeOK (e : SEntry) : Prop where
  sh : 0 ≤ e.sharers ∧ e.sharers < 16
  nd : 0 ≤ e.need ∧ e.need < 16
  ow : e.owner < 4
  fo : 0 ≤ e.forr ∧ e.forr < 4
  la : e.last.length ≤ 4
  tu : 0 ≤ e.turn
end Go.Proofs.Ytpgeopefamomnae

namespace Go.Proofs.Ytpgeopefamomnae
open Go.RowKit
set_option linter.unusedVariables false
set_option maxRecDepth 100000
def coreD (c : SCore) : List DV := [.row (rowsL c.lines), J c.wait.kind, J c.wait.line, J c.wait.value]
def chipC (x : SChip) : List CV := [.d (.row (R coreD x.cores)), .d (.row (R entD x.home)), .d (.row (framesD x.frames))]
end Go.Proofs.Ytpgeopefamomnae

