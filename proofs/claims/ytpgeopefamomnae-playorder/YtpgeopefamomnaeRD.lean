/- DRef6 DRef7. -/
import Derived.Test.YtpgeopefamomnaeRB
import Derived.Test.YtpgeopefamomnaePG
set_option linter.unusedSimpArgs false
set_option linter.unusedSectionVars false
namespace Go.Proofs.Ytpgeopefamomnae
open Go.RowKit
set_option linter.unusedVariables false
set_option maxRecDepth 100000
def frameD (f : List Nat) : List DV := [.row (rowB f)]
def framesD (fs : List (List Nat)) : List (List DV) := R frameD fs
theorem framesD_len (fs : List (List Nat)) : (framesD fs).length = fs.length := R_len _ _
theorem framesD_get {fs : List (List Nat)} {k : Nat} (h : k < fs.length) : (framesD fs).getD k [] = [.row (rowB (fs.getD k []))] := R_get frameD [] h
end Go.Proofs.Ytpgeopefamomnae

namespace Go.Proofs.Ytpgeopefamomnae
open Go.RowKit
set_option linter.unusedVariables false
set_option maxRecDepth 100000
def bytesT (xs : List AV) (l0 : List (Nat × OS)) : Ans := match xs, l0 with
  | [.agg [.d (.int .i64 k), .d (.int .i64 f), .d (.int .i64 t), .d (.int .i64 l), .d (.int .i64 s), .d (.int .i64 u), .d (.int .i64 v), .d (.bool z)]], [] => some (Fit ⟨k, f, t, l, s, u, v, z⟩, Ro (rowB (bytesF ⟨k, f, t, l, s, u, v, z⟩)), [])
  | _, _ => none
theorem way_step (fs : List (List Nat)) {ms : List Msg} {k : Nat} (d : Msg) (h : k < ms.length) : wayF fs (ms.take (k + 1)) = sendB (wayF fs (ms.take k)) (bytesF (ms.getD k d)) := by
  unfold wayF
  rw [take_snoc ms k d h, List.foldl_append]
  rfl
def msg0 : Msg := ⟨0, 0, 0, 0, 0, 0, 0, false⟩
end Go.Proofs.Ytpgeopefamomnae

