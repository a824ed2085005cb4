/- What package flat and the document both speak of: operations as values. No function of a package in it. -/
import Derived.Test.YtmlpekoombikaabInts
import Derived.Test.YtmlpekoombikaabFlatM
namespace Go.Proofs.Ytmlpekoombikaab
set_option maxRecDepth 100000
open Go.RowKit
set_option linter.unusedVariables false
set_option linter.unusedSimpArgs false

def SOp.val (o : SOp) : Value := .agg #[.int .i64 o.kind, .int .i64 o.line, .int .i64 o.value]
/-- Numbers that ints can have. -/
def SOp.fits (o : SOp) : Prop := (-9223372036854775808 ≤ o.kind ∧ o.kind ≤ 9223372036854775807) ∧ (-9223372036854775808 ≤ o.line ∧ o.line ≤ 9223372036854775807) ∧ (-9223372036854775808 ≤ o.value ∧ o.value ≤ 9223372036854775807)

theorem fret_int {k : IntKind} {a b : Int} (h : a = b) : Ending.returned (.int k a) = .returned (.int k b) := by rw [h]
theorem fret_3 {a a' b b' c c' : Value} (h1 : a = a') (h2 : b = b') (h3 : c = c') : Ending.returned (.tuple #[a, b, c]) = .returned (.tuple #[a', b', c']) := by rw [h1, h2, h3]
theorem flatW_1 {n : Nat} {o : SOp} (h : o.kind < 1 ∨ 4 < o.kind) : flatW n o = 1 := by unfold flatW; rw [if_pos h]
theorem flatW_3 {n : Nat} {o : SOp} (h : 1 ≤ o.kind ∧ o.kind ≤ 4) (h1 : o.line < 0 ∨ (n : Int) ≤ o.line ∨ o.value < 0 ∨ 255 < o.value) : flatW n o = 3 := by unfold flatW; rw [if_neg (by omega), if_pos h1]
theorem flatW_0 {n : Nat} {o : SOp} (h : 1 ≤ o.kind ∧ o.kind ≤ 4) (h1 : 0 ≤ o.line ∧ o.line < n ∧ 0 ≤ o.value ∧ o.value ≤ 255) : flatW n o = 0 := by unfold flatW; rw [if_neg (by omega), if_neg (by omega)]
theorem tell_bd {x : Int} {o : SOp} (hx : -9223372036854775808 ≤ x ∧ x ≤ 9223372036854775807) (h5 : 0 ≤ o.value) (h6 : o.value ≤ 255) : -9223372036854775808 ≤ (tellF x o).1 ∧ (tellF x o).1 ≤ 9223372036854775807 := by
  unfold tellF
  split
  · exact hx
  · split
    · simp only; omega
    · split
      · simp only; omega
      · exact hx
end Go.Proofs.Ytmlpekoombikaab
