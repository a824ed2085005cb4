/- Memory that is one (chapter 3) in plain numbers. No program in it. -/
import Derived.Test.YtmlpekoombikaabProto
namespace Go.Proofs.Ytmlpekoombikaab
set_option maxRecDepth 100000
set_option linter.unusedVariables false
set_option linter.unusedSimpArgs false

/-- What is wrong with an operation on memory of n lines. -/
def flatW (n : Nat) (o : SOp) : Int :=
  if o.kind < 1 ∨ 4 < o.kind then 1 else if o.line < 0 ∨ (n : Int) ≤ o.line ∨ o.value < 0 ∨ 255 < o.value then 3 else 0
/-- One by one, from m on: memory then, and -1; or memory ahead of the first one that can't be, and which one that is. -/
def playFrom (m : List Int) (i : Int) : List SDone → List Int × Int
  | [] => (m, -1)
  | d :: r => if (flatDo m d.op).2.2 ≠ 0 ∨ (flatDo m d.op).2.1 ≠ d.value then (m, i) else playFrom (flatDo m d.op).1 (i + 1) r

theorem flatW_ok {n : Nat} {o : SOp} (h : flatW n o = 0) : 1 ≤ o.kind ∧ o.kind ≤ 4 ∧ 0 ≤ o.line ∧ o.line < n ∧ 0 ≤ o.value ∧ o.value ≤ 255 := by
  unfold flatW at h
  split at h
  · cases h
  · split at h
    · cases h
    · omega
theorem flatDo_ok {m : List Int} {o : SOp} (h : flatW m.length o = 0) : flatDo m o = (m.set o.line.toNat (tellF (m.getD o.line.toNat 0) o).1, (tellF (m.getD o.line.toNat 0) o).2, 0) := by
  obtain ⟨h1, h2, h3, h4, h5, h6⟩ := flatW_ok h
  unfold flatDo
  rw [if_neg (by omega), if_neg (by omega)]
theorem flatDo_no {m : List Int} {o : SOp} (h : flatW m.length o ≠ 0) : flatDo m o = ([], 0, flatW m.length o) := by
  unfold flatDo flatW at *
  split
  · rfl
  · split
    · rfl
    · rename_i h1 h2
      rw [if_neg h1, if_neg h2] at h
      exact absurd rfl h
theorem flatDo_err (m : List Int) (o : SOp) : (flatDo m o).2.2 = flatW m.length o := by
  by_cases h : flatW m.length o = 0
  · rw [flatDo_ok h, h]
  · rw [flatDo_no h]
theorem flatDo_length {m : List Int} {o : SOp} (h : (flatDo m o).2.2 = 0) : (flatDo m o).1.length = m.length := by
  rw [flatDo_err] at h
  rw [flatDo_ok h]
  simp
theorem playFrom_length : ∀ (l : List SDone) (m : List Int) (i : Int), (playFrom m i l).1.length = m.length
  | [], m, i => rfl
  | d :: r, m, i => by
    unfold playFrom
    split
    · rfl
    · rename_i h
      rw [playFrom_length r, flatDo_length (by omega)]
end Go.Proofs.Ytmlpekoombikaab
