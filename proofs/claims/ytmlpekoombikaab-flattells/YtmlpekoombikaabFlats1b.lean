/- Slices of what is done. -/
import Derived.Test.YtmlpekoombikaabFlatsb
namespace Go.Proofs.Ytmlpekoombikaab
set_option maxRecDepth 100000
open Go.RowKit
set_option linter.unusedVariables false
set_option linter.unusedSimpArgs false

def SDone.zero : SDone := ⟨0, ⟨0, 0, 0⟩, 0⟩
def SDone.val (d : SDone) : Value := .agg #[.int .i64 d.core, .int .i64 d.op.kind, .int .i64 d.op.line, .int .i64 d.op.value, .int .i64 d.value]
def DRow (w : World) (b off : Nat) (l : List SDone) : Prop := ∀ i, i < l.length → w.cell? ⟨b, off + i * 5, none⟩ = some (.int .i64 (l.getD i SDone.zero).core) ∧ w.cell? ⟨b, off + i * 5 + 1, none⟩ = some (.int .i64 (l.getD i SDone.zero).op.kind) ∧
  w.cell? ⟨b, off + i * 5 + 2, none⟩ = some (.int .i64 (l.getD i SDone.zero).op.line) ∧ w.cell? ⟨b, off + i * 5 + 3, none⟩ = some (.int .i64 (l.getD i SDone.zero).op.value) ∧ w.cell? ⟨b, off + i * 5 + 4, none⟩ = some (.int .i64 (l.getD i SDone.zero).value)
/-- a is where a slice with the operations l, that are done, begins. -/
def DSl (w : World) (a : Option Addr) (l : List SDone) : Prop := l ≠ [] → ∃ b off, a = some ⟨b, off, none⟩ ∧ DRow w b off l
theorem DRow.below {w w' : World} {b off : Nat} {l : List SDone} (h : DRow w b off l) (hb : Below w.heap.size w w') : DRow w' b off l := fun i hi => by
  obtain ⟨h1, h2, h3, h4, h5⟩ := h i hi
  have hlt := World.block_lt_of_cell? w _ h1
  refine ⟨?_, ?_, ?_, ?_, ?_⟩ <;> (rw [hb.cell (by exact hlt)]; assumption)
theorem DSl.below {w w' : World} {a : Option Addr} {l : List SDone} (h : DSl w a l) (hb : Below w.heap.size w w') : DSl w' a l := fun hx => by
  obtain ⟨b, off, h1, h2⟩ := h hx; exact ⟨b, off, h1, h2.below hb⟩
theorem DSl.at {w : World} {a : Option Addr} {l : List SDone} (h : DSl w a l) (i : Nat) (hi : i < l.length) : ∃ b off, a = some ⟨b, off, none⟩ ∧ b < w.heap.size ∧ w.cell? ⟨b, off + i * 5, none⟩ = some (.int .i64 (l.getD i SDone.zero).core) ∧ w.cell? ⟨b, off + i * 5 + 1, none⟩ = some (.int .i64 (l.getD i SDone.zero).op.kind) ∧
    w.cell? ⟨b, off + i * 5 + 2, none⟩ = some (.int .i64 (l.getD i SDone.zero).op.line) ∧ w.cell? ⟨b, off + i * 5 + 3, none⟩ = some (.int .i64 (l.getD i SDone.zero).op.value) ∧ w.cell? ⟨b, off + i * 5 + 4, none⟩ = some (.int .i64 (l.getD i SDone.zero).value) := by
  obtain ⟨b, off, e, hc⟩ := h (by intro e; subst e; simp at hi)
  obtain ⟨h1, h2, h3, h4, h5⟩ := hc i hi
  exact ⟨b, off, e, World.block_lt_of_cell? w _ h1, h1, h2, h3, h4, h5⟩
theorem drop_at {l : List SDone} {k : Nat} (h : k < l.length) : l.drop k = l.getD k SDone.zero :: l.drop (k + 1) := by
  rw [List.drop_eq_getElem_cons h]
  simp [List.getD, h]
end Go.Proofs.Ytmlpekoombikaab
