/- One step as the claim's form reads it. -/
import Derived.Test.YtpgeopefamomnacGreatAA
namespace Go.Proofs.YtpgeopefamomnacGreat
set_option maxRecDepth 100000
open Go.ChangeShapes Go.WideShapes Go.ChangeAt Go.RowKit
set_option linter.unusedVariables false
set_option linter.unusedSimpArgs false

theorem open_step_bit {H : Type} {enc : TypeId × Value → H} {w : World} {base fuel : Nat} {spare : Nat → Bool} {held : Bool} {cs : List Value} {y : DataW H × List MemPlace} (hl : cs.length = 7)
    (h : DataW.trod enc Tryz.prog w base spare held fuel 28 cs = some y) : ∃ x : SStep, cs = stepVals x ∧ x.bit < 9223372036854775808 := by
  obtain ⟨x, hx⟩ := open_step_cells hl h
  refine ⟨x, hx, ?_⟩
  subst hx
  obtain ⟨xs, n, _, _, _, hlen, hel⟩ := DataW.trod_struct Tryz.underlying28 h
  obtain ⟨y3, z3⟩ := some_of_len (i := 3) hlen (by decide)
  have h3 : DataW.trod enc Tryz.prog w base spare held n 3 (List.take (Tryz.prog.cellsOf 3) (List.drop 3 (stepVals x))) = some y3 := (hel 3 _ rfl).trans z3
  rw [cellsInt] at h3
  have h4 : DataW.trod enc Tryz.prog w base spare held n 3 [.int .i64 x.bit] = some y3 := h3
  obtain ⟨b, e3, _, w3⟩ := DataW.trod_int Tryz.underlying3 h4
  simp only [List.cons.injEq, and_true, Value.int.injEq, true_and] at e3
  have := int_bounds w3
  omega
theorem open_step {H : Type} {enc : TypeId × Value → H} {w : World} {r : Reach} {b0 base : Nat} {spare : Nat → Bool} {held : Bool} {v : Value} {d : DataW H} {p : List MemPlace}
    (hv : Value.okWide Tryz.prog w r b0 28 v) (h : DataW.Trod enc Tryz.prog w base spare held 28 v d p) : ∃ x : SStep, v = .agg (stepVals x).toArray ∧ x.bit < 9223372036854775808 := by
  obtain ⟨cs, rfl, hsz⟩ := okWide_struct Tryz.underlying28 hv
  rw [cellsStep] at hsz
  obtain ⟨fuel, hf⟩ := h
  obtain ⟨l⟩ := cs
  obtain ⟨x, hx, hb⟩ := open_step_bit (cs := l) hsz hf
  exact ⟨x, by rw [hx], hb⟩
theorem one_step_rep {w : World} (s : SStep) : RepA w no noMu (.agg (stepC s)) (.agg (stepVals s).toArray) := ⟨_, rfl, All2.cons (ki _) (All2.cons (ki _) (All2.cons (ki _) (All2.cons (ki _) (All2.cons (ki _) (All2.cons (ki _) (All2.cons (ki _) All2.nil))))))⟩
end Go.Proofs.YtpgeopefamomnacGreat
