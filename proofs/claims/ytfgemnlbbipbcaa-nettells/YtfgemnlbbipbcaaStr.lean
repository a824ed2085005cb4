/- A slice of bytes, turned into a string. -/
import Derived.Test.YtfgemnlbbipbcaaTurn
import Derived.Laws.BytesArg
namespace Go.Proofs.Ytfgemnlbbipbcaa
open Go.RowKit
set_option linter.unusedVariables false
set_option linter.unusedSimpArgs false

def strOf (Y : List Nat) : ByteArray := strOfNums (Y.map fun (x : Nat) => (x : Int))
theorem conv_row (w : World) (g : Nat) (Y : List Nat) (hn : Y.length = 12) (h : BRow w g 0 Y) : (convert 26 9 (.slice (some ⟨g, 0, none⟩) 12 12)).run Try.prog w = .ok (.string (strOf Y)) w :=
  run_convert_bytes_arg w 26 5 Try.underlying26 Try.underlying5 g 0 12 12 (Y.map fun (x : Nat) => (x : Int)) (by simpa using hn) (fun i hi => by
    rw [h i (by omega)]
    simp [List.getD, show i < Y.length by omega]) 9 Try.underlying9

theorem conv_sl (w : World) (a : Option Addr) (cap : Nat) (xs : List Nat) (h : BSl w a xs) : (convert 26 9 (.slice a xs.length cap)).run Try.prog w = .ok (.string (strOf xs)) w := by
  by_cases hx : xs = []
  · subst hx
    rw [List.length_nil, run_convert_bytes_string w 26 9 5 _ 0 cap Try.underlying26 Try.underlying5 Try.underlying9]
    cases a <;> simp [Conv.bytesToString, loadCells]
    all_goals rfl
  · obtain ⟨b, off, rfl, hrow⟩ := h.2 hx
    exact run_convert_bytes_arg w 26 5 Try.underlying26 Try.underlying5 b off xs.length cap (xs.map fun (x : Nat) => (x : Int)) (by simp) (fun i hi => by
      rw [hrow i hi]
      simp [List.getD, hi]) 9 Try.underlying9
end Go.Proofs.Ytfgemnlbbipbcaa
