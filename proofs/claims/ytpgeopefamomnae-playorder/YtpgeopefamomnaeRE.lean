/- DRef8 DRef10 DRef9. -/
import Derived.Test.YtpgeopefamomnaeRD
import Derived.Test.YtpgeopefamomnaePA
import Derived.Test.YtpgeopefamomnaePG
set_option linter.unusedSimpArgs false
set_option linter.unusedSectionVars false
namespace Go.Proofs.Ytpgeopefamomnae
open Go.RowKit
set_option linter.unusedVariables false
set_option maxRecDepth 100000
def Vb (b : Bool) : AV := .c (.d (.bool b))
theorem bool_eq {x y : Bool} (h : x = y) : Vb x = Vb y := by rw [h]
end Go.Proofs.Ytpgeopefamomnae

namespace Go.Proofs.Ytpgeopefamomnae
open Go.RowKit
set_option linter.unusedVariables false
set_option maxRecDepth 100000
def entD (e : SEntry) : List DV := [J e.value, J e.owner, J e.sharers, J e.phase, J e.forr, J e.serial, .bool e.alone, J e.turn, J e.need, .row (rowsI e.last)]
def clr (e : SEntry) (line id : Int) (k : Nat) : List Msg := ((List.range k).filter (fun p => hasF e.need p)).map (fun p => saysTo e line id 4 (p : Nat))
theorem clr_step (e : SEntry) (line id : Int) (k : Nat) : clr e line id (k + 1) = clr e line id k ++ (if hasF e.need k = true then [saysTo e line id 4 (k : Nat)] else []) := by
  unfold clr
  rw [List.range_succ, List.filter_append, List.map_append]
  congr 1
  by_cases h : hasF e.need k = true <;> simp [h]
theorem clr_len (e : SEntry) (line id : Int) (k : Nat) : (clr e line id k).length ≤ k := by
  unfold clr
  rw [List.length_map]
  have := List.length_filter_le (fun p => hasF e.need p) (List.range k)
  rw [List.length_range] at this
  exact this
end Go.Proofs.Ytpgeopefamomnae

namespace Go.Proofs.Ytpgeopefamomnae
open Go.RowKit
set_option linter.unusedVariables false
set_option maxRecDepth 100000
theorem timer_snoc (id home : Int) (l : SLine) : ∀ (a : List SLine) (i : Nat), timerFrom id home i (a ++ [l]) = timerFrom id home i a ++ (if l.want = 0 then [] else [asksF l id home ((i + a.length : Nat) : Int)])
  | [], i => by simp [timerFrom]
  | b :: r, i => by
    rw [List.cons_append]
    unfold timerFrom
    rw [timer_snoc id home l r (i + 1), List.append_assoc]
    simp only [List.length_cons]
    rw [show i + 1 + r.length = i + (r.length + 1) by omega]
def tmr (id home : Int) (ls : List SLine) (k : Nat) : List Msg := timerFrom id home 0 (ls.take k)
theorem tmr_step (id home : Int) {ls : List SLine} {k : Nat} (h : k < ls.length) : tmr id home ls (k + 1) = tmr id home ls k ++ (if (ls.getD k line0).want = 0 then [] else [asksF (ls.getD k line0) id home (k : Nat)]) := by
  unfold tmr
  rw [take_snoc ls k line0 h, timer_snoc, List.length_take, show 0 + min k ls.length = k by omega]
theorem tmr_len (id home : Int) (ls : List SLine) : ∀ k, k ≤ ls.length → (tmr id home ls k).length ≤ k
  | 0, _ => by simp [tmr, timerFrom]
  | k + 1, h => by
    rw [tmr_step id home h, List.length_append]
    have := tmr_len id home ls k (by omega)
    split <;> simp <;> omega
theorem ask_row (l : SLine) (id home : Int) (k : Nat) (v : Int) (hv : v = if l.want = 3 then l.value else 0) : [J l.want, J id, J home, J (k : Nat), J l.serial, J 0, J v, .bool false] = msgD (asksF l id home (k : Nat)) := by
  subst hv
  rfl
end Go.Proofs.Ytpgeopefamomnae

