/-
  No cell of these rows narrows 'for every input' (looked for: loops, veiled, ifaces, maps, wideKeys, modest, calm, conditions, laid).
  DERIVED. THE GIVEN ROWS OF THIS SEAT. 3 by the template 'for every input the law returns true; each argument reads behind the call as it read before'; 0 by the template 'total and deterministic' (their statements: YtpgeopefamomnacGreatTotals.lean).
  GIVEN WITH THE SEED: the statements are not yours to turn. If you find one false, say at which input.
  Laid BY PROGRAM, IN A SANDBOX (cutbox-rows.mjs): the forced cells as the released guide's own fill.sh prints them over the translation c81a3e019c648d58… (all of the seat's roots in one cut). By AI agents, Wed Nov 11 2026. No macro, syntax, notation, axiom, sorry.
-/
import Derived.Test.YtpgeopefamomnacGreatChecked
import GoSem.Claim
import GoSem.ClaimJoined
import GoSem.ClaimMapViews
import Derived.JoinedTies
import Derived.KernelRfl
namespace Go.Proofs.YtpgeopefamomnacGreat
/- THE CELL 'sum', in the pinned program and in every row, IS THE sha256 OF THE DUMP (.gsa) THAT YtpgeopefamomnacGreatProg.lean LOADS. Nothing in Lean hashes anything: it is a label: what it is worth is what the hold of that sum in a sandbox is worth. -/
noncomputable def Tryz.pinned : Pinned := { name := "ytpgeopefamomnacgreat", sum := "c81a3e019c648d58c748e6d3ce1a09ac4332e2fac752f9805934ad2e19070bbf", checked := Tryz.checked }
namespace Rows
def none {H : Type} : Left H := { results := [], args := [] }

/-- 'shlaw6.ChipTells': WHATEVER THE INPUT: true; the input reads as it did. -/
def chipTellsSpec : ChangeSpec := { name := "chipTells", fn := fun _ => fun
  | [d1, d2, d3] => { results := [.lit (.bool true)], args := [d1, d2, d3] }
  | _ => none }
def chipTellsRow : OpenClaim := { program := "ytpgeopefamomnacgreat", sum := "c81a3e019c648d58c748e6d3ce1a09ac4332e2fac752f9805934ad2e19070bbf", func := "sharedhearth/shlaw6.ChipTells", spec := "chipTells", unfollowed := true, recurses := true, apart := false }
def ChipTellsSaid : Prop := chipTellsRow.holds Tryz.pinned (OpenSpec.ofChange chipTellsSpec)

/-- ITS FALSE NEIGHBOUR: 'it returns false'. Refute it at one input. -/
def chipTellsWrong : ChangeSpec := { name := "chipTells", fn := fun _ => fun
  | [d1, d2, d3] => { results := [.lit (.bool false)], args := [d1, d2, d3] }
  | _ => none }
def ChipTellsWrongFalsely : Prop := chipTellsRow.holds Tryz.pinned (OpenSpec.ofChange chipTellsWrong)

/-- 'shlaw6.ChipSpoilt': WHATEVER THE INPUT: true; the input reads as it did. -/
def chipSpoiltSpec : ChangeSpec := { name := "chipSpoilt", fn := fun _ => fun
  | [d1, d2, d3, d4] => { results := [.lit (.bool true)], args := [d1, d2, d3, d4] }
  | _ => none }
def chipSpoiltRow : OpenClaim := { program := "ytpgeopefamomnacgreat", sum := "c81a3e019c648d58c748e6d3ce1a09ac4332e2fac752f9805934ad2e19070bbf", func := "sharedhearth/shlaw6.ChipSpoilt", spec := "chipSpoilt", unfollowed := true, recurses := true, apart := false }
def ChipSpoiltSaid : Prop := chipSpoiltRow.holds Tryz.pinned (OpenSpec.ofChange chipSpoiltSpec)

/-- ITS FALSE NEIGHBOUR: 'it returns false'. Refute it at one input. -/
def chipSpoiltWrong : ChangeSpec := { name := "chipSpoilt", fn := fun _ => fun
  | [d1, d2, d3, d4] => { results := [.lit (.bool false)], args := [d1, d2, d3, d4] }
  | _ => none }
def ChipSpoiltWrongFalsely : Prop := chipSpoiltRow.holds Tryz.pinned (OpenSpec.ofChange chipSpoiltWrong)

/-- 'shlaw6.ChipTwice': WHATEVER THE INPUT: true; the input reads as it did. -/
def chipTwiceSpec : ChangeSpec := { name := "chipTwice", fn := fun _ => fun
  | [d1, d2, d3] => { results := [.lit (.bool true)], args := [d1, d2, d3] }
  | _ => none }
def chipTwiceRow : OpenClaim := { program := "ytpgeopefamomnacgreat", sum := "c81a3e019c648d58c748e6d3ce1a09ac4332e2fac752f9805934ad2e19070bbf", func := "sharedhearth/shlaw6.ChipTwice", spec := "chipTwice", unfollowed := true, recurses := true, apart := false }
def ChipTwiceSaid : Prop := chipTwiceRow.holds Tryz.pinned (OpenSpec.ofChange chipTwiceSpec)

/-- ITS FALSE NEIGHBOUR: 'it returns false'. Refute it at one input. -/
def chipTwiceWrong : ChangeSpec := { name := "chipTwice", fn := fun _ => fun
  | [d1, d2, d3] => { results := [.lit (.bool false)], args := [d1, d2, d3] }
  | _ => none }
def ChipTwiceWrongFalsely : Prop := chipTwiceRow.holds Tryz.pinned (OpenSpec.ofChange chipTwiceWrong)

/- THE SECOND FORM. 'bulk': how many values and letters a reading holds, each counted each time it is reached (what is shared counts as often as it is met; a slice's spare places count too). A statement '..UptoSaid' is the law's where the arguments, and the package variables that the reading takes, are together of bulk at most 1048576: NARROWER than '..Said'. Prove '..Said' where nothing that the law and all that it calls make is longer than what came in: it says more and counts as full. Else prove '..UptoSaid'. A law counts once. -/
mutual
def uptoBulk {H : Type} : DataW H → Nat
  | .lit (.string bytes) => bytes.length + 1
  | .lit _ => 1
  | .nil => 1
  | .ptr d => uptoBulk d + 1
  | .slice elems spare => uptoBulkAll elems + uptoBulkAll spare + 1
  | .agg parts => uptoBulkAll parts + 1
  | .iface _ d => uptoBulk d + 1
  | .map entries => uptoBulkEntries entries + 1
  | .held _ => 1
def uptoBulkAll {H : Type} : List (DataW H) → Nat
  | [] => 0
  | d :: r => uptoBulk d + uptoBulkAll r
def uptoBulkEntries {H : Type} : List (Lit × DataW H) → Nat
  | [] => 0
  | x :: r => uptoBulkEntry x + uptoBulkEntries r
def uptoBulkEntry {H : Type} : Lit × DataW H → Nat
  | (.string bytes, d) => bytes.length + uptoBulk d + 1
  | (_, d) => uptoBulk d + 1
 end
def uptoSmall : (H : Type) → List (DataW H) → Bool := fun _ ds => decide (uptoBulkAll ds ≤ 1048576)
def OpenSpec.upto (s : _root_.Go.ChangeSpec) : _root_.Go.OpenSpec := { _root_.Go.OpenSpec.ofChange s with cond := some uptoSmall }

/-- 'shlaw6.ChipTells', WHERE WHAT IT READS IS OF BULK AT MOST 1048576: true; the input reads as it did. -/
def chipTellsUptoRow : OpenClaim := { program := "ytpgeopefamomnacgreat", sum := "c81a3e019c648d58c748e6d3ce1a09ac4332e2fac752f9805934ad2e19070bbf", func := "sharedhearth/shlaw6.ChipTells", spec := "chipTells", unfollowed := true, recurses := true, apart := false, narrowed := true }
def ChipTellsUptoSaid : Prop := chipTellsUptoRow.holds Tryz.pinned (OpenSpec.upto chipTellsSpec)

/-- 'shlaw6.ChipSpoilt', WHERE WHAT IT READS IS OF BULK AT MOST 1048576: true; the input reads as it did. -/
def chipSpoiltUptoRow : OpenClaim := { program := "ytpgeopefamomnacgreat", sum := "c81a3e019c648d58c748e6d3ce1a09ac4332e2fac752f9805934ad2e19070bbf", func := "sharedhearth/shlaw6.ChipSpoilt", spec := "chipSpoilt", unfollowed := true, recurses := true, apart := false, narrowed := true }
def ChipSpoiltUptoSaid : Prop := chipSpoiltUptoRow.holds Tryz.pinned (OpenSpec.upto chipSpoiltSpec)

/-- 'shlaw6.ChipTwice', WHERE WHAT IT READS IS OF BULK AT MOST 1048576: true; the input reads as it did. -/
def chipTwiceUptoRow : OpenClaim := { program := "ytpgeopefamomnacgreat", sum := "c81a3e019c648d58c748e6d3ce1a09ac4332e2fac752f9805934ad2e19070bbf", func := "sharedhearth/shlaw6.ChipTwice", spec := "chipTwice", unfollowed := true, recurses := true, apart := false, narrowed := true }
def ChipTwiceUptoSaid : Prop := chipTwiceUptoRow.holds Tryz.pinned (OpenSpec.upto chipTwiceSpec)

end Rows
end Go.Proofs.YtpgeopefamomnacGreat
