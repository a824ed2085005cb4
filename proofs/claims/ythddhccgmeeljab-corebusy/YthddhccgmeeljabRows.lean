/-
  No cell of these rows narrows 'for every input' (looked for: loops, veiled, ifaces, maps, wideKeys, modest, calm, conditions, laid).
  DERIVED. THE GIVEN ROWS OF THIS SEAT. 6 by the template 'for every input the law returns true; each argument reads behind the call as it read before'; 0 by the template 'total and deterministic' (their statements: YthddhccgmeeljabTotals.lean).
  GIVEN WITH THE SEED: the statements are not yours to turn. If you find one false, say at which input.
  Laid BY PROGRAM, IN A SANDBOX (cutbox-rows.mjs): the forced cells as the released guide's own fill.sh prints them over the translation 602f33d507b81b2a… (all of the seat's roots in one cut). By AI agents, Wed Nov 11 2026. No macro, syntax, notation, axiom, sorry.
-/
import Derived.Test.YthddhccgmeeljabChecked
import GoSem.Claim
import GoSem.ClaimJoined
import GoSem.ClaimMapViews
import Derived.JoinedTies
import Derived.KernelRfl
namespace Go.Proofs.Ythddhccgmeeljab
/- THE CELL 'sum', in the pinned program and in every row, IS THE sha256 OF THE DUMP (.gsa) THAT YthddhccgmeeljabProg.lean LOADS. Nothing in Lean hashes anything: it is a label: what it is worth is what the hold of that sum in a sandbox is worth. -/
noncomputable def Try.pinned : Pinned := { name := "ythddhccgmeeljab", sum := "602f33d507b81b2a7f176d55953c07b3bb482b9ae1689d4dfd3268e45c558e52", checked := Try.checked }
namespace Rows
def none {H : Type} : Left H := { results := [], args := [] }

/-- 'shlaw3.FlatTells': WHATEVER THE INPUT: true; the input reads as it did. -/
def flatTellsSpec : ChangeSpec := { name := "flatTells", fn := fun _ => fun
  | [d1, d2, d3, d4] => { results := [.lit (.bool true)], args := [d1, d2, d3, d4] }
  | _ => none }
def flatTellsRow : OpenClaim := { program := "ythddhccgmeeljab", sum := "602f33d507b81b2a7f176d55953c07b3bb482b9ae1689d4dfd3268e45c558e52", func := "sharedhearth/shlaw3.FlatTells", spec := "flatTells", apart := false }
def FlatTellsSaid : Prop := flatTellsRow.holds Try.pinned (OpenSpec.ofChange flatTellsSpec)

/-- ITS FALSE NEIGHBOUR: 'it returns false'. Refute it at one input. -/
def flatTellsWrong : ChangeSpec := { name := "flatTells", fn := fun _ => fun
  | [d1, d2, d3, d4] => { results := [.lit (.bool false)], args := [d1, d2, d3, d4] }
  | _ => none }
def FlatTellsWrongFalsely : Prop := flatTellsRow.holds Try.pinned (OpenSpec.ofChange flatTellsWrong)

/-- 'shlaw3.FlatReads': WHATEVER THE INPUT: true; the input reads as it did. -/
def flatReadsSpec : ChangeSpec := { name := "flatReads", fn := fun _ => fun
  | [d1, d2, d3, d4] => { results := [.lit (.bool true)], args := [d1, d2, d3, d4] }
  | _ => none }
def flatReadsRow : OpenClaim := { program := "ythddhccgmeeljab", sum := "602f33d507b81b2a7f176d55953c07b3bb482b9ae1689d4dfd3268e45c558e52", func := "sharedhearth/shlaw3.FlatReads", spec := "flatReads", apart := false }
def FlatReadsSaid : Prop := flatReadsRow.holds Try.pinned (OpenSpec.ofChange flatReadsSpec)

/-- ITS FALSE NEIGHBOUR: 'it returns false'. Refute it at one input. -/
def flatReadsWrong : ChangeSpec := { name := "flatReads", fn := fun _ => fun
  | [d1, d2, d3, d4] => { results := [.lit (.bool false)], args := [d1, d2, d3, d4] }
  | _ => none }
def FlatReadsWrongFalsely : Prop := flatReadsRow.holds Try.pinned (OpenSpec.ofChange flatReadsWrong)

/-- 'shlaw4.CoreTells': WHATEVER THE INPUT: true; the input reads as it did. -/
def coreTellsSpec : ChangeSpec := { name := "coreTells", fn := fun _ => fun
  | [d1, d2, d3, d4, d5] => { results := [.lit (.bool true)], args := [d1, d2, d3, d4, d5] }
  | _ => none }
def coreTellsRow : OpenClaim := { program := "ythddhccgmeeljab", sum := "602f33d507b81b2a7f176d55953c07b3bb482b9ae1689d4dfd3268e45c558e52", func := "sharedhearth/shlaw4.CoreTells", spec := "coreTells", unfollowed := true, recurses := true, apart := false }
def CoreTellsSaid : Prop := coreTellsRow.holds Try.pinned (OpenSpec.ofChange coreTellsSpec)

/-- ITS FALSE NEIGHBOUR: 'it returns false'. Refute it at one input. -/
def coreTellsWrong : ChangeSpec := { name := "coreTells", fn := fun _ => fun
  | [d1, d2, d3, d4, d5] => { results := [.lit (.bool false)], args := [d1, d2, d3, d4, d5] }
  | _ => none }
def CoreTellsWrongFalsely : Prop := coreTellsRow.holds Try.pinned (OpenSpec.ofChange coreTellsWrong)

/-- 'shlaw4.CoreTwice': WHATEVER THE INPUT: true; the input reads as it did. -/
def coreTwiceSpec : ChangeSpec := { name := "coreTwice", fn := fun _ => fun
  | [d1, d2, d3, d4] => { results := [.lit (.bool true)], args := [d1, d2, d3, d4] }
  | _ => none }
def coreTwiceRow : OpenClaim := { program := "ythddhccgmeeljab", sum := "602f33d507b81b2a7f176d55953c07b3bb482b9ae1689d4dfd3268e45c558e52", func := "sharedhearth/shlaw4.CoreTwice", spec := "coreTwice", unfollowed := true, recurses := true, apart := false }
def CoreTwiceSaid : Prop := coreTwiceRow.holds Try.pinned (OpenSpec.ofChange coreTwiceSpec)

/-- ITS FALSE NEIGHBOUR: 'it returns false'. Refute it at one input. -/
def coreTwiceWrong : ChangeSpec := { name := "coreTwice", fn := fun _ => fun
  | [d1, d2, d3, d4] => { results := [.lit (.bool false)], args := [d1, d2, d3, d4] }
  | _ => none }
def CoreTwiceWrongFalsely : Prop := coreTwiceRow.holds Try.pinned (OpenSpec.ofChange coreTwiceWrong)

/-- 'shlaw4.CoreOld': WHATEVER THE INPUT: true; the input reads as it did. -/
def coreOldSpec : ChangeSpec := { name := "coreOld", fn := fun _ => fun
  | [d1, d2, d3, d4] => { results := [.lit (.bool true)], args := [d1, d2, d3, d4] }
  | _ => none }
def coreOldRow : OpenClaim := { program := "ythddhccgmeeljab", sum := "602f33d507b81b2a7f176d55953c07b3bb482b9ae1689d4dfd3268e45c558e52", func := "sharedhearth/shlaw4.CoreOld", spec := "coreOld", unfollowed := true, recurses := true, apart := false }
def CoreOldSaid : Prop := coreOldRow.holds Try.pinned (OpenSpec.ofChange coreOldSpec)

/-- ITS FALSE NEIGHBOUR: 'it returns false'. Refute it at one input. -/
def coreOldWrong : ChangeSpec := { name := "coreOld", fn := fun _ => fun
  | [d1, d2, d3, d4] => { results := [.lit (.bool false)], args := [d1, d2, d3, d4] }
  | _ => none }
def CoreOldWrongFalsely : Prop := coreOldRow.holds Try.pinned (OpenSpec.ofChange coreOldWrong)

/-- 'shlaw4.CoreBusy': WHATEVER THE INPUT: true; the input reads as it did. -/
def coreBusySpec : ChangeSpec := { name := "coreBusy", fn := fun _ => fun
  | [d1, d2, d3, d4] => { results := [.lit (.bool true)], args := [d1, d2, d3, d4] }
  | _ => none }
def coreBusyRow : OpenClaim := { program := "ythddhccgmeeljab", sum := "602f33d507b81b2a7f176d55953c07b3bb482b9ae1689d4dfd3268e45c558e52", func := "sharedhearth/shlaw4.CoreBusy", spec := "coreBusy", unfollowed := true, recurses := true, apart := false }
def CoreBusySaid : Prop := coreBusyRow.holds Try.pinned (OpenSpec.ofChange coreBusySpec)

/-- ITS FALSE NEIGHBOUR: 'it returns false'. Refute it at one input. -/
def coreBusyWrong : ChangeSpec := { name := "coreBusy", fn := fun _ => fun
  | [d1, d2, d3, d4] => { results := [.lit (.bool false)], args := [d1, d2, d3, d4] }
  | _ => none }
def CoreBusyWrongFalsely : Prop := coreBusyRow.holds Try.pinned (OpenSpec.ofChange coreBusyWrong)

/- THE SECOND FORM. 'bulk': how many values and letters a reading holds, each counted each time it is reached (what is shared counts as often as it is met; a slice's spare places count too). A statement '..UptoSaid' is the law's where the arguments, and the package variables that the reading takes, are together of bulk at most 1048576: NARROWER than '..Said'. Prove '..Said' where nothing that the law and all that it calls make is longer than what came in: it says more and counts as full. Else prove '..UptoSaid'. A law counts once. -/
mutual
def uptoBulk {H : Type} : DataW H → Nat
  | .lit (.string bytes) => bytes.length + 1
  | .lit _ => 1
  | .nil => 1
  | .ptr d => uptoBulk d + 1
  | .slice elems spare => uptoBulkAll elems + uptoBulkAll spare + 1
  | .agg parts => uptoBulkAll parts + 1
  | .iface _ d => uptoBulk d + 1
  | .map entries => uptoBulkEntries entries + 1
  | .held _ => 1
def uptoBulkAll {H : Type} : List (DataW H) → Nat
  | [] => 0
  | d :: r => uptoBulk d + uptoBulkAll r
def uptoBulkEntries {H : Type} : List (Lit × DataW H) → Nat
  | [] => 0
  | x :: r => uptoBulkEntry x + uptoBulkEntries r
def uptoBulkEntry {H : Type} : Lit × DataW H → Nat
  | (.string bytes, d) => bytes.length + uptoBulk d + 1
  | (_, d) => uptoBulk d + 1
 end
def uptoSmall : (H : Type) → List (DataW H) → Bool := fun _ ds => decide (uptoBulkAll ds ≤ 1048576)
def OpenSpec.upto (s : _root_.Go.ChangeSpec) : _root_.Go.OpenSpec := { _root_.Go.OpenSpec.ofChange s with cond := some uptoSmall }

/-- 'shlaw3.FlatTells', WHERE WHAT IT READS IS OF BULK AT MOST 1048576: true; the input reads as it did. -/
def flatTellsUptoRow : OpenClaim := { program := "ythddhccgmeeljab", sum := "602f33d507b81b2a7f176d55953c07b3bb482b9ae1689d4dfd3268e45c558e52", func := "sharedhearth/shlaw3.FlatTells", spec := "flatTells", apart := false, narrowed := true }
def FlatTellsUptoSaid : Prop := flatTellsUptoRow.holds Try.pinned (OpenSpec.upto flatTellsSpec)

/-- 'shlaw3.FlatReads', WHERE WHAT IT READS IS OF BULK AT MOST 1048576: true; the input reads as it did. -/
def flatReadsUptoRow : OpenClaim := { program := "ythddhccgmeeljab", sum := "602f33d507b81b2a7f176d55953c07b3bb482b9ae1689d4dfd3268e45c558e52", func := "sharedhearth/shlaw3.FlatReads", spec := "flatReads", apart := false, narrowed := true }
def FlatReadsUptoSaid : Prop := flatReadsUptoRow.holds Try.pinned (OpenSpec.upto flatReadsSpec)

/-- 'shlaw4.CoreTells', WHERE WHAT IT READS IS OF BULK AT MOST 1048576: true; the input reads as it did. -/
def coreTellsUptoRow : OpenClaim := { program := "ythddhccgmeeljab", sum := "602f33d507b81b2a7f176d55953c07b3bb482b9ae1689d4dfd3268e45c558e52", func := "sharedhearth/shlaw4.CoreTells", spec := "coreTells", unfollowed := true, recurses := true, apart := false, narrowed := true }
def CoreTellsUptoSaid : Prop := coreTellsUptoRow.holds Try.pinned (OpenSpec.upto coreTellsSpec)

/-- 'shlaw4.CoreTwice', WHERE WHAT IT READS IS OF BULK AT MOST 1048576: true; the input reads as it did. -/
def coreTwiceUptoRow : OpenClaim := { program := "ythddhccgmeeljab", sum := "602f33d507b81b2a7f176d55953c07b3bb482b9ae1689d4dfd3268e45c558e52", func := "sharedhearth/shlaw4.CoreTwice", spec := "coreTwice", unfollowed := true, recurses := true, apart := false, narrowed := true }
def CoreTwiceUptoSaid : Prop := coreTwiceUptoRow.holds Try.pinned (OpenSpec.upto coreTwiceSpec)

/-- 'shlaw4.CoreOld', WHERE WHAT IT READS IS OF BULK AT MOST 1048576: true; the input reads as it did. -/
def coreOldUptoRow : OpenClaim := { program := "ythddhccgmeeljab", sum := "602f33d507b81b2a7f176d55953c07b3bb482b9ae1689d4dfd3268e45c558e52", func := "sharedhearth/shlaw4.CoreOld", spec := "coreOld", unfollowed := true, recurses := true, apart := false, narrowed := true }
def CoreOldUptoSaid : Prop := coreOldUptoRow.holds Try.pinned (OpenSpec.upto coreOldSpec)

/-- 'shlaw4.CoreBusy', WHERE WHAT IT READS IS OF BULK AT MOST 1048576: true; the input reads as it did. -/
def coreBusyUptoRow : OpenClaim := { program := "ythddhccgmeeljab", sum := "602f33d507b81b2a7f176d55953c07b3bb482b9ae1689d4dfd3268e45c558e52", func := "sharedhearth/shlaw4.CoreBusy", spec := "coreBusy", unfollowed := true, recurses := true, apart := false, narrowed := true }
def CoreBusyUptoSaid : Prop := coreBusyUptoRow.holds Try.pinned (OpenSpec.upto coreBusySpec)

end Rows
end Go.Proofs.Ythddhccgmeeljab
