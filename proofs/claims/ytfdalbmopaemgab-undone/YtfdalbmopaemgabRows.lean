/-
  No cell of these rows narrows 'for every input' (looked for: loops, veiled, ifaces, maps, wideKeys, modest, calm, conditions, laid).
  DERIVED. THE GIVEN ROWS OF THIS SEAT. 5 by the template 'for every input the law returns true; each argument reads behind the call as it read before'; 0 by the template 'total and deterministic' (their statements: YtfdalbmopaemgabTotals.lean).
  GIVEN WITH THE SEED: the statements are not yours to turn. If you find one false, say at which input.
  Laid BY PROGRAM, IN A SANDBOX (cutbox-rows.mjs): the forced cells as the released guide's own fill.sh prints them over the translation 2039e6882d722565… (all of the seat's roots in one cut). By AI agents, Wed Nov 11 2026. No macro, syntax, notation, axiom, sorry.
-/
import Derived.Test.YtfdalbmopaemgabChecked
import GoSem.Claim
import GoSem.ClaimJoined
import GoSem.ClaimMapViews
import Derived.JoinedTies
import Derived.KernelRfl
namespace Go.Proofs.Ytfdalbmopaemgab
/- THE CELL 'sum', in the pinned program and in every row, IS THE sha256 OF THE DUMP (.gsa) THAT YtfdalbmopaemgabProg.lean LOADS. Nothing in Lean hashes anything: it is a label: what it is worth is what the hold of that sum in a sandbox is worth. -/
noncomputable def Try.pinned : Pinned := { name := "ytfdalbmopaemgab", sum := "2039e6882d722565428b426a2156d5bbcaad89a17753619c64535e1cf2df9123", checked := Try.checked }
namespace Rows
def none {H : Type} : Left H := { results := [], args := [] }

/-- 'grovekeep.Closed': WHATEVER THE INPUT: true; the input reads as it did. -/
def closedSpec : ChangeSpec := { name := "closed", fn := fun _ => fun
  | [d] => { results := [.lit (.bool true)], args := [d] }
  | _ => none }
def closedRow : OpenClaim := { program := "ytfdalbmopaemgab", sum := "2039e6882d722565428b426a2156d5bbcaad89a17753619c64535e1cf2df9123", func := "grove/grovekeep.Closed", spec := "closed", apart := false }
def ClosedSaid : Prop := closedRow.holds Try.pinned (OpenSpec.ofChange closedSpec)

/-- ITS FALSE NEIGHBOUR: 'it returns false'. Refute it at one input. -/
def closedWrong : ChangeSpec := { name := "closed", fn := fun _ => fun
  | [d] => { results := [.lit (.bool false)], args := [d] }
  | _ => none }
def ClosedWrongFalsely : Prop := closedRow.holds Try.pinned (OpenSpec.ofChange closedWrong)

/-- 'grovekeep.Undone': WHATEVER THE INPUT: true; the input reads as it did. -/
def undoneSpec : ChangeSpec := { name := "undone", fn := fun _ => fun
  | [d1, d2, d3] => { results := [.lit (.bool true)], args := [d1, d2, d3] }
  | _ => none }
def undoneRow : OpenClaim := { program := "ytfdalbmopaemgab", sum := "2039e6882d722565428b426a2156d5bbcaad89a17753619c64535e1cf2df9123", func := "grove/grovekeep.Undone", spec := "undone", apart := false }
def UndoneSaid : Prop := undoneRow.holds Try.pinned (OpenSpec.ofChange undoneSpec)

/-- ITS FALSE NEIGHBOUR: 'it returns false'. Refute it at one input. -/
def undoneWrong : ChangeSpec := { name := "undone", fn := fun _ => fun
  | [d1, d2, d3] => { results := [.lit (.bool false)], args := [d1, d2, d3] }
  | _ => none }
def UndoneWrongFalsely : Prop := undoneRow.holds Try.pinned (OpenSpec.ofChange undoneWrong)

/-- 'grovekeep.Summed': WHATEVER THE INPUT: true; the input reads as it did. -/
def summedSpec : ChangeSpec := { name := "summed", fn := fun _ => fun
  | [d1, d2] => { results := [.lit (.bool true)], args := [d1, d2] }
  | _ => none }
def summedRow : OpenClaim := { program := "ytfdalbmopaemgab", sum := "2039e6882d722565428b426a2156d5bbcaad89a17753619c64535e1cf2df9123", func := "grove/grovekeep.Summed", spec := "summed", apart := false }
def SummedSaid : Prop := summedRow.holds Try.pinned (OpenSpec.ofChange summedSpec)

/-- ITS FALSE NEIGHBOUR: 'it returns false'. Refute it at one input. -/
def summedWrong : ChangeSpec := { name := "summed", fn := fun _ => fun
  | [d1, d2] => { results := [.lit (.bool false)], args := [d1, d2] }
  | _ => none }
def SummedWrongFalsely : Prop := summedRow.holds Try.pinned (OpenSpec.ofChange summedWrong)

/-- 'grovekeep.Chained': WHATEVER THE INPUT: true; the input reads as it did. -/
def chainedSpec : ChangeSpec := { name := "chained", fn := fun _ => fun
  | [d1, d2, d3] => { results := [.lit (.bool true)], args := [d1, d2, d3] }
  | _ => none }
def chainedRow : OpenClaim := { program := "ytfdalbmopaemgab", sum := "2039e6882d722565428b426a2156d5bbcaad89a17753619c64535e1cf2df9123", func := "grove/grovekeep.Chained", spec := "chained", apart := false }
def ChainedSaid : Prop := chainedRow.holds Try.pinned (OpenSpec.ofChange chainedSpec)

/-- ITS FALSE NEIGHBOUR: 'it returns false'. Refute it at one input. -/
def chainedWrong : ChangeSpec := { name := "chained", fn := fun _ => fun
  | [d1, d2, d3] => { results := [.lit (.bool false)], args := [d1, d2, d3] }
  | _ => none }
def ChainedWrongFalsely : Prop := chainedRow.holds Try.pinned (OpenSpec.ofChange chainedWrong)

/-- 'grovekeep.Twins': WHATEVER THE INPUT: true; the input reads as it did. -/
def twinsSpec : ChangeSpec := { name := "twins", fn := fun _ => fun
  | [d1, d2] => { results := [.lit (.bool true)], args := [d1, d2] }
  | _ => none }
def twinsRow : OpenClaim := { program := "ytfdalbmopaemgab", sum := "2039e6882d722565428b426a2156d5bbcaad89a17753619c64535e1cf2df9123", func := "grove/grovekeep.Twins", spec := "twins", apart := false }
def TwinsSaid : Prop := twinsRow.holds Try.pinned (OpenSpec.ofChange twinsSpec)

/-- ITS FALSE NEIGHBOUR: 'it returns false'. Refute it at one input. -/
def twinsWrong : ChangeSpec := { name := "twins", fn := fun _ => fun
  | [d1, d2] => { results := [.lit (.bool false)], args := [d1, d2] }
  | _ => none }
def TwinsWrongFalsely : Prop := twinsRow.holds Try.pinned (OpenSpec.ofChange twinsWrong)

/- THE SECOND FORM. 'bulk': how many values and letters a reading holds, each counted each time it is reached (what is shared counts as often as it is met; a slice's spare places count too). A statement '..UptoSaid' is the law's where the arguments, and the package variables that the reading takes, are together of bulk at most 1048576: NARROWER than '..Said'. Prove '..Said' where nothing that the law and all that it calls make is longer than what came in: it says more and counts as full. Else prove '..UptoSaid'. A law counts once. -/
mutual
def uptoBulk {H : Type} : DataW H → Nat
  | .lit (.string bytes) => bytes.length + 1
  | .lit _ => 1
  | .nil => 1
  | .ptr d => uptoBulk d + 1
  | .slice elems spare => uptoBulkAll elems + uptoBulkAll spare + 1
  | .agg parts => uptoBulkAll parts + 1
  | .iface _ d => uptoBulk d + 1
  | .map entries => uptoBulkEntries entries + 1
  | .held _ => 1
def uptoBulkAll {H : Type} : List (DataW H) → Nat
  | [] => 0
  | d :: r => uptoBulk d + uptoBulkAll r
def uptoBulkEntries {H : Type} : List (Lit × DataW H) → Nat
  | [] => 0
  | x :: r => uptoBulkEntry x + uptoBulkEntries r
def uptoBulkEntry {H : Type} : Lit × DataW H → Nat
  | (.string bytes, d) => bytes.length + uptoBulk d + 1
  | (_, d) => uptoBulk d + 1
 end
def uptoSmall : (H : Type) → List (DataW H) → Bool := fun _ ds => decide (uptoBulkAll ds ≤ 1048576)
def OpenSpec.upto (s : _root_.Go.ChangeSpec) : _root_.Go.OpenSpec := { _root_.Go.OpenSpec.ofChange s with cond := some uptoSmall }

/-- 'grovekeep.Closed', WHERE WHAT IT READS IS OF BULK AT MOST 1048576: true; the input reads as it did. -/
def closedUptoRow : OpenClaim := { program := "ytfdalbmopaemgab", sum := "2039e6882d722565428b426a2156d5bbcaad89a17753619c64535e1cf2df9123", func := "grove/grovekeep.Closed", spec := "closed", apart := false, narrowed := true }
def ClosedUptoSaid : Prop := closedUptoRow.holds Try.pinned (OpenSpec.upto closedSpec)

/-- 'grovekeep.Undone', WHERE WHAT IT READS IS OF BULK AT MOST 1048576: true; the input reads as it did. -/
def undoneUptoRow : OpenClaim := { program := "ytfdalbmopaemgab", sum := "2039e6882d722565428b426a2156d5bbcaad89a17753619c64535e1cf2df9123", func := "grove/grovekeep.Undone", spec := "undone", apart := false, narrowed := true }
def UndoneUptoSaid : Prop := undoneUptoRow.holds Try.pinned (OpenSpec.upto undoneSpec)

/-- 'grovekeep.Summed', WHERE WHAT IT READS IS OF BULK AT MOST 1048576: true; the input reads as it did. -/
def summedUptoRow : OpenClaim := { program := "ytfdalbmopaemgab", sum := "2039e6882d722565428b426a2156d5bbcaad89a17753619c64535e1cf2df9123", func := "grove/grovekeep.Summed", spec := "summed", apart := false, narrowed := true }
def SummedUptoSaid : Prop := summedUptoRow.holds Try.pinned (OpenSpec.upto summedSpec)

/-- 'grovekeep.Chained', WHERE WHAT IT READS IS OF BULK AT MOST 1048576: true; the input reads as it did. -/
def chainedUptoRow : OpenClaim := { program := "ytfdalbmopaemgab", sum := "2039e6882d722565428b426a2156d5bbcaad89a17753619c64535e1cf2df9123", func := "grove/grovekeep.Chained", spec := "chained", apart := false, narrowed := true }
def ChainedUptoSaid : Prop := chainedUptoRow.holds Try.pinned (OpenSpec.upto chainedSpec)

/-- 'grovekeep.Twins', WHERE WHAT IT READS IS OF BULK AT MOST 1048576: true; the input reads as it did. -/
def twinsUptoRow : OpenClaim := { program := "ytfdalbmopaemgab", sum := "2039e6882d722565428b426a2156d5bbcaad89a17753619c64535e1cf2df9123", func := "grove/grovekeep.Twins", spec := "twins", apart := false, narrowed := true }
def TwinsUptoSaid : Prop := twinsUptoRow.holds Try.pinned (OpenSpec.upto twinsSpec)

end Rows
end Go.Proofs.Ytfdalbmopaemgab
