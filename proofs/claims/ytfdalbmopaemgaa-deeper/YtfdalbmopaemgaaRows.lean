/-
  No cell of these rows narrows 'for every input' (looked for: loops, veiled, ifaces, maps, wideKeys, modest, calm, conditions, laid).
  DERIVED. THE GIVEN ROWS OF THIS SEAT. 4 by the template 'for every input the law returns true; each argument reads behind the call as it read before'; 0 by the template 'total and deterministic' (their statements: YtfdalbmopaemgaaTotals.lean).
  GIVEN WITH THE SEED: the statements are not yours to turn. If you find one false, say at which input.
  Laid BY PROGRAM, IN A SANDBOX (cutbox-rows.mjs): the forced cells as the released guide's own fill.sh prints them over the translation 78be597081d01b55… (all of the seat's roots in one cut). By AI agents, Wed Nov 11 2026. No macro, syntax, notation, axiom, sorry.
-/
import Derived.Test.YtfdalbmopaemgaaChecked
import GoSem.Claim
import GoSem.ClaimJoined
import GoSem.ClaimMapViews
import Derived.JoinedTies
import Derived.KernelRfl
namespace Go.Proofs.Ytfdalbmopaemgaa
/- THE CELL 'sum', in the pinned program and in every row, IS THE sha256 OF THE DUMP (.gsa) THAT YtfdalbmopaemgaaProg.lean LOADS. Nothing in Lean hashes anything: it is a label: what it is worth is what the hold of that sum in a sandbox is worth. -/
noncomputable def Try.pinned : Pinned := { name := "ytfdalbmopaemgaa", sum := "78be597081d01b55a408198101be48635374225a64cc8976aa36a97cea0b5735", checked := Try.checked }
namespace Rows
def none {H : Type} : Left H := { results := [], args := [] }

/-- 'grovekeep.Last': WHATEVER THE INPUT: true; the input reads as it did. -/
def lastSpec : ChangeSpec := { name := "last", fn := fun _ => fun
  | [d1, d2, d3, d4] => { results := [.lit (.bool true)], args := [d1, d2, d3, d4] }
  | _ => none }
def lastRow : OpenClaim := { program := "ytfdalbmopaemgaa", sum := "78be597081d01b55a408198101be48635374225a64cc8976aa36a97cea0b5735", func := "grove/grovekeep.Last", spec := "last", apart := false }
def LastSaid : Prop := lastRow.holds Try.pinned (OpenSpec.ofChange lastSpec)

/-- ITS FALSE NEIGHBOUR: 'it returns false'. Refute it at one input. -/
def lastWrong : ChangeSpec := { name := "last", fn := fun _ => fun
  | [d1, d2, d3, d4] => { results := [.lit (.bool false)], args := [d1, d2, d3, d4] }
  | _ => none }
def LastWrongFalsely : Prop := lastRow.holds Try.pinned (OpenSpec.ofChange lastWrong)

/-- 'grovekeep.Deeper': WHATEVER THE INPUT: true; the input reads as it did. -/
def deeperSpec : ChangeSpec := { name := "deeper", fn := fun _ => fun
  | [d1, d2] => { results := [.lit (.bool true)], args := [d1, d2] }
  | _ => none }
def deeperRow : OpenClaim := { program := "ytfdalbmopaemgaa", sum := "78be597081d01b55a408198101be48635374225a64cc8976aa36a97cea0b5735", func := "grove/grovekeep.Deeper", spec := "deeper", apart := false }
def DeeperSaid : Prop := deeperRow.holds Try.pinned (OpenSpec.ofChange deeperSpec)

/-- ITS FALSE NEIGHBOUR: 'it returns false'. Refute it at one input. -/
def deeperWrong : ChangeSpec := { name := "deeper", fn := fun _ => fun
  | [d1, d2] => { results := [.lit (.bool false)], args := [d1, d2] }
  | _ => none }
def DeeperWrongFalsely : Prop := deeperRow.holds Try.pinned (OpenSpec.ofChange deeperWrong)

/-- 'grovekeep.Serial': WHATEVER THE INPUT: true; the input reads as it did. -/
def serialSpec : ChangeSpec := { name := "serial", fn := fun _ => fun
  | [d] => { results := [.lit (.bool true)], args := [d] }
  | _ => none }
def serialRow : OpenClaim := { program := "ytfdalbmopaemgaa", sum := "78be597081d01b55a408198101be48635374225a64cc8976aa36a97cea0b5735", func := "grove/grovekeep.Serial", spec := "serial", apart := false }
def SerialSaid : Prop := serialRow.holds Try.pinned (OpenSpec.ofChange serialSpec)

/-- ITS FALSE NEIGHBOUR: 'it returns false'. Refute it at one input. -/
def serialWrong : ChangeSpec := { name := "serial", fn := fun _ => fun
  | [d] => { results := [.lit (.bool false)], args := [d] }
  | _ => none }
def SerialWrongFalsely : Prop := serialRow.holds Try.pinned (OpenSpec.ofChange serialWrong)

/-- 'grovekeep.Apart': WHATEVER THE INPUT: true; the input reads as it did. -/
def apartSpec : ChangeSpec := { name := "apart", fn := fun _ => fun
  | [d] => { results := [.lit (.bool true)], args := [d] }
  | _ => none }
def apartRow : OpenClaim := { program := "ytfdalbmopaemgaa", sum := "78be597081d01b55a408198101be48635374225a64cc8976aa36a97cea0b5735", func := "grove/grovekeep.Apart", spec := "apart", apart := false }
def ApartSaid : Prop := apartRow.holds Try.pinned (OpenSpec.ofChange apartSpec)

/-- ITS FALSE NEIGHBOUR: 'it returns false'. Refute it at one input. -/
def apartWrong : ChangeSpec := { name := "apart", fn := fun _ => fun
  | [d] => { results := [.lit (.bool false)], args := [d] }
  | _ => none }
def ApartWrongFalsely : Prop := apartRow.holds Try.pinned (OpenSpec.ofChange apartWrong)

/- THE SECOND FORM. 'bulk': how many values and letters a reading holds, each counted each time it is reached (what is shared counts as often as it is met; a slice's spare places count too). A statement '..UptoSaid' is the law's where the arguments, and the package variables that the reading takes, are together of bulk at most 1048576: NARROWER than '..Said'. Prove '..Said' where nothing that the law and all that it calls make is longer than what came in: it says more and counts as full. Else prove '..UptoSaid'. A law counts once. -/
mutual
def uptoBulk {H : Type} : DataW H → Nat
  | .lit (.string bytes) => bytes.length + 1
  | .lit _ => 1
  | .nil => 1
  | .ptr d => uptoBulk d + 1
  | .slice elems spare => uptoBulkAll elems + uptoBulkAll spare + 1
  | .agg parts => uptoBulkAll parts + 1
  | .iface _ d => uptoBulk d + 1
  | .map entries => uptoBulkEntries entries + 1
  | .held _ => 1
def uptoBulkAll {H : Type} : List (DataW H) → Nat
  | [] => 0
  | d :: r => uptoBulk d + uptoBulkAll r
def uptoBulkEntries {H : Type} : List (Lit × DataW H) → Nat
  | [] => 0
  | x :: r => uptoBulkEntry x + uptoBulkEntries r
def uptoBulkEntry {H : Type} : Lit × DataW H → Nat
  | (.string bytes, d) => bytes.length + uptoBulk d + 1
  | (_, d) => uptoBulk d + 1
 end
def uptoSmall : (H : Type) → List (DataW H) → Bool := fun _ ds => decide (uptoBulkAll ds ≤ 1048576)
def OpenSpec.upto (s : _root_.Go.ChangeSpec) : _root_.Go.OpenSpec := { _root_.Go.OpenSpec.ofChange s with cond := some uptoSmall }

/-- 'grovekeep.Last', WHERE WHAT IT READS IS OF BULK AT MOST 1048576: true; the input reads as it did. -/
def lastUptoRow : OpenClaim := { program := "ytfdalbmopaemgaa", sum := "78be597081d01b55a408198101be48635374225a64cc8976aa36a97cea0b5735", func := "grove/grovekeep.Last", spec := "last", apart := false, narrowed := true }
def LastUptoSaid : Prop := lastUptoRow.holds Try.pinned (OpenSpec.upto lastSpec)

/-- 'grovekeep.Deeper', WHERE WHAT IT READS IS OF BULK AT MOST 1048576: true; the input reads as it did. -/
def deeperUptoRow : OpenClaim := { program := "ytfdalbmopaemgaa", sum := "78be597081d01b55a408198101be48635374225a64cc8976aa36a97cea0b5735", func := "grove/grovekeep.Deeper", spec := "deeper", apart := false, narrowed := true }
def DeeperUptoSaid : Prop := deeperUptoRow.holds Try.pinned (OpenSpec.upto deeperSpec)

/-- 'grovekeep.Serial', WHERE WHAT IT READS IS OF BULK AT MOST 1048576: true; the input reads as it did. -/
def serialUptoRow : OpenClaim := { program := "ytfdalbmopaemgaa", sum := "78be597081d01b55a408198101be48635374225a64cc8976aa36a97cea0b5735", func := "grove/grovekeep.Serial", spec := "serial", apart := false, narrowed := true }
def SerialUptoSaid : Prop := serialUptoRow.holds Try.pinned (OpenSpec.upto serialSpec)

/-- 'grovekeep.Apart', WHERE WHAT IT READS IS OF BULK AT MOST 1048576: true; the input reads as it did. -/
def apartUptoRow : OpenClaim := { program := "ytfdalbmopaemgaa", sum := "78be597081d01b55a408198101be48635374225a64cc8976aa36a97cea0b5735", func := "grove/grovekeep.Apart", spec := "apart", apart := false, narrowed := true }
def ApartUptoSaid : Prop := apartUptoRow.holds Try.pinned (OpenSpec.upto apartSpec)

end Rows
end Go.Proofs.Ytfdalbmopaemgaa
