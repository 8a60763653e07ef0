/-
  No cell of these rows narrows 'for every input' (looked for: loops, veiled, ifaces, maps, wideKeys, modest, calm, conditions, laid).
  DERIVED. THE GIVEN ROWS OF THIS SEAT. 3 by the template 'for every input the law returns true; each argument reads behind the call as it read before'; 0 by the template 'total and deterministic' (their statements: YtpbcbjjofgnmlaaTotals.lean).
  GIVEN WITH THE SEED: the statements are not yours to turn. If you find one false, say at which input.
  Laid BY PROGRAM, IN A SANDBOX (cutbox-rows.mjs): the forced cells as the released guide's own fill.sh prints them over the translation 328305a58f1674b9… (all of the seat's roots in one cut). By AI agents, Wed Nov 11 2026. No macro, syntax, notation, axiom, sorry.
-/
import Derived.Test.YtpbcbjjofgnmlaaChecked
import GoSem.Claim
import GoSem.ClaimJoined
import GoSem.ClaimMapViews
import Derived.JoinedTies
import Derived.KernelRfl
namespace Go.Proofs.Ytpbcbjjofgnmlaa
/- THE CELL 'sum', in the pinned program and in every row, IS THE sha256 OF THE DUMP (.gsa) THAT YtpbcbjjofgnmlaaProg.lean LOADS. Nothing in Lean hashes anything: it is a label: what it is worth is what the hold of that sum in a sandbox is worth. -/
noncomputable def Try.pinned : Pinned := { name := "ytpbcbjjofgnmlaa", sum := "328305a58f1674b9a71fce3829973978f813b020f2fdba8fd9ec7bb14bbc6361", checked := Try.checked }
namespace Rows
def none {H : Type} : Left H := { results := [], args := [] }

/-- 'forecourtlaw05.TaintYards': WHATEVER THE INPUT: true; the input reads as it did. -/
def taintYardsSpec : ChangeSpec := { name := "taintYards", fn := fun _ => fun
  | [d1, d2, d3, d4, d5, d6] => { results := [.lit (.bool true)], args := [d1, d2, d3, d4, d5, d6] }
  | _ => none }
def taintYardsRow : OpenClaim := { program := "ytpbcbjjofgnmlaa", sum := "328305a58f1674b9a71fce3829973978f813b020f2fdba8fd9ec7bb14bbc6361", func := "forecourt/forecourtlaw05.TaintYards", spec := "taintYards", unfollowed := true, recurses := true, plainKeys := false, apart := false }
def TaintYardsSaid : Prop := taintYardsRow.holds Try.pinned (OpenSpec.ofChange taintYardsSpec)

/-- ITS FALSE NEIGHBOUR: 'it returns false'. Refute it at one input. -/
def taintYardsWrong : ChangeSpec := { name := "taintYards", fn := fun _ => fun
  | [d1, d2, d3, d4, d5, d6] => { results := [.lit (.bool false)], args := [d1, d2, d3, d4, d5, d6] }
  | _ => none }
def TaintYardsWrongFalsely : Prop := taintYardsRow.holds Try.pinned (OpenSpec.ofChange taintYardsWrong)

/-- 'forecourtlaw05.TaintKnown': WHATEVER THE INPUT: true; the input reads as it did. -/
def taintKnownSpec : ChangeSpec := { name := "taintKnown", fn := fun _ => fun
  | [] => { results := [.lit (.bool true)], args := [] }
  | _ => none }
def taintKnownRow : OpenClaim := { program := "ytpbcbjjofgnmlaa", sum := "328305a58f1674b9a71fce3829973978f813b020f2fdba8fd9ec7bb14bbc6361", func := "forecourt/forecourtlaw05.TaintKnown", spec := "taintKnown", unfollowed := true, recurses := true, plainKeys := false, apart := false }
def TaintKnownSaid : Prop := taintKnownRow.holds Try.pinned (OpenSpec.ofChange taintKnownSpec)

/-- ITS FALSE NEIGHBOUR: 'it returns false'. Refute it at one input. -/
def taintKnownWrong : ChangeSpec := { name := "taintKnown", fn := fun _ => fun
  | [] => { results := [.lit (.bool false)], args := [] }
  | _ => none }
def TaintKnownWrongFalsely : Prop := taintKnownRow.holds Try.pinned (OpenSpec.ofChange taintKnownWrong)

/-- 'forecourtlaw05.TaintArrivals': WHATEVER THE INPUT: true; the input reads as it did. -/
def taintArrivalsSpec : ChangeSpec := { name := "taintArrivals", fn := fun _ => fun
  | [d1, d2] => { results := [.lit (.bool true)], args := [d1, d2] }
  | _ => none }
def taintArrivalsRow : OpenClaim := { program := "ytpbcbjjofgnmlaa", sum := "328305a58f1674b9a71fce3829973978f813b020f2fdba8fd9ec7bb14bbc6361", func := "forecourt/forecourtlaw05.TaintArrivals", spec := "taintArrivals", unfollowed := true, recurses := true, plainKeys := false, apart := false }
def TaintArrivalsSaid : Prop := taintArrivalsRow.holds Try.pinned (OpenSpec.ofChange taintArrivalsSpec)

/-- ITS FALSE NEIGHBOUR: 'it returns false'. Refute it at one input. -/
def taintArrivalsWrong : ChangeSpec := { name := "taintArrivals", fn := fun _ => fun
  | [d1, d2] => { results := [.lit (.bool false)], args := [d1, d2] }
  | _ => none }
def TaintArrivalsWrongFalsely : Prop := taintArrivalsRow.holds Try.pinned (OpenSpec.ofChange taintArrivalsWrong)

/- THE SECOND FORM. 'bulk': how many values and letters a reading holds, each counted each time it is reached (what is shared counts as often as it is met; a slice's spare places count too). A statement '..UptoSaid' is the law's where the arguments, and the package variables that the reading takes, are together of bulk at most 1048576: NARROWER than '..Said'. Prove '..Said' where nothing that the law and all that it calls make is longer than what came in: it says more and counts as full. Else prove '..UptoSaid'. A law counts once. -/
mutual
def uptoBulk {H : Type} : DataW H → Nat
  | .lit (.string bytes) => bytes.length + 1
  | .lit _ => 1
  | .nil => 1
  | .ptr d => uptoBulk d + 1
  | .slice elems spare => uptoBulkAll elems + uptoBulkAll spare + 1
  | .agg parts => uptoBulkAll parts + 1
  | .iface _ d => uptoBulk d + 1
  | .map entries => uptoBulkEntries entries + 1
  | .held _ => 1
def uptoBulkAll {H : Type} : List (DataW H) → Nat
  | [] => 0
  | d :: r => uptoBulk d + uptoBulkAll r
def uptoBulkEntries {H : Type} : List (Lit × DataW H) → Nat
  | [] => 0
  | x :: r => uptoBulkEntry x + uptoBulkEntries r
def uptoBulkEntry {H : Type} : Lit × DataW H → Nat
  | (.string bytes, d) => bytes.length + uptoBulk d + 1
  | (_, d) => uptoBulk d + 1
 end
def uptoSmall : (H : Type) → List (DataW H) → Bool := fun _ ds => decide (uptoBulkAll ds ≤ 1048576)
def OpenSpec.upto (s : _root_.Go.ChangeSpec) : _root_.Go.OpenSpec := { _root_.Go.OpenSpec.ofChange s with cond := some uptoSmall }

/-- 'forecourtlaw05.TaintYards', WHERE WHAT IT READS IS OF BULK AT MOST 1048576: true; the input reads as it did. -/
def taintYardsUptoRow : OpenClaim := { program := "ytpbcbjjofgnmlaa", sum := "328305a58f1674b9a71fce3829973978f813b020f2fdba8fd9ec7bb14bbc6361", func := "forecourt/forecourtlaw05.TaintYards", spec := "taintYards", unfollowed := true, recurses := true, plainKeys := false, apart := false, narrowed := true }
def TaintYardsUptoSaid : Prop := taintYardsUptoRow.holds Try.pinned (OpenSpec.upto taintYardsSpec)

/-- 'forecourtlaw05.TaintKnown', WHERE WHAT IT READS IS OF BULK AT MOST 1048576: true; the input reads as it did. -/
def taintKnownUptoRow : OpenClaim := { program := "ytpbcbjjofgnmlaa", sum := "328305a58f1674b9a71fce3829973978f813b020f2fdba8fd9ec7bb14bbc6361", func := "forecourt/forecourtlaw05.TaintKnown", spec := "taintKnown", unfollowed := true, recurses := true, plainKeys := false, apart := false, narrowed := true }
def TaintKnownUptoSaid : Prop := taintKnownUptoRow.holds Try.pinned (OpenSpec.upto taintKnownSpec)

/-- 'forecourtlaw05.TaintArrivals', WHERE WHAT IT READS IS OF BULK AT MOST 1048576: true; the input reads as it did. -/
def taintArrivalsUptoRow : OpenClaim := { program := "ytpbcbjjofgnmlaa", sum := "328305a58f1674b9a71fce3829973978f813b020f2fdba8fd9ec7bb14bbc6361", func := "forecourt/forecourtlaw05.TaintArrivals", spec := "taintArrivals", unfollowed := true, recurses := true, plainKeys := false, apart := false, narrowed := true }
def TaintArrivalsUptoSaid : Prop := taintArrivalsUptoRow.holds Try.pinned (OpenSpec.upto taintArrivalsSpec)

end Rows
end Go.Proofs.Ytpbcbjjofgnmlaa
