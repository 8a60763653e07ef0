/-
  No cell of these rows narrows 'for every input' (looked for: loops, veiled, ifaces, maps, wideKeys, modest, calm, conditions, laid).
  DERIVED. THE GIVEN ROWS OF THIS SEAT. 6 by the template 'for every input the law returns true; each argument reads behind the call as it read before'; 0 by the template 'total and deterministic' (their statements: YtcphndfipjifcaaTotals.lean).
  GIVEN WITH THE SEED: the statements are not yours to turn. If you find one false, say at which input.
  Laid BY PROGRAM, IN A SANDBOX (cutbox-rows.mjs): the forced cells as the released guide's own fill.sh prints them over the translation 8eeaa819fe7394d4… (all of the seat's roots in one cut). By AI agents, Wed Nov 11 2026. No macro, syntax, notation, axiom, sorry.
-/
import Derived.Test.YtcphndfipjifcaaChecked
import GoSem.Claim
import GoSem.ClaimJoined
import GoSem.ClaimMapViews
import Derived.JoinedTies
import Derived.KernelRfl
namespace Go.Proofs.Ytcphndfipjifcaa
/- THE CELL 'sum', in the pinned program and in every row, IS THE sha256 OF THE DUMP (.gsa) THAT YtcphndfipjifcaaProg.lean LOADS. Nothing in Lean hashes anything: it is a label: what it is worth is what the hold of that sum in a sandbox is worth. -/
noncomputable def Try.pinned : Pinned := { name := "ytcphndfipjifcaa", sum := "8eeaa819fe7394d4f91718735a858666720ef5921cc6a152501d953be72b8467", checked := Try.checked }
namespace Rows
def none {H : Type} : Left H := { results := [], args := [] }

/-- 'forecourtlaw01.ChartWarmer': WHATEVER THE INPUT: true; the input reads as it did. -/
def chartWarmerSpec : ChangeSpec := { name := "chartWarmer", fn := fun _ => fun
  | [d1, d2, d3, d4, d5, d6] => { results := [.lit (.bool true)], args := [d1, d2, d3, d4, d5, d6] }
  | _ => none }
def chartWarmerRow : OpenClaim := { program := "ytcphndfipjifcaa", sum := "8eeaa819fe7394d4f91718735a858666720ef5921cc6a152501d953be72b8467", func := "forecourt/forecourtlaw01.ChartWarmer", spec := "chartWarmer", unfollowed := true, recurses := true, apart := false }
def ChartWarmerSaid : Prop := chartWarmerRow.holds Try.pinned (OpenSpec.ofChange chartWarmerSpec)

/-- ITS FALSE NEIGHBOUR: 'it returns false'. Refute it at one input. -/
def chartWarmerWrong : ChangeSpec := { name := "chartWarmer", fn := fun _ => fun
  | [d1, d2, d3, d4, d5, d6] => { results := [.lit (.bool false)], args := [d1, d2, d3, d4, d5, d6] }
  | _ => none }
def ChartWarmerWrongFalsely : Prop := chartWarmerRow.holds Try.pinned (OpenSpec.ofChange chartWarmerWrong)

/-- 'forecourtlaw01.ChartKnown': WHATEVER THE INPUT: true; the input reads as it did. -/
def chartKnownSpec : ChangeSpec := { name := "chartKnown", fn := fun _ => fun
  | [] => { results := [.lit (.bool true)], args := [] }
  | _ => none }
def chartKnownRow : OpenClaim := { program := "ytcphndfipjifcaa", sum := "8eeaa819fe7394d4f91718735a858666720ef5921cc6a152501d953be72b8467", func := "forecourt/forecourtlaw01.ChartKnown", spec := "chartKnown", unfollowed := true, recurses := true, apart := false }
def ChartKnownSaid : Prop := chartKnownRow.holds Try.pinned (OpenSpec.ofChange chartKnownSpec)

/-- ITS FALSE NEIGHBOUR: 'it returns false'. Refute it at one input. -/
def chartKnownWrong : ChangeSpec := { name := "chartKnown", fn := fun _ => fun
  | [] => { results := [.lit (.bool false)], args := [] }
  | _ => none }
def ChartKnownWrongFalsely : Prop := chartKnownRow.holds Try.pinned (OpenSpec.ofChange chartKnownWrong)

/-- 'forecourtlaw02.LeakKnown': WHATEVER THE INPUT: true; the input reads as it did. -/
def leakKnownSpec : ChangeSpec := { name := "leakKnown", fn := fun _ => fun
  | [] => { results := [.lit (.bool true)], args := [] }
  | _ => none }
def leakKnownRow : OpenClaim := { program := "ytcphndfipjifcaa", sum := "8eeaa819fe7394d4f91718735a858666720ef5921cc6a152501d953be72b8467", func := "forecourt/forecourtlaw02.LeakKnown", spec := "leakKnown", unfollowed := true, recurses := true, apart := false }
def LeakKnownSaid : Prop := leakKnownRow.holds Try.pinned (OpenSpec.ofChange leakKnownSpec)

/-- ITS FALSE NEIGHBOUR: 'it returns false'. Refute it at one input. -/
def leakKnownWrong : ChangeSpec := { name := "leakKnown", fn := fun _ => fun
  | [] => { results := [.lit (.bool false)], args := [] }
  | _ => none }
def LeakKnownWrongFalsely : Prop := leakKnownRow.holds Try.pinned (OpenSpec.ofChange leakKnownWrong)

/-- 'forecourtlaw03.StockMeters': WHATEVER THE INPUT: true; the input reads as it did. -/
def stockMetersSpec : ChangeSpec := { name := "stockMeters", fn := fun _ => fun
  | [d1, d2, d3] => { results := [.lit (.bool true)], args := [d1, d2, d3] }
  | _ => none }
def stockMetersRow : OpenClaim := { program := "ytcphndfipjifcaa", sum := "8eeaa819fe7394d4f91718735a858666720ef5921cc6a152501d953be72b8467", func := "forecourt/forecourtlaw03.StockMeters", spec := "stockMeters", unfollowed := true, recurses := true, apart := false }
def StockMetersSaid : Prop := stockMetersRow.holds Try.pinned (OpenSpec.ofChange stockMetersSpec)

/-- ITS FALSE NEIGHBOUR: 'it returns false'. Refute it at one input. -/
def stockMetersWrong : ChangeSpec := { name := "stockMeters", fn := fun _ => fun
  | [d1, d2, d3] => { results := [.lit (.bool false)], args := [d1, d2, d3] }
  | _ => none }
def StockMetersWrongFalsely : Prop := stockMetersRow.holds Try.pinned (OpenSpec.ofChange stockMetersWrong)

/-- 'forecourtlaw03.StockCans': WHATEVER THE INPUT: true; the input reads as it did. -/
def stockCansSpec : ChangeSpec := { name := "stockCans", fn := fun _ => fun
  | [d1, d2, d3, d4, d5] => { results := [.lit (.bool true)], args := [d1, d2, d3, d4, d5] }
  | _ => none }
def stockCansRow : OpenClaim := { program := "ytcphndfipjifcaa", sum := "8eeaa819fe7394d4f91718735a858666720ef5921cc6a152501d953be72b8467", func := "forecourt/forecourtlaw03.StockCans", spec := "stockCans", unfollowed := true, recurses := true, apart := false }
def StockCansSaid : Prop := stockCansRow.holds Try.pinned (OpenSpec.ofChange stockCansSpec)

/-- ITS FALSE NEIGHBOUR: 'it returns false'. Refute it at one input. -/
def stockCansWrong : ChangeSpec := { name := "stockCans", fn := fun _ => fun
  | [d1, d2, d3, d4, d5] => { results := [.lit (.bool false)], args := [d1, d2, d3, d4, d5] }
  | _ => none }
def StockCansWrongFalsely : Prop := stockCansRow.holds Try.pinned (OpenSpec.ofChange stockCansWrong)

/-- 'forecourtlaw03.StockKnown': WHATEVER THE INPUT: true; the input reads as it did. -/
def stockKnownSpec : ChangeSpec := { name := "stockKnown", fn := fun _ => fun
  | [] => { results := [.lit (.bool true)], args := [] }
  | _ => none }
def stockKnownRow : OpenClaim := { program := "ytcphndfipjifcaa", sum := "8eeaa819fe7394d4f91718735a858666720ef5921cc6a152501d953be72b8467", func := "forecourt/forecourtlaw03.StockKnown", spec := "stockKnown", unfollowed := true, recurses := true, apart := false }
def StockKnownSaid : Prop := stockKnownRow.holds Try.pinned (OpenSpec.ofChange stockKnownSpec)

/-- ITS FALSE NEIGHBOUR: 'it returns false'. Refute it at one input. -/
def stockKnownWrong : ChangeSpec := { name := "stockKnown", fn := fun _ => fun
  | [] => { results := [.lit (.bool false)], args := [] }
  | _ => none }
def StockKnownWrongFalsely : Prop := stockKnownRow.holds Try.pinned (OpenSpec.ofChange stockKnownWrong)

/- THE SECOND FORM. 'bulk': how many values and letters a reading holds, each counted each time it is reached (what is shared counts as often as it is met; a slice's spare places count too). A statement '..UptoSaid' is the law's where the arguments, and the package variables that the reading takes, are together of bulk at most 1048576: NARROWER than '..Said'. Prove '..Said' where nothing that the law and all that it calls make is longer than what came in: it says more and counts as full. Else prove '..UptoSaid'. A law counts once. -/
mutual
def uptoBulk {H : Type} : DataW H → Nat
  | .lit (.string bytes) => bytes.length + 1
  | .lit _ => 1
  | .nil => 1
  | .ptr d => uptoBulk d + 1
  | .slice elems spare => uptoBulkAll elems + uptoBulkAll spare + 1
  | .agg parts => uptoBulkAll parts + 1
  | .iface _ d => uptoBulk d + 1
  | .map entries => uptoBulkEntries entries + 1
  | .held _ => 1
def uptoBulkAll {H : Type} : List (DataW H) → Nat
  | [] => 0
  | d :: r => uptoBulk d + uptoBulkAll r
def uptoBulkEntries {H : Type} : List (Lit × DataW H) → Nat
  | [] => 0
  | x :: r => uptoBulkEntry x + uptoBulkEntries r
def uptoBulkEntry {H : Type} : Lit × DataW H → Nat
  | (.string bytes, d) => bytes.length + uptoBulk d + 1
  | (_, d) => uptoBulk d + 1
 end
def uptoSmall : (H : Type) → List (DataW H) → Bool := fun _ ds => decide (uptoBulkAll ds ≤ 1048576)
def OpenSpec.upto (s : _root_.Go.ChangeSpec) : _root_.Go.OpenSpec := { _root_.Go.OpenSpec.ofChange s with cond := some uptoSmall }

/-- 'forecourtlaw01.ChartWarmer', WHERE WHAT IT READS IS OF BULK AT MOST 1048576: true; the input reads as it did. -/
def chartWarmerUptoRow : OpenClaim := { program := "ytcphndfipjifcaa", sum := "8eeaa819fe7394d4f91718735a858666720ef5921cc6a152501d953be72b8467", func := "forecourt/forecourtlaw01.ChartWarmer", spec := "chartWarmer", unfollowed := true, recurses := true, apart := false, narrowed := true }
def ChartWarmerUptoSaid : Prop := chartWarmerUptoRow.holds Try.pinned (OpenSpec.upto chartWarmerSpec)

/-- 'forecourtlaw01.ChartKnown', WHERE WHAT IT READS IS OF BULK AT MOST 1048576: true; the input reads as it did. -/
def chartKnownUptoRow : OpenClaim := { program := "ytcphndfipjifcaa", sum := "8eeaa819fe7394d4f91718735a858666720ef5921cc6a152501d953be72b8467", func := "forecourt/forecourtlaw01.ChartKnown", spec := "chartKnown", unfollowed := true, recurses := true, apart := false, narrowed := true }
def ChartKnownUptoSaid : Prop := chartKnownUptoRow.holds Try.pinned (OpenSpec.upto chartKnownSpec)

/-- 'forecourtlaw02.LeakKnown', WHERE WHAT IT READS IS OF BULK AT MOST 1048576: true; the input reads as it did. -/
def leakKnownUptoRow : OpenClaim := { program := "ytcphndfipjifcaa", sum := "8eeaa819fe7394d4f91718735a858666720ef5921cc6a152501d953be72b8467", func := "forecourt/forecourtlaw02.LeakKnown", spec := "leakKnown", unfollowed := true, recurses := true, apart := false, narrowed := true }
def LeakKnownUptoSaid : Prop := leakKnownUptoRow.holds Try.pinned (OpenSpec.upto leakKnownSpec)

/-- 'forecourtlaw03.StockMeters', WHERE WHAT IT READS IS OF BULK AT MOST 1048576: true; the input reads as it did. -/
def stockMetersUptoRow : OpenClaim := { program := "ytcphndfipjifcaa", sum := "8eeaa819fe7394d4f91718735a858666720ef5921cc6a152501d953be72b8467", func := "forecourt/forecourtlaw03.StockMeters", spec := "stockMeters", unfollowed := true, recurses := true, apart := false, narrowed := true }
def StockMetersUptoSaid : Prop := stockMetersUptoRow.holds Try.pinned (OpenSpec.upto stockMetersSpec)

/-- 'forecourtlaw03.StockCans', WHERE WHAT IT READS IS OF BULK AT MOST 1048576: true; the input reads as it did. -/
def stockCansUptoRow : OpenClaim := { program := "ytcphndfipjifcaa", sum := "8eeaa819fe7394d4f91718735a858666720ef5921cc6a152501d953be72b8467", func := "forecourt/forecourtlaw03.StockCans", spec := "stockCans", unfollowed := true, recurses := true, apart := false, narrowed := true }
def StockCansUptoSaid : Prop := stockCansUptoRow.holds Try.pinned (OpenSpec.upto stockCansSpec)

/-- 'forecourtlaw03.StockKnown', WHERE WHAT IT READS IS OF BULK AT MOST 1048576: true; the input reads as it did. -/
def stockKnownUptoRow : OpenClaim := { program := "ytcphndfipjifcaa", sum := "8eeaa819fe7394d4f91718735a858666720ef5921cc6a152501d953be72b8467", func := "forecourt/forecourtlaw03.StockKnown", spec := "stockKnown", unfollowed := true, recurses := true, apart := false, narrowed := true }
def StockKnownUptoSaid : Prop := stockKnownUptoRow.holds Try.pinned (OpenSpec.upto stockKnownSpec)

end Rows
end Go.Proofs.Ytcphndfipjifcaa
