/- The works function of stocks answers true: computed. -/
import Derived.Test.YtcphndfipjifcaaVrG2
namespace Go.Vm
set_option maxHeartbeats 0 in
set_option maxRecDepth 100000 in
theorem stock_works (w : World) : Calls Go.Proofs.Try.prog 31 #[] w fun e w' => e = .returned (.bool true) ∧ RowKit.Below w.heap.size w w' :=
  closed_quick (N := 20000) (v := .bool true) rfl (by decide +kernel) w
end Go.Vm
