/- Calls that are made on the way, computed by the small machine. -/
import Derived.Test.YtcphndfipjifcaaVpSwc
namespace Go.Vm
set_option maxHeartbeats 0
set_option maxRecDepth 100000
/-- the works function of stocks answers true -/
theorem stock_works (w : World) : Calls Go.Proofs.Try.prog 31 #[] w fun e w' => e = .returned (.bool true) ∧ RowKit.Below w.heap.size w w' :=
  closed_ok good_prog (n := 20000) swok5 (by decide +kernel) rfl w
end Go.Vm
