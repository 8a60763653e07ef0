/- Calls that are made on the way, computed by the quick machine. No condition. -/
import Derived.Test.YtomokhdkagedpaaVjTws
set_option linter.unusedVariables false
namespace Go.Vm
set_option maxHeartbeats 0
set_option maxRecDepth 100000
theorem twr0 : (runG (memoU []) 20000).f tw0.f tw0.args tw0.V.next tw0.V.objs (fun v n m => beqV 4 v tw0.v && beqW ⟨n, keepL [737, 91, 67, 66, 5, 4, 3, 2, 1] m⟩ tw0.V1) = true := by decide +kernel
end Go.Vm
