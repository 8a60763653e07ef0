/- Calls that are made on the way, computed by the quick machine. No condition. -/
import Derived.Test.YtomokhdkagedpaaVjTws
set_option linter.unusedVariables false
namespace Go.Vm
set_option maxHeartbeats 0
set_option maxRecDepth 100000
theorem twr1 : (runG (memoU [tw0]) 20000).f tw1.f tw1.args tw1.V.next tw1.V.objs (fun v n m => beqV 4 v tw1.v && beqW ⟨n, keepL [877, 839, 738, 737, 5, 4, 3, 2, 1] m⟩ tw1.V1) = true := by decide +kernel
theorem twr2 : (runG (memoU [tw1, tw0]) 20000).f tw2.f tw2.args tw2.V.next tw2.V.objs (fun v n m => beqV 4 v tw2.v && beqW ⟨n, keepL [878, 877, 839, 738, 737, 5, 4, 3, 2, 1] m⟩ tw2.V1) = true := by decide +kernel
theorem twr3 : (runG (memoU [tw2, tw1, tw0]) 20000).f tw3.f tw3.args tw3.V.next tw3.V.objs (fun v n m => beqV 4 v tw3.v && beqW ⟨n, keepL [932, 931, 930, 927, 878, 877, 839, 738, 737, 5, 4, 3, 2, 1] m⟩ tw3.V1) = true := by decide +kernel
theorem twr4 : (runG (memoU [tw3, tw2, tw1, tw0]) 20000).f tw4.f tw4.args tw4.V.next tw4.V.objs (fun v n m => beqV 4 v tw4.v && beqW ⟨n, keepL [993, 992, 991, 988, 987, 927, 878, 877, 839, 738, 737, 5, 4, 3, 2, 1] m⟩ tw4.V1) = true := by decide +kernel
end Go.Vm
