/- Calls that are made on the way, computed by the quick machine. No condition. -/
import Derived.Test.YtomokhdkagedpaaVjTws
set_option linter.unusedVariables false
namespace Go.Vm
set_option maxHeartbeats 0
set_option maxRecDepth 100000
theorem twr9 : (runG (memoU [tw8, tw7, tw6, tw5, tw4, tw3, tw2, tw1, tw0]) 20000).f tw9.f tw9.args tw9.V.next tw9.V.objs (fun v n m => beqV 4 v tw9.v && beqW ⟨n, keepL [1111, 1110, 1109, 1048, 993, 992, 987, 927, 878, 877, 839, 738, 737, 5, 4, 3, 2, 1] m⟩ tw9.V1) = true := by decide +kernel
theorem twr10 : (runG (memoU [tw9, tw8, tw7, tw6, tw5, tw4, tw3, tw2, tw1, tw0]) 20000).f tw10.f tw10.args tw10.V.next tw10.V.objs (fun v n m => beqV 4 v tw10.v && beqW ⟨n, keepL [1433, 1432, 1431, 1111, 1110, 1109, 1048, 993, 992, 987, 927, 878, 877, 839, 738, 737, 5, 4, 3, 2, 1] m⟩ tw10.V1) = true := by decide +kernel
theorem twr11 : (runG (memoU [tw10, tw9, tw8, tw7, tw6, tw5, tw4, tw3, tw2, tw1, tw0]) 20000).f tw11.f tw11.args tw11.V.next tw11.V.objs (fun v n m => beqV 4 v tw11.v && beqW ⟨n, keepL [1540, 1433, 1432, 1431, 1111, 1110, 1109, 1048, 993, 992, 987, 927, 878, 877, 839, 738, 737, 5, 4, 3, 2, 1] m⟩ tw11.V1) = true := by decide +kernel
end Go.Vm
