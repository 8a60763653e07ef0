/- Calls that are made on the way, computed by the quick machine. No condition. -/
import Derived.Test.YtomokhdkagedpaaVjTws
set_option linter.unusedVariables false
namespace Go.Vm
set_option maxHeartbeats 0
set_option maxRecDepth 100000
theorem twr5 : (runG (memoU [tw4, tw3, tw2, tw1, tw0]) 20000).f tw5.f tw5.args tw5.V.next tw5.V.objs (fun v n m => beqV 4 v tw5.v && beqW ⟨n, keepL [1053, 1052, 1051, 1048, 993, 992, 987, 927, 878, 877, 839, 738, 737, 5, 4, 3, 2, 1] m⟩ tw5.V1) = true := by decide +kernel
theorem twr6 : (runG (memoU [tw5, tw4, tw3, tw2, tw1, tw0]) 20000).f tw6.f tw6.args tw6.V.next tw6.V.objs (fun v n m => beqV 4 v tw6.v && beqW ⟨n, keepL [1160, 1115, 1112, 1111, 1110, 1109, 1108, 1053, 1052, 1051, 1048, 993, 992, 987, 927, 878, 877, 839, 738, 737, 5, 4, 3, 2, 1] m⟩ tw6.V1) = true := by decide +kernel
theorem twr7 : (runG (memoU [tw6, tw5, tw4, tw3, tw2, tw1, tw0]) 20000).f tw7.f tw7.args tw7.V.next tw7.V.objs (fun v n m => beqV 4 v tw7.v && beqW ⟨n, keepL [1256, 1255, 1254, 1253, 1252, 1207, 1160, 1115, 1112, 1111, 1110, 1109, 1108, 1053, 1052, 1051, 1048, 993, 992, 987, 927, 878, 877, 839, 738, 737, 5, 4, 3, 2, 1] m⟩ tw7.V1) = true := by decide +kernel
theorem twr8 : (runG (memoU [tw7, tw6, tw5, tw4, tw3, tw2, tw1, tw0]) 20000).f tw8.f tw8.args tw8.V.next tw8.V.objs (fun v n m => beqV 4 v tw8.v && beqW ⟨n, keepL [1323, 1322, 1321, 1320, 1319, 1252, 1207, 1160, 1115, 1112, 1111, 1110, 1109, 1108, 1053, 1052, 1051, 1048, 993, 992, 987, 927, 878, 877, 839, 738, 737, 5, 4, 3, 2, 1] m⟩ tw8.V1) = true := by decide +kernel
end Go.Vm
