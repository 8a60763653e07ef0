/- Calls that are made on the way, computed by the quick machine. No condition. -/
import Derived.Test.YtpbcbjjofgnmlaaVjTws
namespace Go.Vm
set_option maxHeartbeats 0
set_option maxRecDepth 100000
theorem twr5 : (runG (memoOf [tw4, tw3, tw2, tw1, tw0]) 20000).f tw5.f tw5.args tw5.V.next tw5.V.objs (fun v n m => beqV 4 v tw5.v && beqW ⟨n, keepL [4074, 3563, 2888, 2887, 2886, 2027, 2025, 1364, 1363, 1362, 1361, 1337, 1336, 1335, 1334, 736, 588, 432, 315, 154, 9, 8, 6] m⟩ tw5.V1) = true := by decide +kernel
theorem twr6 : (runG (memoOf [tw5, tw4, tw3, tw2, tw1, tw0]) 20000).f tw6.f tw6.args tw6.V.next tw6.V.objs (fun v n m => beqV 4 v tw6.v && beqW ⟨n, keepL [4585, 4074, 3563, 2888, 2887, 2886, 2027, 2025, 1364, 1363, 1362, 1361, 1337, 1336, 1335, 1334, 736, 588, 432, 315, 154, 9, 8, 6] m⟩ tw6.V1) = true := by decide +kernel
end Go.Vm
