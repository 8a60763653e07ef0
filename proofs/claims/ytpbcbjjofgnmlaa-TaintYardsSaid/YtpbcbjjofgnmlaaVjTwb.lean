/- Calls that are made on the way, computed by the quick machine. No condition. -/
import Derived.Test.YtpbcbjjofgnmlaaVjTws
namespace Go.Vm
set_option maxHeartbeats 0
set_option maxRecDepth 100000
theorem twr3 : (runG (memoOf [tw2, tw1, tw0]) 20000).f tw3.f tw3.args tw3.V.next tw3.V.objs (fun v n m => beqV 4 v tw3.v && beqW ⟨n, keepL [2888, 2887, 2886, 2027, 2025, 1364, 1363, 1362, 1361, 1337, 1336, 1335, 1334, 736, 588, 432, 315, 154, 9, 8, 6] m⟩ tw3.V1) = true := by decide +kernel
theorem twr4 : (runG (memoOf [tw3, tw2, tw1, tw0]) 20000).f tw4.f tw4.args tw4.V.next tw4.V.objs (fun v n m => beqV 4 v tw4.v && beqW ⟨n, keepL [3563, 2888, 2887, 2886, 2027, 2025, 1364, 1363, 1362, 1361, 1337, 1336, 1335, 1334, 736, 588, 432, 315, 154, 9, 8, 6] m⟩ tw4.V1) = true := by decide +kernel
end Go.Vm
