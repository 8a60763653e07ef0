/- Calls that are made on the way, computed by the quick machine. No condition. -/
import Derived.Test.YtpbcbjjofgnmlaaVjTws
namespace Go.Vm
set_option maxHeartbeats 0
set_option maxRecDepth 100000
theorem twr0 : (runG (memoOf []) 20000).f tw0.f tw0.args tw0.V.next tw0.V.objs (fun v n m => beqV 4 v tw0.v && beqW ⟨n, keepL [1334, 736, 588, 432, 315, 154, 9, 8, 6] m⟩ tw0.V1) = true := by decide +kernel
theorem twr1 : (runG (memoOf [tw0]) 20000).f tw1.f tw1.args tw1.V.next tw1.V.objs (fun v n m => beqV 4 v tw1.v && beqW ⟨n, keepL [1364, 1363, 1362, 1361, 1337, 1336, 1335, 1334, 736, 588, 432, 315, 154, 9, 8, 6] m⟩ tw1.V1) = true := by decide +kernel
theorem twr2 : (runG (memoOf [tw1, tw0]) 20000).f tw2.f tw2.args tw2.V.next tw2.V.objs (fun v n m => beqV 4 v tw2.v && beqW ⟨n, keepL [2027, 2026, 2025, 1364, 1363, 1362, 1361, 1337, 1336, 1335, 1334, 736, 588, 432, 315, 154, 9, 8, 6] m⟩ tw2.V1) = true := by decide +kernel
end Go.Vm
