/- Calls that are made on the way, computed by the quick machine. No condition. -/
import Derived.Test.YtpbcbjjofgnmlaaVrTks
namespace Go.Vm
set_option maxHeartbeats 0
set_option maxRecDepth 100000
theorem tdr4 : (runG (memoOf [td3, td2, td1, td0]) 20000).f td4.f td4.args td4.V.next td4.V.objs (fun v n m => beqV 4 v td4.v && beqW ⟨n, keepL [3293, 2782, 2107, 2106, 2105, 1098, 119, 118, 117, 116, 92, 91, 90, 50, 10, 9, 8, 6] m⟩ td4.V1) = true := by decide +kernel
theorem tdr5 : (runG (memoOf [td4, td3, td2, td1, td0]) 20000).f td5.f td5.args td5.V.next td5.V.objs (fun v n m => beqV 4 v td5.v && beqW ⟨n, keepL [3804, 3293, 2782, 2107, 2106, 2105, 1098, 119, 118, 117, 116, 92, 91, 90, 50, 10, 9, 8, 6] m⟩ td5.V1) = true := by decide +kernel
end Go.Vm
