/- Calls that are made on the way, computed by the quick machine. No condition. -/
import Derived.Test.YtpbcbjjofgnmlaaVrTks
namespace Go.Vm
set_option maxHeartbeats 0
set_option maxRecDepth 100000
theorem tdr2 : (runG (memoOf [td1, td0]) 20000).f td2.f td2.args td2.V.next td2.V.objs (fun v n m => beqV 4 v td2.v && beqW ⟨n, keepL [2107, 2106, 2105, 1098, 119, 118, 117, 116, 92, 91, 90, 50, 10, 9, 8, 6] m⟩ td2.V1) = true := by decide +kernel
theorem tdr3 : (runG (memoOf [td2, td1, td0]) 20000).f td3.f td3.args td3.V.next td3.V.objs (fun v n m => beqV 4 v td3.v && beqW ⟨n, keepL [2782, 2107, 2106, 2105, 1098, 119, 118, 117, 116, 92, 91, 90, 50, 10, 9, 8, 6] m⟩ td3.V1) = true := by decide +kernel
end Go.Vm
