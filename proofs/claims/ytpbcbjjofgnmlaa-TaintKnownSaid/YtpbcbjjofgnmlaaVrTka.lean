/- Calls that are made on the way, computed by the quick machine. No condition. -/
import Derived.Test.YtpbcbjjofgnmlaaVrTks
namespace Go.Vm
set_option maxHeartbeats 0
set_option maxRecDepth 100000
theorem tdr0 : (runG (memoOf []) 20000).f td0.f td0.args td0.V.next td0.V.objs (fun v n m => beqV 4 v td0.v && beqW ⟨n, keepL [119, 118, 117, 116, 92, 91, 90, 50, 10, 9, 8, 6] m⟩ td0.V1) = true := by decide +kernel
theorem tdr1 : (runG (memoOf [td0]) 20000).f td1.f td1.args td1.V.next td1.V.objs (fun v n m => beqV 4 v td1.v && beqW ⟨n, keepL [1098, 119, 118, 117, 116, 92, 91, 90, 50, 10, 9, 8, 6] m⟩ td1.V1) = true := by decide +kernel
end Go.Vm
