/- Calls told in parts: rounds of a loop. -/
import Derived.Test.YtcphndfipjifcaaVrCd1b
namespace Go.Vm
set_option maxHeartbeats 0
set_option maxRecDepth 100000
theorem cd1x72 : Ends (memoOf [cd0k]) 2288 none cd1lp cd1l72 (.exit 0) cd1f := loop_at (N := 2252) (j := 36) (memoOf_code [cd0k]) (by decide +kernel) (by decide +kernel) (by decide +kernel) (by decide +kernel) cd1x108
theorem cd1x36 : Ends (memoOf [cd0k]) 2324 none cd1lp cd1l36 (.exit 0) cd1f := loop_at (N := 2288) (j := 36) (memoOf_code [cd0k]) (by decide +kernel) (by decide +kernel) (by decide +kernel) (by decide +kernel) cd1x72
theorem cd1x0 : Ends (memoOf [cd0k]) 2360 none cd1lp cd1l0 (.exit 0) cd1f := loop_at (N := 2324) (j := 36) (memoOf_code [cd0k]) (by decide +kernel) (by decide +kernel) (by decide +kernel) (by decide +kernel) cd1x36
end Go.Vm
