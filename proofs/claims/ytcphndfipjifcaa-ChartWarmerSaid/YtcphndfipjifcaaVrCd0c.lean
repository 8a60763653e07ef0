/- Calls told in parts: rounds of a loop. -/
import Derived.Test.YtcphndfipjifcaaVrCd0b
namespace Go.Vm
set_option maxHeartbeats 0
set_option maxRecDepth 100000
theorem cd0x72 : Ends (memoOf []) 2288 none cd0lp cd0l72 (.exit 0) cd0f := loop_at (N := 2252) (j := 36) (memoOf_code []) (by decide +kernel) (by decide +kernel) (by decide +kernel) (by decide +kernel) cd0x108
theorem cd0x36 : Ends (memoOf []) 2324 none cd0lp cd0l36 (.exit 0) cd0f := loop_at (N := 2288) (j := 36) (memoOf_code []) (by decide +kernel) (by decide +kernel) (by decide +kernel) (by decide +kernel) cd0x72
theorem cd0x0 : Ends (memoOf []) 2360 none cd0lp cd0l0 (.exit 0) cd0f := loop_at (N := 2324) (j := 36) (memoOf_code []) (by decide +kernel) (by decide +kernel) (by decide +kernel) (by decide +kernel) cd0x36
end Go.Vm
