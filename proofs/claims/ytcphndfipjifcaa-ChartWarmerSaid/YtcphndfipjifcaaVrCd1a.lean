/- Calls told in parts: rounds of a loop. -/
import Derived.Test.YtcphndfipjifcaaVrCd1s
namespace Go.Vm
set_option maxHeartbeats 0
set_option maxRecDepth 100000
theorem cd1x360 : Ends (memoOf [cd0k]) 2000 none cd1lp cd1l360 (.exit 0) cd1f := ends_g (memoOf_code [cd0k]) (by decide +kernel) (by decide +kernel) (by decide +kernel)
theorem cd1x324 : Ends (memoOf [cd0k]) 2036 none cd1lp cd1l324 (.exit 0) cd1f := loop_at (N := 2000) (j := 36) (memoOf_code [cd0k]) (by decide +kernel) (by decide +kernel) (by decide +kernel) (by decide +kernel) cd1x360
theorem cd1x288 : Ends (memoOf [cd0k]) 2072 none cd1lp cd1l288 (.exit 0) cd1f := loop_at (N := 2036) (j := 36) (memoOf_code [cd0k]) (by decide +kernel) (by decide +kernel) (by decide +kernel) (by decide +kernel) cd1x324
theorem cd1x252 : Ends (memoOf [cd0k]) 2108 none cd1lp cd1l252 (.exit 0) cd1f := loop_at (N := 2072) (j := 36) (memoOf_code [cd0k]) (by decide +kernel) (by decide +kernel) (by decide +kernel) (by decide +kernel) cd1x288
end Go.Vm
