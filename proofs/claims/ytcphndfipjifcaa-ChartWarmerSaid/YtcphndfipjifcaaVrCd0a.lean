/- Calls told in parts: rounds of a loop. -/
import Derived.Test.YtcphndfipjifcaaVrCd0s
namespace Go.Vm
set_option maxHeartbeats 0
set_option maxRecDepth 100000
theorem cd0x360 : Ends (memoOf []) 2000 none cd0lp cd0l360 (.exit 0) cd0f := ends_g (memoOf_code []) (by decide +kernel) (by decide +kernel) (by decide +kernel)
theorem cd0x324 : Ends (memoOf []) 2036 none cd0lp cd0l324 (.exit 0) cd0f := loop_at (N := 2000) (j := 36) (memoOf_code []) (by decide +kernel) (by decide +kernel) (by decide +kernel) (by decide +kernel) cd0x360
theorem cd0x288 : Ends (memoOf []) 2072 none cd0lp cd0l288 (.exit 0) cd0f := loop_at (N := 2036) (j := 36) (memoOf_code []) (by decide +kernel) (by decide +kernel) (by decide +kernel) (by decide +kernel) cd0x324
theorem cd0x252 : Ends (memoOf []) 2108 none cd0lp cd0l252 (.exit 0) cd0f := loop_at (N := 2072) (j := 36) (memoOf_code []) (by decide +kernel) (by decide +kernel) (by decide +kernel) (by decide +kernel) cd0x288
end Go.Vm
