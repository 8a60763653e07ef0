/- Calls told in parts: rounds of a loop. -/
import Derived.Test.YtcphndfipjifcaaVrCd1a
namespace Go.Vm
set_option maxHeartbeats 0
set_option maxRecDepth 100000
theorem cd1x216 : Ends (memoOf [cd0k]) 2144 none cd1lp cd1l216 (.exit 0) cd1f := loop_at (N := 2108) (j := 36) (memoOf_code [cd0k]) (by decide +kernel) (by decide +kernel) (by decide +kernel) (by decide +kernel) cd1x252
theorem cd1x180 : Ends (memoOf [cd0k]) 2180 none cd1lp cd1l180 (.exit 0) cd1f := loop_at (N := 2144) (j := 36) (memoOf_code [cd0k]) (by decide +kernel) (by decide +kernel) (by decide +kernel) (by decide +kernel) cd1x216
theorem cd1x144 : Ends (memoOf [cd0k]) 2216 none cd1lp cd1l144 (.exit 0) cd1f := loop_at (N := 2180) (j := 36) (memoOf_code [cd0k]) (by decide +kernel) (by decide +kernel) (by decide +kernel) (by decide +kernel) cd1x180
theorem cd1x108 : Ends (memoOf [cd0k]) 2252 none cd1lp cd1l108 (.exit 0) cd1f := loop_at (N := 2216) (j := 36) (memoOf_code [cd0k]) (by decide +kernel) (by decide +kernel) (by decide +kernel) (by decide +kernel) cd1x144
end Go.Vm
