/- Calls told in parts: rounds of a loop. -/
import Derived.Test.YtcphndfipjifcaaVrCd0a
namespace Go.Vm
set_option maxHeartbeats 0
set_option maxRecDepth 100000
theorem cd0x216 : Ends (memoOf []) 2144 none cd0lp cd0l216 (.exit 0) cd0f := loop_at (N := 2108) (j := 36) (memoOf_code []) (by decide +kernel) (by decide +kernel) (by decide +kernel) (by decide +kernel) cd0x252
theorem cd0x180 : Ends (memoOf []) 2180 none cd0lp cd0l180 (.exit 0) cd0f := loop_at (N := 2144) (j := 36) (memoOf_code []) (by decide +kernel) (by decide +kernel) (by decide +kernel) (by decide +kernel) cd0x216
theorem cd0x144 : Ends (memoOf []) 2216 none cd0lp cd0l144 (.exit 0) cd0f := loop_at (N := 2180) (j := 36) (memoOf_code []) (by decide +kernel) (by decide +kernel) (by decide +kernel) (by decide +kernel) cd0x180
theorem cd0x108 : Ends (memoOf []) 2252 none cd0lp cd0l108 (.exit 0) cd0f := loop_at (N := 2216) (j := 36) (memoOf_code []) (by decide +kernel) (by decide +kernel) (by decide +kernel) (by decide +kernel) cd0x144
end Go.Vm
