/- Calls told in parts: the whole. -/
import Derived.Test.YtcphndfipjifcaaVrCd0c
namespace Go.Vm
set_option maxHeartbeats 0
set_option maxRecDepth 100000
theorem cd0b : Ends (memoOf []) 2361 none (sB (sA cd0c3)) cd0l0 .normal cd0f := block_at (N := 2360) (id := 0) (memoOf_code []) (by decide +kernel) (.inr cd0x0)
theorem cd0r7 : Ends (memoOf []) 2361 none (sA (sA cd0c3)) cd0s3 .normal cd0l0 := ends_g (memoOf_code []) (by decide +kernel) (by decide +kernel) (by decide +kernel)
theorem cd0m : Ends (memoOf []) 2362 none (sA cd0c3) cd0s3 .normal cd0f := seq_at (N := 2361) (memoOf_code []) (by decide +kernel) cd0r7 cd0b
theorem cd0rest : Ends (memoOf []) 2362 none (sB cd0c3) cd0f .ret cd0e := ends_g (memoOf_code []) (by decide +kernel) (by decide +kernel) (by decide +kernel)
theorem cd0t3 : Ends (memoOf []) 2363 none cd0c3 cd0s3 .ret cd0e := seq_at (N := 2362) (memoOf_code []) (by decide +kernel) cd0m cd0rest
theorem cd0r2 : Ends (memoOf []) 2363 none (sA (sB (sB cd0c))) cd0s2 .normal cd0s3 := ends_g (memoOf_code []) (by decide +kernel) (by decide +kernel) (by decide +kernel)
theorem cd0t2 : Ends (memoOf []) 2364 none (sB (sB cd0c)) cd0s2 .ret cd0e := seq_at (N := 2363) (memoOf_code []) (by decide +kernel) cd0r2 cd0t3
theorem cd0r1 : Ends (memoOf []) 2364 none (sA (sB cd0c)) cd0s1 .normal cd0s2 := ends_g (memoOf_code []) (by decide +kernel) (by decide +kernel) (by decide +kernel)
theorem cd0t1 : Ends (memoOf []) 2365 none (sB cd0c) cd0s1 .ret cd0e := seq_at (N := 2364) (memoOf_code []) (by decide +kernel) cd0r1 cd0t2
theorem cd0r0 : Ends (memoOf []) 2365 none (sA cd0c) cd0s0 .normal cd0s1 := ends_g (memoOf_code []) (by decide +kernel) (by decide +kernel) (by decide +kernel)
theorem cd0t0 : Ends (memoOf []) 2366 none cd0c cd0s0 .ret cd0e := seq_at (N := 2365) (memoOf_code []) (by decide +kernel) cd0r0 cd0t1
theorem cd0kok : SelfOK TP (memoOf (cd0k :: [])) := memo_parts (k := cd0k) memo_nil [1590, 1527, 1491, 1490, 1489, 974, 963, 439, 337, 264, 199, 121, 110, 10, 9] (N := 2367) (call_at (N := 2366) (memo_none (by decide +kernel)) (by decide +kernel) cd0t0) (by decide +kernel)
end Go.Vm
