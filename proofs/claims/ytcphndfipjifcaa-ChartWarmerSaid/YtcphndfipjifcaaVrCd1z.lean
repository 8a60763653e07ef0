/- Calls told in parts: the whole. -/
import Derived.Test.YtcphndfipjifcaaVrCd1c
namespace Go.Vm
set_option maxHeartbeats 0
set_option maxRecDepth 100000
theorem cd1b : Ends (memoOf [cd0k]) 2361 none (sB (sA cd1c3)) cd1l0 .normal cd1f := block_at (N := 2360) (id := 0) (memoOf_code [cd0k]) (by decide +kernel) (.inr cd1x0)
theorem cd1r7 : Ends (memoOf [cd0k]) 2361 none (sA (sA cd1c3)) cd1s3 .normal cd1l0 := ends_g (memoOf_code [cd0k]) (by decide +kernel) (by decide +kernel) (by decide +kernel)
theorem cd1m : Ends (memoOf [cd0k]) 2362 none (sA cd1c3) cd1s3 .normal cd1f := seq_at (N := 2361) (memoOf_code [cd0k]) (by decide +kernel) cd1r7 cd1b
theorem cd1rest : Ends (memoOf [cd0k]) 2362 none (sB cd1c3) cd1f .ret cd1e := ends_g (memoOf_code [cd0k]) (by decide +kernel) (by decide +kernel) (by decide +kernel)
theorem cd1t3 : Ends (memoOf [cd0k]) 2363 none cd1c3 cd1s3 .ret cd1e := seq_at (N := 2362) (memoOf_code [cd0k]) (by decide +kernel) cd1m cd1rest
theorem cd1r2 : Ends (memoOf [cd0k]) 2363 none (sA (sB (sB cd1c))) cd1s2 .normal cd1s3 := ends_g (memoOf_code [cd0k]) (by decide +kernel) (by decide +kernel) (by decide +kernel)
theorem cd1t2 : Ends (memoOf [cd0k]) 2364 none (sB (sB cd1c)) cd1s2 .ret cd1e := seq_at (N := 2363) (memoOf_code [cd0k]) (by decide +kernel) cd1r2 cd1t3
theorem cd1r1 : Ends (memoOf [cd0k]) 2364 none (sA (sB cd1c)) cd1s1 .normal cd1s2 := ends_g (memoOf_code [cd0k]) (by decide +kernel) (by decide +kernel) (by decide +kernel)
theorem cd1t1 : Ends (memoOf [cd0k]) 2365 none (sB cd1c) cd1s1 .ret cd1e := seq_at (N := 2364) (memoOf_code [cd0k]) (by decide +kernel) cd1r1 cd1t2
theorem cd1r0 : Ends (memoOf [cd0k]) 2365 none (sA cd1c) cd1s0 .normal cd1s1 := ends_g (memoOf_code [cd0k]) (by decide +kernel) (by decide +kernel) (by decide +kernel)
theorem cd1t0 : Ends (memoOf [cd0k]) 2366 none cd1c cd1s0 .ret cd1e := seq_at (N := 2365) (memoOf_code [cd0k]) (by decide +kernel) cd1r0 cd1t1
theorem cd1kok : SelfOK TP (memoOf (cd1k :: [cd0k])) := memo_parts (k := cd1k) cd0kok [11536, 11473, 11437, 11436, 11435, 1489, 974, 963, 439, 337, 264, 199, 121, 110, 10, 9] (N := 2367) (call_at (N := 2366) (memo_none (by decide +kernel)) (by decide +kernel) cd1t0) (by decide +kernel)
end Go.Vm
