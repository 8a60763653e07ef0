/- All calls that are known, together. No condition. -/
import Derived.Test.YtpbcbjjofgnmlaaVrTka
import Derived.Test.YtpbcbjjofgnmlaaVrTkb
import Derived.Test.YtpbcbjjofgnmlaaVrTkc
namespace Go.Vm
set_option maxHeartbeats 0
set_option maxRecDepth 100000
theorem tdok0 : SelfOK TP (memoOf [td0]) := memo_g memo_nil [119, 118, 117, 116, 92, 91, 90, 50, 10, 9, 8, 6] (N := 20000) (by decide +kernel) tdr0
theorem tdok1 : SelfOK TP (memoOf [td1, td0]) := memo_g tdok0 [1098, 119, 118, 117, 116, 92, 91, 90, 50, 10, 9, 8, 6] (N := 20000) (by decide +kernel) tdr1
theorem tdok2 : SelfOK TP (memoOf [td2, td1, td0]) := memo_g tdok1 [2107, 2106, 2105, 1098, 119, 118, 117, 116, 92, 91, 90, 50, 10, 9, 8, 6] (N := 20000) (by decide +kernel) tdr2
theorem tdok3 : SelfOK TP (memoOf [td3, td2, td1, td0]) := memo_g tdok2 [2782, 2107, 2106, 2105, 1098, 119, 118, 117, 116, 92, 91, 90, 50, 10, 9, 8, 6] (N := 20000) (by decide +kernel) tdr3
theorem tdok4 : SelfOK TP (memoOf [td4, td3, td2, td1, td0]) := memo_g tdok3 [3293, 2782, 2107, 2106, 2105, 1098, 119, 118, 117, 116, 92, 91, 90, 50, 10, 9, 8, 6] (N := 20000) (by decide +kernel) tdr4
theorem tdok5 : SelfOK TP (memoOf [td5, td4, td3, td2, td1, td0]) := memo_g tdok4 [3804, 3293, 2782, 2107, 2106, 2105, 1098, 119, 118, 117, 116, 92, 91, 90, 50, 10, 9, 8, 6] (N := 20000) (by decide +kernel) tdr5
end Go.Vm
