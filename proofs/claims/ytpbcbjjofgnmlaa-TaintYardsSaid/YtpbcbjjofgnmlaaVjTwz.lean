/- All calls that are known, together. No condition. -/
import Derived.Test.YtpbcbjjofgnmlaaVjTwa
import Derived.Test.YtpbcbjjofgnmlaaVjTwb
import Derived.Test.YtpbcbjjofgnmlaaVjTwc
namespace Go.Vm
set_option maxHeartbeats 0
set_option maxRecDepth 100000
theorem twok0 : SelfOK TP (memoOf [tw0]) := memo_g memo_nil [1334, 736, 588, 432, 315, 154, 9, 8, 6] (N := 20000) (by decide +kernel) twr0
theorem twok1 : SelfOK TP (memoOf [tw1, tw0]) := memo_g twok0 [1364, 1363, 1362, 1361, 1337, 1336, 1335, 1334, 736, 588, 432, 315, 154, 9, 8, 6] (N := 20000) (by decide +kernel) twr1
theorem twok2 : SelfOK TP (memoOf [tw2, tw1, tw0]) := memo_g twok1 [2027, 2026, 2025, 1364, 1363, 1362, 1361, 1337, 1336, 1335, 1334, 736, 588, 432, 315, 154, 9, 8, 6] (N := 20000) (by decide +kernel) twr2
theorem twok3 : SelfOK TP (memoOf [tw3, tw2, tw1, tw0]) := memo_g twok2 [2888, 2887, 2886, 2027, 2025, 1364, 1363, 1362, 1361, 1337, 1336, 1335, 1334, 736, 588, 432, 315, 154, 9, 8, 6] (N := 20000) (by decide +kernel) twr3
theorem twok4 : SelfOK TP (memoOf [tw4, tw3, tw2, tw1, tw0]) := memo_g twok3 [3563, 2888, 2887, 2886, 2027, 2025, 1364, 1363, 1362, 1361, 1337, 1336, 1335, 1334, 736, 588, 432, 315, 154, 9, 8, 6] (N := 20000) (by decide +kernel) twr4
theorem twok5 : SelfOK TP (memoOf [tw5, tw4, tw3, tw2, tw1, tw0]) := memo_g twok4 [4074, 3563, 2888, 2887, 2886, 2027, 2025, 1364, 1363, 1362, 1361, 1337, 1336, 1335, 1334, 736, 588, 432, 315, 154, 9, 8, 6] (N := 20000) (by decide +kernel) twr5
theorem twok6 : SelfOK TP (memoOf [tw6, tw5, tw4, tw3, tw2, tw1, tw0]) := memo_g twok5 [4585, 4074, 3563, 2888, 2887, 2886, 2027, 2025, 1364, 1363, 1362, 1361, 1337, 1336, 1335, 1334, 736, 588, 432, 315, 154, 9, 8, 6] (N := 20000) (by decide +kernel) twr6
/-- the works function of taint answers true: computed, with its long calls told apart -/
theorem taint_works (w : World) : Calls Go.Proofs.Try.prog 7 #[] w fun e w' => e = .returned (.bool true) ∧ RowKit.Below w.heap.size w w' :=
  closedG (memo := memoOf [tw6, tw5, tw4, tw3, tw2, tw1, tw0]) twok6 (memoOf_code _) (N := 20000) (v := .bool true) rfl (by decide +kernel) w
end Go.Vm
