/- All calls that are known, together. No condition. -/
import Derived.Test.YtomokhdkagedpaaVjTwa
import Derived.Test.YtomokhdkagedpaaVjTwb
import Derived.Test.YtomokhdkagedpaaVjTwc
import Derived.Test.YtomokhdkagedpaaVjTwd
set_option linter.unusedVariables false
namespace Go.Vm
set_option maxHeartbeats 0
set_option maxRecDepth 100000
theorem twok0 : SelfOK TP (memoU [tw0]) := memo_u memoU_nil [737, 91, 67, 66, 5, 4, 3, 2, 1] (N := 20000) (by decide +kernel) twr0
theorem twok1 : SelfOK TP (memoU [tw1, tw0]) := memo_u twok0 [877, 839, 738, 737, 5, 4, 3, 2, 1] (N := 20000) (by decide +kernel) twr1
theorem twok2 : SelfOK TP (memoU [tw2, tw1, tw0]) := memo_u twok1 [878, 877, 839, 738, 737, 5, 4, 3, 2, 1] (N := 20000) (by decide +kernel) twr2
theorem twok3 : SelfOK TP (memoU [tw3, tw2, tw1, tw0]) := memo_u twok2 [932, 931, 930, 927, 878, 877, 839, 738, 737, 5, 4, 3, 2, 1] (N := 20000) (by decide +kernel) twr3
theorem twok4 : SelfOK TP (memoU [tw4, tw3, tw2, tw1, tw0]) := memo_u twok3 [993, 992, 991, 988, 987, 927, 878, 877, 839, 738, 737, 5, 4, 3, 2, 1] (N := 20000) (by decide +kernel) twr4
theorem twok5 : SelfOK TP (memoU [tw5, tw4, tw3, tw2, tw1, tw0]) := memo_u twok4 [1053, 1052, 1051, 1048, 993, 992, 987, 927, 878, 877, 839, 738, 737, 5, 4, 3, 2, 1] (N := 20000) (by decide +kernel) twr5
theorem twok6 : SelfOK TP (memoU [tw6, tw5, tw4, tw3, tw2, tw1, tw0]) := memo_u twok5 [1160, 1115, 1112, 1111, 1110, 1109, 1108, 1053, 1052, 1051, 1048, 993, 992, 987, 927, 878, 877, 839, 738, 737, 5, 4, 3, 2, 1] (N := 20000) (by decide +kernel) twr6
theorem twok7 : SelfOK TP (memoU [tw7, tw6, tw5, tw4, tw3, tw2, tw1, tw0]) := memo_u twok6 [1256, 1255, 1254, 1253, 1252, 1207, 1160, 1115, 1112, 1111, 1110, 1109, 1108, 1053, 1052, 1051, 1048, 993, 992, 987, 927, 878, 877, 839, 738, 737, 5, 4, 3, 2, 1] (N := 20000) (by decide +kernel) twr7
theorem twok8 : SelfOK TP (memoU [tw8, tw7, tw6, tw5, tw4, tw3, tw2, tw1, tw0]) := memo_u twok7 [1323, 1322, 1321, 1320, 1319, 1252, 1207, 1160, 1115, 1112, 1111, 1110, 1109, 1108, 1053, 1052, 1051, 1048, 993, 992, 987, 927, 878, 877, 839, 738, 737, 5, 4, 3, 2, 1] (N := 20000) (by decide +kernel) twr8
theorem twok9 : SelfOK TP (memoU [tw9, tw8, tw7, tw6, tw5, tw4, tw3, tw2, tw1, tw0]) := memo_u twok8 [1111, 1110, 1109, 1048, 993, 992, 987, 927, 878, 877, 839, 738, 737, 5, 4, 3, 2, 1] (N := 20000) (by decide +kernel) twr9
theorem twok10 : SelfOK TP (memoU [tw10, tw9, tw8, tw7, tw6, tw5, tw4, tw3, tw2, tw1, tw0]) := memo_u twok9 [1433, 1432, 1431, 1111, 1110, 1109, 1048, 993, 992, 987, 927, 878, 877, 839, 738, 737, 5, 4, 3, 2, 1] (N := 20000) (by decide +kernel) twr10
theorem twok11 : SelfOK TP (memoU [tw11, tw10, tw9, tw8, tw7, tw6, tw5, tw4, tw3, tw2, tw1, tw0]) := memo_u twok10 [1540, 1433, 1432, 1431, 1111, 1110, 1109, 1048, 993, 992, 987, 927, 878, 877, 839, 738, 737, 5, 4, 3, 2, 1] (N := 20000) (by decide +kernel) twr11
/-- the works function of plate answers true: computed, with its long calls told apart -/
theorem plate_works (w : World) : Calls Go.Proofs.Try.prog 7 #[] w fun e w' => e = .returned (.bool true) ∧ RowKit.Below w.heap.size w w' :=
  closedG (memo := memoU [tw11, tw10, tw9, tw8, tw7, tw6, tw5, tw4, tw3, tw2, tw1, tw0]) twok11 (memoU_code _) (N := 20000) (v := .bool true) rfl (by decide +kernel) w
end Go.Vm
