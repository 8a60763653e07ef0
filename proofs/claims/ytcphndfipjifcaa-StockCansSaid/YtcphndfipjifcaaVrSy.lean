/- StockCans: the body returns true. -/
import Derived.Test.YtcphndfipjifcaaVrSxa
import Derived.Test.YtcphndfipjifcaaVrSxb1
import Derived.Test.YtcphndfipjifcaaVrSxb2
import Derived.Test.YtcphndfipjifcaaVrSxc1
import Derived.Test.YtcphndfipjifcaaVrSxc2
import Derived.Test.YtcphndfipjifcaaVrSxn
set_option linter.unusedVariables false
namespace Go.Vm
set_option maxRecDepth 100000
set_option maxHeartbeats 4000000
theorem w_ok_b (sh mo o0 o1 w0 w1 lo hi e : Int) (n kk q0 r0 r1 s0 s1 a1 b1 a2 b2 e2 a3 b3 e3 : Int) (l : List (Int × Int)) (cap : Nat) (r : Value) (k : Nat) (hk : k ∈ KCans) : callWP memo4 [0, 1, 2, 3, 4] (.mk [(34, .bool false), (38, .tuple #[.agg #[.int .i64 lo, .int .i64 hi], .int .i64 e]), (43, .tuple #[.agg #[.int .i64 lo, .int .i64 hi], .int .i64 e]), (48, .bool false), (118, .int .i64 sh), (119, .int .i64 n), (122, .int .i64 mo), (123, .int .i64 (n + mo)), (124, .int .i64 kk), (127, .int .i64 o0), (128, .int .i64 q0), (129, .int .i64 r0), (135, .int .i64 o1), (136, .int .i64 (r0 + o1)), (137, .int .i64 r1), (143, .int .i64 w0), (144, .int .i64 (r0 - w0)), (145, .int .i64 s0), (150, .int .i64 w1), (151, .int .i64 (r1 + w1)), (152, .int .i64 s1), (157, .tuple #[.agg #[.int .i64 a1, .int .i64 b1], .int .i64 0]), (163, .tuple #[.agg #[.int .i64 a2, .int .i64 b2], .int .i64 e2]), (169, .tuple #[.agg #[.int .i64 a3, .int .i64 b3], .int .i64 0]), (175, .tuple #[.agg #[.int .i64 n, .int .i64 n], .int .i64 0]), (179, .bool false), (185, .bool false), (189, .bool false), (196, .bool false), (199, .bool true), (205, .bool true), (212, .bool true), (216, .bool true)] [] [cOut l cap sh mo o0 o1 w0 w1 lo hi e k]) 1000 7 [slc l.length cap, .int .u32 sh, .int .u32 mo, .agg #[.int .u8 o0, .int .u8 o1], .agg #[.int .u8 w0, .int .u8 w1]] (rowV (cells l) 71) (fun v => v = r) = (
      OBin .gtr 3 (.tmp 33) (.const (.int .i64 (20))) (.int .i64 (↑l.length)) (.int .i64 (20)) (.bool false) ∧
      OCall (memo4) 34 [(.slice (Option.some (Go.Addr.mk 0 0 Option.none)) (l.length) cap)] (Go.Vm.View.mk 3 [(Prod.mk 2 (Go.Obj.cells #[(.int .u8 w0), (.int .u8 w1)] 69 (Prod.mk 0 0))), (Prod.mk 1 (Go.Obj.cells #[(.int .u8 o0), (.int .u8 o1)] 69 (Prod.mk 0 0))), (Prod.mk 0 (Go.Obj.cells (Array.mk (cells l)) 71 (Prod.mk 0 1)))]) (.tuple #[(.agg #[(.int .i64 lo), (.int .i64 hi)]), (.int .i64 e)]) ∧
      OCall (memo4) 35 [(.slice (Option.some (Go.Addr.mk 0 0 Option.none)) (l.length) cap)] (Go.Vm.View.mk 4 [(Prod.mk 3 (Go.Obj.cells #[(.int .i64 lo), (.int .i64 hi)] 27 (Prod.mk 0 0))), (Prod.mk 2 (Go.Obj.cells #[(.int .u8 w0), (.int .u8 w1)] 69 (Prod.mk 0 0))), (Prod.mk 1 (Go.Obj.cells #[(.int .u8 o0), (.int .u8 o1)] 69 (Prod.mk 0 0))), (Prod.mk 0 (Go.Obj.cells (Array.mk (cells l)) 71 (Prod.mk 0 1)))]) (.tuple #[(.agg #[(.int .i64 lo), (.int .i64 hi)]), (.int .i64 e)]) ∧
      OBin .neq 33 (.tmp 46) (.tmp 47) (.int .i64 e) (.int .i64 e) (.bool false) ∧
      LoopRP (memo4) [0, 1, 2, 3, 4] 992 Option.none (loopOf 7 0) [(.slice (Option.some (Go.Addr.mk 0 0 Option.none)) (l.length) cap), (.int .u32 sh), (.int .u32 mo), (.agg #[(.int .u8 o0), (.int .u8 o1)]), (.agg #[(.int .u8 w0), (.int .u8 w1)]), (.tuple #[]), (.tuple #[]), (.tuple #[]), (.pointer (Option.some (Go.Addr.mk 1 0 Option.none))), (.pointer (Option.some (Go.Addr.mk 2 0 Option.none))), (.bool false), (.pointer (Option.some (Go.Addr.mk 3 0 Option.none))), (.int .i64 e), (.pointer (Option.some (Go.Addr.mk 4 0 Option.none))), (.int .i64 e), (.int .i64 (0)), (.tuple #[]), (.tuple #[]), (.tuple #[]), (.tuple #[]), (.tuple #[]), (.tuple #[]), (.tuple #[]), (.tuple #[]), (.tuple #[]), (.tuple #[]), (.tuple #[]), (.tuple #[]), (.tuple #[]), (.tuple #[]), (.tuple #[]), (.tuple #[]), (.slice (Option.some (Go.Addr.mk 0 0 Option.none)) (l.length) cap), (.int .i64 (↑l.length)), (.bool false), (.tuple #[]), (.tuple #[(.agg #[(.int .i64 lo), (.int .i64 hi)]), (.int .i64 e)]), (.slice (Option.some (Go.Addr.mk 0 0 Option.none)) (l.length) cap), (.tuple #[(.agg #[(.int .i64 lo), (.int .i64 hi)]), (.int .i64 e)]), (.agg #[(.int .i64 lo), (.int .i64 hi)]), (.int .i64 e), (.tuple #[(.agg #[(.int .i64 lo), (.int .i64 hi)]), (.int .i64 e)]), (.slice (Option.some (Go.Addr.mk 0 0 Option.none)) (l.length) cap), (.tuple #[(.agg #[(.int .i64 lo), (.int .i64 hi)]), (.int .i64 e)]), (.agg #[(.int .i64 lo), (.int .i64 hi)]), (.int .i64 e), (.int .i64 e), (.int .i64 e), (.bool false), (.tuple #[]), (.tuple #[]), (.tuple #[]), (.tuple #[]), (.tuple #[]), (.tuple #[]), (.tuple #[]), (.tuple #[]), (.tuple #[]), (.tuple #[]), (.tuple #[]), (.tuple #[]), (.tuple #[]), (.tuple #[]), (.tuple #[]), (.tuple #[]), (.tuple #[]), (.tuple #[]), (.tuple #[]), (.tuple #[]), (.tuple #[]), (.tuple #[]), (.tuple #[]), (.tuple #[]), (.tuple #[]), (.tuple #[]), (.tuple #[]), (.tuple #[]), (.tuple #[]), (.tuple #[]), (.tuple #[]), (.tuple #[]), (.tuple #[]), (.tuple #[]), (.tuple #[]), (.tuple #[]), (.tuple #[]), (.tuple #[]), (.tuple #[]), (.tuple #[]), (.tuple #[]), (.tuple #[]), (.tuple #[]), (.tuple #[]), (.tuple #[]), (.tuple #[]), (.tuple #[]), (.tuple #[]), (.tuple #[]), (.tuple #[]), (.tuple #[]), (.tuple #[]), (.tuple #[]), (.tuple #[]), (.tuple #[]), (.tuple #[]), (.tuple #[]), (.tuple #[]), (.tuple #[]), (.tuple #[]), (.tuple #[]), (.tuple #[]), (.tuple #[]), (.tuple #[]), (.tuple #[]), (.tuple #[]), (.tuple #[]), (.tuple #[]), (.tuple #[]), (.tuple #[]), (.tuple #[]), (.tuple #[]), (.tuple #[]), (.tuple #[]), (.tuple #[]), (.tuple #[]), (.tuple #[]), (.tuple #[]), (.tuple #[]), (.tuple #[]), (.tuple #[]), (.tuple #[]), (.tuple #[]), (.tuple #[]), (.tuple #[]), (.tuple #[]), (.tuple #[]), (.tuple #[]), (.tuple #[]), (.tuple #[]), (.tuple #[]), (.tuple #[]), (.tuple #[]), (.tuple #[]), (.tuple #[]), (.tuple #[]), (.tuple #[]), (.tuple #[]), (.tuple #[]), (.tuple #[]), (.tuple #[]), (.tuple #[]), (.tuple #[]), (.tuple #[]), (.tuple #[]), (.tuple #[]), (.tuple #[]), (.tuple #[]), (.tuple #[]), (.tuple #[]), (.tuple #[]), (.tuple #[]), (.tuple #[]), (.tuple #[]), (.tuple #[]), (.tuple #[]), (.tuple #[]), (.tuple #[]), (.tuple #[]), (.tuple #[]), (.tuple #[]), (.tuple #[]), (.tuple #[]), (.tuple #[]), (.tuple #[]), (.tuple #[]), (.tuple #[]), (.tuple #[]), (.tuple #[]), (.tuple #[]), (.tuple #[]), (.tuple #[]), (.tuple #[]), (.tuple #[]), (.tuple #[]), (.tuple #[]), (.tuple #[]), (.tuple #[]), (.tuple #[]), (.tuple #[]), (.tuple #[]), (.tuple #[]), (.tuple #[]), (.tuple #[]), (.tuple #[]), (.tuple #[]), (.tuple #[]), (.tuple #[]), (.tuple #[]), (.tuple #[]), (.tuple #[]), (.tuple #[]), (.tuple #[]), (.tuple #[]), (.tuple #[]), (.tuple #[]), (.tuple #[]), (.tuple #[]), (.tuple #[]), (.tuple #[]), (.tuple #[]), (.tuple #[]), (.tuple #[]), (.tuple #[]), (.tuple #[]), (.tuple #[]), (.tuple #[]), (.tuple #[]), (.tuple #[]), (.tuple #[]), (.tuple #[]), (.tuple #[]), (.tuple #[]), (.tuple #[]), (.tuple #[]), (.tuple #[]), (.tuple #[]), (.tuple #[]), (.tuple #[]), (.tuple #[]), (.tuple #[]), (.tuple #[]), (.tuple #[]), (.tuple #[]), (.tuple #[]), (.tuple #[])] [] (Go.Vm.View.mk 5 [(Prod.mk 4 (Go.Obj.cells #[(.int .i64 lo), (.int .i64 hi)] 27 (Prod.mk 0 0))), (Prod.mk 3 (Go.Obj.cells #[(.int .i64 lo), (.int .i64 hi)] 27 (Prod.mk 0 0))), (Prod.mk 2 (Go.Obj.cells #[(.int .u8 w0), (.int .u8 w1)] 69 (Prod.mk 0 0))), (Prod.mk 1 (Go.Obj.cells #[(.int .u8 o0), (.int .u8 o1)] 69 (Prod.mk 0 0))), (Prod.mk 0 (Go.Obj.cells (Array.mk (cells l)) 71 (Prod.mk 0 1)))]) ([cOut l cap sh mo o0 o1 w0 w1 lo hi e k]) ∧
      (∀ z0 : (cOut l cap sh mo o0 o1 w0 w1 lo hi e k).α,
      ((cOut l cap sh mo o0 o1 w0 w1 lo hi e k).P z0 →
        OCv 22 2 (.int .u32 sh) (.int .i64 sh) ∧
          OBin .rem 2 (.tmp 118) (.const (.int .i64 (100001))) (.int .i64 sh) (.int .i64 (100001)) (.int .i64 n) ∧
          OCv 22 2 (.int .u32 mo) (.int .i64 mo) ∧
          OBin .add 2 (.tmp 120) (.tmp 122) (.int .i64 n) (.int .i64 mo) (.int .i64 (n + mo)) ∧
          OMin #[2, 2] 2 [(.int .i64 (100000)), (.int .i64 (n + mo))] (.int .i64 kk) ∧
          OCv 5 2 (.int .u8 o0) (.int .i64 o0) ∧
          OBin .rem 2 (.tmp 127) (.const (.int .i64 (201))) (.int .i64 o0) (.int .i64 (201)) (.int .i64 q0) ∧
          OBin .sub 2 (.tmp 128) (.const (.int .i64 (100))) (.int .i64 q0) (.int .i64 (100)) (.int .i64 r0) ∧
          OCv 5 2 (.int .u8 o1) (.int .i64 o1) ∧
          OBin .add 2 (.tmp 132) (.tmp 135) (.int .i64 r0) (.int .i64 o1) (.int .i64 (r0 + o1)) ∧
          OMin #[2, 2] 2 [(.int .i64 (100)), (.int .i64 (r0 + o1))] (.int .i64 r1) ∧
          OCv 5 2 (.int .u8 w0) (.int .i64 w0) ∧
          OBin .sub 2 (.tmp 140) (.tmp 143) (.int .i64 r0) (.int .i64 w0) (.int .i64 (r0 - w0)) ∧
          OMax #[2, 2] 2 [(.int .i64 (-100)), (.int .i64 (r0 - w0))] (.int .i64 s0) ∧
          OCv 5 2 (.int .u8 w1) (.int .i64 w1) ∧
          OBin .add 2 (.tmp 147) (.tmp 150) (.int .i64 r1) (.int .i64 w1) (.int .i64 (r1 + w1)) ∧
          OMin #[2, 2] 2 [(.int .i64 (100)), (.int .i64 (r1 + w1))] (.int .i64 s1) ∧
          OCall (memo4) 32 [(.int .i64 n), (.agg #[(.int .i64 r0), (.int .i64 r1)])] (Go.Vm.View.mk (k + 4) [(Prod.mk (k + 3) (Go.Obj.cells #[(.int .i64 s0), (.int .i64 s1)] 27 (Prod.mk 0 0))), (Prod.mk (k + 1) (Go.Obj.cells #[(.int .i64 r0), (.int .i64 r1)] 27 (Prod.mk 0 0))), (Prod.mk 4 (Go.Obj.cells #[(.int .i64 lo), (.int .i64 hi)] 27 (Prod.mk 0 0))), (Prod.mk 3 (Go.Obj.cells #[(.int .i64 lo), (.int .i64 hi)] 27 (Prod.mk 0 0))), (Prod.mk 2 (Go.Obj.cells #[(.int .u8 w0), (.int .u8 w1)] 69 (Prod.mk 0 0))), (Prod.mk 1 (Go.Obj.cells #[(.int .u8 o0), (.int .u8 o1)] 69 (Prod.mk 0 0))), (Prod.mk 0 (Go.Obj.cells (Array.mk (cells l)) 71 (Prod.mk 0 1)))]) (.tuple #[(.agg #[(.int .i64 a1), (.int .i64 b1)]), (.int .i64 (0))]) ∧
          OCall (memo4) 32 [(.int .i64 kk), (.agg #[(.int .i64 r0), (.int .i64 r1)])] (Go.Vm.View.mk (k + 5) [(Prod.mk (k + 4) (Go.Obj.cells #[(.int .i64 a1), (.int .i64 b1)] 27 (Prod.mk 0 0))), (Prod.mk (k + 3) (Go.Obj.cells #[(.int .i64 s0), (.int .i64 s1)] 27 (Prod.mk 0 0))), (Prod.mk (k + 1) (Go.Obj.cells #[(.int .i64 r0), (.int .i64 r1)] 27 (Prod.mk 0 0))), (Prod.mk 4 (Go.Obj.cells #[(.int .i64 lo), (.int .i64 hi)] 27 (Prod.mk 0 0))), (Prod.mk 3 (Go.Obj.cells #[(.int .i64 lo), (.int .i64 hi)] 27 (Prod.mk 0 0))), (Prod.mk 2 (Go.Obj.cells #[(.int .u8 w0), (.int .u8 w1)] 69 (Prod.mk 0 0))), (Prod.mk 1 (Go.Obj.cells #[(.int .u8 o0), (.int .u8 o1)] 69 (Prod.mk 0 0))), (Prod.mk 0 (Go.Obj.cells (Array.mk (cells l)) 71 (Prod.mk 0 1)))]) (.tuple #[(.agg #[(.int .i64 a2), (.int .i64 b2)]), (.int .i64 e2)]) ∧
          OCall (memo4) 32 [(.int .i64 n), (.agg #[(.int .i64 s0), (.int .i64 s1)])] (Go.Vm.View.mk (k + 6) [(Prod.mk (k + 5) (Go.Obj.cells #[(.int .i64 a2), (.int .i64 b2)] 27 (Prod.mk 0 0))), (Prod.mk (k + 4) (Go.Obj.cells #[(.int .i64 a1), (.int .i64 b1)] 27 (Prod.mk 0 0))), (Prod.mk (k + 3) (Go.Obj.cells #[(.int .i64 s0), (.int .i64 s1)] 27 (Prod.mk 0 0))), (Prod.mk (k + 1) (Go.Obj.cells #[(.int .i64 r0), (.int .i64 r1)] 27 (Prod.mk 0 0))), (Prod.mk 4 (Go.Obj.cells #[(.int .i64 lo), (.int .i64 hi)] 27 (Prod.mk 0 0))), (Prod.mk 3 (Go.Obj.cells #[(.int .i64 lo), (.int .i64 hi)] 27 (Prod.mk 0 0))), (Prod.mk 2 (Go.Obj.cells #[(.int .u8 w0), (.int .u8 w1)] 69 (Prod.mk 0 0))), (Prod.mk 1 (Go.Obj.cells #[(.int .u8 o0), (.int .u8 o1)] 69 (Prod.mk 0 0))), (Prod.mk 0 (Go.Obj.cells (Array.mk (cells l)) 71 (Prod.mk 0 1)))]) (.tuple #[(.agg #[(.int .i64 a3), (.int .i64 b3)]), (.int .i64 (0))]) ∧
          OCall (memo4) 32 [(.int .i64 n), (.agg #[(.int .i64 (0)), (.int .i64 (0))])] (Go.Vm.View.mk (k + 8) [(Prod.mk (k + 6) (Go.Obj.cells #[(.int .i64 a3), (.int .i64 b3)] 27 (Prod.mk 0 0))), (Prod.mk (k + 5) (Go.Obj.cells #[(.int .i64 a2), (.int .i64 b2)] 27 (Prod.mk 0 0))), (Prod.mk (k + 4) (Go.Obj.cells #[(.int .i64 a1), (.int .i64 b1)] 27 (Prod.mk 0 0))), (Prod.mk (k + 3) (Go.Obj.cells #[(.int .i64 s0), (.int .i64 s1)] 27 (Prod.mk 0 0))), (Prod.mk (k + 1) (Go.Obj.cells #[(.int .i64 r0), (.int .i64 r1)] 27 (Prod.mk 0 0))), (Prod.mk 4 (Go.Obj.cells #[(.int .i64 lo), (.int .i64 hi)] 27 (Prod.mk 0 0))), (Prod.mk 3 (Go.Obj.cells #[(.int .i64 lo), (.int .i64 hi)] 27 (Prod.mk 0 0))), (Prod.mk 2 (Go.Obj.cells #[(.int .u8 w0), (.int .u8 w1)] 69 (Prod.mk 0 0))), (Prod.mk 1 (Go.Obj.cells #[(.int .u8 o0), (.int .u8 o1)] 69 (Prod.mk 0 0))), (Prod.mk 0 (Go.Obj.cells (Array.mk (cells l)) 71 (Prod.mk 0 1)))]) (.tuple #[(.agg #[(.int .i64 n), (.int .i64 n)]), (.int .i64 (0))]) ∧
          OBin .neq 33 (.tmp 178) (.const (.int .i64 (0))) (.int .i64 (0)) (.int .i64 (0)) (.bool false) ∧
          OBin .neq 27 (.tmp 181) (.tmp 184) (.agg #[(.int .i64 n), (.int .i64 n)]) (.agg #[(.int .i64 n), (.int .i64 n)]) (.bool false) ∧
          OBin .neq 33 (.tmp 188) (.const (.int .i64 (0))) (.int .i64 (0)) (.int .i64 (0)) (.bool false) ∧
          OBin .neq 33 (.tmp 195) (.const (.int .i64 (0))) (.int .i64 (0)) (.int .i64 (0)) (.bool false) ∧
          OBin .eql 33 (.tmp 198) (.const (.int .i64 (0))) (.int .i64 (0)) (.int .i64 (0)) (.bool true) ∧
          OBin .leq 2 (.tmp 202) (.tmp 204) (.int .i64 a3) (.int .i64 a1) (.bool true) ∧
          OBin .geq 2 (.tmp 209) (.tmp 211) (.int .i64 b3) (.int .i64 b1) (.bool true) ∧
          OBin .neq 33 (.tmp 215) (.const (.int .i64 (0))) (.int .i64 e2) (.int .i64 (0)) (.bool true) ∧
          ((Go.Value.bool true) = r))) ∧
      True) := by
  have hk2 : k ∈ KCansb1 ∨ k ∈ KCansb2 := by
    simp only [KCans, KCansb1, KCansb2, List.mem_cons, List.not_mem_nil, or_false] at hk ⊢
    omega
  rcases hk2 with h | h
  · exact w_ok_b1 sh mo o0 o1 w0 w1 lo hi e n kk q0 r0 r1 s0 s1 a1 b1 a2 b2 e2 a3 b3 e3 l cap r k h
  · exact w_ok_b2 sh mo o0 o1 w0 w1 lo hi e n kk q0 r0 r1 s0 s1 a1 b1 a2 b2 e2 a3 b3 e3 l cap r k h
theorem w_ok_c (sh mo o0 o1 w0 w1 lo hi e : Int) (n kk q0 r0 r1 s0 s1 a1 b1 a2 b2 e2 a3 b3 e3 : Int) (l : List (Int × Int)) (cap : Nat) (r : Value) (k : Nat) (hk : k ∈ KCans) : callWP memo4 [0, 1, 2, 3, 4] (.mk [(34, .bool false), (38, .tuple #[.agg #[.int .i64 lo, .int .i64 hi], .int .i64 e]), (43, .tuple #[.agg #[.int .i64 lo, .int .i64 hi], .int .i64 e]), (48, .bool false), (118, .int .i64 sh), (119, .int .i64 n), (122, .int .i64 mo), (123, .int .i64 (n + mo)), (124, .int .i64 kk), (127, .int .i64 o0), (128, .int .i64 q0), (129, .int .i64 r0), (135, .int .i64 o1), (136, .int .i64 (r0 + o1)), (137, .int .i64 r1), (143, .int .i64 w0), (144, .int .i64 (r0 - w0)), (145, .int .i64 s0), (150, .int .i64 w1), (151, .int .i64 (r1 + w1)), (152, .int .i64 s1), (157, .tuple #[.agg #[.int .i64 a1, .int .i64 b1], .int .i64 0]), (163, .tuple #[.agg #[.int .i64 a2, .int .i64 b2], .int .i64 0]), (169, .tuple #[.agg #[.int .i64 a3, .int .i64 b3], .int .i64 0]), (175, .tuple #[.agg #[.int .i64 n, .int .i64 n], .int .i64 0]), (179, .bool false), (185, .bool false), (189, .bool false), (196, .bool false), (199, .bool true), (205, .bool true), (212, .bool true), (216, .bool false), (222, .bool true), (228, .bool true)] [] [cOut l cap sh mo o0 o1 w0 w1 lo hi e k]) 1000 7 [slc l.length cap, .int .u32 sh, .int .u32 mo, .agg #[.int .u8 o0, .int .u8 o1], .agg #[.int .u8 w0, .int .u8 w1]] (rowV (cells l) 71) (fun v => v = r) = (
      OBin .gtr 3 (.tmp 33) (.const (.int .i64 (20))) (.int .i64 (↑l.length)) (.int .i64 (20)) (.bool false) ∧
      OCall (memo4) 34 [(.slice (Option.some (Go.Addr.mk 0 0 Option.none)) (l.length) cap)] (Go.Vm.View.mk 3 [(Prod.mk 2 (Go.Obj.cells #[(.int .u8 w0), (.int .u8 w1)] 69 (Prod.mk 0 0))), (Prod.mk 1 (Go.Obj.cells #[(.int .u8 o0), (.int .u8 o1)] 69 (Prod.mk 0 0))), (Prod.mk 0 (Go.Obj.cells (Array.mk (cells l)) 71 (Prod.mk 0 1)))]) (.tuple #[(.agg #[(.int .i64 lo), (.int .i64 hi)]), (.int .i64 e)]) ∧
      OCall (memo4) 35 [(.slice (Option.some (Go.Addr.mk 0 0 Option.none)) (l.length) cap)] (Go.Vm.View.mk 4 [(Prod.mk 3 (Go.Obj.cells #[(.int .i64 lo), (.int .i64 hi)] 27 (Prod.mk 0 0))), (Prod.mk 2 (Go.Obj.cells #[(.int .u8 w0), (.int .u8 w1)] 69 (Prod.mk 0 0))), (Prod.mk 1 (Go.Obj.cells #[(.int .u8 o0), (.int .u8 o1)] 69 (Prod.mk 0 0))), (Prod.mk 0 (Go.Obj.cells (Array.mk (cells l)) 71 (Prod.mk 0 1)))]) (.tuple #[(.agg #[(.int .i64 lo), (.int .i64 hi)]), (.int .i64 e)]) ∧
      OBin .neq 33 (.tmp 46) (.tmp 47) (.int .i64 e) (.int .i64 e) (.bool false) ∧
      LoopRP (memo4) [0, 1, 2, 3, 4] 992 Option.none (loopOf 7 0) [(.slice (Option.some (Go.Addr.mk 0 0 Option.none)) (l.length) cap), (.int .u32 sh), (.int .u32 mo), (.agg #[(.int .u8 o0), (.int .u8 o1)]), (.agg #[(.int .u8 w0), (.int .u8 w1)]), (.tuple #[]), (.tuple #[]), (.tuple #[]), (.pointer (Option.some (Go.Addr.mk 1 0 Option.none))), (.pointer (Option.some (Go.Addr.mk 2 0 Option.none))), (.bool false), (.pointer (Option.some (Go.Addr.mk 3 0 Option.none))), (.int .i64 e), (.pointer (Option.some (Go.Addr.mk 4 0 Option.none))), (.int .i64 e), (.int .i64 (0)), (.tuple #[]), (.tuple #[]), (.tuple #[]), (.tuple #[]), (.tuple #[]), (.tuple #[]), (.tuple #[]), (.tuple #[]), (.tuple #[]), (.tuple #[]), (.tuple #[]), (.tuple #[]), (.tuple #[]), (.tuple #[]), (.tuple #[]), (.tuple #[]), (.slice (Option.some (Go.Addr.mk 0 0 Option.none)) (l.length) cap), (.int .i64 (↑l.length)), (.bool false), (.tuple #[]), (.tuple #[(.agg #[(.int .i64 lo), (.int .i64 hi)]), (.int .i64 e)]), (.slice (Option.some (Go.Addr.mk 0 0 Option.none)) (l.length) cap), (.tuple #[(.agg #[(.int .i64 lo), (.int .i64 hi)]), (.int .i64 e)]), (.agg #[(.int .i64 lo), (.int .i64 hi)]), (.int .i64 e), (.tuple #[(.agg #[(.int .i64 lo), (.int .i64 hi)]), (.int .i64 e)]), (.slice (Option.some (Go.Addr.mk 0 0 Option.none)) (l.length) cap), (.tuple #[(.agg #[(.int .i64 lo), (.int .i64 hi)]), (.int .i64 e)]), (.agg #[(.int .i64 lo), (.int .i64 hi)]), (.int .i64 e), (.int .i64 e), (.int .i64 e), (.bool false), (.tuple #[]), (.tuple #[]), (.tuple #[]), (.tuple #[]), (.tuple #[]), (.tuple #[]), (.tuple #[]), (.tuple #[]), (.tuple #[]), (.tuple #[]), (.tuple #[]), (.tuple #[]), (.tuple #[]), (.tuple #[]), (.tuple #[]), (.tuple #[]), (.tuple #[]), (.tuple #[]), (.tuple #[]), (.tuple #[]), (.tuple #[]), (.tuple #[]), (.tuple #[]), (.tuple #[]), (.tuple #[]), (.tuple #[]), (.tuple #[]), (.tuple #[]), (.tuple #[]), (.tuple #[]), (.tuple #[]), (.tuple #[]), (.tuple #[]), (.tuple #[]), (.tuple #[]), (.tuple #[]), (.tuple #[]), (.tuple #[]), (.tuple #[]), (.tuple #[]), (.tuple #[]), (.tuple #[]), (.tuple #[]), (.tuple #[]), (.tuple #[]), (.tuple #[]), (.tuple #[]), (.tuple #[]), (.tuple #[]), (.tuple #[]), (.tuple #[]), (.tuple #[]), (.tuple #[]), (.tuple #[]), (.tuple #[]), (.tuple #[]), (.tuple #[]), (.tuple #[]), (.tuple #[]), (.tuple #[]), (.tuple #[]), (.tuple #[]), (.tuple #[]), (.tuple #[]), (.tuple #[]), (.tuple #[]), (.tuple #[]), (.tuple #[]), (.tuple #[]), (.tuple #[]), (.tuple #[]), (.tuple #[]), (.tuple #[]), (.tuple #[]), (.tuple #[]), (.tuple #[]), (.tuple #[]), (.tuple #[]), (.tuple #[]), (.tuple #[]), (.tuple #[]), (.tuple #[]), (.tuple #[]), (.tuple #[]), (.tuple #[]), (.tuple #[]), (.tuple #[]), (.tuple #[]), (.tuple #[]), (.tuple #[]), (.tuple #[]), (.tuple #[]), (.tuple #[]), (.tuple #[]), (.tuple #[]), (.tuple #[]), (.tuple #[]), (.tuple #[]), (.tuple #[]), (.tuple #[]), (.tuple #[]), (.tuple #[]), (.tuple #[]), (.tuple #[]), (.tuple #[]), (.tuple #[]), (.tuple #[]), (.tuple #[]), (.tuple #[]), (.tuple #[]), (.tuple #[]), (.tuple #[]), (.tuple #[]), (.tuple #[]), (.tuple #[]), (.tuple #[]), (.tuple #[]), (.tuple #[]), (.tuple #[]), (.tuple #[]), (.tuple #[]), (.tuple #[]), (.tuple #[]), (.tuple #[]), (.tuple #[]), (.tuple #[]), (.tuple #[]), (.tuple #[]), (.tuple #[]), (.tuple #[]), (.tuple #[]), (.tuple #[]), (.tuple #[]), (.tuple #[]), (.tuple #[]), (.tuple #[]), (.tuple #[]), (.tuple #[]), (.tuple #[]), (.tuple #[]), (.tuple #[]), (.tuple #[]), (.tuple #[]), (.tuple #[]), (.tuple #[]), (.tuple #[]), (.tuple #[]), (.tuple #[]), (.tuple #[]), (.tuple #[]), (.tuple #[]), (.tuple #[]), (.tuple #[]), (.tuple #[]), (.tuple #[]), (.tuple #[]), (.tuple #[]), (.tuple #[]), (.tuple #[]), (.tuple #[]), (.tuple #[]), (.tuple #[]), (.tuple #[]), (.tuple #[]), (.tuple #[]), (.tuple #[]), (.tuple #[]), (.tuple #[]), (.tuple #[]), (.tuple #[]), (.tuple #[]), (.tuple #[]), (.tuple #[]), (.tuple #[]), (.tuple #[]), (.tuple #[]), (.tuple #[]), (.tuple #[]), (.tuple #[]), (.tuple #[]), (.tuple #[]), (.tuple #[]), (.tuple #[]), (.tuple #[]), (.tuple #[]), (.tuple #[])] [] (Go.Vm.View.mk 5 [(Prod.mk 4 (Go.Obj.cells #[(.int .i64 lo), (.int .i64 hi)] 27 (Prod.mk 0 0))), (Prod.mk 3 (Go.Obj.cells #[(.int .i64 lo), (.int .i64 hi)] 27 (Prod.mk 0 0))), (Prod.mk 2 (Go.Obj.cells #[(.int .u8 w0), (.int .u8 w1)] 69 (Prod.mk 0 0))), (Prod.mk 1 (Go.Obj.cells #[(.int .u8 o0), (.int .u8 o1)] 69 (Prod.mk 0 0))), (Prod.mk 0 (Go.Obj.cells (Array.mk (cells l)) 71 (Prod.mk 0 1)))]) ([cOut l cap sh mo o0 o1 w0 w1 lo hi e k]) ∧
      (∀ z0 : (cOut l cap sh mo o0 o1 w0 w1 lo hi e k).α,
      ((cOut l cap sh mo o0 o1 w0 w1 lo hi e k).P z0 →
        OCv 22 2 (.int .u32 sh) (.int .i64 sh) ∧
          OBin .rem 2 (.tmp 118) (.const (.int .i64 (100001))) (.int .i64 sh) (.int .i64 (100001)) (.int .i64 n) ∧
          OCv 22 2 (.int .u32 mo) (.int .i64 mo) ∧
          OBin .add 2 (.tmp 120) (.tmp 122) (.int .i64 n) (.int .i64 mo) (.int .i64 (n + mo)) ∧
          OMin #[2, 2] 2 [(.int .i64 (100000)), (.int .i64 (n + mo))] (.int .i64 kk) ∧
          OCv 5 2 (.int .u8 o0) (.int .i64 o0) ∧
          OBin .rem 2 (.tmp 127) (.const (.int .i64 (201))) (.int .i64 o0) (.int .i64 (201)) (.int .i64 q0) ∧
          OBin .sub 2 (.tmp 128) (.const (.int .i64 (100))) (.int .i64 q0) (.int .i64 (100)) (.int .i64 r0) ∧
          OCv 5 2 (.int .u8 o1) (.int .i64 o1) ∧
          OBin .add 2 (.tmp 132) (.tmp 135) (.int .i64 r0) (.int .i64 o1) (.int .i64 (r0 + o1)) ∧
          OMin #[2, 2] 2 [(.int .i64 (100)), (.int .i64 (r0 + o1))] (.int .i64 r1) ∧
          OCv 5 2 (.int .u8 w0) (.int .i64 w0) ∧
          OBin .sub 2 (.tmp 140) (.tmp 143) (.int .i64 r0) (.int .i64 w0) (.int .i64 (r0 - w0)) ∧
          OMax #[2, 2] 2 [(.int .i64 (-100)), (.int .i64 (r0 - w0))] (.int .i64 s0) ∧
          OCv 5 2 (.int .u8 w1) (.int .i64 w1) ∧
          OBin .add 2 (.tmp 147) (.tmp 150) (.int .i64 r1) (.int .i64 w1) (.int .i64 (r1 + w1)) ∧
          OMin #[2, 2] 2 [(.int .i64 (100)), (.int .i64 (r1 + w1))] (.int .i64 s1) ∧
          OCall (memo4) 32 [(.int .i64 n), (.agg #[(.int .i64 r0), (.int .i64 r1)])] (Go.Vm.View.mk (k + 4) [(Prod.mk (k + 3) (Go.Obj.cells #[(.int .i64 s0), (.int .i64 s1)] 27 (Prod.mk 0 0))), (Prod.mk (k + 1) (Go.Obj.cells #[(.int .i64 r0), (.int .i64 r1)] 27 (Prod.mk 0 0))), (Prod.mk 4 (Go.Obj.cells #[(.int .i64 lo), (.int .i64 hi)] 27 (Prod.mk 0 0))), (Prod.mk 3 (Go.Obj.cells #[(.int .i64 lo), (.int .i64 hi)] 27 (Prod.mk 0 0))), (Prod.mk 2 (Go.Obj.cells #[(.int .u8 w0), (.int .u8 w1)] 69 (Prod.mk 0 0))), (Prod.mk 1 (Go.Obj.cells #[(.int .u8 o0), (.int .u8 o1)] 69 (Prod.mk 0 0))), (Prod.mk 0 (Go.Obj.cells (Array.mk (cells l)) 71 (Prod.mk 0 1)))]) (.tuple #[(.agg #[(.int .i64 a1), (.int .i64 b1)]), (.int .i64 (0))]) ∧
          OCall (memo4) 32 [(.int .i64 kk), (.agg #[(.int .i64 r0), (.int .i64 r1)])] (Go.Vm.View.mk (k + 5) [(Prod.mk (k + 4) (Go.Obj.cells #[(.int .i64 a1), (.int .i64 b1)] 27 (Prod.mk 0 0))), (Prod.mk (k + 3) (Go.Obj.cells #[(.int .i64 s0), (.int .i64 s1)] 27 (Prod.mk 0 0))), (Prod.mk (k + 1) (Go.Obj.cells #[(.int .i64 r0), (.int .i64 r1)] 27 (Prod.mk 0 0))), (Prod.mk 4 (Go.Obj.cells #[(.int .i64 lo), (.int .i64 hi)] 27 (Prod.mk 0 0))), (Prod.mk 3 (Go.Obj.cells #[(.int .i64 lo), (.int .i64 hi)] 27 (Prod.mk 0 0))), (Prod.mk 2 (Go.Obj.cells #[(.int .u8 w0), (.int .u8 w1)] 69 (Prod.mk 0 0))), (Prod.mk 1 (Go.Obj.cells #[(.int .u8 o0), (.int .u8 o1)] 69 (Prod.mk 0 0))), (Prod.mk 0 (Go.Obj.cells (Array.mk (cells l)) 71 (Prod.mk 0 1)))]) (.tuple #[(.agg #[(.int .i64 a2), (.int .i64 b2)]), (.int .i64 (0))]) ∧
          OCall (memo4) 32 [(.int .i64 n), (.agg #[(.int .i64 s0), (.int .i64 s1)])] (Go.Vm.View.mk (k + 6) [(Prod.mk (k + 5) (Go.Obj.cells #[(.int .i64 a2), (.int .i64 b2)] 27 (Prod.mk 0 0))), (Prod.mk (k + 4) (Go.Obj.cells #[(.int .i64 a1), (.int .i64 b1)] 27 (Prod.mk 0 0))), (Prod.mk (k + 3) (Go.Obj.cells #[(.int .i64 s0), (.int .i64 s1)] 27 (Prod.mk 0 0))), (Prod.mk (k + 1) (Go.Obj.cells #[(.int .i64 r0), (.int .i64 r1)] 27 (Prod.mk 0 0))), (Prod.mk 4 (Go.Obj.cells #[(.int .i64 lo), (.int .i64 hi)] 27 (Prod.mk 0 0))), (Prod.mk 3 (Go.Obj.cells #[(.int .i64 lo), (.int .i64 hi)] 27 (Prod.mk 0 0))), (Prod.mk 2 (Go.Obj.cells #[(.int .u8 w0), (.int .u8 w1)] 69 (Prod.mk 0 0))), (Prod.mk 1 (Go.Obj.cells #[(.int .u8 o0), (.int .u8 o1)] 69 (Prod.mk 0 0))), (Prod.mk 0 (Go.Obj.cells (Array.mk (cells l)) 71 (Prod.mk 0 1)))]) (.tuple #[(.agg #[(.int .i64 a3), (.int .i64 b3)]), (.int .i64 (0))]) ∧
          OCall (memo4) 32 [(.int .i64 n), (.agg #[(.int .i64 (0)), (.int .i64 (0))])] (Go.Vm.View.mk (k + 8) [(Prod.mk (k + 6) (Go.Obj.cells #[(.int .i64 a3), (.int .i64 b3)] 27 (Prod.mk 0 0))), (Prod.mk (k + 5) (Go.Obj.cells #[(.int .i64 a2), (.int .i64 b2)] 27 (Prod.mk 0 0))), (Prod.mk (k + 4) (Go.Obj.cells #[(.int .i64 a1), (.int .i64 b1)] 27 (Prod.mk 0 0))), (Prod.mk (k + 3) (Go.Obj.cells #[(.int .i64 s0), (.int .i64 s1)] 27 (Prod.mk 0 0))), (Prod.mk (k + 1) (Go.Obj.cells #[(.int .i64 r0), (.int .i64 r1)] 27 (Prod.mk 0 0))), (Prod.mk 4 (Go.Obj.cells #[(.int .i64 lo), (.int .i64 hi)] 27 (Prod.mk 0 0))), (Prod.mk 3 (Go.Obj.cells #[(.int .i64 lo), (.int .i64 hi)] 27 (Prod.mk 0 0))), (Prod.mk 2 (Go.Obj.cells #[(.int .u8 w0), (.int .u8 w1)] 69 (Prod.mk 0 0))), (Prod.mk 1 (Go.Obj.cells #[(.int .u8 o0), (.int .u8 o1)] 69 (Prod.mk 0 0))), (Prod.mk 0 (Go.Obj.cells (Array.mk (cells l)) 71 (Prod.mk 0 1)))]) (.tuple #[(.agg #[(.int .i64 n), (.int .i64 n)]), (.int .i64 (0))]) ∧
          OBin .neq 33 (.tmp 178) (.const (.int .i64 (0))) (.int .i64 (0)) (.int .i64 (0)) (.bool false) ∧
          OBin .neq 27 (.tmp 181) (.tmp 184) (.agg #[(.int .i64 n), (.int .i64 n)]) (.agg #[(.int .i64 n), (.int .i64 n)]) (.bool false) ∧
          OBin .neq 33 (.tmp 188) (.const (.int .i64 (0))) (.int .i64 (0)) (.int .i64 (0)) (.bool false) ∧
          OBin .neq 33 (.tmp 195) (.const (.int .i64 (0))) (.int .i64 (0)) (.int .i64 (0)) (.bool false) ∧
          OBin .eql 33 (.tmp 198) (.const (.int .i64 (0))) (.int .i64 (0)) (.int .i64 (0)) (.bool true) ∧
          OBin .leq 2 (.tmp 202) (.tmp 204) (.int .i64 a3) (.int .i64 a1) (.bool true) ∧
          OBin .geq 2 (.tmp 209) (.tmp 211) (.int .i64 b3) (.int .i64 b1) (.bool true) ∧
          OBin .neq 33 (.tmp 215) (.const (.int .i64 (0))) (.int .i64 (0)) (.int .i64 (0)) (.bool false) ∧
          OBin .geq 2 (.tmp 219) (.tmp 221) (.int .i64 a2) (.int .i64 a1) (.bool true) ∧
          OBin .geq 2 (.tmp 225) (.tmp 227) (.int .i64 b2) (.int .i64 b1) (.bool true) ∧
          ((Go.Value.bool true) = r))) ∧
      True) := by
  have hk2 : k ∈ KCansc1 ∨ k ∈ KCansc2 := by
    simp only [KCans, KCansc1, KCansc2, List.mem_cons, List.not_mem_nil, or_false] at hk ⊢
    omega
  rcases hk2 with h | h
  · exact w_ok_c1 sh mo o0 o1 w0 w1 lo hi e n kk q0 r0 r1 s0 s1 a1 b1 a2 b2 e2 a3 b3 e3 l cap r k h
  · exact w_ok_c2 sh mo o0 o1 w0 w1 lo hi e n kk q0 r0 r1 s0 s1 a1 b1 a2 b2 e2 a3 b3 e3 l cap r k h
theorem neq27 (x y : Operand) (a b : Int) : OBin .neq 27 x y (.agg #[.int .i64 a, .int .i64 b]) (.agg #[.int .i64 a, .int .i64 b]) (.bool false) := by
  refine ⟨rfl, ?_⟩
  have e1 : pureRun TP (do eqGuard .neq 27 x y (.agg #[.int .i64 a, .int .i64 b]) (.agg #[.int .i64 a, .int .i64 b]); binOp .neq 27 (.agg #[.int .i64 a, .int .i64 b]) (.agg #[.int .i64 a, .int .i64 b])) =
      pureRun TP (binOp .neq 27 (.agg #[.int .i64 a, .int .i64 b]) (.agg #[.int .i64 a, .int .i64 b])) := by kernel_rfl
  rw [e1]
  have e2 : (binOp .neq 27 (.agg #[.int .i64 a, .int .i64 b]) (.agg #[.int .i64 a, .int .i64 b])) = (do let r ← Op.equalIn (9998 + 1 + 1) 27 (.agg #[.int .i64 a, .int .i64 b]) (.agg #[.int .i64 a, .int .i64 b]); pure (Value.bool (!r))) := by kernel_rfl
  rw [e2]
  simp only [pureRun, runV_bind, eqR, Option.bind_some]
  rfl
theorem cu32 (a : Int) : pureRun TP (convert 22 2 (.int .u32 a)) = some (.int .i64 (IntKind.i64.wrap a)) := by kernel_rfl
theorem cu8 (a : Int) : pureRun TP (convert 5 2 (.int .u8 a)) = some (.int .i64 (IntKind.i64.wrap a)) := by kernel_rfl
/-- what is told of the numbers, and that it is so -/
structure Nums (sh mo o0 o1 w0 w1 n kk q0 r0 r1 s0 s1 : Int) : Prop where
  sh_ : 0 ≤ sh ∧ sh ≤ 4294967295
  mo_ : 0 ≤ mo ∧ mo ≤ 4294967295
  o0_ : 0 ≤ o0 ∧ o0 ≤ 255
  o1_ : 0 ≤ o1 ∧ o1 ≤ 255
  w0_ : 0 ≤ w0 ∧ w0 ≤ 255
  w1_ : 0 ≤ w1 ∧ w1 ≤ 255
  n_ : n = sh % 100001
  kk_ : kk = min 100000 (n + mo)
  q0_ : q0 = o0 % 201
  r0_ : r0 = q0 - 100
  r1_ : r1 = min 100 (r0 + o1)
  s0_ : s0 = max (-100) (r0 - w0)
  s1_ : s1 = min 100 (r1 + w1)
section
variable {sh mo o0 o1 w0 w1 n kk q0 r0 r1 s0 s1 : Int} (N : Nums sh mo o0 o1 w0 w1 n kk q0 r0 r1 s0 s1)
include N
theorem nums_bd : (0 ≤ n ∧ n ≤ 100000) ∧ (n ≤ kk ∧ kk ≤ 100000) ∧ (-100 ≤ r0 ∧ r0 ≤ 100) ∧ (r0 ≤ r1 ∧ r1 ≤ 100) ∧ (-100 ≤ s0 ∧ s0 ≤ r0) ∧ (r1 ≤ s1 ∧ s1 ≤ 100) := by
  obtain ⟨h1, h2, h3, h4, h5, h6, h7, h8, h9, h10, h11, h12, h13⟩ := N
  omega
theorem tail_com : OCv 22 2 (.int .u32 sh) (.int .i64 sh) ∧ OBin .rem 2 (.tmp 118) (.const (.int .i64 100001)) (.int .i64 sh) (.int .i64 100001) (.int .i64 n) ∧ OCv 22 2 (.int .u32 mo) (.int .i64 mo) ∧
    OBin .add 2 (.tmp 120) (.tmp 122) (.int .i64 n) (.int .i64 mo) (.int .i64 (n + mo)) ∧ OMin #[2, 2] 2 [.int .i64 100000, .int .i64 (n + mo)] (.int .i64 kk) ∧ OCv 5 2 (.int .u8 o0) (.int .i64 o0) ∧
    OBin .rem 2 (.tmp 127) (.const (.int .i64 201)) (.int .i64 o0) (.int .i64 201) (.int .i64 q0) ∧ OBin .sub 2 (.tmp 128) (.const (.int .i64 100)) (.int .i64 q0) (.int .i64 100) (.int .i64 r0) ∧
    OCv 5 2 (.int .u8 o1) (.int .i64 o1) ∧ OBin .add 2 (.tmp 132) (.tmp 135) (.int .i64 r0) (.int .i64 o1) (.int .i64 (r0 + o1)) ∧ OMin #[2, 2] 2 [.int .i64 100, .int .i64 (r0 + o1)] (.int .i64 r1) ∧
    OCv 5 2 (.int .u8 w0) (.int .i64 w0) ∧ OBin .sub 2 (.tmp 140) (.tmp 143) (.int .i64 r0) (.int .i64 w0) (.int .i64 (r0 - w0)) ∧ OMax #[2, 2] 2 [.int .i64 (-100), .int .i64 (r0 - w0)] (.int .i64 s0) ∧
    OCv 5 2 (.int .u8 w1) (.int .i64 w1) ∧ OBin .add 2 (.tmp 147) (.tmp 150) (.int .i64 r1) (.int .i64 w1) (.int .i64 (r1 + w1)) ∧ OMin #[2, 2] 2 [.int .i64 100, .int .i64 (r1 + w1)] (.int .i64 s1) := by
  have hb := nums_bd N
  obtain ⟨h1, h2, h3, h4, h5, h6, h7, h8, h9, h10, h11, h12, h13⟩ := N
  refine ⟨ob_cv (cu32 _) (wrap64 (by omega) (by omega)), ob_rem (by omega) (by omega) h7.symm, ob_cv (cu32 _) (wrap64 (by omega) (by omega)), ob_add64 (by omega) (by omega) rfl, ob_min (by split <;> omega), ob_cv (cu8 _) (wrap64 (by omega) (by omega)),
    ob_rem (by omega) (by omega) h9.symm, ob_sub64 (by omega) (by omega) h10.symm, ob_cv (cu8 _) (wrap64 (by omega) (by omega)), ob_add64 (by omega) (by omega) rfl, ob_min (by split <;> omega), ob_cv (cu8 _) (wrap64 (by omega) (by omega)), ob_sub64 (by omega) (by omega) rfl, ob_max (by split <;> omega),
    ob_cv (cu8 _) (wrap64 (by omega) (by omega)), ob_add64 (by omega) (by omega) rfl, ob_min (by split <;> omega)⟩
end
/-- what the meter says of the numbers -/
inductive Says (n kk r0 r1 s0 s1 : Int) : Prop
  | none (a2 b2 e2 a3 b3 e3 : Int) (h1 : meterV n r0 r1 = .tuple #[.agg #[.int .i64 0, .int .i64 0], .int .i64 5]) (h2 : meterV kk r0 r1 = .tuple #[.agg #[.int .i64 a2, .int .i64 b2], .int .i64 e2]) (h3 : meterV n s0 s1 = .tuple #[.agg #[.int .i64 a3, .int .i64 b3], .int .i64 e3])
  | one (a1 b1 a2 b2 e2 a3 b3 : Int) (h1 : meterV n r0 r1 = .tuple #[.agg #[.int .i64 a1, .int .i64 b1], .int .i64 0]) (h2 : meterV kk r0 r1 = .tuple #[.agg #[.int .i64 a2, .int .i64 b2], .int .i64 e2]) (h3 : meterV n s0 s1 = .tuple #[.agg #[.int .i64 a3, .int .i64 b3], .int .i64 0])
      (B1 : a3 ≤ a1) (B2 : b1 ≤ b3) (B3 : e2 ≠ 0)
  | two (a1 b1 a2 b2 a3 b3 : Int) (h1 : meterV n r0 r1 = .tuple #[.agg #[.int .i64 a1, .int .i64 b1], .int .i64 0]) (h2 : meterV kk r0 r1 = .tuple #[.agg #[.int .i64 a2, .int .i64 b2], .int .i64 0]) (h3 : meterV n s0 s1 = .tuple #[.agg #[.int .i64 a3, .int .i64 b3], .int .i64 0])
      (B1 : a3 ≤ a1) (B2 : b1 ≤ b3) (B3 : a1 ≤ a2) (B4 : b1 ≤ b2)
theorem says {sh mo o0 o1 w0 w1 n kk q0 r0 r1 s0 s1 : Int} (N : Nums sh mo o0 o1 w0 w1 n kk q0 r0 r1 s0 s1) : Says n kk r0 r1 s0 s1 := by
  obtain ⟨b1, b2, b3, b4, b5, b6⟩ := nums_bd N
  have m1 : mOk n r0 r1 := ⟨b1, by omega, by omega, by omega⟩
  have m2 : mOk kk r0 r1 := ⟨by omega, by omega, by omega, by omega⟩
  have m3 : mOk n s0 s1 := ⟨b1, by omega, by omega, by omega⟩
  by_cases c1 : mL n r1 ≤ mH n r0
  · have x1 : mL n s1 ≤ mL n r1 := mL_mono_hi (by omega) (by omega) (by omega)
    have x2 : mH n r0 ≤ mH n s0 := mH_mono_lo (by omega) (by omega) (by omega)
    by_cases c2 : mL kk r1 ≤ mH kk r0
    · exact .two _ _ _ _ _ _ (meterV_ok m1 c1) (meterV_ok m2 c2) (meterV_ok m3 (by omega)) x1 x2 (mL_mono_x (by omega) (by omega)) (mH_mono_x (by omega) (by omega))
    · exact .one _ _ _ _ _ _ _ (meterV_ok m1 c1) (meterV_none m2 c2) (meterV_ok m3 (by omega)) x1 x2 (by omega)
  · obtain ⟨a2, b2, e2, h2⟩ := meter_tuple kk r0 r1
    obtain ⟨a3, b3, e3, h3⟩ := meter_tuple n s0 s1
    exact .none _ _ _ _ _ _ (meterV_none m1 c1) h2 h3
theorem m4_none {args : List Value} {V : View} : memo4 (.call 7 args V) = none := by
  have h1 : oracle bdF (.call 7 args V) = none := rfl
  have h2 : oracleE (.call 7 args V) = none := by
    simp only [oracleE]
    repeat' split
    all_goals first | rfl | (rename_i h; cases h)
  have h3 : oracleR wornP (.call 7 args V) = none := by
    have : ∀ a c, wornP 7 a c = none := fun a c => by
      unfold wornP
      repeat' split
      all_goals first | rfl | (rename_i h; cases h)
    simp only [oracleR, this]
    repeat' split
    all_goals rfl
  simp only [memo4, orF, h1, h2, h3]
theorem mark_back2 {o : Option Addr} {n cap : Nat} : ∃ b off, ∀ l : List Value, (∀ v, v ∈ l → shift b off v = v) → (Value.slice (mark o) n cap :: l).map (shift b off) = Value.slice o n cap :: l := by
  cases o with
  | none => exact ⟨0, 0, fun l hl => by rw [List.map_cons, shift_id hl]; rfl⟩
  | some a =>
    obtain ⟨bk, of, sp⟩ := a
    exact ⟨bk, of, fun l hl => by rw [List.map_cons, shift_id hl]; rfl⟩
section
variable {sh mo o0 o1 w0 w1 n kk q0 r0 r1 s0 s1 : Int} (N : Nums sh mo o0 o1 w0 w1 n kk q0 r0 r1 s0 s1)
include N
/-- without cans -/
theorem cans_none (works : ∀ w, Calls TP 31 #[] w fun e w' => e = .returned (.bool true) ∧ RowKit.Below w.heap.size w w') (o : Option Addr) (cap : Nat) (hcap : cap < big) (w : World) :
    Calls TP 7 #[.slice o 0 cap, .int .u32 sh, .int .u32 mo, .agg #[.int .u8 o0, .int .u8 o1], .agg #[.int .u8 w0, .int .u8 w1]] w fun e w' => e = .returned (.bool true) ∧ RowKit.Below w.heap.size w w' := by
  obtain ⟨b0, off, hb⟩ := mark_back2 (o := o) (n := 0) (cap := cap)
  have go : ∀ adv, callWP memo4 [0, 1, 2, 3, 4] adv 1000 7 [.slice (mark o) 0 cap, .int .u32 sh, .int .u32 mo, .agg #[.int .u8 o0, .int .u8 o1], .agg #[.int .u8 w0, .int .u8 w1]] ⟨1, []⟩ (fun v => v = .bool true) → Calls TP 7 #[.slice o 0 cap, .int .u32 sh, .int .u32 mo, .agg #[.int .u8 o0, .int .u8 o1], .agg #[.int .u8 w0, .int .u8 w1]] w fun e w' => e = .returned (.bool true) ∧ RowKit.Below w.heap.size w w' := fun adv h => by
    have := run_val (call_empty (memo4_ok works) memo4_code m4_none (by simp [mark_ok hcap]; exact ⟨rfl, rfl, rfl, rfl⟩) (fun v h => by rw [h]; rfl) h w b0 off)
    have e := hb [.int .u32 sh, .int .u32 mo, .agg #[.int .u8 o0, .int .u8 o1], .agg #[.int .u8 w0, .int .u8 w1]] (by intro v hv; simp at hv; rcases hv with rfl | rfl | rfl | rfl <;> rfl)
    rw [e] at this
    exact this
  obtain ⟨t1, t2, t3, t4, t5, t6, t7, t8, t9, t10, t11, t12, t13, t14, t15, t16, t17⟩ := tail_com N
  have f0 := meterV_flat (nums_bd N).1
  have z0 : ∀ (x y : Operand), OBin .neq 33 x y (.int .i64 0) (.int .i64 0) (.bool false) := fun x y => ob_neq (by simp)
  rcases says N with ⟨a2, b2, e2, a3, b3, e3, A1, A2, A3⟩ | ⟨a1, b1, a2, b2, e2, a3, b3, A1, A2, A3, B1, B2, B3⟩ | ⟨a1, b1, a2, b2, a3, b3, A1, A2, A3, B1, B2, B3, B4⟩
  · exact go _ ((w_none_a sh mo o0 o1 w0 w1 0 0 6 n kk q0 r0 r1 s0 s1 0 0 a2 b2 e2 a3 b3 e3 (mark o) cap (.bool true)).mpr ⟨⟨call34, m4_empty rfl rfl hcap⟩, ⟨call35, m4_empty rfl rfl hcap⟩, ob_neq (by decide), t1, t2, t3, t4, t5, t6, t7, t8, t9, t10, t11, t12, t13, t14, t15, t16, t17, ⟨call32, m4_meter A1⟩, ⟨call32, m4_meter A2⟩, ⟨call32, m4_meter A3⟩, ⟨call32, m4_meter f0⟩, z0 _ _, neq27 _ _ _ _, ob_neq (by decide), ob_neq (by decide), ob_neq (by decide), rfl⟩)
  · exact go _ ((w_none_b sh mo o0 o1 w0 w1 0 0 6 n kk q0 r0 r1 s0 s1 a1 b1 a2 b2 e2 a3 b3 0 (mark o) cap (.bool true)).mpr ⟨⟨call34, m4_empty rfl rfl hcap⟩, ⟨call35, m4_empty rfl rfl hcap⟩, ob_neq (by decide), t1, t2, t3, t4, t5, t6, t7, t8, t9, t10, t11, t12, t13, t14, t15, t16, t17, ⟨call32, m4_meter A1⟩, ⟨call32, m4_meter A2⟩, ⟨call32, m4_meter A3⟩, ⟨call32, m4_meter f0⟩, z0 _ _, neq27 _ _ _ _, z0 _ _, z0 _ _, ob_eql (by simp), ob_leq (decide_eq_true B1), ob_geq (decide_eq_true B2), ob_neq (by simpa using B3), rfl⟩)
  · exact go _ ((w_none_c sh mo o0 o1 w0 w1 0 0 6 n kk q0 r0 r1 s0 s1 a1 b1 a2 b2 0 a3 b3 0 (mark o) cap (.bool true)).mpr ⟨⟨call34, m4_empty rfl rfl hcap⟩, ⟨call35, m4_empty rfl rfl hcap⟩, ob_neq (by decide), t1, t2, t3, t4, t5, t6, t7, t8, t9, t10, t11, t12, t13, t14, t15, t16, t17, ⟨call32, m4_meter A1⟩, ⟨call32, m4_meter A2⟩, ⟨call32, m4_meter A3⟩, ⟨call32, m4_meter f0⟩, z0 _ _, neq27 _ _ _ _, z0 _ _, z0 _ _, ob_eql (by simp), ob_leq (decide_eq_true B1), ob_geq (decide_eq_true B2), z0 _ _, ob_geq (decide_eq_true B3), ob_geq (decide_eq_true B4), rfl⟩)
/-- with cans that are not valid -/
theorem cans_bad (works : ∀ w, Calls TP 31 #[] w fun e w' => e = .returned (.bool true) ∧ RowKit.Below w.heap.size w w') (l : List (Int × Int)) (hl : 0 < l.length) (hn : l.length ≤ 20) (cap : Nat) (hcap : cap < big) {er : Int} (he : er ≠ 0) (hw : wornV l = errV er) (w : World) (b0 off : Nat) (hr : RowsAt w b0 off (cells l)) :
    Calls TP 7 #[.slice (some ⟨b0, off + 0, none⟩) l.length cap, .int .u32 sh, .int .u32 mo, .agg #[.int .u8 o0, .int .u8 o1], .agg #[.int .u8 w0, .int .u8 w1]] w fun e w' => e = .returned (.bool true) ∧ RowKit.Below w.heap.size w w' := by
  have go : ∀ adv, callWP memo4 [0, 1, 2, 3, 4] adv 1000 7 [slc l.length cap, .int .u32 sh, .int .u32 mo, .agg #[.int .u8 o0, .int .u8 o1], .agg #[.int .u8 w0, .int .u8 w1]] (rowV (cells l) 71) (fun v => v = .bool true) → Calls TP 7 #[.slice (some ⟨b0, off + 0, none⟩) l.length cap, .int .u32 sh, .int .u32 mo, .agg #[.int .u8 o0, .int .u8 o1], .agg #[.int .u8 w0, .int .u8 w1]] w fun e w' => e = .returned (.bool true) ∧ RowKit.Below w.heap.size w w' := fun adv h =>
    run_val (call_rowsP (memo4_ok works) memo4_code (cells_flat l) m4_none (by simp [slc, okArg, hcap]; exact ⟨rfl, rfl, rfl, rfl⟩) (fun v h => by rw [h]; rfl) h w b0 off hr)
  have ht : wornV (l.take l.length) = errV er := by rw [List.take_length]; exact hw
  obtain ⟨t1, t2, t3, t4, t5, t6, t7, t8, t9, t10, t11, t12, t13, t14, t15, t16, t17⟩ := tail_com N
  have f0 := meterV_flat (nums_bd N).1
  have z0 : ∀ (x y : Operand), OBin .neq 33 x y (.int .i64 0) (.int .i64 0) (.bool false) := fun x y => ob_neq (by simp)
  rcases says N with ⟨a2, b2, e2, a3, b3, e3, A1, A2, A3⟩ | ⟨a1, b1, a2, b2, e2, a3, b3, A1, A2, A3, B1, B2, B3⟩ | ⟨a1, b1, a2, b2, a3, b3, A1, A2, A3, B1, B2, B3, B4⟩
  · exact go _ ((w_bad_a sh mo o0 o1 w0 w1 0 0 er n kk q0 r0 r1 s0 s1 0 0 a2 b2 e2 a3 b3 e3 l cap (.bool true)).mpr ⟨ob_gtr (decide_eq_false (by omega)), ⟨call34, m4_rows rfl rfl hl (by omega) (by omega) hcap rfl ht⟩, ⟨call35, m4_rows rfl rfl hl (by omega) (by omega) hcap rfl ht⟩, ob_neq (by simp), ob_lss (decide_eq_true (by omega)), ob_eql (by simpa using he), t1, t2, t3, t4, t5, t6, t7, t8, t9, t10, t11, t12, t13, t14, t15, t16, t17, ⟨call32, m4_meter A1⟩, ⟨call32, m4_meter A2⟩, ⟨call32, m4_meter A3⟩, ⟨call32, m4_meter f0⟩, z0 _ _, neq27 _ _ _ _, ob_neq (by decide), ob_neq (by decide), ob_neq (by decide), rfl⟩)
  · exact go _ ((w_bad_b sh mo o0 o1 w0 w1 0 0 er n kk q0 r0 r1 s0 s1 a1 b1 a2 b2 e2 a3 b3 0 l cap (.bool true)).mpr ⟨ob_gtr (decide_eq_false (by omega)), ⟨call34, m4_rows rfl rfl hl (by omega) (by omega) hcap rfl ht⟩, ⟨call35, m4_rows rfl rfl hl (by omega) (by omega) hcap rfl ht⟩, ob_neq (by simp), ob_lss (decide_eq_true (by omega)), ob_eql (by simpa using he), t1, t2, t3, t4, t5, t6, t7, t8, t9, t10, t11, t12, t13, t14, t15, t16, t17, ⟨call32, m4_meter A1⟩, ⟨call32, m4_meter A2⟩, ⟨call32, m4_meter A3⟩, ⟨call32, m4_meter f0⟩, z0 _ _, neq27 _ _ _ _, z0 _ _, z0 _ _, ob_eql (by simp), ob_leq (decide_eq_true B1), ob_geq (decide_eq_true B2), ob_neq (by simpa using B3), rfl⟩)
  · exact go _ ((w_bad_c sh mo o0 o1 w0 w1 0 0 er n kk q0 r0 r1 s0 s1 a1 b1 a2 b2 0 a3 b3 0 l cap (.bool true)).mpr ⟨ob_gtr (decide_eq_false (by omega)), ⟨call34, m4_rows rfl rfl hl (by omega) (by omega) hcap rfl ht⟩, ⟨call35, m4_rows rfl rfl hl (by omega) (by omega) hcap rfl ht⟩, ob_neq (by simp), ob_lss (decide_eq_true (by omega)), ob_eql (by simpa using he), t1, t2, t3, t4, t5, t6, t7, t8, t9, t10, t11, t12, t13, t14, t15, t16, t17, ⟨call32, m4_meter A1⟩, ⟨call32, m4_meter A2⟩, ⟨call32, m4_meter A3⟩, ⟨call32, m4_meter f0⟩, z0 _ _, neq27 _ _ _ _, z0 _ _, z0 _ _, ob_eql (by simp), ob_leq (decide_eq_true B1), ob_geq (decide_eq_true B2), z0 _ _, ob_geq (decide_eq_true B3), ob_geq (decide_eq_true B4), rfl⟩)
/-- with valid cans -/
theorem cans_ok (works : ∀ w, Calls TP 31 #[] w fun e w' => e = .returned (.bool true) ∧ RowKit.Below w.heap.size w w') (l : List (Int × Int)) (hl : 0 < l.length) (hn : l.length ≤ 20) (cap : Nat) (hlc : l.length ≤ cap) (hcap : cap < big) (hc : Cans l) (w : World) (b0 off : Nat) (hr : RowsAt w b0 off (cells l)) :
    Calls TP 7 #[.slice (some ⟨b0, off + 0, none⟩) l.length cap, .int .u32 sh, .int .u32 mo, .agg #[.int .u8 o0, .int .u8 o1], .agg #[.int .u8 w0, .int .u8 w1]] w fun e w' => e = .returned (.bool true) ∧ RowKit.Below w.heap.size w w' := by
  have go : ∀ adv, callWP memo4 [0, 1, 2, 3, 4] adv 1000 7 [slc l.length cap, .int .u32 sh, .int .u32 mo, .agg #[.int .u8 o0, .int .u8 o1], .agg #[.int .u8 w0, .int .u8 w1]] (rowV (cells l) 71) (fun v => v = .bool true) → Calls TP 7 #[.slice (some ⟨b0, off + 0, none⟩) l.length cap, .int .u32 sh, .int .u32 mo, .agg #[.int .u8 o0, .int .u8 o1], .agg #[.int .u8 w0, .int .u8 w1]] w fun e w' => e = .returned (.bool true) ∧ RowKit.Below w.heap.size w w' := fun adv h =>
    run_val (call_rowsP (memo4_ok works) memo4_code (cells_flat l) m4_none (by simp [slc, okArg, hcap]; exact ⟨rfl, rfl, rfl, rfl⟩) (fun v h => by rw [h]; rfl) h w b0 off hr)
  have ht : wornV (l.take l.length) = .tuple #[.agg #[.int .i64 (loF l), .int .i64 (hiF l)], .int .i64 0] := by rw [List.take_length]; exact wornV_ok hl hn hc
  have hk := KCans_mem l.length (by omega)
  have lp : LoopRP memo4 [0, 1, 2, 3, 4] 992 none (loopOf 7 0) (cTs l.length cap sh mo o0 o1 w0 w1 (loF l) (hiF l) 0 ⟨0, fun _ => undef⟩) [] (cV l o0 o1 w0 w1 (loF l) (hiF l) 5) [cOut l cap sh mo o0 o1 w0 w1 (loF l) (hiF l) 0 (5 + 2 * l.length)] := by
    rw [loop7]
    exact cans_loop sh mo o0 o1 w0 w1 l cap hlc hcap hn hc 992 ⟨0, fun _ => undef⟩ (show 0 ≤ l.length by omega) (show l.length - 0 + 20 < 992 by omega)
  obtain ⟨t1, t2, t3, t4, t5, t6, t7, t8, t9, t10, t11, t12, t13, t14, t15, t16, t17⟩ := tail_com N
  have f0 := meterV_flat (nums_bd N).1
  have z0 : ∀ (x y : Operand), OBin .neq 33 x y (.int .i64 0) (.int .i64 0) (.bool false) := fun x y => ob_neq (by simp)
  rcases says N with ⟨a2, b2, e2, a3, b3, e3, A1, A2, A3⟩ | ⟨a1, b1, a2, b2, e2, a3, b3, A1, A2, A3, B1, B2, B3⟩ | ⟨a1, b1, a2, b2, a3, b3, A1, A2, A3, B1, B2, B3, B4⟩
  · exact go _ ((w_ok_a sh mo o0 o1 w0 w1 (loF l) (hiF l) 0 n kk q0 r0 r1 s0 s1 0 0 a2 b2 e2 a3 b3 e3 l cap (.bool true) (5 + 2 * l.length) hk).mpr ⟨ob_gtr (decide_eq_false (by omega)), ⟨call34, m4_rows rfl rfl hl (by omega) (by omega) hcap rfl ht⟩, ⟨call35, m4_rows rfl rfl hl (by omega) (by omega) hcap rfl ht⟩, ob_neq (by decide), lp, fun _ _ => ⟨t1, t2, t3, t4, t5, t6, t7, t8, t9, t10, t11, t12, t13, t14, t15, t16, t17, ⟨call32, m4_meter A1⟩, ⟨call32, m4_meter A2⟩, ⟨call32, m4_meter A3⟩, ⟨call32, m4_meter f0⟩, z0 _ _, neq27 _ _ _ _, ob_neq (by decide), ob_neq (by decide), ob_neq (by decide), rfl⟩, trivial⟩)
  · exact go _ ((w_ok_b sh mo o0 o1 w0 w1 (loF l) (hiF l) 0 n kk q0 r0 r1 s0 s1 a1 b1 a2 b2 e2 a3 b3 0 l cap (.bool true) (5 + 2 * l.length) hk).mpr ⟨ob_gtr (decide_eq_false (by omega)), ⟨call34, m4_rows rfl rfl hl (by omega) (by omega) hcap rfl ht⟩, ⟨call35, m4_rows rfl rfl hl (by omega) (by omega) hcap rfl ht⟩, ob_neq (by decide), lp, fun _ _ => ⟨t1, t2, t3, t4, t5, t6, t7, t8, t9, t10, t11, t12, t13, t14, t15, t16, t17, ⟨call32, m4_meter A1⟩, ⟨call32, m4_meter A2⟩, ⟨call32, m4_meter A3⟩, ⟨call32, m4_meter f0⟩, z0 _ _, neq27 _ _ _ _, z0 _ _, z0 _ _, ob_eql (by simp), ob_leq (decide_eq_true B1), ob_geq (decide_eq_true B2), ob_neq (by simpa using B3), rfl⟩, trivial⟩)
  · exact go _ ((w_ok_c sh mo o0 o1 w0 w1 (loF l) (hiF l) 0 n kk q0 r0 r1 s0 s1 a1 b1 a2 b2 0 a3 b3 0 l cap (.bool true) (5 + 2 * l.length) hk).mpr ⟨ob_gtr (decide_eq_false (by omega)), ⟨call34, m4_rows rfl rfl hl (by omega) (by omega) hcap rfl ht⟩, ⟨call35, m4_rows rfl rfl hl (by omega) (by omega) hcap rfl ht⟩, ob_neq (by decide), lp, fun _ _ => ⟨t1, t2, t3, t4, t5, t6, t7, t8, t9, t10, t11, t12, t13, t14, t15, t16, t17, ⟨call32, m4_meter A1⟩, ⟨call32, m4_meter A2⟩, ⟨call32, m4_meter A3⟩, ⟨call32, m4_meter f0⟩, z0 _ _, neq27 _ _ _ _, z0 _ _, z0 _ _, ob_eql (by simp), ob_leq (decide_eq_true B1), ob_geq (decide_eq_true B2), z0 _ _, ob_geq (decide_eq_true B3), ob_geq (decide_eq_true B4), rfl⟩, trivial⟩)
end
/-- with too many cans -/
theorem cans_many {sh mo o0 o1 w0 w1 : Int} (works : ∀ w, Calls TP 31 #[] w fun e w' => e = .returned (.bool true) ∧ RowKit.Below w.heap.size w w') (l : List (Int × Int)) (hn : 20 < l.length) (cap : Nat) (hcap : cap < big) (w : World) (b0 off : Nat) (hr : RowsAt w b0 off (cells l)) :
    Calls TP 7 #[.slice (some ⟨b0, off + 0, none⟩) l.length cap, .int .u32 sh, .int .u32 mo, .agg #[.int .u8 o0, .int .u8 o1], .agg #[.int .u8 w0, .int .u8 w1]] w fun e w' => e = .returned (.bool true) ∧ RowKit.Below w.heap.size w w' :=
  run_val (call_rowsP (memo4_ok works) memo4_code (cells_flat l) m4_none (by simp [slc, okArg, hcap]; exact ⟨rfl, rfl, rfl, rfl⟩) (fun v h => by rw [h]; rfl) ((w_big sh mo o0 o1 w0 w1 0 0 0 l cap (.bool true)).mpr ⟨ob_gtr (decide_eq_true (by omega)), rfl⟩) w b0 off hr)
end Go.Vm
