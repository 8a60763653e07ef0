/- Contracts of stock's checks of cans. -/
import Derived.Test.YtcphndfipjifcaaVrSn
import Derived.Test.YtcphndfipjifcaaVrS3
set_option linter.unusedVariables false
namespace Go.Vm
set_option maxRecDepth 100000
set_option maxHeartbeats 4000000
def KF : List Nat := [1, 4, 7, 10, 13, 16, 19, 22, 25, 28, 31, 34, 37, 40, 43, 46, 49, 52, 55, 58, 61]
def KG : List Nat := [1, 3, 5, 7, 9, 11, 13, 15, 17, 19, 21, 23, 25, 27, 29, 31, 33, 35, 37, 39, 41]
structure CB where
  i : Nat
  j : Nat → Value
def cells (l : List (Int × Int)) : List Value := (l.map fun p => [Value.int .i64 p.1, .int .i64 p.2]).flatten
abbrev slc (n cap : Nat) : Value := .slice (some ⟨0, 0, none⟩) n cap
def canV (l : List (Int × Int)) (k : Nat) : View := ⟨k, [(0, .cells ⟨cells l⟩ 71 (0, 1))]⟩
def fTs (n cap : Nat) (b : CB) : List Value := [slc n cap, undef, .bool false, undef, b.j 4, slc n cap, .int .i64 n, .int .i64 b.i, b.j 8, b.j 9, b.j 10, b.j 11, b.j 12, b.j 13, b.j 14, b.j 15, b.j 16, b.j 17, b.j 18, b.j 19, b.j 20, b.j 21, b.j 22, b.j 23]
def gTs (n cap : Nat) (b : CB) : List Value := [slc n cap, undef, .bool false, undef, b.j 4, slc n cap, .int .i64 n, .int .i64 b.i, b.j 8, b.j 9, b.j 10, b.j 11, b.j 12, b.j 13, b.j 14, b.j 15, b.j 16, b.j 17, b.j 18, b.j 19, b.j 20, b.j 21, b.j 22]
def fit (p : Int × Int) : Prop := (0 ≤ p.1 ∧ p.1 ≤ 100000) ∧ 1 ≤ p.2 ∧ p.2 ≤ 100000
def exc (p : Int × Int) : Int := 1000 * (p.1 - p.2)
def bear (p : Int × Int) : Prop := -100 * p.2 ≤ exc p ∧ exc p ≤ 100 * p.2
def upto (Q : Int × Int → Prop) (l : List (Int × Int)) (i : Nat) : Prop := ∀ m p, m < i → l[m]? = some p → Q p
def fInv (l : List (Int × Int)) (cap : Nat) : LInv := ⟨CB, fTs l.length cap, [], fun b => canV l (1 + 3 * b.i), fun b => b.i ≤ l.length ∧ upto fit l b.i, fun b => l.length - b.i⟩
def fOut (l : List (Int × Int)) (cap : Nat) : LoopEnd := ⟨CB, fun _ => .exit 0, fTs l.length cap, [], fun b => canV l (1 + 3 * b.i), fun b => ∀ p, p ∈ l → fit p⟩
def fRet (l : List (Int × Int)) (cap : Nat) : LoopEnd := ⟨CB × View, fun _ => .ret, fun b => fTs l.length cap b.1, [], fun b => b.2, fun b => ∃ p, p ∈ l ∧ ¬ fit p⟩
def gInv (l : List (Int × Int)) (cap : Nat) : LInv := ⟨CB, gTs l.length cap, [], fun b => canV l (1 + 2 * b.i), fun b => b.i ≤ l.length ∧ upto bear l b.i, fun b => l.length - b.i⟩
def gOut (l : List (Int × Int)) (cap : Nat) : LoopEnd := ⟨CB, fun _ => .exit 0, gTs l.length cap, [], fun b => canV l (1 + 2 * b.i), fun b => ∀ p, p ∈ l → bear p⟩
def gRet (l : List (Int × Int)) (cap : Nat) : LoopEnd := ⟨CB × View, fun _ => .ret, fun b => gTs l.length cap b.1, [], fun b => b.2, fun b => ∃ p, p ∈ l ∧ ¬ bear p⟩
theorem f_out (x y : Int) (l : List (Int × Int)) (cap M : Nat) (k : Nat) (b : CB) (hk : k ∈ KF) : codeWP memo1 [0] (M + 20) (.mk [(8, .bool false)] [] []) none (bodyOfLoop (loopOf 95 0)) (fTs l.length cap b) [] (canV l k) (fun e ts df V => RoundEnd (fInv l cap) b [fOut l cap, fRet l cap] e ts df (match e with | .normal => pruneV [0] V | _ => V)) = (
      OBin .lss 3 (.tmp 7) (.tmp 6) (.int .i64 (↑b.i)) (.int .i64 (↑l.length)) (.bool false) ∧
      RoundEnd (fInv l cap) b ([fOut l cap, fRet l cap]) (Go.Vm.Ex.exit 0) [(.slice (Option.some (Go.Addr.mk 0 0 Option.none)) (l.length) cap), (.tuple #[]), (.bool false), (.tuple #[]), (b.j 4), (.slice (Option.some (Go.Addr.mk 0 0 Option.none)) (l.length) cap), (.int .i64 (↑l.length)), (.int .i64 (↑b.i)), (.bool false), (b.j 9), (b.j 10), (b.j 11), (b.j 12), (b.j 13), (b.j 14), (b.j 15), (b.j 16), (b.j 17), (b.j 18), (b.j 19), (b.j 20), (b.j 21), (b.j 22), (b.j 23)] [] (Go.Vm.View.mk k [(Prod.mk 0 (Go.Obj.cells (Array.mk (cells l)) 71 (Prod.mk 0 1)))])) := by simp only [KF, List.mem_cons, List.not_mem_nil, or_false] at hk; rcases hk with rfl | rfl | rfl | rfl | rfl | rfl | rfl | rfl | rfl | rfl | rfl | rfl | rfl | rfl | rfl | rfl | rfl | rfl | rfl | rfl | rfl <;> kernel_rfl
theorem f_bad1 (x y : Int) (l : List (Int × Int)) (cap M : Nat) (k : Nat) (b : CB) (hk : k ∈ KF) : codeWP memo1 [0] (M + 20) (.mk [(8, .bool true), (9, .pointer (some ⟨0, 2 * b.i, none⟩)), (10, .agg #[.int .i64 x, .int .i64 y]), (14, .bool false)] [] []) none (bodyOfLoop (loopOf 95 0)) (fTs l.length cap b) [] (canV l k) (fun e ts df V => RoundEnd (fInv l cap) b [fOut l cap, fRet l cap] e ts df (match e with | .normal => pruneV [0] V | _ => V)) = (
      OBin .lss 3 (.tmp 7) (.tmp 6) (.int .i64 (↑b.i)) (.int .i64 (↑l.length)) (.bool true) ∧
      OIx 65 (.slice (Option.some (Go.Addr.mk 0 0 Option.none)) (l.length) cap) (.int .i64 (↑b.i)) (.pointer (Option.some (Go.Addr.mk 0 (2 * b.i) Option.none))) ∧
      OLoad 71 (.pointer (Option.some (Go.Addr.mk 0 (2 * b.i) Option.none))) (Option.some (Go.Obj.cells (Array.mk (cells l)) 71 (Prod.mk 0 1))) (.agg #[(.int .i64 x), (.int .i64 y)]) ∧
      OCall (memo1) 90 [(.int .i64 (0)), (.int .i64 (100000)), (.slice (Option.some (Go.Addr.mk (k + 1) 0 Option.none)) 1 1)] (Go.Vm.View.mk (k + 2) [(Prod.mk (k + 1) (Go.Obj.cells #[(.int .i64 x)] 2 (Prod.mk 0 0))), (Prod.mk k (Go.Obj.cells #[(.int .i64 x), (.int .i64 y)] 71 (Prod.mk 0 0))), (Prod.mk 0 (Go.Obj.cells (Array.mk (cells l)) 71 (Prod.mk 0 1)))]) (.bool false) ∧
      RoundEnd (fInv l cap) b ([fOut l cap, fRet l cap]) Go.Vm.Ex.ret [(.slice (Option.some (Go.Addr.mk 0 0 Option.none)) (l.length) cap), (.tuple #[]), (.bool false), (.tuple #[]), (.pointer (Option.some (Go.Addr.mk k 0 Option.none))), (.slice (Option.some (Go.Addr.mk 0 0 Option.none)) (l.length) cap), (.int .i64 (↑l.length)), (.int .i64 (↑b.i)), (.bool true), (.pointer (Option.some (Go.Addr.mk 0 (2 * b.i) Option.none))), (.agg #[(.int .i64 x), (.int .i64 y)]), (.pointer (Option.some (Go.Addr.mk k 0 Option.none))), (.int .i64 x), (.slice (Option.some (Go.Addr.mk (k + 1) 0 Option.none)) 1 1), (.bool false), (.bool true), (.bool true), (.tuple #[]), (.tuple #[]), (.tuple #[]), (.tuple #[]), (.tuple #[]), (.bool true), (b.j 23)] [] (Go.Vm.View.mk (k + 2) [(Prod.mk (k + 1) (Go.Obj.cells #[(.int .i64 x)] 2 (Prod.mk 0 0))), (Prod.mk k (Go.Obj.cells #[(.int .i64 x), (.int .i64 y)] 71 (Prod.mk 0 0))), (Prod.mk 0 (Go.Obj.cells (Array.mk (cells l)) 71 (Prod.mk 0 1)))])) := by simp only [KF, List.mem_cons, List.not_mem_nil, or_false] at hk; rcases hk with rfl | rfl | rfl | rfl | rfl | rfl | rfl | rfl | rfl | rfl | rfl | rfl | rfl | rfl | rfl | rfl | rfl | rfl | rfl | rfl | rfl <;> kernel_rfl
theorem f_bad2 (x y : Int) (l : List (Int × Int)) (cap M : Nat) (k : Nat) (b : CB) (hk : k ∈ KF) : codeWP memo1 [0] (M + 20) (.mk [(8, .bool true), (9, .pointer (some ⟨0, 2 * b.i, none⟩)), (10, .agg #[.int .i64 x, .int .i64 y]), (14, .bool true), (20, .bool false)] [] []) none (bodyOfLoop (loopOf 95 0)) (fTs l.length cap b) [] (canV l k) (fun e ts df V => RoundEnd (fInv l cap) b [fOut l cap, fRet l cap] e ts df (match e with | .normal => pruneV [0] V | _ => V)) = (
      OBin .lss 3 (.tmp 7) (.tmp 6) (.int .i64 (↑b.i)) (.int .i64 (↑l.length)) (.bool true) ∧
      OIx 65 (.slice (Option.some (Go.Addr.mk 0 0 Option.none)) (l.length) cap) (.int .i64 (↑b.i)) (.pointer (Option.some (Go.Addr.mk 0 (2 * b.i) Option.none))) ∧
      OLoad 71 (.pointer (Option.some (Go.Addr.mk 0 (2 * b.i) Option.none))) (Option.some (Go.Obj.cells (Array.mk (cells l)) 71 (Prod.mk 0 1))) (.agg #[(.int .i64 x), (.int .i64 y)]) ∧
      OCall (memo1) 90 [(.int .i64 (0)), (.int .i64 (100000)), (.slice (Option.some (Go.Addr.mk (k + 1) 0 Option.none)) 1 1)] (Go.Vm.View.mk (k + 2) [(Prod.mk (k + 1) (Go.Obj.cells #[(.int .i64 x)] 2 (Prod.mk 0 0))), (Prod.mk k (Go.Obj.cells #[(.int .i64 x), (.int .i64 y)] 71 (Prod.mk 0 0))), (Prod.mk 0 (Go.Obj.cells (Array.mk (cells l)) 71 (Prod.mk 0 1)))]) (.bool true) ∧
      OCall (memo1) 90 [(.int .i64 (1)), (.int .i64 (100000)), (.slice (Option.some (Go.Addr.mk (k + 2) 0 Option.none)) 1 1)] (Go.Vm.View.mk (k + 3) [(Prod.mk (k + 2) (Go.Obj.cells #[(.int .i64 y)] 2 (Prod.mk 0 0))), (Prod.mk (k + 1) (Go.Obj.cells #[(.int .i64 x)] 2 (Prod.mk 0 0))), (Prod.mk k (Go.Obj.cells #[(.int .i64 x), (.int .i64 y)] 71 (Prod.mk 0 0))), (Prod.mk 0 (Go.Obj.cells (Array.mk (cells l)) 71 (Prod.mk 0 1)))]) (.bool false) ∧
      RoundEnd (fInv l cap) b ([fOut l cap, fRet l cap]) Go.Vm.Ex.ret [(.slice (Option.some (Go.Addr.mk 0 0 Option.none)) (l.length) cap), (.tuple #[]), (.bool false), (.tuple #[]), (.pointer (Option.some (Go.Addr.mk k 0 Option.none))), (.slice (Option.some (Go.Addr.mk 0 0 Option.none)) (l.length) cap), (.int .i64 (↑l.length)), (.int .i64 (↑b.i)), (.bool true), (.pointer (Option.some (Go.Addr.mk 0 (2 * b.i) Option.none))), (.agg #[(.int .i64 x), (.int .i64 y)]), (.pointer (Option.some (Go.Addr.mk k 0 Option.none))), (.int .i64 x), (.slice (Option.some (Go.Addr.mk (k + 1) 0 Option.none)) 1 1), (.bool true), (.bool false), (.bool false), (.pointer (Option.some (Go.Addr.mk k 1 Option.none))), (.int .i64 y), (.slice (Option.some (Go.Addr.mk (k + 2) 0 Option.none)) 1 1), (.bool false), (.bool true), (.bool true), (b.j 23)] [] (Go.Vm.View.mk (k + 3) [(Prod.mk (k + 2) (Go.Obj.cells #[(.int .i64 y)] 2 (Prod.mk 0 0))), (Prod.mk (k + 1) (Go.Obj.cells #[(.int .i64 x)] 2 (Prod.mk 0 0))), (Prod.mk k (Go.Obj.cells #[(.int .i64 x), (.int .i64 y)] 71 (Prod.mk 0 0))), (Prod.mk 0 (Go.Obj.cells (Array.mk (cells l)) 71 (Prod.mk 0 1)))])) := by simp only [KF, List.mem_cons, List.not_mem_nil, or_false] at hk; rcases hk with rfl | rfl | rfl | rfl | rfl | rfl | rfl | rfl | rfl | rfl | rfl | rfl | rfl | rfl | rfl | rfl | rfl | rfl | rfl | rfl | rfl <;> kernel_rfl
theorem f_next (x y : Int) (l : List (Int × Int)) (cap M : Nat) (k : Nat) (b : CB) (hk : k ∈ KF) : codeWP memo1 [0] (M + 20) (.mk [(8, .bool true), (9, .pointer (some ⟨0, 2 * b.i, none⟩)), (10, .agg #[.int .i64 x, .int .i64 y]), (23, .int .i64 (↑(b.i + 1))), (14, .bool true), (20, .bool true)] [] []) none (bodyOfLoop (loopOf 95 0)) (fTs l.length cap b) [] (canV l k) (fun e ts df V => RoundEnd (fInv l cap) b [fOut l cap, fRet l cap] e ts df (match e with | .normal => pruneV [0] V | _ => V)) = (
      OBin .lss 3 (.tmp 7) (.tmp 6) (.int .i64 (↑b.i)) (.int .i64 (↑l.length)) (.bool true) ∧
      OIx 65 (.slice (Option.some (Go.Addr.mk 0 0 Option.none)) (l.length) cap) (.int .i64 (↑b.i)) (.pointer (Option.some (Go.Addr.mk 0 (2 * b.i) Option.none))) ∧
      OLoad 71 (.pointer (Option.some (Go.Addr.mk 0 (2 * b.i) Option.none))) (Option.some (Go.Obj.cells (Array.mk (cells l)) 71 (Prod.mk 0 1))) (.agg #[(.int .i64 x), (.int .i64 y)]) ∧
      OCall (memo1) 90 [(.int .i64 (0)), (.int .i64 (100000)), (.slice (Option.some (Go.Addr.mk (k + 1) 0 Option.none)) 1 1)] (Go.Vm.View.mk (k + 2) [(Prod.mk (k + 1) (Go.Obj.cells #[(.int .i64 x)] 2 (Prod.mk 0 0))), (Prod.mk k (Go.Obj.cells #[(.int .i64 x), (.int .i64 y)] 71 (Prod.mk 0 0))), (Prod.mk 0 (Go.Obj.cells (Array.mk (cells l)) 71 (Prod.mk 0 1)))]) (.bool true) ∧
      OCall (memo1) 90 [(.int .i64 (1)), (.int .i64 (100000)), (.slice (Option.some (Go.Addr.mk (k + 2) 0 Option.none)) 1 1)] (Go.Vm.View.mk (k + 3) [(Prod.mk (k + 2) (Go.Obj.cells #[(.int .i64 y)] 2 (Prod.mk 0 0))), (Prod.mk (k + 1) (Go.Obj.cells #[(.int .i64 x)] 2 (Prod.mk 0 0))), (Prod.mk k (Go.Obj.cells #[(.int .i64 x), (.int .i64 y)] 71 (Prod.mk 0 0))), (Prod.mk 0 (Go.Obj.cells (Array.mk (cells l)) 71 (Prod.mk 0 1)))]) (.bool true) ∧
      OBin .add 3 (.tmp 7) (.const (.int .i64 (1))) (.int .i64 (↑b.i)) (.int .i64 (1)) (.int .i64 (↑(b.i + 1))) ∧
      RoundEnd (fInv l cap) b ([fOut l cap, fRet l cap]) Go.Vm.Ex.normal [(.slice (Option.some (Go.Addr.mk 0 0 Option.none)) (l.length) cap), (.tuple #[]), (.bool false), (.tuple #[]), (.pointer (Option.some (Go.Addr.mk k 0 Option.none))), (.slice (Option.some (Go.Addr.mk 0 0 Option.none)) (l.length) cap), (.int .i64 (↑l.length)), (.int .i64 (↑(b.i + 1))), (.bool true), (.pointer (Option.some (Go.Addr.mk 0 (2 * b.i) Option.none))), (.agg #[(.int .i64 x), (.int .i64 y)]), (.pointer (Option.some (Go.Addr.mk k 0 Option.none))), (.int .i64 x), (.slice (Option.some (Go.Addr.mk (k + 1) 0 Option.none)) 1 1), (.bool true), (.bool false), (.bool false), (.pointer (Option.some (Go.Addr.mk k 1 Option.none))), (.int .i64 y), (.slice (Option.some (Go.Addr.mk (k + 2) 0 Option.none)) 1 1), (.bool true), (.bool false), (.bool false), (.int .i64 (↑(b.i + 1)))] [] (Go.Vm.View.mk (k + 3) [(Prod.mk 0 (Go.Obj.cells (Array.mk (cells l)) 71 (Prod.mk 0 1)))])) := by simp only [KF, List.mem_cons, List.not_mem_nil, or_false] at hk; rcases hk with rfl | rfl | rfl | rfl | rfl | rfl | rfl | rfl | rfl | rfl | rfl | rfl | rfl | rfl | rfl | rfl | rfl | rfl | rfl | rfl | rfl <;> kernel_rfl
theorem g_out (x y : Int) (l : List (Int × Int)) (cap M : Nat) (k : Nat) (b : CB) (hk : k ∈ KG) : codeWP memo1 [0] (M + 20) (.mk [(8, .bool false)] [] []) none (bodyOfLoop (loopOf 96 0)) (gTs l.length cap b) [] (canV l k) (fun e ts df V => RoundEnd (gInv l cap) b [gOut l cap, gRet l cap] e ts df (match e with | .normal => pruneV [0] V | _ => V)) = (
      OBin .lss 3 (.tmp 7) (.tmp 6) (.int .i64 (↑b.i)) (.int .i64 (↑l.length)) (.bool false) ∧
      RoundEnd (gInv l cap) b ([gOut l cap, gRet l cap]) (Go.Vm.Ex.exit 0) [(.slice (Option.some (Go.Addr.mk 0 0 Option.none)) (l.length) cap), (.tuple #[]), (.bool false), (.tuple #[]), (b.j 4), (.slice (Option.some (Go.Addr.mk 0 0 Option.none)) (l.length) cap), (.int .i64 (↑l.length)), (.int .i64 (↑b.i)), (.bool false), (b.j 9), (b.j 10), (b.j 11), (b.j 12), (b.j 13), (b.j 14), (b.j 15), (b.j 16), (b.j 17), (b.j 18), (b.j 19), (b.j 20), (b.j 21), (b.j 22)] [] (Go.Vm.View.mk k [(Prod.mk 0 (Go.Obj.cells (Array.mk (cells l)) 71 (Prod.mk 0 1)))])) := by simp only [KG, List.mem_cons, List.not_mem_nil, or_false] at hk; rcases hk with rfl | rfl | rfl | rfl | rfl | rfl | rfl | rfl | rfl | rfl | rfl | rfl | rfl | rfl | rfl | rfl | rfl | rfl | rfl | rfl | rfl <;> kernel_rfl
theorem g_bad (x y : Int) (l : List (Int × Int)) (cap M : Nat) (k : Nat) (b : CB) (hk : k ∈ KG) : codeWP memo1 [0] (M + 20) (.mk [(8, .bool true), (9, .pointer (some ⟨0, 2 * b.i, none⟩)), (10, .agg #[.int .i64 x, .int .i64 y]), (13, .int .i64 (-100 * y)), (16, .int .i64 (100 * y)), (18, .int .i64 (1000 * (x - y))), (22, .int .i64 (↑(b.i + 1))), (20, .bool false)] [] []) none (bodyOfLoop (loopOf 96 0)) (gTs l.length cap b) [] (canV l k) (fun e ts df V => RoundEnd (gInv l cap) b [gOut l cap, gRet l cap] e ts df (match e with | .normal => pruneV [0] V | _ => V)) = (
      OBin .lss 3 (.tmp 7) (.tmp 6) (.int .i64 (↑b.i)) (.int .i64 (↑l.length)) (.bool true) ∧
      OIx 65 (.slice (Option.some (Go.Addr.mk 0 0 Option.none)) (l.length) cap) (.int .i64 (↑b.i)) (.pointer (Option.some (Go.Addr.mk 0 (2 * b.i) Option.none))) ∧
      OLoad 71 (.pointer (Option.some (Go.Addr.mk 0 (2 * b.i) Option.none))) (Option.some (Go.Obj.cells (Array.mk (cells l)) 71 (Prod.mk 0 1))) (.agg #[(.int .i64 x), (.int .i64 y)]) ∧
      OBin .mul 2 (.const (.int .i64 (-100))) (.tmp 12) (.int .i64 (-100)) (.int .i64 y) (.int .i64 (-100 * y)) ∧
      OBin .mul 2 (.const (.int .i64 (100))) (.tmp 15) (.int .i64 (100)) (.int .i64 y) (.int .i64 (100 * y)) ∧
      OCall (memo1) 97 [(.agg #[(.int .i64 x), (.int .i64 y)])] (Go.Vm.View.mk (k + 1) [(Prod.mk k (Go.Obj.cells #[(.int .i64 x), (.int .i64 y)] 71 (Prod.mk 0 1))), (Prod.mk 0 (Go.Obj.cells (Array.mk (cells l)) 71 (Prod.mk 0 1)))]) (.int .i64 (1000 * (x - y))) ∧
      OCall (memo1) 90 [(.int .i64 (-100 * y)), (.int .i64 (100 * y)), (.slice (Option.some (Go.Addr.mk (k + 1) 0 Option.none)) 1 1)] (Go.Vm.View.mk (k + 2) [(Prod.mk (k + 1) (Go.Obj.cells #[(.int .i64 (1000 * (x - y)))] 2 (Prod.mk 0 0))), (Prod.mk k (Go.Obj.cells #[(.int .i64 x), (.int .i64 y)] 71 (Prod.mk 0 0))), (Prod.mk 0 (Go.Obj.cells (Array.mk (cells l)) 71 (Prod.mk 0 1)))]) (.bool false) ∧
      RoundEnd (gInv l cap) b ([gOut l cap, gRet l cap]) Go.Vm.Ex.ret [(.slice (Option.some (Go.Addr.mk 0 0 Option.none)) (l.length) cap), (.tuple #[]), (.bool false), (.tuple #[]), (.pointer (Option.some (Go.Addr.mk k 0 Option.none))), (.slice (Option.some (Go.Addr.mk 0 0 Option.none)) (l.length) cap), (.int .i64 (↑l.length)), (.int .i64 (↑b.i)), (.bool true), (.pointer (Option.some (Go.Addr.mk 0 (2 * b.i) Option.none))), (.agg #[(.int .i64 x), (.int .i64 y)]), (.pointer (Option.some (Go.Addr.mk k 1 Option.none))), (.int .i64 y), (.int .i64 (-100 * y)), (.pointer (Option.some (Go.Addr.mk k 1 Option.none))), (.int .i64 y), (.int .i64 (100 * y)), (.agg #[(.int .i64 x), (.int .i64 y)]), (.int .i64 (1000 * (x - y))), (.slice (Option.some (Go.Addr.mk (k + 1) 0 Option.none)) 1 1), (.bool false), (.bool true), (b.j 22)] [] (Go.Vm.View.mk (k + 2) [(Prod.mk (k + 1) (Go.Obj.cells #[(.int .i64 (1000 * (x - y)))] 2 (Prod.mk 0 0))), (Prod.mk k (Go.Obj.cells #[(.int .i64 x), (.int .i64 y)] 71 (Prod.mk 0 0))), (Prod.mk 0 (Go.Obj.cells (Array.mk (cells l)) 71 (Prod.mk 0 1)))])) := by simp only [KG, List.mem_cons, List.not_mem_nil, or_false] at hk; rcases hk with rfl | rfl | rfl | rfl | rfl | rfl | rfl | rfl | rfl | rfl | rfl | rfl | rfl | rfl | rfl | rfl | rfl | rfl | rfl | rfl | rfl <;> kernel_rfl
theorem g_next (x y : Int) (l : List (Int × Int)) (cap M : Nat) (k : Nat) (b : CB) (hk : k ∈ KG) : codeWP memo1 [0] (M + 20) (.mk [(8, .bool true), (9, .pointer (some ⟨0, 2 * b.i, none⟩)), (10, .agg #[.int .i64 x, .int .i64 y]), (13, .int .i64 (-100 * y)), (16, .int .i64 (100 * y)), (18, .int .i64 (1000 * (x - y))), (22, .int .i64 (↑(b.i + 1))), (20, .bool true)] [] []) none (bodyOfLoop (loopOf 96 0)) (gTs l.length cap b) [] (canV l k) (fun e ts df V => RoundEnd (gInv l cap) b [gOut l cap, gRet l cap] e ts df (match e with | .normal => pruneV [0] V | _ => V)) = (
      OBin .lss 3 (.tmp 7) (.tmp 6) (.int .i64 (↑b.i)) (.int .i64 (↑l.length)) (.bool true) ∧
      OIx 65 (.slice (Option.some (Go.Addr.mk 0 0 Option.none)) (l.length) cap) (.int .i64 (↑b.i)) (.pointer (Option.some (Go.Addr.mk 0 (2 * b.i) Option.none))) ∧
      OLoad 71 (.pointer (Option.some (Go.Addr.mk 0 (2 * b.i) Option.none))) (Option.some (Go.Obj.cells (Array.mk (cells l)) 71 (Prod.mk 0 1))) (.agg #[(.int .i64 x), (.int .i64 y)]) ∧
      OBin .mul 2 (.const (.int .i64 (-100))) (.tmp 12) (.int .i64 (-100)) (.int .i64 y) (.int .i64 (-100 * y)) ∧
      OBin .mul 2 (.const (.int .i64 (100))) (.tmp 15) (.int .i64 (100)) (.int .i64 y) (.int .i64 (100 * y)) ∧
      OCall (memo1) 97 [(.agg #[(.int .i64 x), (.int .i64 y)])] (Go.Vm.View.mk (k + 1) [(Prod.mk k (Go.Obj.cells #[(.int .i64 x), (.int .i64 y)] 71 (Prod.mk 0 1))), (Prod.mk 0 (Go.Obj.cells (Array.mk (cells l)) 71 (Prod.mk 0 1)))]) (.int .i64 (1000 * (x - y))) ∧
      OCall (memo1) 90 [(.int .i64 (-100 * y)), (.int .i64 (100 * y)), (.slice (Option.some (Go.Addr.mk (k + 1) 0 Option.none)) 1 1)] (Go.Vm.View.mk (k + 2) [(Prod.mk (k + 1) (Go.Obj.cells #[(.int .i64 (1000 * (x - y)))] 2 (Prod.mk 0 0))), (Prod.mk k (Go.Obj.cells #[(.int .i64 x), (.int .i64 y)] 71 (Prod.mk 0 0))), (Prod.mk 0 (Go.Obj.cells (Array.mk (cells l)) 71 (Prod.mk 0 1)))]) (.bool true) ∧
      OBin .add 3 (.tmp 7) (.const (.int .i64 (1))) (.int .i64 (↑b.i)) (.int .i64 (1)) (.int .i64 (↑(b.i + 1))) ∧
      RoundEnd (gInv l cap) b ([gOut l cap, gRet l cap]) Go.Vm.Ex.normal [(.slice (Option.some (Go.Addr.mk 0 0 Option.none)) (l.length) cap), (.tuple #[]), (.bool false), (.tuple #[]), (.pointer (Option.some (Go.Addr.mk k 0 Option.none))), (.slice (Option.some (Go.Addr.mk 0 0 Option.none)) (l.length) cap), (.int .i64 (↑l.length)), (.int .i64 (↑(b.i + 1))), (.bool true), (.pointer (Option.some (Go.Addr.mk 0 (2 * b.i) Option.none))), (.agg #[(.int .i64 x), (.int .i64 y)]), (.pointer (Option.some (Go.Addr.mk k 1 Option.none))), (.int .i64 y), (.int .i64 (-100 * y)), (.pointer (Option.some (Go.Addr.mk k 1 Option.none))), (.int .i64 y), (.int .i64 (100 * y)), (.agg #[(.int .i64 x), (.int .i64 y)]), (.int .i64 (1000 * (x - y))), (.slice (Option.some (Go.Addr.mk (k + 1) 0 Option.none)) 1 1), (.bool true), (.bool false), (.int .i64 (↑(b.i + 1)))] [] (Go.Vm.View.mk (k + 2) [(Prod.mk 0 (Go.Obj.cells (Array.mk (cells l)) 71 (Prod.mk 0 1)))])) := by simp only [KG, List.mem_cons, List.not_mem_nil, or_false] at hk; rcases hk with rfl | rfl | rfl | rfl | rfl | rfl | rfl | rfl | rfl | rfl | rfl | rfl | rfl | rfl | rfl | rfl | rfl | rfl | rfl | rfl | rfl <;> kernel_rfl
theorem f_run (l : List (Int × Int)) (cap : Nat) (r : Bool) : callWP memo1 [0] (.mk [] [] [fOut l cap, fRet l cap]) 1000 95 [slc l.length cap] (rowV (cells l) 71) (fun v => v = .bool r) = (
      LoopRP (memo1) [0] 996 Option.none (loopOf 95 0) [(.slice (Option.some (Go.Addr.mk 0 0 Option.none)) (l.length) cap), (.tuple #[]), (.bool false), (.tuple #[]), (.tuple #[]), (.slice (Option.some (Go.Addr.mk 0 0 Option.none)) (l.length) cap), (.int .i64 (↑l.length)), (.int .i64 (0)), (.tuple #[]), (.tuple #[]), (.tuple #[]), (.tuple #[]), (.tuple #[]), (.tuple #[]), (.tuple #[]), (.tuple #[]), (.tuple #[]), (.tuple #[]), (.tuple #[]), (.tuple #[]), (.tuple #[]), (.tuple #[]), (.tuple #[]), (.tuple #[])] [] (Go.Vm.View.mk 1 [(Prod.mk 0 (Go.Obj.cells (Array.mk (cells l)) 71 (Prod.mk 0 1)))]) ([fOut l cap, fRet l cap]) ∧
      (∀ z0 : (fOut l cap).α,
      ((fOut l cap).P z0 →
        ((Go.Value.bool true) = (Go.Value.bool r)))) ∧
      (∀ z0 : (fRet l cap).α,
      ((fRet l cap).P z0 →
        ((Go.Value.bool false) = (Go.Value.bool r)))) ∧
      True) := by kernel_rfl
theorem g_run (l : List (Int × Int)) (cap : Nat) (r : Bool) : callWP memo1 [0] (.mk [] [] [gOut l cap, gRet l cap]) 1000 96 [slc l.length cap] (rowV (cells l) 71) (fun v => v = .bool r) = (
      LoopRP (memo1) [0] 996 Option.none (loopOf 96 0) [(.slice (Option.some (Go.Addr.mk 0 0 Option.none)) (l.length) cap), (.tuple #[]), (.bool false), (.tuple #[]), (.tuple #[]), (.slice (Option.some (Go.Addr.mk 0 0 Option.none)) (l.length) cap), (.int .i64 (↑l.length)), (.int .i64 (0)), (.tuple #[]), (.tuple #[]), (.tuple #[]), (.tuple #[]), (.tuple #[]), (.tuple #[]), (.tuple #[]), (.tuple #[]), (.tuple #[]), (.tuple #[]), (.tuple #[]), (.tuple #[]), (.tuple #[]), (.tuple #[]), (.tuple #[])] [] (Go.Vm.View.mk 1 [(Prod.mk 0 (Go.Obj.cells (Array.mk (cells l)) 71 (Prod.mk 0 1)))]) ([gOut l cap, gRet l cap]) ∧
      (∀ z0 : (gOut l cap).α,
      ((gOut l cap).P z0 →
        ((Go.Value.bool true) = (Go.Value.bool r)))) ∧
      (∀ z0 : (gRet l cap).α,
      ((gRet l cap).P z0 →
        ((Go.Value.bool false) = (Go.Value.bool r)))) ∧
      True) := by kernel_rfl

theorem KF_mem : ∀ i, i < 21 → 1 + 3 * i ∈ KF := by decide
theorem KG_mem : ∀ i, i < 21 → 1 + 2 * i ∈ KG := by decide
theorem cells_cons (q : Int × Int) (l : List (Int × Int)) : cells (q :: l) = .int .i64 q.1 :: .int .i64 q.2 :: cells l := rfl
theorem cells_drop : ∀ {l : List (Int × Int)} {i : Nat} {p : Int × Int}, l[i]? = some p → ∃ r, (cells l).drop (2 * i) = .int .i64 p.1 :: .int .i64 p.2 :: r
  | [], i, p, h => by simp at h
  | q :: l, 0, p, h => by
    simp at h
    subst h
    exact ⟨cells l, rfl⟩
  | q :: l, i + 1, p, h => by
    simp at h
    obtain ⟨r, hr⟩ := cells_drop h
    refine ⟨r, ?_⟩
    rw [cells_cons, show 2 * (i + 1) = 2 * i + 1 + 1 by omega]
    exact hr
theorem cells_fst {l : List (Int × Int)} {i : Nat} {p : Int × Int} (h : l[i]? = some p) : (cells l)[2 * i]? = some (.int .i64 p.1) := by
  obtain ⟨r, hr⟩ := cells_drop h
  have : ((cells l).drop (2 * i))[0]? = some (.int .i64 p.1) := by rw [hr]; rfl
  simpa using this
theorem cells_snd {l : List (Int × Int)} {i : Nat} {p : Int × Int} (h : l[i]? = some p) : (cells l)[2 * i + 1]? = some (.int .i64 p.2) := by
  obtain ⟨r, hr⟩ := cells_drop h
  have : ((cells l).drop (2 * i))[1]? = some (.int .i64 p.2) := by rw [hr]; rfl
  simpa using this
theorem cells_flat (l : List (Int × Int)) : (cells l).all (flatN 3) = true := List.all_eq_true.2 fun v hv => by
  unfold cells at hv
  simp only [List.mem_flatten, List.mem_map] at hv
  obtain ⟨_, ⟨p, _, rfl⟩, h⟩ := hv
  simp at h
  rcases h with rfl | rfl <;> rfl
theorem ob_load2 {b off : Nat} {c r : List Value} {e : TypeId} {fz : Nat × Nat} {x y : Value} (h : c.drop off = x :: y :: r) : OLoad 71 (.pointer (some ⟨b, off, none⟩)) (some (.cells ⟨c⟩ e fz)) (.agg #[x, y]) := ⟨by
  have h1 : aggB TP 71 = some true := by kernel_rfl
  have h2 : (TP.info? 71).map (·.size) = some 2 := by kernel_rfl
  simp only [loadO, fLoadA, h1]
  cases hi : TP.info? 71 with
  | none => rw [hi] at h2; cases h2
  | some info =>
    rw [hi] at h2
    have hs : info.size = 2 := by simpa using h2
    simp only [hs, fLoadN]
    rw [h]
    rfl⟩
theorem su65 : TP.underlying 65 = some (.slice 71) := by kernel_rfl
theorem si71 : (TP.info? 71).map (·.size) = some 2 := by kernel_rfl
theorem m_within {V : View} {least most x : Int} {id : Nat} {t : TypeId} {fz : Nat × Nat} (hf : find V.objs id = some (.cells #[.int .i64 x] t fz)) : memo1 (.call 90 [.int .i64 least, .int .i64 most, .slice (some ⟨id, 0, none⟩) 1 1] V) = some (.value (.bool (allIn least most [x])) V) := by
  have e1 : blockArg [.int .i64 least, .int .i64 most, .slice (some ⟨id, 0, none⟩) 1 1] = some id := rfl
  have e2 : [Value.int .i64 least, .int .i64 most, .slice (some ⟨id, 0, none⟩) 1 1].all (okArgB id) = true := by
    simp [okArgB, flatN, flat]
    unfold big; omega
  have e3 : oracleR withinR (.call 90 [.int .i64 least, .int .i64 most, .slice (some ⟨id, 0, none⟩) 1 1] V) = some (.value (.bool (allIn least most [x])) V) := by
    simp only [oracleR, e1, e2, hf]
    rfl
  simp only [memo1, orF]
  have e4 : oracle smF (.call 90 [.int .i64 least, .int .i64 most, .slice (some ⟨id, 0, none⟩) 1 1] V) = none := rfl
  rw [e4]
  exact e3
theorem allIn1 {least most x : Int} : allIn least most [x] = decide (least ≤ x ∧ x ≤ most) := by unfold allIn; apply decide_eq_decide.2; simp
theorem call90 : callOk TP 90 = true := by kernel_rfl
theorem call97 : callOk TP 97 = true := by kernel_rfl
theorem oc_within {V : View} {least most x : Int} {id : Nat} {t : TypeId} {fz : Nat × Nat} {q : Bool} (hf : find V.objs id = some (.cells #[.int .i64 x] t fz)) (hq : decide (least ≤ x ∧ x ≤ most) = q) : OCall memo1 90 [.int .i64 least, .int .i64 most, .slice (some ⟨id, 0, none⟩) 1 1] V (.bool q) := ⟨call90, by rw [m_within hf, allIn1, hq]⟩
theorem m1_none {f : FuncId} {args : List Value} {V : View} (h1 : smF f args = none) (h2 : Nat.beq f 90 = false) : memo1 (.call f args V) = none := by
  simp only [memo1, orF, oracle, h1, oracleR, withinR, h2]
  repeat' split
  all_goals first | rfl | (rename_i h; cases h) | contradiction
theorem find_top {n : Nat} {o : Obj} {r : List (Nat × Obj)} : find ((n, o) :: r) n = some o := by simp [find]

theorem loop95 : loopOf 95 0 = .loop (bodyOfLoop (loopOf 95 0)) := by kernel_rfl
theorem loop96 : loopOf 96 0 = .loop (bodyOfLoop (loopOf 96 0)) := by kernel_rfl
theorem up_all {Q : Int × Int → Prop} {l : List (Int × Int)} {i : Nat} (h : upto Q l i) (hi : l.length ≤ i) : ∀ p, p ∈ l → Q p := fun p hp => by
  obtain ⟨m, hm⟩ := List.mem_iff_getElem?.1 hp
  exact h m p (by have := (List.getElem?_eq_some_iff.1 hm).1; omega) hm
theorem up_next {Q : Int × Int → Prop} {l : List (Int × Int)} {i : Nat} {p : Int × Int} (h : upto Q l i) (hx : l[i]? = some p) (hp : Q p) : upto Q l (i + 1) := fun m r hm hr => by
  by_cases e : m = i
  · subst e; rw [hx] at hr; cases hr; exact hp
  · exact h m r (by omega) hr
theorem fit_loop (l : List (Int × Int)) (cap : Nat) (hn : l.length ≤ 20) : ∀ (M : Nat) (b : CB), (fInv l cap).P b → (fInv l cap).μ b + 20 < M →
    LoopRP memo1 [0] M none (.loop (bodyOfLoop (loopOf 95 0))) (fTs l.length cap b) [] (canV l (1 + 3 * b.i)) [fOut l cap, fRet l cap] := by
  refine loop_ruleP memo1_code (fInv l cap) _ (N0 := 20) (by kernel_rfl) ?_
  intro M b ⟨hb1, hb2⟩
  have hk := KF_mem b.i (by omega)
  by_cases hi : b.i < l.length
  · obtain ⟨p, hx⟩ : ∃ p, l[b.i]? = some p := ⟨l[b.i], List.getElem?_eq_getElem hi⟩
    have hpm : p ∈ l := List.mem_of_getElem? hx
    obtain ⟨r, hr⟩ := cells_drop hx
    have o1 := ob_lss (t := 3) (x := .tmp 7) (y := .tmp 6) (k := .i64) (decide_eq_true (show (b.i : Int) < (l.length : Int) by omega))
    have o2 := ob_ix (cap := cap) (b := 0) (o := 0) (off := 2 * b.i) su65 si71 hi (by omega)
    have o3 := ob_load2 (b := 0) (e := 71) (fz := (0, 1)) hr
    by_cases h1 : 0 ≤ p.1 ∧ p.1 ≤ 100000
    · by_cases h2 : 1 ≤ p.2 ∧ p.2 ≤ 100000
      · refine ⟨_, (f_next p.1 p.2 l cap M (1 + 3 * b.i) b hk).mpr ⟨o1, o2, o3, oc_within find_top (decide_eq_true h1), oc_within find_top (decide_eq_true h2), ob_add64 (by omega) (by omega) (by omega), ?_⟩⟩
        exact .againL (fun ts => ⟨b.i + 1, lget ts⟩) ⟨hi, up_next hb2 hx ⟨h1, h2⟩⟩ (show l.length - (b.i + 1) < l.length - b.i by omega) rfl rfl (congrArg (fun n => View.mk n _) (show 1 + 3 * b.i + 3 = 1 + 3 * (b.i + 1) by omega))
      · refine ⟨_, (f_bad2 p.1 p.2 l cap M (1 + 3 * b.i) b hk).mpr ⟨o1, o2, o3, oc_within find_top (decide_eq_true h1), oc_within find_top (decide_eq_false h2), ?_⟩⟩
        exact .outV (by simp) (fRet l cap) (by simp) (fun ts V => ⟨⟨b.i, lget ts⟩, V⟩) ⟨p, hpm, fun h => h2 h.2⟩ rfl rfl rfl rfl
    · refine ⟨_, (f_bad1 p.1 p.2 l cap M (1 + 3 * b.i) b hk).mpr ⟨o1, o2, o3, oc_within find_top (decide_eq_false h1), ?_⟩⟩
      exact .outV (by simp) (fRet l cap) (by simp) (fun ts V => ⟨⟨b.i, lget ts⟩, V⟩) ⟨p, hpm, fun h => h1 h.1⟩ rfl rfl rfl rfl
  · refine ⟨_, (f_out 0 0 l cap M (1 + 3 * b.i) b hk).mpr ⟨ob_lss (decide_eq_false (by omega)), ?_⟩⟩
    exact .outL (by simp) (fOut l cap) (by simp) (fun ts => ⟨b.i, lget ts⟩) (up_all hb2 (by omega)) rfl rfl rfl rfl
theorem exc_bd {p : Int × Int} (h : fit p) : -100000000 ≤ 1000 * (p.1 - p.2) ∧ 1000 * (p.1 - p.2) ≤ 100000000 := by obtain ⟨⟨a, b⟩, c, d⟩ := h; omega
theorem oc_exc {V : View} {p : Int × Int} (h : fit p) : OCall memo1 97 [.agg #[.int .i64 p.1, .int .i64 p.2]] V (.int .i64 (1000 * (p.1 - p.2))) := ⟨call97, m1_call (exc_at (by obtain ⟨⟨a, b⟩, c, d⟩ := h; omega) (by obtain ⟨⟨a, b⟩, c, d⟩ := h; omega))⟩
theorem bear_loop (l : List (Int × Int)) (cap : Nat) (hn : l.length ≤ 20) (hf : ∀ p, p ∈ l → fit p) : ∀ (M : Nat) (b : CB), (gInv l cap).P b → (gInv l cap).μ b + 20 < M →
    LoopRP memo1 [0] M none (.loop (bodyOfLoop (loopOf 96 0))) (gTs l.length cap b) [] (canV l (1 + 2 * b.i)) [gOut l cap, gRet l cap] := by
  refine loop_ruleP memo1_code (gInv l cap) _ (N0 := 20) (by kernel_rfl) ?_
  intro M b ⟨hb1, hb2⟩
  have hk := KG_mem b.i (by omega)
  by_cases hi : b.i < l.length
  · obtain ⟨p, hx⟩ : ∃ p, l[b.i]? = some p := ⟨l[b.i], List.getElem?_eq_getElem hi⟩
    have hpm : p ∈ l := List.mem_of_getElem? hx
    have hfp := hf p hpm
    obtain ⟨⟨f1, f2⟩, f3, f4⟩ := hf p hpm
    obtain ⟨r, hr⟩ := cells_drop hx
    have o1 := ob_lss (t := 3) (x := .tmp 7) (y := .tmp 6) (k := .i64) (decide_eq_true (show (b.i : Int) < (l.length : Int) by omega))
    have o2 := ob_ix (cap := cap) (b := 0) (o := 0) (off := 2 * b.i) su65 si71 hi (by omega)
    have o3 := ob_load2 (b := 0) (e := 71) (fz := (0, 1)) hr
    have o4 := ob_mul64 (t := 2) (x := .const (.int .i64 (-100))) (y := .tmp 12) (a := -100) (b := p.2) (by omega) (by omega) rfl
    have o5 := ob_mul64 (t := 2) (x := .const (.int .i64 100)) (y := .tmp 15) (a := 100) (b := p.2) (by omega) (by omega) rfl
    by_cases h1 : -100 * p.2 ≤ 1000 * (p.1 - p.2) ∧ 1000 * (p.1 - p.2) ≤ 100 * p.2
    · refine ⟨_, (g_next p.1 p.2 l cap M (1 + 2 * b.i) b hk).mpr ⟨o1, o2, o3, o4, o5, oc_exc hfp, oc_within find_top (decide_eq_true h1), ob_add64 (by omega) (by omega) (by omega), ?_⟩⟩
      exact .againL (fun ts => ⟨b.i + 1, lget ts⟩) ⟨hi, up_next hb2 hx h1⟩ (show l.length - (b.i + 1) < l.length - b.i by omega) rfl rfl (congrArg (fun n => View.mk n _) (show 1 + 2 * b.i + 2 = 1 + 2 * (b.i + 1) by omega))
    · refine ⟨_, (g_bad p.1 p.2 l cap M (1 + 2 * b.i) b hk).mpr ⟨o1, o2, o3, o4, o5, oc_exc hfp, oc_within find_top (decide_eq_false h1), ?_⟩⟩
      exact .outV (by simp) (gRet l cap) (by simp) (fun ts V => ⟨⟨b.i, lget ts⟩, V⟩) ⟨p, hpm, h1⟩ rfl rfl rfl rfl
  · refine ⟨_, (g_out 0 0 l cap M (1 + 2 * b.i) b hk).mpr ⟨ob_lss (decide_eq_false (by omega)), ?_⟩⟩
    exact .outL (by simp) (gOut l cap) (by simp) (fun ts => ⟨b.i, lget ts⟩) (up_all hb2 (by omega)) rfl rfl rfl rfl
open Classical in
noncomputable def allQ (Q : Int × Int → Prop) (l : List (Int × Int)) : Bool := decide (∀ p, p ∈ l → Q p)
theorem allQ_true {Q : Int × Int → Prop} {l : List (Int × Int)} (h : ∀ p, p ∈ l → Q p) : allQ Q l = true := by unfold allQ; simp only [decide_eq_true_eq]; exact h
theorem allQ_false {Q : Int × Int → Prop} {l : List (Int × Int)} (h : ∃ p, p ∈ l ∧ ¬ Q p) : allQ Q l = false := by unfold allQ; simp only [decide_eq_false_iff_not]; exact fun h2 => by obtain ⟨p, hp, hn⟩ := h; exact hn (h2 p hp)
theorem cansFit_any (l : List (Int × Int)) (cap : Nat) (hcap : cap < big) (hn : l.length ≤ 20) (w : World) (b off : Nat) (hr : RowsAt w b off (cells l)) :
    Calls TP 95 #[.slice (some ⟨b, off + 0, none⟩) l.length cap] w fun e w' => e = .returned (.bool (allQ fit l)) ∧ RowKit.Below w.heap.size w w' := by
  have hc : callWP memo1 [0] (.mk [] [] [fOut l cap, fRet l cap]) 1000 95 [slc l.length cap] (rowV (cells l) 71) (fun v => v = .bool (allQ fit l)) := by
    rw [f_run]
    refine ⟨?_, fun z hz => ?_, fun z hz => ?_, trivial⟩
    · have := fit_loop l cap hn 996 ⟨0, fun _ => undef⟩ ⟨by simp, fun m p hm => by simp at hm⟩ (show l.length - 0 + 20 < 996 by omega)
      rw [loop95]
      exact this
    · rw [allQ_true hz]
    · rw [allQ_false hz]
  exact run_bool (call_rowsP memo1_ok memo1_code (cells_flat l) (m1_none rfl rfl) (by simp [slc, okArg, hcap]) (fun v h => by rw [h]; rfl) hc w b off hr)
theorem bearable_any (l : List (Int × Int)) (cap : Nat) (hcap : cap < big) (hn : l.length ≤ 20) (hf : ∀ p, p ∈ l → fit p) (w : World) (b off : Nat) (hr : RowsAt w b off (cells l)) :
    Calls TP 96 #[.slice (some ⟨b, off + 0, none⟩) l.length cap] w fun e w' => e = .returned (.bool (allQ bear l)) ∧ RowKit.Below w.heap.size w w' := by
  have hc : callWP memo1 [0] (.mk [] [] [gOut l cap, gRet l cap]) 1000 96 [slc l.length cap] (rowV (cells l) 71) (fun v => v = .bool (allQ bear l)) := by
    rw [g_run]
    refine ⟨?_, fun z hz => ?_, fun z hz => ?_, trivial⟩
    · have := bear_loop l cap hn hf 996 ⟨0, fun _ => undef⟩ ⟨by simp, fun m p hm => by simp at hm⟩ (show l.length - 0 + 20 < 996 by omega)
      rw [loop96]
      exact this
    · rw [allQ_true hz]
    · rw [allQ_false hz]
  exact run_bool (call_rowsP memo1_ok memo1_code (cells_flat l) (m1_none rfl rfl) (by simp [slc, okArg, hcap]) (fun v h => by rw [h]; rfl) hc w b off hr)
end Go.Vm
