/- Contracts of CheckYard, the program's and the document's. -/
import Derived.Test.YtpbcbjjofgnmlaaVjU4
set_option linter.unusedVariables false
namespace Go.Vm
set_option maxRecDepth 100000
set_option maxHeartbeats 4000000
noncomputable def fitAt (V : Int) (l : List Int) (i : Nat) : Bool := fitB V (l.getD (4 * i) 0) (l.getD (4 * i + 1) 0) (l.getD (4 * i + 2) 0) (l.getD (4 * i + 3) 0)
def c8Ts (V : Int) (n : Nat) (s : Value) (l : List Int) (b : JB) : List Value := [(.agg #[(.int .i64 V), s]), (.pointer (Option.some (Go.Addr.mk 1 0 Option.none))), (.int .i64 (0)), (.tuple #[]), b.j 4, (.pointer (Option.some (Go.Addr.mk 1 0 Option.none))), (.int .i64 V), (.slice (Option.some (Go.Addr.mk 2 0 Option.none)) 1 1), (.bool true), (.bool false), (.pointer (Option.some (Go.Addr.mk 1 1 Option.none))), s, (.int .i64 (↑n)), (.bool false), (.pointer (Option.some (Go.Addr.mk 1 1 Option.none))), s, (.int .i64 (↑n)), .int .i64 b.i, b.j 18, b.j 19, b.j 20, b.j 21, b.j 22, b.j 23, b.j 24, b.j 25, b.j 26]
def c8V (V : Int) (n : Nat) (s : Value) (l : List Int) (k : Nat) : View := ⟨k, [(Prod.mk 2 (Go.Obj.cells #[(.int .i64 V)] 2 (Prod.mk 0 0))), (Prod.mk 1 (Go.Obj.cells #[(.int .i64 V), s] 24 (Prod.mk 0 0))), (Prod.mk 0 (Go.Obj.cells (Array.mk (ints l)) 2 (Prod.mk 0 1)))]⟩
def c8Inv (V : Int) (n : Nat) (s : Value) (l : List Int) : LInv := ⟨JB, c8Ts V n s l, [], fun _ => c8V V n s l 3, fun b => b.i ≤ n ∧ upI (fun m => fitAt V l m = true) b.i, fun b => n - b.i⟩
def c8Out (V : Int) (n : Nat) (s : Value) (l : List Int) : LoopEnd := ⟨JB, fun _ => .exit 0, c8Ts V n s l, [], fun _ => c8V V n s l 1003, fun b => ∀ m, m < n → fitAt V l m = true⟩
def c8RTs (V : Int) (n : Nat) (s : Value) (l : List Int) (b : JB) : List Value := [(.agg #[(.int .i64 V), s]), (.pointer (Option.some (Go.Addr.mk 1 0 Option.none))), .int .i64 3, (.tuple #[]), b.j 4, (.pointer (Option.some (Go.Addr.mk 1 0 Option.none))), (.int .i64 V), (.slice (Option.some (Go.Addr.mk 2 0 Option.none)) 1 1), (.bool true), (.bool false), (.pointer (Option.some (Go.Addr.mk 1 1 Option.none))), s, (.int .i64 (↑n)), (.bool false), (.pointer (Option.some (Go.Addr.mk 1 1 Option.none))), s, (.int .i64 (↑n)), .int .i64 b.i, b.j 18, b.j 19, b.j 20, b.j 21, b.j 22, b.j 23, b.j 24, b.j 25, b.j 26]
def c8Ret (V : Int) (n : Nat) (s : Value) (l : List Int) : LoopEnd := ⟨JB × View, fun _ => .ret, fun b => c8RTs V n s l b.1, [], fun b => b.2, fun b => ∃ m, m < n ∧ fitAt V l m = false⟩
def c9Ts (V : Int) (n : Nat) (s : Value) (l : List Int) (b : JB) : List Value := [(.agg #[(.int .i64 V), s]), (.pointer (Option.some (Go.Addr.mk 1 0 Option.none))), (.int .i64 (0)), .int .i64 b.i, b.j 4, (.pointer (Option.some (Go.Addr.mk 1 0 Option.none))), (.int .i64 V), (.bool false), (.bool false), (.pointer (Option.some (Go.Addr.mk 1 0 Option.none))), (.int .i64 V), (.bool false), (.bool false), (.pointer (Option.some (Go.Addr.mk 1 1 Option.none))), s, (.int .i64 (↑n)), (.bool false), b.j 17, b.j 18, b.j 19, b.j 20, b.j 21, b.j 22, b.j 23, b.j 24, b.j 25, b.j 26, b.j 27, b.j 28, b.j 29, b.j 30, b.j 31, b.j 32, b.j 33, b.j 34, b.j 35, b.j 36, b.j 37, b.j 38, b.j 39, b.j 40, b.j 41, b.j 42, b.j 43, b.j 44, b.j 45, b.j 46, b.j 47, b.j 48, b.j 49, b.j 50, b.j 51, b.j 52, b.j 53, b.j 54, b.j 55, b.j 56, b.j 57, b.j 58, b.j 59, b.j 60, b.j 61, b.j 62, b.j 63, b.j 64, b.j 65, b.j 66, b.j 67, b.j 68]
def c9V (V : Int) (n : Nat) (s : Value) (l : List Int) (k : Nat) : View := ⟨k, [(Prod.mk 1 (Go.Obj.cells #[(.int .i64 V), s] 24 (Prod.mk 0 0))), (Prod.mk 0 (Go.Obj.cells (Array.mk (ints l)) 2 (Prod.mk 0 1)))]⟩
def c9Inv (V : Int) (n : Nat) (s : Value) (l : List Int) : LInv := ⟨JB, c9Ts V n s l, [], fun _ => c9V V n s l 2, fun b => b.i ≤ n ∧ upI (fun m => fitAt V l m = true) b.i, fun b => n - b.i⟩
def c9Out (V : Int) (n : Nat) (s : Value) (l : List Int) : LoopEnd := ⟨JB, fun _ => .exit 0, c9Ts V n s l, [], fun _ => c9V V n s l 1002, fun b => ∀ m, m < n → fitAt V l m = true⟩
def c9RTs (V : Int) (n : Nat) (s : Value) (l : List Int) (b : JB) : List Value := [(.agg #[(.int .i64 V), s]), (.pointer (Option.some (Go.Addr.mk 1 0 Option.none))), .int .i64 3, .int .i64 b.i, b.j 4, (.pointer (Option.some (Go.Addr.mk 1 0 Option.none))), (.int .i64 V), (.bool false), (.bool false), (.pointer (Option.some (Go.Addr.mk 1 0 Option.none))), (.int .i64 V), (.bool false), (.bool false), (.pointer (Option.some (Go.Addr.mk 1 1 Option.none))), s, (.int .i64 (↑n)), (.bool false), b.j 17, b.j 18, b.j 19, b.j 20, b.j 21, b.j 22, b.j 23, b.j 24, b.j 25, b.j 26, b.j 27, b.j 28, b.j 29, b.j 30, b.j 31, b.j 32, b.j 33, b.j 34, b.j 35, b.j 36, b.j 37, b.j 38, b.j 39, b.j 40, b.j 41, b.j 42, b.j 43, b.j 44, b.j 45, b.j 46, b.j 47, b.j 48, b.j 49, b.j 50, b.j 51, b.j 52, b.j 53, b.j 54, b.j 55, b.j 56, b.j 57, b.j 58, b.j 59, b.j 60, b.j 61, b.j 62, b.j 63, b.j 64, b.j 65, b.j 66, b.j 67, b.j 68]
def c9Ret (V : Int) (n : Nat) (s : Value) (l : List Int) : LoopEnd := ⟨JB × View, fun _ => .ret, fun b => c9RTs V n s l b.1, [], fun b => b.2, fun b => ∃ m, m < n ∧ fitAt V l m = false⟩
theorem c8_body (V : Int) (n : Nat) (s : Value) (l : List Int) (a b0 lo hi : Int) (M : Nat) (b : JB) : (codeT memoB [0, 1, 2] 1 (M + 60) (.mk [(19, .pointer (some ⟨0, 4 * b.i, none⟩)), (20, .agg #[.int .i64 a, .int .i64 b0, .int .i64 lo, .int .i64 hi]), (26, .int .i64 (↑(b.i + 1)))] [(18, ltZ b.i n), (24, fitB V a b0 lo hi)] [] [] []) none (bodyLp 8 0) (c8Ts V n s l b) [] (c8V V n s l 3) (roundK (c8Inv V n s l) [0, 1, 2] 3 1000 b [c8Out V n s l, c8Ret V n s l])) = (
      OBin .lss 3 (.tmp 17) (.tmp 16) (.int .i64 (↑b.i)) (.int .i64 (↑n)) (.bool (ltZ ↑b.i ↑n)) ∧
      (ltZ ↑b.i ↑n = true →
      OIx 22 s (.int .i64 (↑b.i)) (.pointer (Option.some (Go.Addr.mk 0 (4 * b.i) Option.none))) ∧
        OLoad 54 (.pointer (Option.some (Go.Addr.mk 0 (4 * b.i) Option.none))) (Option.some (Go.Obj.cells (Array.mk (ints l)) 2 (Prod.mk 0 1))) (.agg #[(.int .i64 a), (.int .i64 b0), (.int .i64 lo), (.int .i64 hi)]) ∧
        OCall (memoB) 29 [(.int .i64 V), (.agg #[(.int .i64 a), (.int .i64 b0), (.int .i64 lo), (.int .i64 hi)])] (View.mk 4 [(Prod.mk 3 (Go.Obj.cells #[(.int .i64 a), (.int .i64 b0), (.int .i64 lo), (.int .i64 hi)] 54 (Prod.mk 0 0))), (Prod.mk 2 (Go.Obj.cells #[(.int .i64 V)] 2 (Prod.mk 0 0))), (Prod.mk 1 (Go.Obj.cells #[(.int .i64 V), s] 24 (Prod.mk 0 0))), (Prod.mk 0 (Go.Obj.cells (Array.mk (ints l)) 2 (Prod.mk 0 1)))]) (.bool (fitB V a b0 lo hi)) ∧
        (fitB V a b0 lo hi = true →
        OBin .add 3 (.tmp 17) (.const (.int .i64 (1))) (.int .i64 (↑b.i)) (.int .i64 (1)) (.int .i64 (↑(b.i + 1))) ∧
          RoundEnd (c8Inv V n s l) b ([c8Out V n s l, c8Ret V n s l]) Ex.normal [(.agg #[(.int .i64 V), (scrubV 3 s)]), (.pointer (Option.some (Go.Addr.mk 1 0 Option.none))), (.int .i64 (0)), (.tuple #[]), (.iface 0 (.chan (Option.some 0))), (.pointer (Option.some (Go.Addr.mk 1 0 Option.none))), (.int .i64 V), (.slice (Option.some (Go.Addr.mk 2 0 Option.none)) 1 1), (.bool true), (.bool false), (.pointer (Option.some (Go.Addr.mk 1 1 Option.none))), (scrubV 3 s), (.int .i64 (↑n)), (.bool false), (.pointer (Option.some (Go.Addr.mk 1 1 Option.none))), (scrubV 3 s), (.int .i64 (↑n)), (.int .i64 (↑(b.i + 1))), (.bool true), (.pointer (Option.some (Go.Addr.mk 0 (4 * b.i) Option.none))), (.agg #[(.int .i64 a), (.int .i64 b0), (.int .i64 lo), (.int .i64 hi)]), (.pointer (Option.some (Go.Addr.mk 1 0 Option.none))), (.int .i64 V), (.agg #[(.int .i64 a), (.int .i64 b0), (.int .i64 lo), (.int .i64 hi)]), (.bool true), (.bool false), (.int .i64 (↑(b.i + 1)))] [] (View.mk 3 [(Prod.mk 2 (Go.Obj.cells #[(.int .i64 V)] 2 (Prod.mk 0 0))), (Prod.mk 1 (Go.Obj.cells #[(.int .i64 V), s] 24 (Prod.mk 0 0))), (Prod.mk 0 (Go.Obj.cells (Array.mk (ints l)) 2 (Prod.mk 0 1)))])) ∧
        (fitB V a b0 lo hi = false →
        RoundEnd (c8Inv V n s l) b ([c8Out V n s l, c8Ret V n s l]) Ex.ret [(.agg #[(.int .i64 V), s]), (.pointer (Option.some (Go.Addr.mk 1 0 Option.none))), (.int .i64 (3)), (.tuple #[]), (.pointer (Option.some (Go.Addr.mk 3 0 Option.none))), (.pointer (Option.some (Go.Addr.mk 1 0 Option.none))), (.int .i64 V), (.slice (Option.some (Go.Addr.mk 2 0 Option.none)) 1 1), (.bool true), (.bool false), (.pointer (Option.some (Go.Addr.mk 1 1 Option.none))), s, (.int .i64 (↑n)), (.bool false), (.pointer (Option.some (Go.Addr.mk 1 1 Option.none))), s, (.int .i64 (↑n)), (.int .i64 (↑b.i)), (.bool true), (.pointer (Option.some (Go.Addr.mk 0 (4 * b.i) Option.none))), (.agg #[(.int .i64 a), (.int .i64 b0), (.int .i64 lo), (.int .i64 hi)]), (.pointer (Option.some (Go.Addr.mk 1 0 Option.none))), (.int .i64 V), (.agg #[(.int .i64 a), (.int .i64 b0), (.int .i64 lo), (.int .i64 hi)]), (.bool false), (.bool true), (b.j 26)] [] (View.mk 1003 [(Prod.mk 3 (Go.Obj.cells #[(.int .i64 a), (.int .i64 b0), (.int .i64 lo), (.int .i64 hi)] 54 (Prod.mk 0 0))), (Prod.mk 2 (Go.Obj.cells #[(.int .i64 V)] 2 (Prod.mk 0 0))), (Prod.mk 1 (Go.Obj.cells #[(.int .i64 V), s] 24 (Prod.mk 0 0))), (Prod.mk 0 (Go.Obj.cells (Array.mk (ints l)) 2 (Prod.mk 0 1)))]))) ∧
      (ltZ ↑b.i ↑n = false →
      RoundEnd (c8Inv V n s l) b ([c8Out V n s l, c8Ret V n s l]) (Ex.exit 0) [(.agg #[(.int .i64 V), s]), (.pointer (Option.some (Go.Addr.mk 1 0 Option.none))), (.int .i64 (0)), (.tuple #[]), (b.j 4), (.pointer (Option.some (Go.Addr.mk 1 0 Option.none))), (.int .i64 V), (.slice (Option.some (Go.Addr.mk 2 0 Option.none)) 1 1), (.bool true), (.bool false), (.pointer (Option.some (Go.Addr.mk 1 1 Option.none))), s, (.int .i64 (↑n)), (.bool false), (.pointer (Option.some (Go.Addr.mk 1 1 Option.none))), s, (.int .i64 (↑n)), (.int .i64 (↑b.i)), (.bool false), (b.j 19), (b.j 20), (b.j 21), (b.j 22), (b.j 23), (b.j 24), (b.j 25), (b.j 26)] [] (View.mk 1003 [(Prod.mk 2 (Go.Obj.cells #[(.int .i64 V)] 2 (Prod.mk 0 0))), (Prod.mk 1 (Go.Obj.cells #[(.int .i64 V), s] 24 (Prod.mk 0 0))), (Prod.mk 0 (Go.Obj.cells (Array.mk (ints l)) 2 (Prod.mk 0 1)))]))) := by kernel_rfl
theorem c8_run (V r : Int) (n : Nat) (s : Value) (l : List Int) : (callT memoB [0, 1, 2] 1 (.mk [(12, .int .i64 n), (16, .int .i64 n)] [(8, wiB 1 20 [V]), (13, ltZ 40 n)] [] [] [c8Out V n s l, c8Ret V n s l]) 2000 8 [yaV V s] (roV [(ints l, 2)]) (fun v => v = .int .i64 r)) = (
      OCall (memoB) 28 [(.int .i64 (1)), (.int .i64 (20)), (.slice (Option.some (Go.Addr.mk 2 0 Option.none)) 1 1)] (View.mk 3 [(Prod.mk 2 (Go.Obj.cells #[(.int .i64 V)] 2 (Prod.mk 0 0))), (Prod.mk 1 (Go.Obj.cells #[(.int .i64 V), s] 24 (Prod.mk 0 0))), (Prod.mk 0 (Go.Obj.cells (Array.mk (ints l)) 2 (Prod.mk 0 1)))]) (.bool (wiB 1 20 [V])) ∧
      (wiB 1 20 [V] = true →
      OLen #[22] 3 [s] (.int .i64 (↑n)) ∧
        OBin .gtr 3 (.tmp 12) (.const (.int .i64 (40))) (.int .i64 (↑n)) (.int .i64 (40)) (.bool (ltZ 40 ↑n)) ∧
        (ltZ 40 ↑n = true →
        ((Go.Value.int Go.IntKind.i64 (6)) = (Go.Value.int Go.IntKind.i64 r))) ∧
        (ltZ 40 ↑n = false →
        OLen #[22] 3 [s] (.int .i64 (↑n)) ∧
          LoopRT (memoB) [0, 1, 2] 1 1994 Option.none (loopOf 8 0) [(.agg #[(.int .i64 V), s]), (.pointer (Option.some (Go.Addr.mk 1 0 Option.none))), (.int .i64 (0)), (.tuple #[]), (.tuple #[]), (.pointer (Option.some (Go.Addr.mk 1 0 Option.none))), (.int .i64 V), (.slice (Option.some (Go.Addr.mk 2 0 Option.none)) 1 1), (.bool true), (.bool false), (.pointer (Option.some (Go.Addr.mk 1 1 Option.none))), s, (.int .i64 (↑n)), (.bool false), (.pointer (Option.some (Go.Addr.mk 1 1 Option.none))), s, (.int .i64 (↑n)), (.int .i64 (0)), (.tuple #[]), (.tuple #[]), (.tuple #[]), (.tuple #[]), (.tuple #[]), (.tuple #[]), (.tuple #[]), (.tuple #[]), (.tuple #[])] [] (View.mk 3 [(Prod.mk 2 (Go.Obj.cells #[(.int .i64 V)] 2 (Prod.mk 0 0))), (Prod.mk 1 (Go.Obj.cells #[(.int .i64 V), s] 24 (Prod.mk 0 0))), (Prod.mk 0 (Go.Obj.cells (Array.mk (ints l)) 2 (Prod.mk 0 1)))]) ([c8Out V n s l, c8Ret V n s l]) ∧
          (∀ z0 : (c8Out V n s l).α,
          ((c8Out V n s l).P z0 →
            ((Go.Value.int Go.IntKind.i64 (0)) = (Go.Value.int Go.IntKind.i64 r)))) ∧
          (∀ z0 : (c8Ret V n s l).α,
          ((c8Ret V n s l).P z0 →
            ((Go.Value.int Go.IntKind.i64 (3)) = (Go.Value.int Go.IntKind.i64 r)))) ∧
          True)) ∧
      (wiB 1 20 [V] = false →
      ((Go.Value.int Go.IntKind.i64 (2)) = (Go.Value.int Go.IntKind.i64 r)))) := by kernel_rfl
theorem c9_body (V : Int) (n : Nat) (s : Value) (l : List Int) (a b0 lo hi : Int) (M : Nat) (b : JB) : (codeT memoB [0, 1] 1 (M + 60) (.mk [(20, .int .i64 n), (27, .pointer (some ⟨0, 4 * b.i, none⟩)), (28, .agg #[.int .i64 a, .int .i64 b0, .int .i64 lo, .int .i64 hi]), (23, .int .i64 (↑(b.i + 1)))] [(21, ltZ b.i n), (32, isVB V a), (38, isVB V b0), (46, eqZ a b0), (52, ltZ lo 0), (61, ltZ hi lo), (67, ltZ 100000 hi)] [] [] []) none (bodyLp 9 0) (c9Ts V n s l b) [] (c9V V n s l 2) (roundK (c9Inv V n s l) [0, 1] 2 1000 b [c9Out V n s l, c9Ret V n s l])) = (
      OLen #[22] 3 [s] (.int .i64 (↑n)) ∧
      OBin .lss 3 (.tmp 17) (.tmp 20) (.int .i64 (↑b.i)) (.int .i64 (↑n)) (.bool (ltZ ↑b.i ↑n)) ∧
      (ltZ ↑b.i ↑n = true →
      OIx 22 s (.int .i64 (↑b.i)) (.pointer (Option.some (Go.Addr.mk 0 (4 * b.i) Option.none))) ∧
        OLoad 54 (.pointer (Option.some (Go.Addr.mk 0 (4 * b.i) Option.none))) (Option.some (Go.Obj.cells (Array.mk (ints l)) 2 (Prod.mk 0 1))) (.agg #[(.int .i64 a), (.int .i64 b0), (.int .i64 lo), (.int .i64 hi)]) ∧
        OCall (memoB) 30 [(.agg #[(.int .i64 V), s]), (.int .i64 a)] (View.mk 3 [(Prod.mk 2 (Go.Obj.cells #[(.int .i64 a), (.int .i64 b0), (.int .i64 lo), (.int .i64 hi)] 54 (Prod.mk 0 0))), (Prod.mk 1 (Go.Obj.cells #[(.int .i64 V), s] 24 (Prod.mk 0 0))), (Prod.mk 0 (Go.Obj.cells (Array.mk (ints l)) 2 (Prod.mk 0 1)))]) (.bool (isVB V a)) ∧
        (isVB V a = true →
        OCall (memoB) 30 [(.agg #[(.int .i64 V), s]), (.int .i64 b0)] (View.mk 3 [(Prod.mk 2 (Go.Obj.cells #[(.int .i64 a), (.int .i64 b0), (.int .i64 lo), (.int .i64 hi)] 54 (Prod.mk 0 0))), (Prod.mk 1 (Go.Obj.cells #[(.int .i64 V), s] 24 (Prod.mk 0 0))), (Prod.mk 0 (Go.Obj.cells (Array.mk (ints l)) 2 (Prod.mk 0 1)))]) (.bool (isVB V b0)) ∧
          (isVB V b0 = true →
          OBin .eql 3 (.tmp 43) (.tmp 45) (.int .i64 a) (.int .i64 b0) (.bool (eqZ a b0)) ∧
            (eqZ a b0 = true →
            RoundEnd (c9Inv V n s l) b ([c9Out V n s l, c9Ret V n s l]) Ex.ret [(.agg #[(.int .i64 V), s]), (.pointer (Option.some (Go.Addr.mk 1 0 Option.none))), (.int .i64 (3)), (.int .i64 (↑b.i)), (.pointer (Option.some (Go.Addr.mk 2 0 Option.none))), (.pointer (Option.some (Go.Addr.mk 1 0 Option.none))), (.int .i64 V), (.bool false), (.bool false), (.pointer (Option.some (Go.Addr.mk 1 0 Option.none))), (.int .i64 V), (.bool false), (.bool false), (.pointer (Option.some (Go.Addr.mk 1 1 Option.none))), s, (.int .i64 (↑n)), (.bool false), (.int .i64 (↑b.i)), (.pointer (Option.some (Go.Addr.mk 1 1 Option.none))), s, (.int .i64 (↑n)), (.bool true), (b.j 22), (b.j 23), (.pointer (Option.some (Go.Addr.mk 1 1 Option.none))), s, (.int .i64 (↑b.i)), (.pointer (Option.some (Go.Addr.mk 0 (4 * b.i) Option.none))), (.agg #[(.int .i64 a), (.int .i64 b0), (.int .i64 lo), (.int .i64 hi)]), (.agg #[(.int .i64 V), s]), (.pointer (Option.some (Go.Addr.mk 2 0 Option.none))), (.int .i64 a), (.bool true), (.bool false), (.bool false), (.agg #[(.int .i64 V), s]), (.pointer (Option.some (Go.Addr.mk 2 1 Option.none))), (.int .i64 b0), (.bool true), (.bool false), (.bool false), (.bool false), (.pointer (Option.some (Go.Addr.mk 2 0 Option.none))), (.int .i64 a), (.pointer (Option.some (Go.Addr.mk 2 1 Option.none))), (.int .i64 b0), (.bool true), (.bool true), (.bool true), (.tuple #[]), (.tuple #[]), (.tuple #[]), (.tuple #[]), (.bool true), (.bool true), (.tuple #[]), (.tuple #[]), (.tuple #[]), (.tuple #[]), (.tuple #[]), (.tuple #[]), (.tuple #[]), (.bool true), (.bool true), (.tuple #[]), (.tuple #[]), (.tuple #[]), (.tuple #[]), (.bool true)] [] (View.mk 1002 [(Prod.mk 2 (Go.Obj.cells #[(.int .i64 a), (.int .i64 b0), (.int .i64 lo), (.int .i64 hi)] 54 (Prod.mk 0 0))), (Prod.mk 1 (Go.Obj.cells #[(.int .i64 V), s] 24 (Prod.mk 0 0))), (Prod.mk 0 (Go.Obj.cells (Array.mk (ints l)) 2 (Prod.mk 0 1)))])) ∧
            (eqZ a b0 = false →
            OBin .lss 2 (.tmp 51) (.const (.int .i64 (0))) (.int .i64 lo) (.int .i64 (0)) (.bool (ltZ lo 0)) ∧
              (ltZ lo 0 = true →
              RoundEnd (c9Inv V n s l) b ([c9Out V n s l, c9Ret V n s l]) Ex.ret [(.agg #[(.int .i64 V), s]), (.pointer (Option.some (Go.Addr.mk 1 0 Option.none))), (.int .i64 (3)), (.int .i64 (↑b.i)), (.pointer (Option.some (Go.Addr.mk 2 0 Option.none))), (.pointer (Option.some (Go.Addr.mk 1 0 Option.none))), (.int .i64 V), (.bool false), (.bool false), (.pointer (Option.some (Go.Addr.mk 1 0 Option.none))), (.int .i64 V), (.bool false), (.bool false), (.pointer (Option.some (Go.Addr.mk 1 1 Option.none))), s, (.int .i64 (↑n)), (.bool false), (.int .i64 (↑b.i)), (.pointer (Option.some (Go.Addr.mk 1 1 Option.none))), s, (.int .i64 (↑n)), (.bool true), (b.j 22), (b.j 23), (.pointer (Option.some (Go.Addr.mk 1 1 Option.none))), s, (.int .i64 (↑b.i)), (.pointer (Option.some (Go.Addr.mk 0 (4 * b.i) Option.none))), (.agg #[(.int .i64 a), (.int .i64 b0), (.int .i64 lo), (.int .i64 hi)]), (.agg #[(.int .i64 V), s]), (.pointer (Option.some (Go.Addr.mk 2 0 Option.none))), (.int .i64 a), (.bool true), (.bool false), (.bool false), (.agg #[(.int .i64 V), s]), (.pointer (Option.some (Go.Addr.mk 2 1 Option.none))), (.int .i64 b0), (.bool true), (.bool false), (.bool false), (.bool false), (.pointer (Option.some (Go.Addr.mk 2 0 Option.none))), (.int .i64 a), (.pointer (Option.some (Go.Addr.mk 2 1 Option.none))), (.int .i64 b0), (.bool false), (.bool false), (.bool false), (.pointer (Option.some (Go.Addr.mk 2 2 Option.none))), (.pointer (Option.some (Go.Addr.mk 2 2 Option.none))), (.int .i64 lo), (.bool true), (.bool true), (.bool true), (.tuple #[]), (.tuple #[]), (.tuple #[]), (.tuple #[]), (.tuple #[]), (.tuple #[]), (.tuple #[]), (.bool true), (.bool true), (.tuple #[]), (.tuple #[]), (.tuple #[]), (.tuple #[]), (.bool true)] [] (View.mk 1002 [(Prod.mk 2 (Go.Obj.cells #[(.int .i64 a), (.int .i64 b0), (.int .i64 lo), (.int .i64 hi)] 54 (Prod.mk 0 0))), (Prod.mk 1 (Go.Obj.cells #[(.int .i64 V), s] 24 (Prod.mk 0 0))), (Prod.mk 0 (Go.Obj.cells (Array.mk (ints l)) 2 (Prod.mk 0 1)))])) ∧
              (ltZ lo 0 = false →
              OBin .gtr 2 (.tmp 57) (.tmp 60) (.int .i64 lo) (.int .i64 hi) (.bool (ltZ hi lo)) ∧
                (ltZ hi lo = true →
                RoundEnd (c9Inv V n s l) b ([c9Out V n s l, c9Ret V n s l]) Ex.ret [(.agg #[(.int .i64 V), s]), (.pointer (Option.some (Go.Addr.mk 1 0 Option.none))), (.int .i64 (3)), (.int .i64 (↑b.i)), (.pointer (Option.some (Go.Addr.mk 2 0 Option.none))), (.pointer (Option.some (Go.Addr.mk 1 0 Option.none))), (.int .i64 V), (.bool false), (.bool false), (.pointer (Option.some (Go.Addr.mk 1 0 Option.none))), (.int .i64 V), (.bool false), (.bool false), (.pointer (Option.some (Go.Addr.mk 1 1 Option.none))), s, (.int .i64 (↑n)), (.bool false), (.int .i64 (↑b.i)), (.pointer (Option.some (Go.Addr.mk 1 1 Option.none))), s, (.int .i64 (↑n)), (.bool true), (b.j 22), (b.j 23), (.pointer (Option.some (Go.Addr.mk 1 1 Option.none))), s, (.int .i64 (↑b.i)), (.pointer (Option.some (Go.Addr.mk 0 (4 * b.i) Option.none))), (.agg #[(.int .i64 a), (.int .i64 b0), (.int .i64 lo), (.int .i64 hi)]), (.agg #[(.int .i64 V), s]), (.pointer (Option.some (Go.Addr.mk 2 0 Option.none))), (.int .i64 a), (.bool true), (.bool false), (.bool false), (.agg #[(.int .i64 V), s]), (.pointer (Option.some (Go.Addr.mk 2 1 Option.none))), (.int .i64 b0), (.bool true), (.bool false), (.bool false), (.bool false), (.pointer (Option.some (Go.Addr.mk 2 0 Option.none))), (.int .i64 a), (.pointer (Option.some (Go.Addr.mk 2 1 Option.none))), (.int .i64 b0), (.bool false), (.bool false), (.bool false), (.pointer (Option.some (Go.Addr.mk 2 2 Option.none))), (.pointer (Option.some (Go.Addr.mk 2 2 Option.none))), (.int .i64 lo), (.bool false), (.bool false), (.bool false), (.pointer (Option.some (Go.Addr.mk 2 2 Option.none))), (.pointer (Option.some (Go.Addr.mk 2 2 Option.none))), (.int .i64 lo), (.pointer (Option.some (Go.Addr.mk 2 2 Option.none))), (.pointer (Option.some (Go.Addr.mk 2 3 Option.none))), (.int .i64 hi), (.bool true), (.bool true), (.bool true), (.tuple #[]), (.tuple #[]), (.tuple #[]), (.tuple #[]), (.bool true)] [] (View.mk 1002 [(Prod.mk 2 (Go.Obj.cells #[(.int .i64 a), (.int .i64 b0), (.int .i64 lo), (.int .i64 hi)] 54 (Prod.mk 0 0))), (Prod.mk 1 (Go.Obj.cells #[(.int .i64 V), s] 24 (Prod.mk 0 0))), (Prod.mk 0 (Go.Obj.cells (Array.mk (ints l)) 2 (Prod.mk 0 1)))])) ∧
                (ltZ hi lo = false →
                OBin .gtr 2 (.tmp 66) (.const (.int .i64 (100000))) (.int .i64 hi) (.int .i64 (100000)) (.bool (ltZ 100000 hi)) ∧
                  (ltZ 100000 hi = true →
                  RoundEnd (c9Inv V n s l) b ([c9Out V n s l, c9Ret V n s l]) Ex.ret [(.agg #[(.int .i64 V), s]), (.pointer (Option.some (Go.Addr.mk 1 0 Option.none))), (.int .i64 (3)), (.int .i64 (↑b.i)), (.pointer (Option.some (Go.Addr.mk 2 0 Option.none))), (.pointer (Option.some (Go.Addr.mk 1 0 Option.none))), (.int .i64 V), (.bool false), (.bool false), (.pointer (Option.some (Go.Addr.mk 1 0 Option.none))), (.int .i64 V), (.bool false), (.bool false), (.pointer (Option.some (Go.Addr.mk 1 1 Option.none))), s, (.int .i64 (↑n)), (.bool false), (.int .i64 (↑b.i)), (.pointer (Option.some (Go.Addr.mk 1 1 Option.none))), s, (.int .i64 (↑n)), (.bool true), (b.j 22), (b.j 23), (.pointer (Option.some (Go.Addr.mk 1 1 Option.none))), s, (.int .i64 (↑b.i)), (.pointer (Option.some (Go.Addr.mk 0 (4 * b.i) Option.none))), (.agg #[(.int .i64 a), (.int .i64 b0), (.int .i64 lo), (.int .i64 hi)]), (.agg #[(.int .i64 V), s]), (.pointer (Option.some (Go.Addr.mk 2 0 Option.none))), (.int .i64 a), (.bool true), (.bool false), (.bool false), (.agg #[(.int .i64 V), s]), (.pointer (Option.some (Go.Addr.mk 2 1 Option.none))), (.int .i64 b0), (.bool true), (.bool false), (.bool false), (.bool false), (.pointer (Option.some (Go.Addr.mk 2 0 Option.none))), (.int .i64 a), (.pointer (Option.some (Go.Addr.mk 2 1 Option.none))), (.int .i64 b0), (.bool false), (.bool false), (.bool false), (.pointer (Option.some (Go.Addr.mk 2 2 Option.none))), (.pointer (Option.some (Go.Addr.mk 2 2 Option.none))), (.int .i64 lo), (.bool false), (.bool false), (.bool false), (.pointer (Option.some (Go.Addr.mk 2 2 Option.none))), (.pointer (Option.some (Go.Addr.mk 2 2 Option.none))), (.int .i64 lo), (.pointer (Option.some (Go.Addr.mk 2 2 Option.none))), (.pointer (Option.some (Go.Addr.mk 2 3 Option.none))), (.int .i64 hi), (.bool false), (.bool false), (.bool false), (.pointer (Option.some (Go.Addr.mk 2 2 Option.none))), (.pointer (Option.some (Go.Addr.mk 2 3 Option.none))), (.int .i64 hi), (.bool true), (.bool true)] [] (View.mk 1002 [(Prod.mk 2 (Go.Obj.cells #[(.int .i64 a), (.int .i64 b0), (.int .i64 lo), (.int .i64 hi)] 54 (Prod.mk 0 0))), (Prod.mk 1 (Go.Obj.cells #[(.int .i64 V), s] 24 (Prod.mk 0 0))), (Prod.mk 0 (Go.Obj.cells (Array.mk (ints l)) 2 (Prod.mk 0 1)))])) ∧
                  (ltZ 100000 hi = false →
                  OBin .add 3 (.tmp 22) (.const (.int .i64 (1))) (.int .i64 (↑b.i)) (.int .i64 (1)) (.int .i64 (↑(b.i + 1))) ∧
                    RoundEnd (c9Inv V n s l) b ([c9Out V n s l, c9Ret V n s l]) Ex.normal [(.agg #[(.int .i64 V), (scrubV 2 s)]), (.pointer (Option.some (Go.Addr.mk 1 0 Option.none))), (.int .i64 (0)), (.int .i64 (↑(b.i + 1))), (.iface 0 (.chan (Option.some 0))), (.pointer (Option.some (Go.Addr.mk 1 0 Option.none))), (.int .i64 V), (.bool false), (.bool false), (.pointer (Option.some (Go.Addr.mk 1 0 Option.none))), (.int .i64 V), (.bool false), (.bool false), (.pointer (Option.some (Go.Addr.mk 1 1 Option.none))), (scrubV 2 s), (.int .i64 (↑n)), (.bool false), (.int .i64 (↑b.i)), (.pointer (Option.some (Go.Addr.mk 1 1 Option.none))), (scrubV 2 s), (.int .i64 (↑n)), (.bool true), (.int .i64 (↑b.i)), (.int .i64 (↑(b.i + 1))), (.pointer (Option.some (Go.Addr.mk 1 1 Option.none))), (scrubV 2 s), (.int .i64 (↑b.i)), (.pointer (Option.some (Go.Addr.mk 0 (4 * b.i) Option.none))), (.agg #[(.int .i64 a), (.int .i64 b0), (.int .i64 lo), (.int .i64 hi)]), (.agg #[(.int .i64 V), (scrubV 2 s)]), (.iface 0 (.chan (Option.some 0))), (.int .i64 a), (.bool true), (.bool false), (.bool false), (.agg #[(.int .i64 V), (scrubV 2 s)]), (.iface 0 (.chan (Option.some 0))), (.int .i64 b0), (.bool true), (.bool false), (.bool false), (.bool false), (.iface 0 (.chan (Option.some 0))), (.int .i64 a), (.iface 0 (.chan (Option.some 0))), (.int .i64 b0), (.bool false), (.bool false), (.bool false), (.iface 0 (.chan (Option.some 0))), (.iface 0 (.chan (Option.some 0))), (.int .i64 lo), (.bool false), (.bool false), (.bool false), (.iface 0 (.chan (Option.some 0))), (.iface 0 (.chan (Option.some 0))), (.int .i64 lo), (.iface 0 (.chan (Option.some 0))), (.iface 0 (.chan (Option.some 0))), (.int .i64 hi), (.bool false), (.bool false), (.bool false), (.iface 0 (.chan (Option.some 0))), (.iface 0 (.chan (Option.some 0))), (.int .i64 hi), (.bool false), (.bool false)] [] (View.mk 2 [(Prod.mk 1 (Go.Obj.cells #[(.int .i64 V), s] 24 (Prod.mk 0 0))), (Prod.mk 0 (Go.Obj.cells (Array.mk (ints l)) 2 (Prod.mk 0 1)))])))))) ∧
          (isVB V b0 = false →
          RoundEnd (c9Inv V n s l) b ([c9Out V n s l, c9Ret V n s l]) Ex.ret [(.agg #[(.int .i64 V), s]), (.pointer (Option.some (Go.Addr.mk 1 0 Option.none))), (.int .i64 (3)), (.int .i64 (↑b.i)), (.pointer (Option.some (Go.Addr.mk 2 0 Option.none))), (.pointer (Option.some (Go.Addr.mk 1 0 Option.none))), (.int .i64 V), (.bool false), (.bool false), (.pointer (Option.some (Go.Addr.mk 1 0 Option.none))), (.int .i64 V), (.bool false), (.bool false), (.pointer (Option.some (Go.Addr.mk 1 1 Option.none))), s, (.int .i64 (↑n)), (.bool false), (.int .i64 (↑b.i)), (.pointer (Option.some (Go.Addr.mk 1 1 Option.none))), s, (.int .i64 (↑n)), (.bool true), (b.j 22), (b.j 23), (.pointer (Option.some (Go.Addr.mk 1 1 Option.none))), s, (.int .i64 (↑b.i)), (.pointer (Option.some (Go.Addr.mk 0 (4 * b.i) Option.none))), (.agg #[(.int .i64 a), (.int .i64 b0), (.int .i64 lo), (.int .i64 hi)]), (.agg #[(.int .i64 V), s]), (.pointer (Option.some (Go.Addr.mk 2 0 Option.none))), (.int .i64 a), (.bool true), (.bool false), (.bool false), (.agg #[(.int .i64 V), s]), (.pointer (Option.some (Go.Addr.mk 2 1 Option.none))), (.int .i64 b0), (.bool false), (.bool true), (.bool true), (.bool true), (.tuple #[]), (.tuple #[]), (.tuple #[]), (.tuple #[]), (.tuple #[]), (.bool true), (.bool true), (.tuple #[]), (.tuple #[]), (.tuple #[]), (.tuple #[]), (.bool true), (.bool true), (.tuple #[]), (.tuple #[]), (.tuple #[]), (.tuple #[]), (.tuple #[]), (.tuple #[]), (.tuple #[]), (.bool true), (.bool true), (.tuple #[]), (.tuple #[]), (.tuple #[]), (.tuple #[]), (.bool true)] [] (View.mk 1002 [(Prod.mk 2 (Go.Obj.cells #[(.int .i64 a), (.int .i64 b0), (.int .i64 lo), (.int .i64 hi)] 54 (Prod.mk 0 0))), (Prod.mk 1 (Go.Obj.cells #[(.int .i64 V), s] 24 (Prod.mk 0 0))), (Prod.mk 0 (Go.Obj.cells (Array.mk (ints l)) 2 (Prod.mk 0 1)))]))) ∧
        (isVB V a = false →
        RoundEnd (c9Inv V n s l) b ([c9Out V n s l, c9Ret V n s l]) Ex.ret [(.agg #[(.int .i64 V), s]), (.pointer (Option.some (Go.Addr.mk 1 0 Option.none))), (.int .i64 (3)), (.int .i64 (↑b.i)), (.pointer (Option.some (Go.Addr.mk 2 0 Option.none))), (.pointer (Option.some (Go.Addr.mk 1 0 Option.none))), (.int .i64 V), (.bool false), (.bool false), (.pointer (Option.some (Go.Addr.mk 1 0 Option.none))), (.int .i64 V), (.bool false), (.bool false), (.pointer (Option.some (Go.Addr.mk 1 1 Option.none))), s, (.int .i64 (↑n)), (.bool false), (.int .i64 (↑b.i)), (.pointer (Option.some (Go.Addr.mk 1 1 Option.none))), s, (.int .i64 (↑n)), (.bool true), (b.j 22), (b.j 23), (.pointer (Option.some (Go.Addr.mk 1 1 Option.none))), s, (.int .i64 (↑b.i)), (.pointer (Option.some (Go.Addr.mk 0 (4 * b.i) Option.none))), (.agg #[(.int .i64 a), (.int .i64 b0), (.int .i64 lo), (.int .i64 hi)]), (.agg #[(.int .i64 V), s]), (.pointer (Option.some (Go.Addr.mk 2 0 Option.none))), (.int .i64 a), (.bool false), (.bool true), (.bool true), (.tuple #[]), (.tuple #[]), (.tuple #[]), (.tuple #[]), (.tuple #[]), (.bool true), (.bool true), (.tuple #[]), (.tuple #[]), (.tuple #[]), (.tuple #[]), (.tuple #[]), (.bool true), (.bool true), (.tuple #[]), (.tuple #[]), (.tuple #[]), (.tuple #[]), (.bool true), (.bool true), (.tuple #[]), (.tuple #[]), (.tuple #[]), (.tuple #[]), (.tuple #[]), (.tuple #[]), (.tuple #[]), (.bool true), (.bool true), (.tuple #[]), (.tuple #[]), (.tuple #[]), (.tuple #[]), (.bool true)] [] (View.mk 1002 [(Prod.mk 2 (Go.Obj.cells #[(.int .i64 a), (.int .i64 b0), (.int .i64 lo), (.int .i64 hi)] 54 (Prod.mk 0 0))), (Prod.mk 1 (Go.Obj.cells #[(.int .i64 V), s] 24 (Prod.mk 0 0))), (Prod.mk 0 (Go.Obj.cells (Array.mk (ints l)) 2 (Prod.mk 0 1)))]))) ∧
      (ltZ ↑b.i ↑n = false →
      RoundEnd (c9Inv V n s l) b ([c9Out V n s l, c9Ret V n s l]) (Ex.exit 0) [(.agg #[(.int .i64 V), s]), (.pointer (Option.some (Go.Addr.mk 1 0 Option.none))), (.int .i64 (0)), (.int .i64 (↑b.i)), (b.j 4), (.pointer (Option.some (Go.Addr.mk 1 0 Option.none))), (.int .i64 V), (.bool false), (.bool false), (.pointer (Option.some (Go.Addr.mk 1 0 Option.none))), (.int .i64 V), (.bool false), (.bool false), (.pointer (Option.some (Go.Addr.mk 1 1 Option.none))), s, (.int .i64 (↑n)), (.bool false), (.int .i64 (↑b.i)), (.pointer (Option.some (Go.Addr.mk 1 1 Option.none))), s, (.int .i64 (↑n)), (.bool false), (b.j 22), (b.j 23), (b.j 24), (b.j 25), (b.j 26), (b.j 27), (b.j 28), (b.j 29), (b.j 30), (b.j 31), (b.j 32), (b.j 33), (b.j 34), (b.j 35), (b.j 36), (b.j 37), (b.j 38), (b.j 39), (b.j 40), (b.j 41), (b.j 42), (b.j 43), (b.j 44), (b.j 45), (b.j 46), (b.j 47), (b.j 48), (b.j 49), (b.j 50), (b.j 51), (b.j 52), (b.j 53), (b.j 54), (b.j 55), (b.j 56), (b.j 57), (b.j 58), (b.j 59), (b.j 60), (b.j 61), (b.j 62), (b.j 63), (b.j 64), (b.j 65), (b.j 66), (b.j 67), (b.j 68)] [] (View.mk 1002 [(Prod.mk 1 (Go.Obj.cells #[(.int .i64 V), s] 24 (Prod.mk 0 0))), (Prod.mk 0 (Go.Obj.cells (Array.mk (ints l)) 2 (Prod.mk 0 1)))]))) := by kernel_rfl
theorem c9_run (V r : Int) (n : Nat) (s : Value) (l : List Int) : (callT memoB [0, 1] 1 (.mk [(15, .int .i64 n)] [(7, ltZ V 1), (11, ltZ 20 V), (16, ltZ 40 n)] [] [] [c9Out V n s l, c9Ret V n s l]) 2000 9 [yaV V s] (roV [(ints l, 2)]) (fun v => v = .int .i64 r)) = (
      OBin .lss 3 (.tmp 6) (.const (.int .i64 (1))) (.int .i64 V) (.int .i64 (1)) (.bool (ltZ V 1)) ∧
      (ltZ V 1 = true →
      ((Go.Value.int Go.IntKind.i64 (2)) = (Go.Value.int Go.IntKind.i64 r))) ∧
      (ltZ V 1 = false →
      OBin .gtr 3 (.tmp 10) (.const (.int .i64 (20))) (.int .i64 V) (.int .i64 (20)) (.bool (ltZ 20 V)) ∧
        (ltZ 20 V = true →
        ((Go.Value.int Go.IntKind.i64 (2)) = (Go.Value.int Go.IntKind.i64 r))) ∧
        (ltZ 20 V = false →
        OLen #[22] 3 [s] (.int .i64 (↑n)) ∧
          OBin .gtr 3 (.tmp 15) (.const (.int .i64 (40))) (.int .i64 (↑n)) (.int .i64 (40)) (.bool (ltZ 40 ↑n)) ∧
          (ltZ 40 ↑n = true →
          ((Go.Value.int Go.IntKind.i64 (6)) = (Go.Value.int Go.IntKind.i64 r))) ∧
          (ltZ 40 ↑n = false →
          LoopRT (memoB) [0, 1] 1 1994 Option.none (loopOf 9 0) [(.agg #[(.int .i64 V), s]), (.pointer (Option.some (Go.Addr.mk 1 0 Option.none))), (.int .i64 (0)), (.int .i64 (0)), (.tuple #[]), (.pointer (Option.some (Go.Addr.mk 1 0 Option.none))), (.int .i64 V), (.bool false), (.bool false), (.pointer (Option.some (Go.Addr.mk 1 0 Option.none))), (.int .i64 V), (.bool false), (.bool false), (.pointer (Option.some (Go.Addr.mk 1 1 Option.none))), s, (.int .i64 (↑n)), (.bool false), (.tuple #[]), (.tuple #[]), (.tuple #[]), (.tuple #[]), (.tuple #[]), (.tuple #[]), (.tuple #[]), (.tuple #[]), (.tuple #[]), (.tuple #[]), (.tuple #[]), (.tuple #[]), (.tuple #[]), (.tuple #[]), (.tuple #[]), (.tuple #[]), (.tuple #[]), (.tuple #[]), (.tuple #[]), (.tuple #[]), (.tuple #[]), (.tuple #[]), (.tuple #[]), (.tuple #[]), (.tuple #[]), (.tuple #[]), (.tuple #[]), (.tuple #[]), (.tuple #[]), (.tuple #[]), (.tuple #[]), (.tuple #[]), (.tuple #[]), (.tuple #[]), (.tuple #[]), (.tuple #[]), (.tuple #[]), (.tuple #[]), (.tuple #[]), (.tuple #[]), (.tuple #[]), (.tuple #[]), (.tuple #[]), (.tuple #[]), (.tuple #[]), (.tuple #[]), (.tuple #[]), (.tuple #[]), (.tuple #[]), (.tuple #[]), (.tuple #[]), (.tuple #[])] [] (View.mk 2 [(Prod.mk 1 (Go.Obj.cells #[(.int .i64 V), s] 24 (Prod.mk 0 0))), (Prod.mk 0 (Go.Obj.cells (Array.mk (ints l)) 2 (Prod.mk 0 1)))]) ([c9Out V n s l, c9Ret V n s l]) ∧
            (∀ z0 : (c9Out V n s l).α,
            ((c9Out V n s l).P z0 →
              ((Go.Value.int Go.IntKind.i64 (0)) = (Go.Value.int Go.IntKind.i64 r)))) ∧
            (∀ z0 : (c9Ret V n s l).α,
            ((c9Ret V n s l).P z0 →
              ((Go.Value.int Go.IntKind.i64 (3)) = (Go.Value.int Go.IntKind.i64 r)))) ∧
            True)))) := by kernel_rfl

theorem RoundEnd.outV {I : LInv} {b : I.β} {l : List LoopEnd} {e : Ex} {ts : List Value} {df : List Nat} {V : View} (he : e ≠ .normal) (L : LoopEnd) (hL : L ∈ l) (mka : List Value → View → L.α) (h : L.P (mka ts V)) (h0 : e = L.ex (mka ts V)) (h1 : ts = L.ts (mka ts V)) (h2 : df = L.df) (h3 : V = L.V (mka ts V)) : RoundEnd I b l e ts df V := .out he L hL (mka ts V) h h0 h1 h2 h3
theorem clean_nil {n : Nat} : Clean n [] := fun b o h => by cases h
theorem clean_cons {n b : Nat} {o : Obj} {r : List (Nat × Obj)} (hb : b < n) (ho : CleanO n o) (hr : Clean n r) : Clean n ((b, o) :: r) := fun x p h => by
  simp only [find] at h
  split at h
  · rename_i hx
    have := Nat.eq_of_beq_eq_true hx
    subst this
    cases h
    exact ⟨hb, ho⟩
  · exact hr x p h
theorem clean_cells {n : Nat} {c : List Value} {e : TypeId} {fz : Nat × Nat} (h : ∀ v, v ∈ c → scrubV n v = v) : CleanO n (.cells ⟨c⟩ e fz) := fun i v hi => h v (List.mem_of_getElem? (by simpa using hi))
theorem scrub_int {n : Nat} {x : Int} : scrubV n (.int .i64 x) = .int .i64 x := by simp [scrubV]
theorem clean_ys {n : Nat} {V : Int} {s : Value} {e : TypeId} {fz : Nat × Nat} (h : scrubV n s = s) : CleanO n (.cells #[.int .i64 V, s] e fz) := clean_cells (c := [.int .i64 V, s]) fun v hv => by
  simp only [List.mem_cons, List.not_mem_nil, or_false] at hv
  rcases hv with rfl | rfl
  · exact scrub_int
  · exact h
theorem clean_two {n : Nat} {x y : Int} {e : TypeId} {fz : Nat × Nat} : CleanO n (.cells #[.int .i64 x, .int .i64 y] e fz) := clean_cells (c := [.int .i64 x, .int .i64 y]) fun v hv => by
  simp only [List.mem_cons, List.not_mem_nil, or_false] at hv
  rcases hv with rfl | rfl <;> exact scrub_int
theorem clean_int1 {n : Nat} {x : Int} {e : TypeId} {fz : Nat × Nat} : CleanO n (.cells #[.int .i64 x] e fz) := clean_cells (c := [.int .i64 x]) fun v hv => by
  simp only [List.mem_cons, List.not_mem_nil, or_false] at hv
  rw [hv]; exact scrub_int
theorem drop_getD {l : List Int} {i : Nat} (h : i < l.length) : (ints l).drop i = .int .i64 (l.getD i 0) :: (ints l).drop (i + 1) := by
  have h2 : i < (ints l).length := by simp [ints, h]
  rw [List.drop_eq_getElem_cons h2]
  have h3 := ints_get h
  rw [List.getElem?_eq_getElem h2] at h3
  rw [Option.some.inj h3]
theorem ag54 : aggB TP 54 = some true := by kernel_rfl
theorem ob_load4 {b i n : Nat} {l : List Int} {e : TypeId} {fz : Nat × Nat} (hl : l.length = 4 * n) (h : i < n) : OLoad 54 (.pointer (some ⟨b, 4 * i, none⟩)) (some (.cells ⟨ints l⟩ e fz)) (mvV (l.getD (4 * i) 0) (l.getD (4 * i + 1) 0) (l.getD (4 * i + 2) 0) (l.getD (4 * i + 3) 0)) := ⟨by
  have hd : (ints l).drop (4 * i) = .int .i64 (l.getD (4 * i) 0) :: .int .i64 (l.getD (4 * i + 1) 0) :: .int .i64 (l.getD (4 * i + 2) 0) :: .int .i64 (l.getD (4 * i + 3) 0) :: (ints l).drop (4 * i + 4) := by
    rw [drop_getD (by omega), drop_getD (by omega), drop_getD (by omega), drop_getD (by omega)]
  have h2 := si54
  simp only [loadO, fLoadA, ag54]
  cases hi : TP.info? 54 with
  | none => rw [hi] at h2; cases h2
  | some info =>
    rw [hi] at h2
    have hs : info.size = 4 := by simpa using h2
    simp only [hs, fLoadN]
    rw [hd]
    rfl⟩
theorem cok29 : callOk TP 29 = true := by kernel_rfl
theorem cok30 : callOk TP 30 = true := by kernel_rfl
theorem lp8 : loopOf 8 0 = .loop (bodyLp 8 0) := by kernel_rfl
theorem lp9 : loopOf 9 0 = .loop (bodyLp 9 0) := by kernel_rfl
theorem mB28 : tabF tB 28 = fam28 := rfl
theorem ob_not' {a c : Bool} (h : (!a) = c) : OUn .not (.bool a) (.bool c) := by subst h; exact ob_not
theorem wi1 {lo hi x : Int} : wiB lo hi [x] = true ↔ lo ≤ x ∧ x ≤ hi := by simp [wiB, allB]
theorem wi2 {lo hi x y : Int} : wiB lo hi [x, y] = true ↔ (lo ≤ x ∧ x ≤ hi) ∧ lo ≤ y ∧ y ≤ hi := by simp [wiB, allB]
theorem ix1 {c x : Int} : ixB c [x] = true ↔ 0 ≤ x ∧ x < c := by simp [ixB, allB]
theorem ix2 {c x y : Int} : ixB c [x, y] = true ↔ (0 ≤ x ∧ x < c) ∧ 0 ≤ y ∧ y < c := by simp [ixB, allB]
theorem lt_iff {a b : Int} : ltZ a b = true ↔ a < b := by simp [ltZ]
theorem le_iff {a b : Int} : leZ a b = true ↔ a ≤ b := by simp [leZ]
theorem eq_iff {a b : Int} : eqZ a b = true ↔ a = b := by simp [eqZ]
theorem ne_iff' {a b : Int} : neZ a b = true ↔ a ≠ b := by simp [neZ]
theorem is_iff {V x : Int} : isVB V x = true ↔ 0 ≤ x ∧ x < V := by simp [isVB, ltZ, leZ]
theorem fit_iff {V a b lo hi : Int} : fitB V a b lo hi = true ↔ (0 ≤ a ∧ a < V) ∧ (0 ≤ b ∧ b < V) ∧ a ≠ b ∧ 0 ≤ lo ∧ hi ≤ 100000 ∧ lo ≤ hi := by
  simp only [fitB, Bool.and_eq_true, ix2, wi2, ne_iff', le_iff]
  constructor
  · rintro ⟨h1, h2, h3, h4⟩; omega
  · rintro ⟨h1, h2, h3, h4, h5, h6⟩; omega
theorem bfalse {b : Bool} : b = false ↔ ¬ b = true := by cases b <;> simp
open Classical in
noncomputable def allFit (V : Int) (n : Nat) (l : List Int) : Bool := decide (∀ m, m < n → fitAt V l m = true)
theorem allFit_t {V : Int} {n : Nat} {l : List Int} (h : ∀ m, m < n → fitAt V l m = true) : allFit V n l = true := by unfold allFit; simpa using h
theorem allFit_f {V : Int} {n : Nat} {l : List Int} (h : ∃ m, m < n ∧ fitAt V l m = false) : allFit V n l = false := by
  obtain ⟨m, hm, h⟩ := h
  unfold allFit
  simp only [decide_eq_false_iff_not]
  exact fun h2 => by rw [h2 m hm] at h; cases h
noncomputable def yErr (V : Int) (n : Nat) (l : List Int) : Int := bif wiB 1 20 [V] then (bif ltZ 40 n then 6 else bif allFit V n l then 0 else 3) else 2
theorem flI' {l : List Int} : [(ints l, (2 : TypeId))].all (fun p => p.1.all (flatN 3)) = true := by simp only [List.all_cons, List.all_nil, ints_flat]; rfl
theorem c8_clean {V : Int} {n cap : Nat} {s : Value} {l : List Int} (hs : SLh 0 n cap s) : Clean 3 (c8V V n s l 3).objs := clean_cons (by omega) clean_int1 (clean_cons (by omega) (clean_ys (hs.scrub (by omega))) (clean_cons (by omega) clean_ro clean_nil))
theorem c9_clean {V : Int} {n cap : Nat} {s : Value} {l : List Int} (hs : SLh 0 n cap s) : Clean 2 (c9V V n s l 2).objs := clean_cons (by omega) (clean_ys (hs.scrub (by omega))) (clean_cons (by omega) clean_ro clean_nil)
theorem c8_loop (V : Int) (n cap : Nat) (s : Value) (l : List Int) (hs : SLh 0 n cap s) (hl : l.length = 4 * n) (hn : n ≤ 1000) : ∀ (M : Nat) (b : JB), (c8Inv V n s l).P b → (c8Inv V n s l).μ b + 60 < M →
    LoopRT memoB [0, 1, 2] 1 M none (.loop (bodyLp 8 0)) (c8Ts V n s l b) [] (c8V V n s l 3) [c8Out V n s l, c8Ret V n s l] := by
  refine loop_ruleT memoB_code (c8Inv V n s l) _ (N0 := 60) (n := 3) (w := 1000) (by kernel_rfl) (by kernel_rfl) (fun b _ => ⟨rfl, c8_clean hs⟩) ?_
  intro M b ⟨hb1, hb2⟩
  have hsc := hs.scrub (k := 3) (by omega)
  refine ⟨_, (c8_body V n s l (l.getD (4 * b.i) 0) (l.getD (4 * b.i + 1) 0) (l.getD (4 * b.i + 2) 0) (l.getD (4 * b.i + 3) 0) M b).mpr ⟨ob_lss rfl, fun h => ?_, fun h => ?_⟩⟩
  · have hlt : b.i < n := by have := ltZ_t h; omega
    refine ⟨ob_ixS hs su22 si54 hlt (by omega), ob_load4 hl hlt, oc_plain cok29 rfl rfl rfl (fam29_at _ _ _ _ _), fun h1 => ⟨ob_add64 (by omega) (by omega) (by omega), ?_⟩, fun h1 => ?_⟩
    · rw [hsc]
      exact .againL (fun ts => ⟨b.i + 1, lget ts⟩) ⟨hlt, upI_next hb2 h1⟩ (show n - (b.i + 1) < n - b.i by omega) rfl rfl rfl
    · exact .outV (by simp) (c8Ret V n s l) (by simp) (fun ts W => (⟨b.i, lget ts⟩, W)) ⟨b.i, hlt, h1⟩ rfl rfl rfl rfl
  · have hlt : ¬ b.i < n := by have := ltZ_f h; omega
    exact .outL (by simp) (c8Out V n s l) (by simp) (fun ts => ⟨b.i, lget ts⟩) (fun m hm => hb2 m (by omega)) rfl rfl rfl rfl
theorem c9_loop (V : Int) (n cap : Nat) (s : Value) (l : List Int) (hs : SLh 0 n cap s) (hl : l.length = 4 * n) (hn : n ≤ 1000) : ∀ (M : Nat) (b : JB), (c9Inv V n s l).P b → (c9Inv V n s l).μ b + 60 < M →
    LoopRT memoB [0, 1] 1 M none (.loop (bodyLp 9 0)) (c9Ts V n s l b) [] (c9V V n s l 2) [c9Out V n s l, c9Ret V n s l] := by
  refine loop_ruleT memoB_code (c9Inv V n s l) _ (N0 := 60) (n := 2) (w := 1000) (by kernel_rfl) (by kernel_rfl) (fun b _ => ⟨rfl, c9_clean hs⟩) ?_
  intro M b ⟨hb1, hb2⟩
  have hsc := hs.scrub (k := 2) (by omega)
  have is30 : ∀ (x : Int) (V' : View) (d0 : Nat), find V'.objs 0 = some (.cells ⟨ints l⟩ 2 (0, 1)) → firstId V'.objs = some d0 → OCall memoB 30 [yaV V s, .int .i64 x] V' (.bool (isVB V x)) := fun x V' d0 hf hd =>
    oc_yard cok30 hs hl hn hf hd rfl rfl fun s' hs' => fam30_at V x s' l ⟨n, cap, hs', hl, hn⟩
  have bad : ∀ {p : Prop}, (fitAt V l b.i = true → False) → fitAt V l b.i = false := fun {p} h => by cases hq : fitAt V l b.i with | false => rfl | true => exact (h hq).elim
  refine ⟨_, (c9_body V n s l (l.getD (4 * b.i) 0) (l.getD (4 * b.i + 1) 0) (l.getD (4 * b.i + 2) 0) (l.getD (4 * b.i + 3) 0) M b).mpr ⟨ob_len rfl su22 hs, ob_lss rfl, fun h => ?_, fun h => ?_⟩⟩
  · have hlt : b.i < n := by have := ltZ_t h; omega
    refine ⟨ob_ixS hs su22 si54 hlt (by omega), ob_load4 hl hlt, is30 _ _ _ rfl rfl, fun h1 => ⟨is30 _ _ _ rfl rfl, fun h2 => ⟨ob_eql rfl, fun h3 => ?_, fun h3 => ⟨ob_lss rfl, fun h4 => ?_, fun h4 => ⟨ob_gtr rfl, fun h5 => ?_, fun h5 => ⟨ob_gtr rfl, fun h6 => ?_, fun h6 => ⟨ob_add64 (by omega) (by omega) (by omega), ?_⟩⟩⟩⟩⟩, fun h2 => ?_⟩, fun h1 => ?_⟩
    case _ =>
      exact .outV (by simp) (c9Ret V n s l) (by simp) (fun ts W => (⟨b.i, lget ts⟩, W)) ⟨b.i, hlt, bad (p := True) fun hq => by have := fit_iff.1 hq; have := eqZ_t h3; omega⟩ rfl rfl rfl rfl
    case _ =>
      exact .outV (by simp) (c9Ret V n s l) (by simp) (fun ts W => (⟨b.i, lget ts⟩, W)) ⟨b.i, hlt, bad (p := True) fun hq => by have := fit_iff.1 hq; have := ltZ_t h4; omega⟩ rfl rfl rfl rfl
    case _ =>
      exact .outV (by simp) (c9Ret V n s l) (by simp) (fun ts W => (⟨b.i, lget ts⟩, W)) ⟨b.i, hlt, bad (p := True) fun hq => by have := fit_iff.1 hq; have := ltZ_t h5; omega⟩ rfl rfl rfl rfl
    case _ =>
      exact .outV (by simp) (c9Ret V n s l) (by simp) (fun ts W => (⟨b.i, lget ts⟩, W)) ⟨b.i, hlt, bad (p := True) fun hq => by have := fit_iff.1 hq; have := ltZ_t h6; omega⟩ rfl rfl rfl rfl
    case _ =>
      rw [hsc]
      refine .againL (fun ts => ⟨b.i + 1, lget ts⟩) ⟨hlt, upI_next hb2 (fit_iff.2 ?_)⟩ (show n - (b.i + 1) < n - b.i by omega) rfl rfl rfl
      have := is_iff.1 h1; have := is_iff.1 h2; have := eqZ_f h3; have := ltZ_f h4; have := ltZ_f h5; have := ltZ_f h6
      omega
    case _ =>
      exact .outV (by simp) (c9Ret V n s l) (by simp) (fun ts W => (⟨b.i, lget ts⟩, W)) ⟨b.i, hlt, bad (p := True) fun hq => by have := fit_iff.1 hq; rw [is_iff.2 (by omega)] at h2; cases h2⟩ rfl rfl rfl rfl
    case _ =>
      exact .outV (by simp) (c9Ret V n s l) (by simp) (fun ts W => (⟨b.i, lget ts⟩, W)) ⟨b.i, hlt, bad (p := True) fun hq => by have := fit_iff.1 hq; rw [is_iff.2 (by omega)] at h1; cases h1⟩ rfl rfl rfl rfl
  · have hlt : ¬ b.i < n := by have := ltZ_f h; omega
    exact .outL (by simp) (c9Out V n s l) (by simp) (fun ts => ⟨b.i, lget ts⟩) (fun m hm => hb2 m (by omega)) rfl rfl rfl rfl
theorem yard8 (V : Int) (n cap : Nat) (s : Value) (l : List Int) (hs : SLh 0 n cap s) (hl : l.length = 4 * n) (hn : n ≤ 1000) (w : World) (bs offs : Nat → Nat) (hr : RowsAt w (bs 0) (offs 0) (ints l)) :
    Calls TP 8 ([yaV V s].map (shiftS bs offs)).toArray w fun e w' => e = .returned (.int .i64 (yErr V n l)) ∧ RowKit.Below w.heap.size w w' := by
  refine run_one (call_viewsT (cs := [(ints l, 2)]) memoB_ok memoB_code flI' (tab_none fun _ _ => rfl) (by simp only [List.all_cons, List.all_nil, List.length_cons, List.length_nil, YS.okS (l := l) ⟨n, cap, hs, hl, hn⟩]; rfl) (fun v h => by rw [h]; rfl) ((c8_run V (yErr V n l) n s l).mpr ⟨oc28 mB28 rfl (l := [V]) rfl rfl (by omega), fun h1 => ⟨ob_len rfl su22 hs, ob_gtr rfl, fun h2 => ?_, fun h2 => ⟨ob_len rfl su22 hs, ?_, fun z hz => ?_, fun z hz => ?_, trivial⟩⟩, fun h1 => ?_⟩) w bs offs (all_at hr))
  · simp [yErr, h1, h2]
  · rw [lp8]
    exact c8_loop V n cap s l hs hl hn 1994 ⟨0, fun _ => undef⟩ ⟨by simp, upI_zero⟩ (show n - 0 + 60 < 1994 by omega)
  · simp [yErr, h1, h2, allFit_t hz]
  · simp [yErr, h1, h2, allFit_f hz]
  · simp [yErr, h1]
theorem yard9 (V : Int) (n cap : Nat) (s : Value) (l : List Int) (hs : SLh 0 n cap s) (hl : l.length = 4 * n) (hn : n ≤ 1000) (w : World) (bs offs : Nat → Nat) (hr : RowsAt w (bs 0) (offs 0) (ints l)) :
    Calls TP 9 ([yaV V s].map (shiftS bs offs)).toArray w fun e w' => e = .returned (.int .i64 (yErr V n l)) ∧ RowKit.Below w.heap.size w w' := by
  refine run_one (call_viewsT (cs := [(ints l, 2)]) memoB_ok memoB_code flI' (tab_none fun _ _ => rfl) (by simp only [List.all_cons, List.all_nil, List.length_cons, List.length_nil, YS.okS (l := l) ⟨n, cap, hs, hl, hn⟩]; rfl) (fun v h => by rw [h]; rfl) ((c9_run V (yErr V n l) n s l).mpr ⟨ob_lss rfl, fun h1 => ?_, fun h1 => ⟨ob_gtr rfl, fun h2 => ?_, fun h2 => ⟨ob_len rfl su22 hs, ob_gtr rfl, fun h3 => ?_, fun h3 => ⟨?_, fun z hz => ?_, fun z hz => ?_, trivial⟩⟩⟩⟩) w bs offs (all_at hr))
  · have : wiB 1 20 [V] = false := bfalse.2 fun h => by have := wi1.1 h; have := ltZ_t h1; omega
    simp [yErr, this]
  · have : wiB 1 20 [V] = false := bfalse.2 fun h => by have := wi1.1 h; have := ltZ_t h2; omega
    simp [yErr, this]
  · have : wiB 1 20 [V] = true := wi1.2 (by have := ltZ_f h1; have := ltZ_f h2; omega)
    simp [yErr, this, h3]
  · rw [lp9]
    exact c9_loop V n cap s l hs hl hn 1994 ⟨0, fun _ => undef⟩ ⟨by simp, upI_zero⟩ (show n - 0 + 60 < 1994 by omega)
  · have : wiB 1 20 [V] = true := wi1.2 (by have := ltZ_f h1; have := ltZ_f h2; omega)
    simp [yErr, this, h3, allFit_t hz]
  · have : wiB 1 20 [V] = true := wi1.2 (by have := ltZ_f h1; have := ltZ_f h2; omega)
    simp [yErr, this, h3, allFit_f hz]
end Go.Vm
