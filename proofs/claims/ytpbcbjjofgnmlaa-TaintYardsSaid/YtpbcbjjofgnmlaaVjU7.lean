/- Contracts of taint's isTrail. -/
import Derived.Test.YtpbcbjjofgnmlaaVjU6
set_option linter.unusedVariables false
namespace Go.Vm
set_option maxRecDepth 100000
set_option maxHeartbeats 4000000

structure JP where
  i : Nat
  p : Int
  q : Int
  j : Nat → Value
/-- where, and since when, taint is behind some moves -/
def trF (up : Int → Int → Int → Int) (l : List Int) : List Int → Int → Int → Option (Int × Int)
  | [], v, t => some (v, t)
  | x :: r, v, t => bif eqZ (l.getD (4 * x.toNat) 0) v then trF up l r (l.getD (4 * x.toNat + 1) 0) (up (l.getD (4 * x.toNat + 2) 0) (l.getD (4 * x.toNat + 3) 0) t) else none
def i33Ts (V v t x : Int) (s tr : Value) (l tl : List Int) (b : JP) : List Value := [(.agg #[(.int .i64 V), s]), (.agg #[(.int .i64 v), (.int .i64 t)]), (.int .i64 x), tr, (.func (Go.Fn.func 33) #[] #[]), (.pointer (Option.some (Go.Addr.mk 2 0 Option.none))), (.pointer (Option.some (Go.Addr.mk 3 0 Option.none))), (.tuple #[]), (.tuple #[]), (.tuple #[]), (.bool false), (.tuple #[]), b.j 12, b.j 13, tr, (.int .i64 (↑tl.length)), .int .i64 b.i, b.j 17, b.j 18, b.j 19, b.j 20, b.j 21, b.j 22, b.j 23, b.j 24, b.j 25, b.j 26, b.j 27, b.j 28, b.j 29, b.j 30, b.j 31, b.j 32, b.j 33, b.j 34, b.j 35, b.j 36, b.j 37, b.j 38, (.tuple #[]), (.tuple #[]), (.tuple #[]), (.tuple #[]), (.tuple #[]), (.tuple #[]), (.tuple #[]), (.tuple #[]), (.tuple #[])]
def i33V (V v t x : Int) (s tr : Value) (l tl : List Int) (b : JP) (k : Nat) : View := ⟨k, [(Prod.mk 3 (Go.Obj.cells #[(.int .i64 b.p), (.int .i64 b.q)] 26 (Prod.mk 0 0))), (Prod.mk 2 (Go.Obj.cells #[(.int .i64 V), s] 24 (Prod.mk 0 0))), (Prod.mk 1 (Go.Obj.cells (Array.mk (ints tl)) 2 (Prod.mk 0 1))), (Prod.mk 0 (Go.Obj.cells (Array.mk (ints l)) 2 (Prod.mk 0 1)))]⟩
noncomputable def i33Inv (V v t x : Int) (s tr : Value) (l tl : List Int) : LInv := ⟨JP, i33Ts V v t x s tr l tl, [], fun b => i33V V v t x s tr l tl b 4, fun b => b.i ≤ tl.length ∧ trF eaZ l tl v t = trF eaZ l (tl.drop b.i) b.p b.q, fun b => tl.length - b.i⟩
noncomputable def i33Out (V v t x : Int) (s tr : Value) (l tl : List Int) : LoopEnd := ⟨JP, fun _ => .exit 0, i33Ts V v t x s tr l tl, [], fun b => i33V V v t x s tr l tl b 1004, fun b => trF eaZ l tl v t = some (b.p, b.q)⟩
def i33RTs (V v t x : Int) (s tr : Value) (l tl : List Int) (b : JP) : List Value := [(.agg #[(.int .i64 V), s]), (.agg #[(.int .i64 v), (.int .i64 t)]), (.int .i64 x), tr, (.func (Go.Fn.func 33) #[] #[]), (.pointer (Option.some (Go.Addr.mk 2 0 Option.none))), (.pointer (Option.some (Go.Addr.mk 3 0 Option.none))), (.tuple #[]), (.tuple #[]), (.tuple #[]), .bool false, (.tuple #[]), b.j 12, b.j 13, tr, (.int .i64 (↑tl.length)), .int .i64 b.i, b.j 17, b.j 18, b.j 19, b.j 20, b.j 21, b.j 22, b.j 23, b.j 24, b.j 25, b.j 26, b.j 27, b.j 28, b.j 29, b.j 30, b.j 31, b.j 32, b.j 33, b.j 34, b.j 35, b.j 36, b.j 37, b.j 38, (.tuple #[]), (.tuple #[]), (.tuple #[]), (.tuple #[]), (.tuple #[]), (.tuple #[]), (.tuple #[]), (.tuple #[]), (.tuple #[])]
noncomputable def i33Ret (V v t x : Int) (s tr : Value) (l tl : List Int) : LoopEnd := ⟨JP × View, fun _ => .ret, fun b => i33RTs V v t x s tr l tl b.1, [], fun b => b.2, fun b => trF eaZ l tl v t = none⟩
def i34Ts (V v t x : Int) (s tr : Value) (l tl : List Int) (b : JP) : List Value := [(.agg #[(.int .i64 V), s]), (.agg #[(.int .i64 v), (.int .i64 t)]), (.int .i64 x), tr, (.func (Go.Fn.func 34) #[] #[]), (.pointer (Option.some (Go.Addr.mk 2 0 Option.none))), (.pointer (Option.some (Go.Addr.mk 3 0 Option.none))), (.tuple #[]), (.tuple #[]), (.tuple #[]), (.bool false), (.tuple #[]), b.j 12, b.j 13, tr, (.int .i64 (↑tl.length)), .int .i64 b.i, b.j 17, b.j 18, b.j 19, b.j 20, b.j 21, b.j 22, b.j 23, b.j 24, b.j 25, b.j 26, b.j 27, b.j 28, b.j 29, b.j 30, b.j 31, b.j 32, b.j 33, b.j 34, b.j 35, b.j 36, b.j 37, b.j 38, (.tuple #[]), (.tuple #[]), (.tuple #[]), (.tuple #[]), (.tuple #[]), (.tuple #[]), (.tuple #[]), (.tuple #[]), (.tuple #[])]
def i34V (V v t x : Int) (s tr : Value) (l tl : List Int) (b : JP) (k : Nat) : View := ⟨k, [(Prod.mk 3 (Go.Obj.cells #[(.int .i64 b.p), (.int .i64 b.q)] 26 (Prod.mk 0 0))), (Prod.mk 2 (Go.Obj.cells #[(.int .i64 V), s] 24 (Prod.mk 0 0))), (Prod.mk 1 (Go.Obj.cells (Array.mk (ints tl)) 2 (Prod.mk 0 1))), (Prod.mk 0 (Go.Obj.cells (Array.mk (ints l)) 2 (Prod.mk 0 1)))]⟩
noncomputable def i34Inv (V v t x : Int) (s tr : Value) (l tl : List Int) : LInv := ⟨JP, i34Ts V v t x s tr l tl, [], fun b => i34V V v t x s tr l tl b 4, fun b => b.i ≤ tl.length ∧ trF suZ l tl v t = trF suZ l (tl.drop b.i) b.p b.q, fun b => tl.length - b.i⟩
noncomputable def i34Out (V v t x : Int) (s tr : Value) (l tl : List Int) : LoopEnd := ⟨JP, fun _ => .exit 0, i34Ts V v t x s tr l tl, [], fun b => i34V V v t x s tr l tl b 1004, fun b => trF suZ l tl v t = some (b.p, b.q)⟩
def i34RTs (V v t x : Int) (s tr : Value) (l tl : List Int) (b : JP) : List Value := [(.agg #[(.int .i64 V), s]), (.agg #[(.int .i64 v), (.int .i64 t)]), (.int .i64 x), tr, (.func (Go.Fn.func 34) #[] #[]), (.pointer (Option.some (Go.Addr.mk 2 0 Option.none))), (.pointer (Option.some (Go.Addr.mk 3 0 Option.none))), (.tuple #[]), (.tuple #[]), (.tuple #[]), .bool false, (.tuple #[]), b.j 12, b.j 13, tr, (.int .i64 (↑tl.length)), .int .i64 b.i, b.j 17, b.j 18, b.j 19, b.j 20, b.j 21, b.j 22, b.j 23, b.j 24, b.j 25, b.j 26, b.j 27, b.j 28, b.j 29, b.j 30, b.j 31, b.j 32, b.j 33, b.j 34, b.j 35, b.j 36, b.j 37, b.j 38, (.tuple #[]), (.tuple #[]), (.tuple #[]), (.tuple #[]), (.tuple #[]), (.tuple #[]), (.tuple #[]), (.tuple #[]), (.tuple #[])]
noncomputable def i34Ret (V v t x : Int) (s tr : Value) (l tl : List Int) : LoopEnd := ⟨JP × View, fun _ => .ret, fun b => i34RTs V v t x s tr l tl b.1, [], fun b => b.2, fun b => trF suZ l tl v t = none⟩
theorem i33_body (V v t x : Int) (s tr : Value) (l tl : List Int) (m : Nat) (a b0 lo hi : Int) (M : Nat) (b : JP) : (codeT memoE [0, 1, 2, 3] 1 (M + 60) (.mk [(18, .pointer (some ⟨1, b.i, none⟩)), (19, .int .i64 (m : Int)), (23, .pointer (some ⟨0, 4 * m, none⟩)), (24, .agg #[.int .i64 a, .int .i64 b0, .int .i64 lo, .int .i64 hi]), (36, .int .i64 (eaZ lo hi b.q)), (38, .int .i64 (↑(b.i + 1)))] [(17, ltZ b.i tl.length), (29, neZ a b.p)] [] [] []) none (bodyLp 35 0) (i33Ts V v t x s tr l tl b) [] (i33V V v t x s tr l tl b 4) (roundK (i33Inv V v t x s tr l tl) [0, 1, 2, 3] 4 1000 b [i33Out V v t x s tr l tl, i33Ret V v t x s tr l tl])) = (
      OBin .lss 3 (.tmp 16) (.tmp 15) (.int .i64 (↑b.i)) (.int .i64 (↑tl.length)) (.bool (ltZ ↑b.i ↑tl.length)) ∧
      (ltZ ↑b.i ↑tl.length = true →
      OIx 27 tr (.int .i64 (↑b.i)) (.pointer (Option.some (Go.Addr.mk 1 (b.i) Option.none))) ∧
        OLoad 3 (.pointer (Option.some (Go.Addr.mk 1 (b.i) Option.none))) (Option.some (Go.Obj.cells (Array.mk (ints tl)) 2 (Prod.mk 0 1))) (.int .i64 (↑m)) ∧
        OIx 22 s (.int .i64 (↑m)) (.pointer (Option.some (Go.Addr.mk 0 (4 * m) Option.none))) ∧
        OLoad 54 (.pointer (Option.some (Go.Addr.mk 0 (4 * m) Option.none))) (Option.some (Go.Obj.cells (Array.mk (ints l)) 2 (Prod.mk 0 1))) (.agg #[(.int .i64 a), (.int .i64 b0), (.int .i64 lo), (.int .i64 hi)]) ∧
        OBin .neq 3 (.tmp 26) (.tmp 28) (.int .i64 a) (.int .i64 (b.p)) (.bool (neZ a b.p)) ∧
        (neZ a b.p = true →
        RoundEnd (i33Inv V v t x s tr l tl) b ([i33Out V v t x s tr l tl, i33Ret V v t x s tr l tl]) Ex.ret [(.agg #[(.int .i64 V), s]), (.agg #[(.int .i64 v), (.int .i64 t)]), (.int .i64 x), tr, (.func (Go.Fn.func 33) #[] #[]), (.pointer (Option.some (Go.Addr.mk 2 0 Option.none))), (.pointer (Option.some (Go.Addr.mk 3 0 Option.none))), (.tuple #[]), (.tuple #[]), (.tuple #[]), (.bool false), (.tuple #[]), (.int .i64 (↑m)), (.pointer (Option.some (Go.Addr.mk 4 0 Option.none))), tr, (.int .i64 (↑tl.length)), (.int .i64 (↑b.i)), (.bool true), (.pointer (Option.some (Go.Addr.mk 1 (b.i) Option.none))), (.int .i64 (↑m)), (.pointer (Option.some (Go.Addr.mk 2 1 Option.none))), s, (.int .i64 (↑m)), (.pointer (Option.some (Go.Addr.mk 0 (4 * m) Option.none))), (.agg #[(.int .i64 a), (.int .i64 b0), (.int .i64 lo), (.int .i64 hi)]), (.pointer (Option.some (Go.Addr.mk 4 0 Option.none))), (.int .i64 a), (.pointer (Option.some (Go.Addr.mk 3 0 Option.none))), (.int .i64 (b.p)), (.bool true), (b.j 30), (b.j 31), (b.j 32), (b.j 33), (b.j 34), (b.j 35), (b.j 36), (b.j 37), (b.j 38), (.tuple #[]), (.tuple #[]), (.tuple #[]), (.tuple #[]), (.tuple #[]), (.tuple #[]), (.tuple #[]), (.tuple #[]), (.tuple #[])] [] (View.mk 1004 [(Prod.mk 4 (Go.Obj.cells #[(.int .i64 a), (.int .i64 b0), (.int .i64 lo), (.int .i64 hi)] 54 (Prod.mk 0 0))), (Prod.mk 3 (Go.Obj.cells #[(.int .i64 (b.p)), (.int .i64 (b.q))] 26 (Prod.mk 0 0))), (Prod.mk 2 (Go.Obj.cells #[(.int .i64 V), s] 24 (Prod.mk 0 0))), (Prod.mk 1 (Go.Obj.cells (Array.mk (ints tl)) 2 (Prod.mk 0 1))), (Prod.mk 0 (Go.Obj.cells (Array.mk (ints l)) 2 (Prod.mk 0 1)))])) ∧
        (neZ a b.p = false →
        OCall (memoE) 33 [(.agg #[(.int .i64 a), (.int .i64 b0), (.int .i64 lo), (.int .i64 hi)]), (.int .i64 (b.q))] (View.mk 5 [(Prod.mk 4 (Go.Obj.cells #[(.int .i64 a), (.int .i64 b0), (.int .i64 lo), (.int .i64 hi)] 54 (Prod.mk 0 1))), (Prod.mk 3 (Go.Obj.cells #[(.int .i64 (b.p)), (.int .i64 (b.q))] 26 (Prod.mk 0 1))), (Prod.mk 2 (Go.Obj.cells #[(.int .i64 V), s] 24 (Prod.mk 0 1))), (Prod.mk 1 (Go.Obj.cells (Array.mk (ints tl)) 2 (Prod.mk 0 1))), (Prod.mk 0 (Go.Obj.cells (Array.mk (ints l)) 2 (Prod.mk 0 1)))]) (.int .i64 (eaZ lo hi b.q)) ∧
          OBin .add 3 (.tmp 16) (.const (.int .i64 (1))) (.int .i64 (↑b.i)) (.int .i64 (1)) (.int .i64 (↑(b.i + 1))) ∧
          RoundEnd (i33Inv V v t x s tr l tl) b ([i33Out V v t x s tr l tl, i33Ret V v t x s tr l tl]) Ex.normal [(.agg #[(.int .i64 V), (scrubV 4 s)]), (.agg #[(.int .i64 v), (.int .i64 t)]), (.int .i64 x), (scrubV 4 tr), (.func (Go.Fn.func 33) #[] #[]), (.pointer (Option.some (Go.Addr.mk 2 0 Option.none))), (.pointer (Option.some (Go.Addr.mk 3 0 Option.none))), (.tuple #[]), (.tuple #[]), (.tuple #[]), (.bool false), (.tuple #[]), (.int .i64 (↑m)), (.iface 0 (.chan (Option.some 0))), (scrubV 4 tr), (.int .i64 (↑tl.length)), (.int .i64 (↑(b.i + 1))), (.bool true), (.pointer (Option.some (Go.Addr.mk 1 (b.i) Option.none))), (.int .i64 (↑m)), (.pointer (Option.some (Go.Addr.mk 2 1 Option.none))), (scrubV 4 s), (.int .i64 (↑m)), (.pointer (Option.some (Go.Addr.mk 0 (4 * m) Option.none))), (.agg #[(.int .i64 a), (.int .i64 b0), (.int .i64 lo), (.int .i64 hi)]), (.iface 0 (.chan (Option.some 0))), (.int .i64 a), (.pointer (Option.some (Go.Addr.mk 3 0 Option.none))), (.int .i64 (b.p)), (.bool false), (.iface 0 (.chan (Option.some 0))), (.int .i64 b0), (.func (Go.Fn.func 33) #[] #[]), (.agg #[(.int .i64 a), (.int .i64 b0), (.int .i64 lo), (.int .i64 hi)]), (.pointer (Option.some (Go.Addr.mk 3 1 Option.none))), (.int .i64 (b.q)), (.int .i64 (eaZ lo hi b.q)), (.agg #[(.int .i64 b0), (.int .i64 (eaZ lo hi b.q))]), (.int .i64 (↑(b.i + 1))), (.tuple #[]), (.tuple #[]), (.tuple #[]), (.tuple #[]), (.tuple #[]), (.tuple #[]), (.tuple #[]), (.tuple #[]), (.tuple #[])] [] (View.mk 4 [(Prod.mk 3 (Go.Obj.cells #[(.int .i64 b0), (.int .i64 (eaZ lo hi b.q))] 26 (Prod.mk 0 0))), (Prod.mk 2 (Go.Obj.cells #[(.int .i64 V), s] 24 (Prod.mk 0 0))), (Prod.mk 1 (Go.Obj.cells (Array.mk (ints tl)) 2 (Prod.mk 0 1))), (Prod.mk 0 (Go.Obj.cells (Array.mk (ints l)) 2 (Prod.mk 0 1)))]))) ∧
      (ltZ ↑b.i ↑tl.length = false →
      RoundEnd (i33Inv V v t x s tr l tl) b ([i33Out V v t x s tr l tl, i33Ret V v t x s tr l tl]) (Ex.exit 0) [(.agg #[(.int .i64 V), s]), (.agg #[(.int .i64 v), (.int .i64 t)]), (.int .i64 x), tr, (.func (Go.Fn.func 33) #[] #[]), (.pointer (Option.some (Go.Addr.mk 2 0 Option.none))), (.pointer (Option.some (Go.Addr.mk 3 0 Option.none))), (.tuple #[]), (.tuple #[]), (.tuple #[]), (.bool false), (.tuple #[]), (b.j 12), (b.j 13), tr, (.int .i64 (↑tl.length)), (.int .i64 (↑b.i)), (.bool false), (b.j 18), (b.j 19), (b.j 20), (b.j 21), (b.j 22), (b.j 23), (b.j 24), (b.j 25), (b.j 26), (b.j 27), (b.j 28), (b.j 29), (b.j 30), (b.j 31), (b.j 32), (b.j 33), (b.j 34), (b.j 35), (b.j 36), (b.j 37), (b.j 38), (.tuple #[]), (.tuple #[]), (.tuple #[]), (.tuple #[]), (.tuple #[]), (.tuple #[]), (.tuple #[]), (.tuple #[]), (.tuple #[])] [] (View.mk 1004 [(Prod.mk 3 (Go.Obj.cells #[(.int .i64 (b.p)), (.int .i64 (b.q))] 26 (Prod.mk 0 0))), (Prod.mk 2 (Go.Obj.cells #[(.int .i64 V), s] 24 (Prod.mk 0 0))), (Prod.mk 1 (Go.Obj.cells (Array.mk (ints tl)) 2 (Prod.mk 0 1))), (Prod.mk 0 (Go.Obj.cells (Array.mk (ints l)) 2 (Prod.mk 0 1)))]))) := by kernel_rfl
theorem i33_run (V v t x : Int) (s tr : Value) (l tl : List Int) (r : Bool) : (callT memoE [0, 1, 2, 3] 1 (.mk [(15, .int .i64 tl.length), (42, autoV), (46, autoV)] [] [] [] [i33Out V v t x s tr l tl, i33Ret V v t x s tr l tl]) 2000 35 [yaV V s, stV v t, .int .i64 x, tr, .func (.func 33) #[] #[]] (roV [(ints l, 2), (ints tl, 2)]) (fun v => v = .bool r)) = (
      OLen #[27] 3 [tr] (.int .i64 (↑tl.length)) ∧
      LoopRT (memoE) [0, 1, 2, 3] 1 1996 Option.none (loopOf 35 0) [(.agg #[(.int .i64 V), s]), (.agg #[(.int .i64 v), (.int .i64 t)]), (.int .i64 x), tr, (.func (Go.Fn.func 33) #[] #[]), (.pointer (Option.some (Go.Addr.mk 2 0 Option.none))), (.pointer (Option.some (Go.Addr.mk 3 0 Option.none))), (.tuple #[]), (.tuple #[]), (.tuple #[]), (.bool false), (.tuple #[]), (.tuple #[]), (.tuple #[]), tr, (.int .i64 (↑tl.length)), (.int .i64 (0)), (.tuple #[]), (.tuple #[]), (.tuple #[]), (.tuple #[]), (.tuple #[]), (.tuple #[]), (.tuple #[]), (.tuple #[]), (.tuple #[]), (.tuple #[]), (.tuple #[]), (.tuple #[]), (.tuple #[]), (.tuple #[]), (.tuple #[]), (.tuple #[]), (.tuple #[]), (.tuple #[]), (.tuple #[]), (.tuple #[]), (.tuple #[]), (.tuple #[]), (.tuple #[]), (.tuple #[]), (.tuple #[]), (.tuple #[]), (.tuple #[]), (.tuple #[]), (.tuple #[]), (.tuple #[]), (.tuple #[])] [] (View.mk 4 [(Prod.mk 3 (Go.Obj.cells #[(.int .i64 v), (.int .i64 t)] 26 (Prod.mk 0 0))), (Prod.mk 2 (Go.Obj.cells #[(.int .i64 V), s] 24 (Prod.mk 0 0))), (Prod.mk 1 (Go.Obj.cells (Array.mk (ints tl)) 2 (Prod.mk 0 1))), (Prod.mk 0 (Go.Obj.cells (Array.mk (ints l)) 2 (Prod.mk 0 1)))]) ([i33Out V v t x s tr l tl, i33Ret V v t x s tr l tl]) ∧
      (∀ z0 : (i33Out V v t x s tr l tl).α,
      ((i33Out V v t x s tr l tl).P z0 →
        (eqZ z0.p x = true →
          (neZ z0.q 1048576 = true →
            ((Go.Value.bool true) = (Go.Value.bool r))) ∧
            (neZ z0.q 1048576 = false →
            ((Go.Value.bool false) = (Go.Value.bool r)))) ∧
          (eqZ z0.p x = false →
          ((Go.Value.bool false) = (Go.Value.bool r))))) ∧
      (∀ z0 : (i33Ret V v t x s tr l tl).α,
      ((i33Ret V v t x s tr l tl).P z0 →
        ((Go.Value.bool false) = (Go.Value.bool r)))) ∧
      True) := by kernel_rfl
theorem i34_body (V v t x : Int) (s tr : Value) (l tl : List Int) (m : Nat) (a b0 lo hi : Int) (M : Nat) (b : JP) : (codeT memoE [0, 1, 2, 3] 1 (M + 60) (.mk [(18, .pointer (some ⟨1, b.i, none⟩)), (19, .int .i64 (m : Int)), (23, .pointer (some ⟨0, 4 * m, none⟩)), (24, .agg #[.int .i64 a, .int .i64 b0, .int .i64 lo, .int .i64 hi]), (36, .int .i64 (suZ lo hi b.q)), (38, .int .i64 (↑(b.i + 1)))] [(17, ltZ b.i tl.length), (29, neZ a b.p)] [] [] []) none (bodyLp 35 0) (i34Ts V v t x s tr l tl b) [] (i34V V v t x s tr l tl b 4) (roundK (i34Inv V v t x s tr l tl) [0, 1, 2, 3] 4 1000 b [i34Out V v t x s tr l tl, i34Ret V v t x s tr l tl])) = (
      OBin .lss 3 (.tmp 16) (.tmp 15) (.int .i64 (↑b.i)) (.int .i64 (↑tl.length)) (.bool (ltZ ↑b.i ↑tl.length)) ∧
      (ltZ ↑b.i ↑tl.length = true →
      OIx 27 tr (.int .i64 (↑b.i)) (.pointer (Option.some (Go.Addr.mk 1 (b.i) Option.none))) ∧
        OLoad 3 (.pointer (Option.some (Go.Addr.mk 1 (b.i) Option.none))) (Option.some (Go.Obj.cells (Array.mk (ints tl)) 2 (Prod.mk 0 1))) (.int .i64 (↑m)) ∧
        OIx 22 s (.int .i64 (↑m)) (.pointer (Option.some (Go.Addr.mk 0 (4 * m) Option.none))) ∧
        OLoad 54 (.pointer (Option.some (Go.Addr.mk 0 (4 * m) Option.none))) (Option.some (Go.Obj.cells (Array.mk (ints l)) 2 (Prod.mk 0 1))) (.agg #[(.int .i64 a), (.int .i64 b0), (.int .i64 lo), (.int .i64 hi)]) ∧
        OBin .neq 3 (.tmp 26) (.tmp 28) (.int .i64 a) (.int .i64 (b.p)) (.bool (neZ a b.p)) ∧
        (neZ a b.p = true →
        RoundEnd (i34Inv V v t x s tr l tl) b ([i34Out V v t x s tr l tl, i34Ret V v t x s tr l tl]) Ex.ret [(.agg #[(.int .i64 V), s]), (.agg #[(.int .i64 v), (.int .i64 t)]), (.int .i64 x), tr, (.func (Go.Fn.func 34) #[] #[]), (.pointer (Option.some (Go.Addr.mk 2 0 Option.none))), (.pointer (Option.some (Go.Addr.mk 3 0 Option.none))), (.tuple #[]), (.tuple #[]), (.tuple #[]), (.bool false), (.tuple #[]), (.int .i64 (↑m)), (.pointer (Option.some (Go.Addr.mk 4 0 Option.none))), tr, (.int .i64 (↑tl.length)), (.int .i64 (↑b.i)), (.bool true), (.pointer (Option.some (Go.Addr.mk 1 (b.i) Option.none))), (.int .i64 (↑m)), (.pointer (Option.some (Go.Addr.mk 2 1 Option.none))), s, (.int .i64 (↑m)), (.pointer (Option.some (Go.Addr.mk 0 (4 * m) Option.none))), (.agg #[(.int .i64 a), (.int .i64 b0), (.int .i64 lo), (.int .i64 hi)]), (.pointer (Option.some (Go.Addr.mk 4 0 Option.none))), (.int .i64 a), (.pointer (Option.some (Go.Addr.mk 3 0 Option.none))), (.int .i64 (b.p)), (.bool true), (b.j 30), (b.j 31), (b.j 32), (b.j 33), (b.j 34), (b.j 35), (b.j 36), (b.j 37), (b.j 38), (.tuple #[]), (.tuple #[]), (.tuple #[]), (.tuple #[]), (.tuple #[]), (.tuple #[]), (.tuple #[]), (.tuple #[]), (.tuple #[])] [] (View.mk 1004 [(Prod.mk 4 (Go.Obj.cells #[(.int .i64 a), (.int .i64 b0), (.int .i64 lo), (.int .i64 hi)] 54 (Prod.mk 0 0))), (Prod.mk 3 (Go.Obj.cells #[(.int .i64 (b.p)), (.int .i64 (b.q))] 26 (Prod.mk 0 0))), (Prod.mk 2 (Go.Obj.cells #[(.int .i64 V), s] 24 (Prod.mk 0 0))), (Prod.mk 1 (Go.Obj.cells (Array.mk (ints tl)) 2 (Prod.mk 0 1))), (Prod.mk 0 (Go.Obj.cells (Array.mk (ints l)) 2 (Prod.mk 0 1)))])) ∧
        (neZ a b.p = false →
        OCall (memoE) 34 [(.agg #[(.int .i64 a), (.int .i64 b0), (.int .i64 lo), (.int .i64 hi)]), (.int .i64 (b.q))] (View.mk 5 [(Prod.mk 4 (Go.Obj.cells #[(.int .i64 a), (.int .i64 b0), (.int .i64 lo), (.int .i64 hi)] 54 (Prod.mk 0 1))), (Prod.mk 3 (Go.Obj.cells #[(.int .i64 (b.p)), (.int .i64 (b.q))] 26 (Prod.mk 0 1))), (Prod.mk 2 (Go.Obj.cells #[(.int .i64 V), s] 24 (Prod.mk 0 1))), (Prod.mk 1 (Go.Obj.cells (Array.mk (ints tl)) 2 (Prod.mk 0 1))), (Prod.mk 0 (Go.Obj.cells (Array.mk (ints l)) 2 (Prod.mk 0 1)))]) (.int .i64 (suZ lo hi b.q)) ∧
          OBin .add 3 (.tmp 16) (.const (.int .i64 (1))) (.int .i64 (↑b.i)) (.int .i64 (1)) (.int .i64 (↑(b.i + 1))) ∧
          RoundEnd (i34Inv V v t x s tr l tl) b ([i34Out V v t x s tr l tl, i34Ret V v t x s tr l tl]) Ex.normal [(.agg #[(.int .i64 V), (scrubV 4 s)]), (.agg #[(.int .i64 v), (.int .i64 t)]), (.int .i64 x), (scrubV 4 tr), (.func (Go.Fn.func 34) #[] #[]), (.pointer (Option.some (Go.Addr.mk 2 0 Option.none))), (.pointer (Option.some (Go.Addr.mk 3 0 Option.none))), (.tuple #[]), (.tuple #[]), (.tuple #[]), (.bool false), (.tuple #[]), (.int .i64 (↑m)), (.iface 0 (.chan (Option.some 0))), (scrubV 4 tr), (.int .i64 (↑tl.length)), (.int .i64 (↑(b.i + 1))), (.bool true), (.pointer (Option.some (Go.Addr.mk 1 (b.i) Option.none))), (.int .i64 (↑m)), (.pointer (Option.some (Go.Addr.mk 2 1 Option.none))), (scrubV 4 s), (.int .i64 (↑m)), (.pointer (Option.some (Go.Addr.mk 0 (4 * m) Option.none))), (.agg #[(.int .i64 a), (.int .i64 b0), (.int .i64 lo), (.int .i64 hi)]), (.iface 0 (.chan (Option.some 0))), (.int .i64 a), (.pointer (Option.some (Go.Addr.mk 3 0 Option.none))), (.int .i64 (b.p)), (.bool false), (.iface 0 (.chan (Option.some 0))), (.int .i64 b0), (.func (Go.Fn.func 34) #[] #[]), (.agg #[(.int .i64 a), (.int .i64 b0), (.int .i64 lo), (.int .i64 hi)]), (.pointer (Option.some (Go.Addr.mk 3 1 Option.none))), (.int .i64 (b.q)), (.int .i64 (suZ lo hi b.q)), (.agg #[(.int .i64 b0), (.int .i64 (suZ lo hi b.q))]), (.int .i64 (↑(b.i + 1))), (.tuple #[]), (.tuple #[]), (.tuple #[]), (.tuple #[]), (.tuple #[]), (.tuple #[]), (.tuple #[]), (.tuple #[]), (.tuple #[])] [] (View.mk 4 [(Prod.mk 3 (Go.Obj.cells #[(.int .i64 b0), (.int .i64 (suZ lo hi b.q))] 26 (Prod.mk 0 0))), (Prod.mk 2 (Go.Obj.cells #[(.int .i64 V), s] 24 (Prod.mk 0 0))), (Prod.mk 1 (Go.Obj.cells (Array.mk (ints tl)) 2 (Prod.mk 0 1))), (Prod.mk 0 (Go.Obj.cells (Array.mk (ints l)) 2 (Prod.mk 0 1)))]))) ∧
      (ltZ ↑b.i ↑tl.length = false →
      RoundEnd (i34Inv V v t x s tr l tl) b ([i34Out V v t x s tr l tl, i34Ret V v t x s tr l tl]) (Ex.exit 0) [(.agg #[(.int .i64 V), s]), (.agg #[(.int .i64 v), (.int .i64 t)]), (.int .i64 x), tr, (.func (Go.Fn.func 34) #[] #[]), (.pointer (Option.some (Go.Addr.mk 2 0 Option.none))), (.pointer (Option.some (Go.Addr.mk 3 0 Option.none))), (.tuple #[]), (.tuple #[]), (.tuple #[]), (.bool false), (.tuple #[]), (b.j 12), (b.j 13), tr, (.int .i64 (↑tl.length)), (.int .i64 (↑b.i)), (.bool false), (b.j 18), (b.j 19), (b.j 20), (b.j 21), (b.j 22), (b.j 23), (b.j 24), (b.j 25), (b.j 26), (b.j 27), (b.j 28), (b.j 29), (b.j 30), (b.j 31), (b.j 32), (b.j 33), (b.j 34), (b.j 35), (b.j 36), (b.j 37), (b.j 38), (.tuple #[]), (.tuple #[]), (.tuple #[]), (.tuple #[]), (.tuple #[]), (.tuple #[]), (.tuple #[]), (.tuple #[]), (.tuple #[])] [] (View.mk 1004 [(Prod.mk 3 (Go.Obj.cells #[(.int .i64 (b.p)), (.int .i64 (b.q))] 26 (Prod.mk 0 0))), (Prod.mk 2 (Go.Obj.cells #[(.int .i64 V), s] 24 (Prod.mk 0 0))), (Prod.mk 1 (Go.Obj.cells (Array.mk (ints tl)) 2 (Prod.mk 0 1))), (Prod.mk 0 (Go.Obj.cells (Array.mk (ints l)) 2 (Prod.mk 0 1)))]))) := by kernel_rfl
theorem i34_run (V v t x : Int) (s tr : Value) (l tl : List Int) (r : Bool) : (callT memoE [0, 1, 2, 3] 1 (.mk [(15, .int .i64 tl.length), (42, autoV), (46, autoV)] [] [] [] [i34Out V v t x s tr l tl, i34Ret V v t x s tr l tl]) 2000 35 [yaV V s, stV v t, .int .i64 x, tr, .func (.func 34) #[] #[]] (roV [(ints l, 2), (ints tl, 2)]) (fun v => v = .bool r)) = (
      OLen #[27] 3 [tr] (.int .i64 (↑tl.length)) ∧
      LoopRT (memoE) [0, 1, 2, 3] 1 1996 Option.none (loopOf 35 0) [(.agg #[(.int .i64 V), s]), (.agg #[(.int .i64 v), (.int .i64 t)]), (.int .i64 x), tr, (.func (Go.Fn.func 34) #[] #[]), (.pointer (Option.some (Go.Addr.mk 2 0 Option.none))), (.pointer (Option.some (Go.Addr.mk 3 0 Option.none))), (.tuple #[]), (.tuple #[]), (.tuple #[]), (.bool false), (.tuple #[]), (.tuple #[]), (.tuple #[]), tr, (.int .i64 (↑tl.length)), (.int .i64 (0)), (.tuple #[]), (.tuple #[]), (.tuple #[]), (.tuple #[]), (.tuple #[]), (.tuple #[]), (.tuple #[]), (.tuple #[]), (.tuple #[]), (.tuple #[]), (.tuple #[]), (.tuple #[]), (.tuple #[]), (.tuple #[]), (.tuple #[]), (.tuple #[]), (.tuple #[]), (.tuple #[]), (.tuple #[]), (.tuple #[]), (.tuple #[]), (.tuple #[]), (.tuple #[]), (.tuple #[]), (.tuple #[]), (.tuple #[]), (.tuple #[]), (.tuple #[]), (.tuple #[]), (.tuple #[]), (.tuple #[])] [] (View.mk 4 [(Prod.mk 3 (Go.Obj.cells #[(.int .i64 v), (.int .i64 t)] 26 (Prod.mk 0 0))), (Prod.mk 2 (Go.Obj.cells #[(.int .i64 V), s] 24 (Prod.mk 0 0))), (Prod.mk 1 (Go.Obj.cells (Array.mk (ints tl)) 2 (Prod.mk 0 1))), (Prod.mk 0 (Go.Obj.cells (Array.mk (ints l)) 2 (Prod.mk 0 1)))]) ([i34Out V v t x s tr l tl, i34Ret V v t x s tr l tl]) ∧
      (∀ z0 : (i34Out V v t x s tr l tl).α,
      ((i34Out V v t x s tr l tl).P z0 →
        (eqZ z0.p x = true →
          (neZ z0.q 1048576 = true →
            ((Go.Value.bool true) = (Go.Value.bool r))) ∧
            (neZ z0.q 1048576 = false →
            ((Go.Value.bool false) = (Go.Value.bool r)))) ∧
          (eqZ z0.p x = false →
          ((Go.Value.bool false) = (Go.Value.bool r))))) ∧
      (∀ z0 : (i34Ret V v t x s tr l tl).α,
      ((i34Ret V v t x s tr l tl).P z0 →
        ((Go.Value.bool false) = (Go.Value.bool r)))) ∧
      True) := by kernel_rfl

def trB (up : Int → Int → Int → Int) (l tl : List Int) (v t x : Int) : Bool := match trF up l tl v t with
  | none => false
  | some (a, c) => eqZ a x && neZ c 1048576
theorem cok33 : callOk TP 33 = true := by kernel_rfl
theorem cok34 : callOk TP 34 = true := by kernel_rfl
theorem lp35 : loopOf 35 0 = .loop (bodyLp 35 0) := by kernel_rfl
theorem drop_cons {l : List Int} {i : Nat} (h : i < l.length) : l.drop i = l.getD i 0 :: l.drop (i + 1) := by
  rw [List.drop_eq_getElem_cons h, List.getD_eq_getElem?_getD, List.getElem?_eq_getElem h]
  rfl
theorem flI2 {l tl : List Int} : [(ints l, (2 : TypeId)), (ints tl, 2)].all (fun p => p.1.all (flatN 3)) = true := by simp only [List.all_cons, List.all_nil, ints_flat]; rfl
theorem all_at2 {w : World} {bs offs : Nat → Nat} {l tl : List Int} (h0 : RowsAt w (bs 0) (offs 0) (ints l)) (h1 : RowsAt w (bs 1) (offs 1) (ints tl)) : AllAt w bs offs [(ints l, 2), (ints tl, 2)] := fun i c e h => by
  match i with
  | 0 => cases h; exact h0
  | 1 => cases h; exact h1
  | i + 2 => simp at h
theorem okS_ya2 {V : Int} {s : Value} {n cap : Nat} {l : List Int} (h : HY n cap s l) : Vm.okS 2 (yaV V s) = true := by
  have := h.s.ok (m := 2) (by omega)
  show ([Value.int .i64 V, s].all (okC 2)) = true
  simp only [List.all_cons, List.all_nil, this]
  rfl
theorem okS_yt {V v t x : Int} {s tr y : Value} {n cap k cap' : Nat} {l : List Int} (h : HY n cap s l) (ht : SLh 1 k cap' tr) (hy : Vm.okS 2 y = true) : [yaV V s, stV v t, .int .i64 x, tr, y].all (okS 2) = true := by
  simp only [List.all_cons, List.all_nil, okS_ya2 h, ht.okS (m := 2) (by omega), hy]
  rfl

theorem i33_clean {V v t x : Int} {n cap cap' : Nat} {s tr : Value} {l tl : List Int} {b : JP} (hs : SLh 0 n cap s) : Clean 4 (i33V V v t x s tr l tl b 4).objs := clean_cons (by omega) clean_two (clean_cons (by omega) (clean_ys (hs.scrub (by omega))) (clean_cons (by omega) clean_ro (clean_cons (by omega) clean_ro clean_nil)))
theorem i33_loop (V v t x : Int) (n cap cap' : Nat) (s tr : Value) (l tl : List Int) (h : HY n cap s l) (ht : SLh 1 tl.length cap' tr) (hn : tl.length ≤ 1000) (hix : ∀ m, m < tl.length → 0 ≤ tl.getD m 0 ∧ tl.getD m 0 < n) : ∀ (M : Nat) (b : JP), (i33Inv V v t x s tr l tl).P b → (i33Inv V v t x s tr l tl).μ b + 60 < M →
    LoopRT memoE [0, 1, 2, 3] 1 M none (.loop (bodyLp 35 0)) (i33Ts V v t x s tr l tl b) [] (i33V V v t x s tr l tl b 4) [i33Out V v t x s tr l tl, i33Ret V v t x s tr l tl] := by
  refine loop_ruleT memoE_code (i33Inv V v t x s tr l tl) _ (N0 := 60) (n := 4) (w := 1000) (by kernel_rfl) (by kernel_rfl) (fun b _ => ⟨rfl, i33_clean (V := V) (v := v) (t := t) (x := x) (tr := tr) (cap' := 0) h.s⟩) ?_
  intro M b ⟨hb1, hb2⟩
  have hsc := h.s.scrub (k := 4) (by omega)
  have htc := ht.scrub (k := 4) (by omega)
  obtain ⟨m, hm, hmn⟩ : ∃ m : Nat, (b.i < tl.length → tl.getD b.i 0 = (m : Int) ∧ m < n) ∧ True := by
    by_cases hlt : b.i < tl.length
    · have := hix b.i hlt
      exact ⟨(tl.getD b.i 0).toNat, fun _ => ⟨by omega, by omega⟩, trivial⟩
    · exact ⟨0, fun h => absurd h hlt, trivial⟩
  refine ⟨_, (i33_body V v t x s tr l tl m (l.getD (4 * m) 0) (l.getD (4 * m + 1) 0) (l.getD (4 * m + 2) 0) (l.getD (4 * m + 3) 0) M b).mpr ⟨ob_lss rfl, fun h0 => ?_, fun h0 => ?_⟩⟩
  · have hlt : b.i < tl.length := by have := ltZ_t h0; omega
    obtain ⟨hm1, hm2⟩ := hm hlt
    have hd := drop_cons hlt
    rw [hm1] at hd
    refine ⟨ob_ixS ht su27 si3 hlt (by omega), ob_loadI ag3 hlt hm1, ob_ixS h.s su22 si54 hm2 (by omega), ob_load4 h.l hm2, ob_neq rfl, fun h1 => ?_, fun h1 => ⟨oc_plain cok33 rfl rfl rfl (fam33_at _ _ _ _ _), ob_add64 (by omega) (by omega) (by omega), ?_⟩⟩
    · refine .outV (by simp) (i33Ret V v t x s tr l tl) (by simp) (fun ts W => (⟨b.i, b.p, b.q, lget ts⟩, W)) ?_ rfl rfl rfl rfl
      show trF eaZ l tl v t = none
      rw [hb2, hd]
      have : eqZ (l.getD (4 * m) 0) b.p = false := bfalse.2 fun e => neZ_t h1 (eqZ_t e)
      simp only [trF, Int.toNat_natCast, this, cond_false]
    · rw [hsc, htc]
      refine .againL (fun ts => ⟨b.i + 1, l.getD (4 * m + 1) 0, eaZ (l.getD (4 * m + 2) 0) (l.getD (4 * m + 3) 0) b.q, lget ts⟩) ⟨hlt, ?_⟩ (show tl.length - (b.i + 1) < tl.length - b.i by omega) rfl rfl rfl
      show trF eaZ l tl v t = trF eaZ l (tl.drop (b.i + 1)) _ _
      rw [hb2, hd]
      have : eqZ (l.getD (4 * m) 0) b.p = true := eq_iff.2 (neZ_f h1)
      simp only [trF, Int.toNat_natCast, this, cond_true]
  · have hlt : ¬ b.i < tl.length := by have := ltZ_f h0; omega
    refine .outL (by simp) (i33Out V v t x s tr l tl) (by simp) (fun ts => ⟨b.i, b.p, b.q, lget ts⟩) ?_ rfl rfl rfl rfl
    show trF eaZ l tl v t = some (b.p, b.q)
    rw [hb2, List.drop_eq_nil_of_le (by omega)]
    rfl
theorem trail33 (V v t x : Int) (n cap cap' : Nat) (s tr : Value) (l tl : List Int) (h : HY n cap s l) (ht : SLh 1 tl.length cap' tr) (hn : tl.length ≤ 1000) (hix : ∀ m, m < tl.length → 0 ≤ tl.getD m 0 ∧ tl.getD m 0 < n) (w : World) (bs offs : Nat → Nat) (hr : RowsAt w (bs 0) (offs 0) (ints l)) (hr2 : RowsAt w (bs 1) (offs 1) (ints tl)) :
    Calls TP 35 ([yaV V s, stV v t, .int .i64 x, tr, .func (.func 33) #[] #[]].map (shiftS bs offs)).toArray w fun e w' => e = .returned (.bool (trB eaZ l tl v t x)) ∧ RowKit.Below w.heap.size w w' := by
  refine run_one (call_viewsT (cs := [(ints l, 2), (ints tl, 2)]) memoE_ok memoE_code flI2 (tab_none fun _ _ => rfl) (okS_yt h ht rfl) (fun v h => by rw [h]; rfl) ((i33_run V v t x s tr l tl (trB eaZ l tl v t x)).mpr ⟨ob_len rfl su27 ht, ?_, fun z hz => ⟨fun h1 => ⟨fun h2 => ?_, fun h2 => ?_⟩, fun h1 => ?_⟩, fun z hz => ?_, trivial⟩) w bs offs (all_at2 hr hr2))
  · rw [lp35]
    exact i33_loop V v t x n cap cap' s tr l tl h ht hn hix 1996 ⟨0, v, t, fun _ => undef⟩ ⟨by simp, by simp⟩ (show tl.length - 0 + 60 < 1996 by omega)
  · have hz : trF eaZ l tl v t = some (z.p, z.q) := hz
    simp [trB, hz, h1, h2]
  · have hz : trF eaZ l tl v t = some (z.p, z.q) := hz
    simp [trB, hz, h1, h2]
  · have hz : trF eaZ l tl v t = some (z.p, z.q) := hz
    simp [trB, hz, h1]
  · have hz : trF eaZ l tl v t = none := hz
    simp [trB, hz]

theorem i34_clean {V v t x : Int} {n cap cap' : Nat} {s tr : Value} {l tl : List Int} {b : JP} (hs : SLh 0 n cap s) : Clean 4 (i34V V v t x s tr l tl b 4).objs := clean_cons (by omega) clean_two (clean_cons (by omega) (clean_ys (hs.scrub (by omega))) (clean_cons (by omega) clean_ro (clean_cons (by omega) clean_ro clean_nil)))
theorem i34_loop (V v t x : Int) (n cap cap' : Nat) (s tr : Value) (l tl : List Int) (h : HY n cap s l) (ht : SLh 1 tl.length cap' tr) (hn : tl.length ≤ 1000) (hix : ∀ m, m < tl.length → 0 ≤ tl.getD m 0 ∧ tl.getD m 0 < n) : ∀ (M : Nat) (b : JP), (i34Inv V v t x s tr l tl).P b → (i34Inv V v t x s tr l tl).μ b + 60 < M →
    LoopRT memoE [0, 1, 2, 3] 1 M none (.loop (bodyLp 35 0)) (i34Ts V v t x s tr l tl b) [] (i34V V v t x s tr l tl b 4) [i34Out V v t x s tr l tl, i34Ret V v t x s tr l tl] := by
  refine loop_ruleT memoE_code (i34Inv V v t x s tr l tl) _ (N0 := 60) (n := 4) (w := 1000) (by kernel_rfl) (by kernel_rfl) (fun b _ => ⟨rfl, i34_clean (V := V) (v := v) (t := t) (x := x) (tr := tr) (cap' := 0) h.s⟩) ?_
  intro M b ⟨hb1, hb2⟩
  have hsc := h.s.scrub (k := 4) (by omega)
  have htc := ht.scrub (k := 4) (by omega)
  obtain ⟨m, hm, hmn⟩ : ∃ m : Nat, (b.i < tl.length → tl.getD b.i 0 = (m : Int) ∧ m < n) ∧ True := by
    by_cases hlt : b.i < tl.length
    · have := hix b.i hlt
      exact ⟨(tl.getD b.i 0).toNat, fun _ => ⟨by omega, by omega⟩, trivial⟩
    · exact ⟨0, fun h => absurd h hlt, trivial⟩
  refine ⟨_, (i34_body V v t x s tr l tl m (l.getD (4 * m) 0) (l.getD (4 * m + 1) 0) (l.getD (4 * m + 2) 0) (l.getD (4 * m + 3) 0) M b).mpr ⟨ob_lss rfl, fun h0 => ?_, fun h0 => ?_⟩⟩
  · have hlt : b.i < tl.length := by have := ltZ_t h0; omega
    obtain ⟨hm1, hm2⟩ := hm hlt
    have hd := drop_cons hlt
    rw [hm1] at hd
    refine ⟨ob_ixS ht su27 si3 hlt (by omega), ob_loadI ag3 hlt hm1, ob_ixS h.s su22 si54 hm2 (by omega), ob_load4 h.l hm2, ob_neq rfl, fun h1 => ?_, fun h1 => ⟨oc_plain cok34 rfl rfl rfl (fam34_at _ _ _ _ _), ob_add64 (by omega) (by omega) (by omega), ?_⟩⟩
    · refine .outV (by simp) (i34Ret V v t x s tr l tl) (by simp) (fun ts W => (⟨b.i, b.p, b.q, lget ts⟩, W)) ?_ rfl rfl rfl rfl
      show trF suZ l tl v t = none
      rw [hb2, hd]
      have : eqZ (l.getD (4 * m) 0) b.p = false := bfalse.2 fun e => neZ_t h1 (eqZ_t e)
      simp only [trF, Int.toNat_natCast, this, cond_false]
    · rw [hsc, htc]
      refine .againL (fun ts => ⟨b.i + 1, l.getD (4 * m + 1) 0, suZ (l.getD (4 * m + 2) 0) (l.getD (4 * m + 3) 0) b.q, lget ts⟩) ⟨hlt, ?_⟩ (show tl.length - (b.i + 1) < tl.length - b.i by omega) rfl rfl rfl
      show trF suZ l tl v t = trF suZ l (tl.drop (b.i + 1)) _ _
      rw [hb2, hd]
      have : eqZ (l.getD (4 * m) 0) b.p = true := eq_iff.2 (neZ_f h1)
      simp only [trF, Int.toNat_natCast, this, cond_true]
  · have hlt : ¬ b.i < tl.length := by have := ltZ_f h0; omega
    refine .outL (by simp) (i34Out V v t x s tr l tl) (by simp) (fun ts => ⟨b.i, b.p, b.q, lget ts⟩) ?_ rfl rfl rfl rfl
    show trF suZ l tl v t = some (b.p, b.q)
    rw [hb2, List.drop_eq_nil_of_le (by omega)]
    rfl
theorem trail34 (V v t x : Int) (n cap cap' : Nat) (s tr : Value) (l tl : List Int) (h : HY n cap s l) (ht : SLh 1 tl.length cap' tr) (hn : tl.length ≤ 1000) (hix : ∀ m, m < tl.length → 0 ≤ tl.getD m 0 ∧ tl.getD m 0 < n) (w : World) (bs offs : Nat → Nat) (hr : RowsAt w (bs 0) (offs 0) (ints l)) (hr2 : RowsAt w (bs 1) (offs 1) (ints tl)) :
    Calls TP 35 ([yaV V s, stV v t, .int .i64 x, tr, .func (.func 34) #[] #[]].map (shiftS bs offs)).toArray w fun e w' => e = .returned (.bool (trB suZ l tl v t x)) ∧ RowKit.Below w.heap.size w w' := by
  refine run_one (call_viewsT (cs := [(ints l, 2), (ints tl, 2)]) memoE_ok memoE_code flI2 (tab_none fun _ _ => rfl) (okS_yt h ht rfl) (fun v h => by rw [h]; rfl) ((i34_run V v t x s tr l tl (trB suZ l tl v t x)).mpr ⟨ob_len rfl su27 ht, ?_, fun z hz => ⟨fun h1 => ⟨fun h2 => ?_, fun h2 => ?_⟩, fun h1 => ?_⟩, fun z hz => ?_, trivial⟩) w bs offs (all_at2 hr hr2))
  · rw [lp35]
    exact i34_loop V v t x n cap cap' s tr l tl h ht hn hix 1996 ⟨0, v, t, fun _ => undef⟩ ⟨by simp, by simp⟩ (show tl.length - 0 + 60 < 1996 by omega)
  · have hz : trF suZ l tl v t = some (z.p, z.q) := hz
    simp [trB, hz, h1, h2]
  · have hz : trF suZ l tl v t = some (z.p, z.q) := hz
    simp [trB, hz, h1, h2]
  · have hz : trF suZ l tl v t = some (z.p, z.q) := hz
    simp [trB, hz, h1]
  · have hz : trF suZ l tl v t = none := hz
    simp [trB, hz]
end Go.Vm
