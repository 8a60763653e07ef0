/- StockCans: what is known of what it calls, and its loop. -/
import Derived.Test.YtcphndfipjifcaaVrSu
set_option linter.unusedVariables false
namespace Go.Vm
set_option maxRecDepth 100000
set_option maxHeartbeats 4000000
def KCans : List Nat := [5, 7, 9, 11, 13, 15, 17, 19, 21, 23, 25, 27, 29, 31, 33, 35, 37, 39, 41, 43, 45]
theorem KCans_mem : ∀ i, i < 21 → 5 + 2 * i ∈ KCans := by decide
theorem cells_take : ∀ (l : List (Int × Int)) (n m : Nat) (v : Value), (cells (l.take n))[m]? = some v → (cells l)[m]? = some v
  | [], n, m, v, h => by simpa using h
  | p :: l, 0, m, v, h => by simp [cells] at h
  | p :: l, n + 1, m, v, h => by
    rw [List.take_succ_cons, cells_cons] at h
    rw [cells_cons]
    match m, h with
    | 0, h => exact h
    | 1, h => exact h
    | m + 2, h => exact cells_take l n m v h
theorem rows_take {w : World} {b off : Nat} {l : List (Int × Int)} {n : Nat} (h : RowsAt w b off (cells l)) : RowsAt w b off (cells (l.take n)) :=
  ⟨h.1, fun m v hm => h.2 m v (cells_take l n m v hm)⟩
noncomputable def wornP (f : FuncId) (args c : List Value) : Option Value := match args with
  | [.slice (some ⟨0, 0, none⟩) n cap] => match unCells c with
    | some l => match Nat.ble n l.length && Nat.ble n 1000 && Nat.blt cap big with
      | true => match Nat.beq f 34 || Nat.beq f 35 with
        | true => some (wornV (l.take n))
        | false => none
      | false => none
    | none => none
  | _ => none
theorem wornP_ok : SelfOK TP (oracleR wornP) := oracleR_ok fun f args c v h => by
  unfold wornP at h
  split at h
  · rename_i n cap
    split at h
    · rename_i l hl
      split at h
      · rename_i hk
        simp only [Bool.and_eq_true, Nat.blt_eq] at hk
        have h1 := Nat.le_of_ble_eq_true hk.1.1
        have h2 := Nat.le_of_ble_eq_true hk.1.2
        have hc := unCells_eq hl
        subst hc
        have hlen : (l.take n).length = n := by simp; omega
        split at h
        · rename_i hf
          rw [Bool.or_eq_true] at hf
          cases h
          rcases hf with hf | hf
          · have := Nat.eq_of_beq_eq_true hf
            subst this
            refine ⟨cells_flat l, worn_flat _, fun w b off hr => ?_⟩
            have := worn_any (l.take n) cap hk.2 (by omega) w b off (rows_take hr)
            rw [hlen] at this
            exact this
          · have := Nat.eq_of_beq_eq_true hf
            subst this
            refine ⟨cells_flat l, worn_flat _, fun w b off hr => ?_⟩
            have := refWorn_any (l.take n) cap hk.2 (by omega) w b off (rows_take hr)
            rw [hlen] at this
            exact this
        · cases h
      · cases h
    · cases h
  · cases h
noncomputable def memo4 : Job → Option Out := orF (oracle bdF) (orF oracleE (oracleR wornP))
theorem memo4_code : ∀ ar c ts df V, memo4 (.code ar c ts df V) = none := fun _ _ _ _ _ => rfl
theorem memo4_ok (works : ∀ w, Calls TP 31 #[] w fun e w' => e = .returned (.bool true) ∧ RowKit.Below w.heap.size w w') : SelfOK TP memo4 := SelfOK.or (bdF_ok works) (SelfOK.or oracleE_ok wornP_ok)
theorem m4_meter {x lo hi : Int} {V : View} {v : Value} (h : meterV x lo hi = v) : memo4 (.call 32 [.int .i64 x, .agg #[.int .i64 lo, .int .i64 hi]] V) = some (.value v V) := by
  have e : bdF 32 [.int .i64 x, .agg #[.int .i64 lo, .int .i64 hi]] = some v := by rw [← h]; rfl
  simp only [memo4, orF, oracle, e]
theorem m4_empty {f : FuncId} {o : Option Addr} {cap : Nat} {V : View} (hf : (Nat.beq f 34 || Nat.beq f 35) = true) (h1 : bdF f [.slice o 0 cap] = none) (hcap : cap < big) : memo4 (.call f [.slice o 0 cap] V) = some (.value (errV 6) V) := by
  have e : oracleE (.call f [.slice o 0 cap] V) = some (.value (errV 6) V) := by
    have : Nat.blt cap big = true := by rw [Nat.blt_eq]; exact hcap
    simp only [oracleE, hf, this, Bool.and_self]
  simp only [memo4, orF, oracle, h1, e]
theorem m4_rows {f : FuncId} {l : List (Int × Int)} {n cap : Nat} {V : View} {e : TypeId} {fz : Nat × Nat} {v : Value} (hf : (Nat.beq f 34 || Nat.beq f 35) = true) (h1 : bdF f [slc n cap] = none) (hl : 0 < n) (hnl : n ≤ l.length) (hn : n ≤ 1000) (hcap : cap < big)
    (hV : find V.objs 0 = some (.cells ⟨cells l⟩ e fz)) (hv : wornV (l.take n) = v) : memo4 (.call f [slc n cap] V) = some (.value v V) := by
  have e0 : oracleE (.call f [slc n cap] V) = none := by
    cases hq : n with
    | zero => omega
    | succ m => rfl
  have e1 : blockArg [slc n cap] = some 0 := rfl
  have e2 : [slc n cap].all (okArgB 0) = true := by simp [slc, okArgB, hcap]
  have e3 : [slc n cap].map to0 = [slc n cap] := rfl
  have e4 : (Nat.ble n l.length && Nat.ble n 1000 && Nat.blt cap big) = true := by
    rw [Nat.ble_eq_true_of_le hn, Nat.ble_eq_true_of_le hnl]; simpa using hcap
  have e5 : wornP f [slc n cap] (cells l) = some v := by
    simp only [wornP, unCells_cells, e4, hf, hv]
  simp only [memo4, orF, oracle, h1, e0, oracleR, e1, e2, hV, e3, e5]
def cV (l : List (Int × Int)) (o0 o1 w0 w1 lo hi : Int) (k : Nat) : View := ⟨k, [(4, .cells #[.int .i64 lo, .int .i64 hi] 27 (0, 0)), (3, .cells #[.int .i64 lo, .int .i64 hi] 27 (0, 0)), (2, .cells #[.int .u8 w0, .int .u8 w1] 69 (0, 0)), (1, .cells #[.int .u8 o0, .int .u8 o1] 69 (0, 0)), (0, .cells ⟨cells l⟩ 71 (0, 1))]⟩
def cTs (n cap : Nat) (sh mo o0 o1 w0 w1 lo hi e : Int) (b : CB) : List Value := [slc n cap, (.int .u32 sh), (.int .u32 mo), (.agg #[(.int .u8 o0), (.int .u8 o1)]), (.agg #[(.int .u8 w0), (.int .u8 w1)]), undef, undef, undef, (.pointer (some (Addr.mk 1 0 none))), (.pointer (some (Addr.mk 2 0 none))), (.bool false), (.pointer (some (Addr.mk 3 0 none))), (.int .i64 e), (.pointer (some (Addr.mk 4 0 none))), (.int .i64 e), .int .i64 b.i, b.j 16, b.j 17, b.j 18, b.j 19, undef, undef, undef, undef, undef, undef, undef, undef, undef, undef, undef, undef, slc n cap, (.int .i64 n), (.bool false), undef, (.tuple #[(.agg #[(.int .i64 lo), (.int .i64 hi)]), (.int .i64 e)]), slc n cap, (.tuple #[(.agg #[(.int .i64 lo), (.int .i64 hi)]), (.int .i64 e)]), (.agg #[(.int .i64 lo), (.int .i64 hi)]), (.int .i64 e), (.tuple #[(.agg #[(.int .i64 lo), (.int .i64 hi)]), (.int .i64 e)]), slc n cap, (.tuple #[(.agg #[(.int .i64 lo), (.int .i64 hi)]), (.int .i64 e)]), (.agg #[(.int .i64 lo), (.int .i64 hi)]), (.int .i64 e), (.int .i64 e), (.int .i64 e), (.bool false), b.j 49, b.j 50, b.j 51, b.j 52, b.j 53, b.j 54, b.j 55, b.j 56, b.j 57, b.j 58, b.j 59, b.j 60, b.j 61, b.j 62, b.j 63, b.j 64, b.j 65, b.j 66, b.j 67, b.j 68, b.j 69, b.j 70, b.j 71, b.j 72, b.j 73, b.j 74, b.j 75, b.j 76, b.j 77, b.j 78, b.j 79, b.j 80, b.j 81, b.j 82, b.j 83, b.j 84, b.j 85, b.j 86, b.j 87, b.j 88, b.j 89, b.j 90, b.j 91, b.j 92, b.j 93, b.j 94, b.j 95, b.j 96, b.j 97, b.j 98, b.j 99, b.j 100, b.j 101, b.j 102, b.j 103, b.j 104, b.j 105, b.j 106, b.j 107, b.j 108, b.j 109, b.j 110, b.j 111, b.j 112, b.j 113, b.j 114, b.j 115, b.j 116, undef, undef, undef, undef, undef, undef, undef, undef, undef, undef, undef, undef, undef, undef, undef, undef, undef, undef, undef, undef, undef, undef, undef, undef, undef, undef, undef, undef, undef, undef, undef, undef, undef, undef, undef, undef, undef, undef, undef, undef, undef, undef, undef, undef, undef, undef, undef, undef, undef, undef, undef, undef, undef, undef, undef, undef, undef, undef, undef, undef, undef, undef, undef, undef, undef, undef, undef, undef, undef, undef, undef, undef, undef, undef, undef, undef, undef, undef, undef, undef, undef, undef, undef, undef, undef, undef, undef, undef, undef, undef, undef, undef, undef, undef, undef, undef, undef, undef, undef, undef, undef, undef, undef, undef, undef, undef, undef, undef, undef, undef, undef, undef, undef, undef, undef, undef, undef, undef]
def cInv (l : List (Int × Int)) (cap : Nat) (sh mo o0 o1 w0 w1 lo hi e : Int) : LInv := ⟨CB, cTs l.length cap sh mo o0 o1 w0 w1 lo hi e, [], fun b => cV l o0 o1 w0 w1 lo hi (5 + 2 * b.i), fun b => b.i ≤ l.length, fun b => l.length - b.i⟩
def cOut (l : List (Int × Int)) (cap : Nat) (sh mo o0 o1 w0 w1 lo hi e : Int) (k : Nat) : LoopEnd := ⟨CB, fun _ => .exit 0, cTs l.length cap sh mo o0 o1 w0 w1 lo hi e, [], fun _ => cV l o0 o1 w0 w1 lo hi k, fun _ => True⟩
theorem c_out (x y a b1 c d : Int) (sh mo o0 o1 w0 w1 lo hi e : Int) (l : List (Int × Int)) (cap M q : Nat) (k : Nat) (b : CB) (hk : k ∈ KCans) : codeWP memo4 [0, 1, 2, 3, 4] (M + 20) (.mk [(52, .bool false)] [] []) none (bodyOfLoop (loopOf 7 0)) (cTs l.length cap sh mo o0 o1 w0 w1 lo hi e b) [] (cV l o0 o1 w0 w1 lo hi k) (fun ex ts df V => RoundEnd (cInv l cap sh mo o0 o1 w0 w1 lo hi e) b [cOut l cap sh mo o0 o1 w0 w1 lo hi e q] ex ts df (match ex with | .normal => pruneV [0, 1, 2, 3, 4] V | _ => V)) = (
      OBin .lss 3 (.tmp 49) (.tmp 51) (.int .i64 (↑b.i)) (.int .i64 (↑l.length)) (.bool false) ∧
      RoundEnd (cInv l cap sh mo o0 o1 w0 w1 lo hi e) b ([cOut l cap sh mo o0 o1 w0 w1 lo hi e q]) (Go.Vm.Ex.exit 0) [(.slice (Option.some (Go.Addr.mk 0 0 Option.none)) (l.length) cap), (.int .u32 sh), (.int .u32 mo), (.agg #[(.int .u8 o0), (.int .u8 o1)]), (.agg #[(.int .u8 w0), (.int .u8 w1)]), (.tuple #[]), (.tuple #[]), (.tuple #[]), (.pointer (Option.some (Go.Addr.mk 1 0 Option.none))), (.pointer (Option.some (Go.Addr.mk 2 0 Option.none))), (.bool false), (.pointer (Option.some (Go.Addr.mk 3 0 Option.none))), (.int .i64 e), (.pointer (Option.some (Go.Addr.mk 4 0 Option.none))), (.int .i64 e), (.int .i64 (↑b.i)), (b.j 16), (b.j 17), (b.j 18), (b.j 19), (.tuple #[]), (.tuple #[]), (.tuple #[]), (.tuple #[]), (.tuple #[]), (.tuple #[]), (.tuple #[]), (.tuple #[]), (.tuple #[]), (.tuple #[]), (.tuple #[]), (.tuple #[]), (.slice (Option.some (Go.Addr.mk 0 0 Option.none)) (l.length) cap), (.int .i64 (↑l.length)), (.bool false), (.tuple #[]), (.tuple #[(.agg #[(.int .i64 lo), (.int .i64 hi)]), (.int .i64 e)]), (.slice (Option.some (Go.Addr.mk 0 0 Option.none)) (l.length) cap), (.tuple #[(.agg #[(.int .i64 lo), (.int .i64 hi)]), (.int .i64 e)]), (.agg #[(.int .i64 lo), (.int .i64 hi)]), (.int .i64 e), (.tuple #[(.agg #[(.int .i64 lo), (.int .i64 hi)]), (.int .i64 e)]), (.slice (Option.some (Go.Addr.mk 0 0 Option.none)) (l.length) cap), (.tuple #[(.agg #[(.int .i64 lo), (.int .i64 hi)]), (.int .i64 e)]), (.agg #[(.int .i64 lo), (.int .i64 hi)]), (.int .i64 e), (.int .i64 e), (.int .i64 e), (.bool false), (.int .i64 (↑b.i)), (.slice (Option.some (Go.Addr.mk 0 0 Option.none)) (l.length) cap), (.int .i64 (↑l.length)), (.bool false), (.bool false), (.tuple #[]), (.tuple #[]), (.bool false), (b.j 57), (b.j 58), (b.j 59), (b.j 60), (b.j 61), (b.j 62), (b.j 63), (b.j 64), (b.j 65), (b.j 66), (b.j 67), (b.j 68), (b.j 69), (b.j 70), (b.j 71), (b.j 72), (b.j 73), (b.j 74), (b.j 75), (b.j 76), (b.j 77), (b.j 78), (b.j 79), (b.j 80), (b.j 81), (b.j 82), (b.j 83), (b.j 84), (b.j 85), (b.j 86), (b.j 87), (b.j 88), (b.j 89), (b.j 90), (b.j 91), (b.j 92), (b.j 93), (b.j 94), (b.j 95), (b.j 96), (b.j 97), (b.j 98), (b.j 99), (b.j 100), (b.j 101), (b.j 102), (b.j 103), (b.j 104), (b.j 105), (b.j 106), (b.j 107), (b.j 108), (b.j 109), (b.j 110), (b.j 111), (b.j 112), (b.j 113), (b.j 114), (b.j 115), (b.j 116), (.tuple #[]), (.tuple #[]), (.tuple #[]), (.tuple #[]), (.tuple #[]), (.tuple #[]), (.tuple #[]), (.tuple #[]), (.tuple #[]), (.tuple #[]), (.tuple #[]), (.tuple #[]), (.tuple #[]), (.tuple #[]), (.tuple #[]), (.tuple #[]), (.tuple #[]), (.tuple #[]), (.tuple #[]), (.tuple #[]), (.tuple #[]), (.tuple #[]), (.tuple #[]), (.tuple #[]), (.tuple #[]), (.tuple #[]), (.tuple #[]), (.tuple #[]), (.tuple #[]), (.tuple #[]), (.tuple #[]), (.tuple #[]), (.tuple #[]), (.tuple #[]), (.tuple #[]), (.tuple #[]), (.tuple #[]), (.tuple #[]), (.tuple #[]), (.tuple #[]), (.tuple #[]), (.tuple #[]), (.tuple #[]), (.tuple #[]), (.tuple #[]), (.tuple #[]), (.tuple #[]), (.tuple #[]), (.tuple #[]), (.tuple #[]), (.tuple #[]), (.tuple #[]), (.tuple #[]), (.tuple #[]), (.tuple #[]), (.tuple #[]), (.tuple #[]), (.tuple #[]), (.tuple #[]), (.tuple #[]), (.tuple #[]), (.tuple #[]), (.tuple #[]), (.tuple #[]), (.tuple #[]), (.tuple #[]), (.tuple #[]), (.tuple #[]), (.tuple #[]), (.tuple #[]), (.tuple #[]), (.tuple #[]), (.tuple #[]), (.tuple #[]), (.tuple #[]), (.tuple #[]), (.tuple #[]), (.tuple #[]), (.tuple #[]), (.tuple #[]), (.tuple #[]), (.tuple #[]), (.tuple #[]), (.tuple #[]), (.tuple #[]), (.tuple #[]), (.tuple #[]), (.tuple #[]), (.tuple #[]), (.tuple #[]), (.tuple #[]), (.tuple #[]), (.tuple #[]), (.tuple #[]), (.tuple #[]), (.tuple #[]), (.tuple #[]), (.tuple #[]), (.tuple #[]), (.tuple #[]), (.tuple #[]), (.tuple #[]), (.tuple #[]), (.tuple #[]), (.tuple #[]), (.tuple #[]), (.tuple #[]), (.tuple #[]), (.tuple #[]), (.tuple #[]), (.tuple #[]), (.tuple #[]), (.tuple #[]), (.tuple #[]), (.tuple #[]), (.tuple #[]), (.tuple #[]), (.tuple #[])] [] (Go.Vm.View.mk k [(Prod.mk 4 (Go.Obj.cells #[(.int .i64 lo), (.int .i64 hi)] 27 (Prod.mk 0 0))), (Prod.mk 3 (Go.Obj.cells #[(.int .i64 lo), (.int .i64 hi)] 27 (Prod.mk 0 0))), (Prod.mk 2 (Go.Obj.cells #[(.int .u8 w0), (.int .u8 w1)] 69 (Prod.mk 0 0))), (Prod.mk 1 (Go.Obj.cells #[(.int .u8 o0), (.int .u8 o1)] 69 (Prod.mk 0 0))), (Prod.mk 0 (Go.Obj.cells (Array.mk (cells l)) 71 (Prod.mk 0 1)))])) := by simp only [KCans, List.mem_cons, List.not_mem_nil, or_false] at hk; rcases hk with rfl | rfl | rfl | rfl | rfl | rfl | rfl | rfl | rfl | rfl | rfl | rfl | rfl | rfl | rfl | rfl | rfl | rfl | rfl | rfl | rfl <;> kernel_rfl
theorem c_next (x y a b1 c d : Int) (sh mo o0 o1 w0 w1 lo hi e : Int) (l : List (Int × Int)) (cap M q : Nat) (k : Nat) (b : CB) (hk : k ∈ KCans) : codeWP memo4 [0, 1, 2, 3, 4] (M + 20) (.mk [(52, .bool true), (55, .bool true), (62, .pointer (some ⟨0, 2 * b.i, none⟩)), (64, .int .i64 x), (66, .tuple #[.agg #[.int .i64 a, .int .i64 b1], .int .i64 0]), (72, .int .i64 (↑(b.i + 1))), (73, slc (b.i + 1) cap), (74, .tuple #[.agg #[.int .i64 c, .int .i64 d], .int .i64 0]), (78, .bool false), (81, .bool false), (86, .pointer (some ⟨0, 2 * b.i, none⟩)), (88, .int .i64 y), (91, .bool false), (96, .pointer (some ⟨0, 2 * b.i, none⟩)), (98, .int .i64 y), (101, .bool false), (108, .bool false), (115, .bool false), (58, .int .i64 (↑(b.i + 1)))] [] []) none (bodyOfLoop (loopOf 7 0)) (cTs l.length cap sh mo o0 o1 w0 w1 lo hi e b) [] (cV l o0 o1 w0 w1 lo hi k) (fun ex ts df V => RoundEnd (cInv l cap sh mo o0 o1 w0 w1 lo hi e) b [cOut l cap sh mo o0 o1 w0 w1 lo hi e q] ex ts df (match ex with | .normal => pruneV [0, 1, 2, 3, 4] V | _ => V)) = (
      OBin .lss 3 (.tmp 49) (.tmp 51) (.int .i64 (↑b.i)) (.int .i64 (↑l.length)) (.bool true) ∧
      OBin .eql 33 (.tmp 54) (.const (.int .i64 (0))) (.int .i64 e) (.int .i64 (0)) (.bool true) ∧
      OIx 65 (.slice (Option.some (Go.Addr.mk 0 0 Option.none)) (l.length) cap) (.int .i64 (↑b.i)) (.pointer (Option.some (Go.Addr.mk 0 (2 * b.i) Option.none))) ∧
      OLoad 2 (.pointer (Option.some (Go.Addr.mk 0 (2 * b.i) Option.none))) (Option.some (Go.Obj.cells (Array.mk (cells l)) 71 (Prod.mk 0 1))) (.int .i64 x) ∧
      OCall (memo4) 32 [(.int .i64 x), (.agg #[(.int .i64 lo), (.int .i64 hi)])] (Go.Vm.View.mk k [(Prod.mk 4 (Go.Obj.cells #[(.int .i64 lo), (.int .i64 hi)] 27 (Prod.mk 0 1))), (Prod.mk 3 (Go.Obj.cells #[(.int .i64 lo), (.int .i64 hi)] 27 (Prod.mk 0 1))), (Prod.mk 2 (Go.Obj.cells #[(.int .u8 w0), (.int .u8 w1)] 69 (Prod.mk 0 1))), (Prod.mk 1 (Go.Obj.cells #[(.int .u8 o0), (.int .u8 o1)] 69 (Prod.mk 0 1))), (Prod.mk 0 (Go.Obj.cells (Array.mk (cells l)) 71 (Prod.mk 0 1)))]) (.tuple #[(.agg #[(.int .i64 a), (.int .i64 b1)]), (.int .i64 (0))]) ∧
      OBin .add 3 (.tmp 71) (.const (.int .i64 (1))) (.int .i64 (↑b.i)) (.int .i64 (1)) (.int .i64 (↑(b.i + 1))) ∧
      OSl 65 (.slice (Option.some (Go.Addr.mk 0 0 Option.none)) (l.length) cap) Option.none (Option.some (.int .i64 (↑(b.i + 1)))) Option.none (.slice (Option.some (Go.Addr.mk 0 0 Option.none)) (b.i + 1) cap) ∧
      OCall (memo4) 34 [(.slice (Option.some (Go.Addr.mk 0 0 Option.none)) (b.i + 1) cap)] (Go.Vm.View.mk (k + 1) [(Prod.mk k (Go.Obj.cells #[(.int .i64 a), (.int .i64 b1)] 27 (Prod.mk 0 0))), (Prod.mk 4 (Go.Obj.cells #[(.int .i64 lo), (.int .i64 hi)] 27 (Prod.mk 0 0))), (Prod.mk 3 (Go.Obj.cells #[(.int .i64 lo), (.int .i64 hi)] 27 (Prod.mk 0 0))), (Prod.mk 2 (Go.Obj.cells #[(.int .u8 w0), (.int .u8 w1)] 69 (Prod.mk 0 0))), (Prod.mk 1 (Go.Obj.cells #[(.int .u8 o0), (.int .u8 o1)] 69 (Prod.mk 0 0))), (Prod.mk 0 (Go.Obj.cells (Array.mk (cells l)) 71 (Prod.mk 0 1)))]) (.tuple #[(.agg #[(.int .i64 c), (.int .i64 d)]), (.int .i64 (0))]) ∧
      OBin .neq 33 (.tmp 77) (.const (.int .i64 (0))) (.int .i64 (0)) (.int .i64 (0)) (.bool false) ∧
      OBin .neq 33 (.tmp 80) (.const (.int .i64 (0))) (.int .i64 (0)) (.int .i64 (0)) (.bool false) ∧
      OIx 65 (.slice (Option.some (Go.Addr.mk 0 0 Option.none)) (l.length) cap) (.int .i64 (↑b.i)) (.pointer (Option.some (Go.Addr.mk 0 (2 * b.i) Option.none))) ∧
      OLoad 2 (.pointer (Option.some (Go.Addr.mk 0 (2 * b.i + 1) Option.none))) (Option.some (Go.Obj.cells (Array.mk (cells l)) 71 (Prod.mk 0 1))) (.int .i64 y) ∧
      OBin .lss 2 (.tmp 88) (.tmp 90) (.int .i64 y) (.int .i64 a) (.bool false) ∧
      OIx 65 (.slice (Option.some (Go.Addr.mk 0 0 Option.none)) (l.length) cap) (.int .i64 (↑b.i)) (.pointer (Option.some (Go.Addr.mk 0 (2 * b.i) Option.none))) ∧
      OLoad 2 (.pointer (Option.some (Go.Addr.mk 0 (2 * b.i + 1) Option.none))) (Option.some (Go.Obj.cells (Array.mk (cells l)) 71 (Prod.mk 0 1))) (.int .i64 y) ∧
      OBin .gtr 2 (.tmp 98) (.tmp 100) (.int .i64 y) (.int .i64 b1) (.bool false) ∧
      OBin .lss 2 (.tmp 105) (.tmp 107) (.int .i64 c) (.int .i64 lo) (.bool false) ∧
      OBin .gtr 2 (.tmp 112) (.tmp 114) (.int .i64 d) (.int .i64 hi) (.bool false) ∧
      OBin .add 3 (.tmp 57) (.const (.int .i64 (1))) (.int .i64 (↑b.i)) (.int .i64 (1)) (.int .i64 (↑(b.i + 1))) ∧
      RoundEnd (cInv l cap sh mo o0 o1 w0 w1 lo hi e) b ([cOut l cap sh mo o0 o1 w0 w1 lo hi e q]) Go.Vm.Ex.normal [(.slice (Option.some (Go.Addr.mk 0 0 Option.none)) (l.length) cap), (.int .u32 sh), (.int .u32 mo), (.agg #[(.int .u8 o0), (.int .u8 o1)]), (.agg #[(.int .u8 w0), (.int .u8 w1)]), (.tuple #[]), (.tuple #[]), (.tuple #[]), (.pointer (Option.some (Go.Addr.mk 1 0 Option.none))), (.pointer (Option.some (Go.Addr.mk 2 0 Option.none))), (.bool false), (.pointer (Option.some (Go.Addr.mk 3 0 Option.none))), (.int .i64 e), (.pointer (Option.some (Go.Addr.mk 4 0 Option.none))), (.int .i64 e), (.int .i64 (↑(b.i + 1))), (.pointer (Option.some (Go.Addr.mk k 0 Option.none))), (.int .i64 (0)), (.pointer (Option.some (Go.Addr.mk (k + 1) 0 Option.none))), (.int .i64 (0)), (.tuple #[]), (.tuple #[]), (.tuple #[]), (.tuple #[]), (.tuple #[]), (.tuple #[]), (.tuple #[]), (.tuple #[]), (.tuple #[]), (.tuple #[]), (.tuple #[]), (.tuple #[]), (.slice (Option.some (Go.Addr.mk 0 0 Option.none)) (l.length) cap), (.int .i64 (↑l.length)), (.bool false), (.tuple #[]), (.tuple #[(.agg #[(.int .i64 lo), (.int .i64 hi)]), (.int .i64 e)]), (.slice (Option.some (Go.Addr.mk 0 0 Option.none)) (l.length) cap), (.tuple #[(.agg #[(.int .i64 lo), (.int .i64 hi)]), (.int .i64 e)]), (.agg #[(.int .i64 lo), (.int .i64 hi)]), (.int .i64 e), (.tuple #[(.agg #[(.int .i64 lo), (.int .i64 hi)]), (.int .i64 e)]), (.slice (Option.some (Go.Addr.mk 0 0 Option.none)) (l.length) cap), (.tuple #[(.agg #[(.int .i64 lo), (.int .i64 hi)]), (.int .i64 e)]), (.agg #[(.int .i64 lo), (.int .i64 hi)]), (.int .i64 e), (.int .i64 e), (.int .i64 e), (.bool false), (.int .i64 (↑b.i)), (.slice (Option.some (Go.Addr.mk 0 0 Option.none)) (l.length) cap), (.int .i64 (↑l.length)), (.bool true), (.bool true), (.int .i64 e), (.bool true), (.bool true), (.int .i64 (↑b.i)), (.int .i64 (↑(b.i + 1))), (.tuple #[(.agg #[(.int .i64 a), (.int .i64 b1)]), (.int .i64 (0))]), (.slice (Option.some (Go.Addr.mk 0 0 Option.none)) (l.length) cap), (.int .i64 (↑b.i)), (.pointer (Option.some (Go.Addr.mk 0 (2 * b.i) Option.none))), (.pointer (Option.some (Go.Addr.mk 0 (2 * b.i) Option.none))), (.int .i64 x), (.agg #[(.int .i64 lo), (.int .i64 hi)]), (.tuple #[(.agg #[(.int .i64 a), (.int .i64 b1)]), (.int .i64 (0))]), (.agg #[(.int .i64 a), (.int .i64 b1)]), (.int .i64 (0)), (.tuple #[(.agg #[(.int .i64 c), (.int .i64 d)]), (.int .i64 (0))]), (.slice (Option.some (Go.Addr.mk 0 0 Option.none)) (l.length) cap), (.int .i64 (↑b.i)), (.int .i64 (↑(b.i + 1))), (.slice (Option.some (Go.Addr.mk 0 0 Option.none)) (b.i + 1) cap), (.tuple #[(.agg #[(.int .i64 c), (.int .i64 d)]), (.int .i64 (0))]), (.agg #[(.int .i64 c), (.int .i64 d)]), (.int .i64 (0)), (.int .i64 (0)), (.bool false), (.bool false), (.int .i64 (0)), (.bool false), (.bool false), (.bool false), (.slice (Option.some (Go.Addr.mk 0 0 Option.none)) (l.length) cap), (.int .i64 (↑b.i)), (.pointer (Option.some (Go.Addr.mk 0 (2 * b.i) Option.none))), (.pointer (Option.some (Go.Addr.mk 0 (2 * b.i + 1) Option.none))), (.int .i64 y), (.pointer (Option.some (Go.Addr.mk k 0 Option.none))), (.int .i64 a), (.bool false), (.bool false), (.bool false), (.slice (Option.some (Go.Addr.mk 0 0 Option.none)) (l.length) cap), (.int .i64 (↑b.i)), (.pointer (Option.some (Go.Addr.mk 0 (2 * b.i) Option.none))), (.pointer (Option.some (Go.Addr.mk 0 (2 * b.i + 1) Option.none))), (.int .i64 y), (.pointer (Option.some (Go.Addr.mk k 1 Option.none))), (.int .i64 b1), (.bool false), (.bool false), (.bool false), (.pointer (Option.some (Go.Addr.mk (k + 1) 0 Option.none))), (.int .i64 c), (.pointer (Option.some (Go.Addr.mk 3 0 Option.none))), (.int .i64 lo), (.bool false), (.bool false), (.bool false), (.pointer (Option.some (Go.Addr.mk (k + 1) 1 Option.none))), (.int .i64 d), (.pointer (Option.some (Go.Addr.mk 3 1 Option.none))), (.int .i64 hi), (.bool false), (.bool false), (.tuple #[]), (.tuple #[]), (.tuple #[]), (.tuple #[]), (.tuple #[]), (.tuple #[]), (.tuple #[]), (.tuple #[]), (.tuple #[]), (.tuple #[]), (.tuple #[]), (.tuple #[]), (.tuple #[]), (.tuple #[]), (.tuple #[]), (.tuple #[]), (.tuple #[]), (.tuple #[]), (.tuple #[]), (.tuple #[]), (.tuple #[]), (.tuple #[]), (.tuple #[]), (.tuple #[]), (.tuple #[]), (.tuple #[]), (.tuple #[]), (.tuple #[]), (.tuple #[]), (.tuple #[]), (.tuple #[]), (.tuple #[]), (.tuple #[]), (.tuple #[]), (.tuple #[]), (.tuple #[]), (.tuple #[]), (.tuple #[]), (.tuple #[]), (.tuple #[]), (.tuple #[]), (.tuple #[]), (.tuple #[]), (.tuple #[]), (.tuple #[]), (.tuple #[]), (.tuple #[]), (.tuple #[]), (.tuple #[]), (.tuple #[]), (.tuple #[]), (.tuple #[]), (.tuple #[]), (.tuple #[]), (.tuple #[]), (.tuple #[]), (.tuple #[]), (.tuple #[]), (.tuple #[]), (.tuple #[]), (.tuple #[]), (.tuple #[]), (.tuple #[]), (.tuple #[]), (.tuple #[]), (.tuple #[]), (.tuple #[]), (.tuple #[]), (.tuple #[]), (.tuple #[]), (.tuple #[]), (.tuple #[]), (.tuple #[]), (.tuple #[]), (.tuple #[]), (.tuple #[]), (.tuple #[]), (.tuple #[]), (.tuple #[]), (.tuple #[]), (.tuple #[]), (.tuple #[]), (.tuple #[]), (.tuple #[]), (.tuple #[]), (.tuple #[]), (.tuple #[]), (.tuple #[]), (.tuple #[]), (.tuple #[]), (.tuple #[]), (.tuple #[]), (.tuple #[]), (.tuple #[]), (.tuple #[]), (.tuple #[]), (.tuple #[]), (.tuple #[]), (.tuple #[]), (.tuple #[]), (.tuple #[]), (.tuple #[]), (.tuple #[]), (.tuple #[]), (.tuple #[]), (.tuple #[]), (.tuple #[]), (.tuple #[]), (.tuple #[]), (.tuple #[]), (.tuple #[]), (.tuple #[]), (.tuple #[]), (.tuple #[]), (.tuple #[]), (.tuple #[]), (.tuple #[]), (.tuple #[])] [] (Go.Vm.View.mk (k + 2) [(Prod.mk 4 (Go.Obj.cells #[(.int .i64 lo), (.int .i64 hi)] 27 (Prod.mk 0 0))), (Prod.mk 3 (Go.Obj.cells #[(.int .i64 lo), (.int .i64 hi)] 27 (Prod.mk 0 0))), (Prod.mk 2 (Go.Obj.cells #[(.int .u8 w0), (.int .u8 w1)] 69 (Prod.mk 0 0))), (Prod.mk 1 (Go.Obj.cells #[(.int .u8 o0), (.int .u8 o1)] 69 (Prod.mk 0 0))), (Prod.mk 0 (Go.Obj.cells (Array.mk (cells l)) 71 (Prod.mk 0 1)))])) := by simp only [KCans, List.mem_cons, List.not_mem_nil, or_false] at hk; rcases hk with rfl | rfl | rfl | rfl | rfl | rfl | rfl | rfl | rfl | rfl | rfl | rfl | rfl | rfl | rfl | rfl | rfl | rfl | rfl | rfl | rfl <;> kernel_rfl

theorem find_past {k : Nat} {o : Obj} {r : List (Nat × Obj)} (h : k ≠ 0) : find ((k, o) :: r) 0 = find r 0 := by
  have h1 : Nat.beq k 0 = false := by
    cases hq : Nat.beq k 0 with
    | false => rfl
    | true => exact absurd (Nat.eq_of_beq_eq_true hq) h
  simp only [find, h1]
theorem loop7 : loopOf 7 0 = .loop (bodyOfLoop (loopOf 7 0)) := by kernel_rfl
theorem cans_loop (sh mo o0 o1 w0 w1 : Int) (l : List (Int × Int)) (cap : Nat) (hc : l.length ≤ cap) (hcap : cap < big) (hn : l.length ≤ 20) (hl : Cans l) : ∀ (M : Nat) (b : CB), (cInv l cap sh mo o0 o1 w0 w1 (loF l) (hiF l) 0).P b → (cInv l cap sh mo o0 o1 w0 w1 (loF l) (hiF l) 0).μ b + 20 < M →
    LoopRP memo4 [0, 1, 2, 3, 4] M none (.loop (bodyOfLoop (loopOf 7 0))) (cTs l.length cap sh mo o0 o1 w0 w1 (loF l) (hiF l) 0 b) [] (cV l o0 o1 w0 w1 (loF l) (hiF l) (5 + 2 * b.i)) [cOut l cap sh mo o0 o1 w0 w1 (loF l) (hiF l) 0 (5 + 2 * l.length)] := by
  refine loop_ruleP memo4_code (cInv l cap sh mo o0 o1 w0 w1 (loF l) (hiF l) 0) _ (N0 := 20) (by kernel_rfl) ?_
  intro M b hb1
  have hb1 : b.i ≤ l.length := hb1
  have hk := KCans_mem b.i (by omega)
  by_cases hi : b.i < l.length
  · obtain ⟨p, hx⟩ : ∃ p, l[b.i]? = some p := ⟨l[b.i], List.getElem?_eq_getElem hi⟩
    have hpm : p ∈ l := List.mem_of_getElem? hx
    obtain ⟨hm, hA, hB⟩ := can_in hl hpm
    have htl : (l.take (b.i + 1)).length = b.i + 1 := by simp; omega
    have hsub : ∀ q, q ∈ l.take (b.i + 1) → q ∈ l := fun q hq => List.mem_of_mem_take hq
    have hw := wornV_ok (l := l.take (b.i + 1)) (by omega) (by omega) (hl.sub hsub)
    have oe : ∀ (x y : Operand), OBin .neq 33 x y (.int .i64 0) (.int .i64 0) (.bool false) := fun x y => ob_neq (by simp)
    have q1 := ob_lss (t := 3) (x := .tmp 49) (y := .tmp 51) (k := .i64) (decide_eq_true (show (b.i : Int) < (l.length : Int) by omega))
    have q2 := ob_ix (cap := cap) (b := 0) (o := 0) (off := 2 * b.i) su65 si71 hi (by omega)
    have oa : ∀ x y, OBin .add 3 x y (.int .i64 (b.i : Int)) (.int .i64 1) (.int .i64 ((b.i + 1 : Nat) : Int)) := fun x y => ob_add64 (by omega) (by omega) (by omega)
    obtain ⟨info, hinfo⟩ : ∃ info, TP.info? 71 = some info := by
      cases hq : TP.info? 71 with
      | none => have := si71; rw [hq] at this; cases this
      | some i => exact ⟨i, rfl⟩
    refine ⟨_, (c_next p.1 p.2 (mL p.1 (hiF l)) (mH p.1 (loF l)) (loF (l.take (b.i + 1))) (hiF (l.take (b.i + 1))) sh mo o0 o1 w0 w1 (loF l) (hiF l) 0 l cap M (5 + 2 * l.length) (5 + 2 * b.i) b hk).mpr ⟨q1, ob_eql (by simp), q2, ob_load ag2 (cells_fst hx), ⟨call32, m4_meter (meterV_ok hm (by omega))⟩, oa _ _, ob_slice su65 hinfo (by omega) hcap, ⟨call34, m4_rows rfl rfl (by omega) (by omega) (by omega) hcap ((find_past (by omega)).trans rfl) hw⟩, oe _ _, oe _ _, q2, ob_load ag2 (cells_snd hx), ob_lss (decide_eq_false (by omega)), q2, ob_load ag2 (cells_snd hx), ob_gtr (decide_eq_false (by omega)), ob_lss (decide_eq_false (by have := lo_sub hsub; omega)), ob_gtr (decide_eq_false (by have := hi_sub hsub; omega)), oa _ _, ?_⟩⟩
    refine .againL (fun ts => ⟨b.i + 1, lget ts⟩) (show b.i + 1 ≤ l.length from hi) (show l.length - (b.i + 1) < l.length - b.i by omega) rfl rfl (congrArg (fun n => View.mk n _) (show 5 + 2 * b.i + 2 = 5 + 2 * (b.i + 1) by omega))
  · have e : b.i = l.length := by omega
    refine ⟨_, (c_out 0 0 0 0 0 0 sh mo o0 o1 w0 w1 (loF l) (hiF l) 0 l cap M (5 + 2 * l.length) (5 + 2 * b.i) b hk).mpr ⟨ob_lss (decide_eq_false (by omega)), ?_⟩⟩
    exact .outL (by simp) (cOut l cap sh mo o0 o1 w0 w1 (loF l) (hiF l) 0 (5 + 2 * l.length)) (by simp) (fun ts => ⟨b.i, lget ts⟩) trivial rfl rfl rfl (congrArg (fun n => View.mk n _) (show 5 + 2 * b.i = 5 + 2 * l.length by omega))
end Go.Vm
