/- The contract of stock's Worn. -/
import Derived.Test.YtcphndfipjifcaaVrSo
set_option linter.unusedVariables false
namespace Go.Vm
set_option maxRecDepth 100000
set_option maxHeartbeats 4000000
def KH : List Nat := [3, 4, 5, 6, 7, 8, 9, 10, 11, 12, 13, 14, 15, 16, 17, 18, 19, 20, 21, 22, 23]
theorem KH_mem : ∀ i, i < 21 → 3 + i ∈ KH := by decide
def unCells : List Value → Option (List (Int × Int))
  | [] => some []
  | [_] => none
  | x :: y :: r => match x, y with
    | .int .i64 a, .int .i64 b => match unCells r with
      | some l => some ((a, b) :: l)
      | none => none
    | _, _ => none
theorem unCells_cells : ∀ l, unCells (cells l) = some l
  | [] => rfl
  | p :: l => by
    rw [cells_cons]
    simp only [unCells, unCells_cells l]
theorem unCells_eq : ∀ {c : List Value} {l : List (Int × Int)}, unCells c = some l → c = cells l
  | [], l, h => by cases h; rfl
  | [_], l, h => by cases h
  | x :: y :: r, l, h => by
    unfold unCells at h
    split at h
    · split at h
      · rename_i l' hl
        cases h
        rw [unCells_eq hl, cells_cons]
      · cases h
    · cases h
open Classical in
noncomputable def canA (f : FuncId) (args c : List Value) : Option Value := match args with
  | [.slice (some ⟨0, 0, none⟩) n cap] => match unCells c with
    | some l => match Nat.beq n l.length && Nat.ble n 20 && Nat.blt cap big with
      | true => match Nat.beq f 95 with
        | true => some (.bool (allQ fit l))
        | false => match Nat.beq f 96 with
          | true => if ∀ p, p ∈ l → fit p then some (.bool (allQ bear l)) else none
          | false => none
      | false => none
    | none => none
  | _ => none
theorem canA_ok : SelfOK TP (oracleR canA) := oracleR_ok fun f args c v h => by
  unfold canA at h
  split at h
  · rename_i n cap
    split at h
    · rename_i l hl
      split at h
      · rename_i hk
        simp only [Bool.and_eq_true, Nat.blt_eq] at hk
        have h1 := Nat.eq_of_beq_eq_true hk.1.1
        have h2 := Nat.le_of_ble_eq_true hk.1.2
        have hc := unCells_eq hl
        subst hc h1
        split at h
        · rename_i hf
          have := Nat.eq_of_beq_eq_true hf
          subst this
          cases h
          exact ⟨cells_flat l, rfl, fun w b off hr => cansFit_any l cap hk.2 h2 w b off hr⟩
        · split at h
          · rename_i hf
            have := Nat.eq_of_beq_eq_true hf
            subst this
            split at h
            · rename_i hfit
              cases h
              exact ⟨cells_flat l, rfl, fun w b off hr => bearable_any l cap hk.2 h2 hfit w b off hr⟩
            · cases h
          · cases h
      · cases h
    · cases h
  · cases h
noncomputable def memo2 : Job → Option Out := orF memo1 (oracleR canA)
theorem memo2_code : ∀ ar c ts df V, memo2 (.code ar c ts df V) = none := fun _ _ _ _ _ => rfl
theorem memo2_ok : SelfOK TP memo2 := SelfOK.or memo1_ok canA_ok
theorem m2_call {f : FuncId} {args : List Value} {V : View} {v : Value} (h : smF f args = some v) : memo2 (.call f args V) = some (.value v V) := by simp only [memo2, orF, m1_call h]
theorem orF_none {a b : Job → Option Out} {j : Job} (h : a j = none) : orF a b j = b j := by simp only [orF, h]
theorem m2_rows {V : View} {l : List (Int × Int)} {f : FuncId} {cap : Nat} {e : TypeId} {fz : Nat × Nat} {v : Value} (hf1 : smF f [slc l.length cap] = none) (hf2 : Nat.beq f 90 = false) (hf : find V.objs 0 = some (.cells ⟨cells l⟩ e fz)) (hcap : cap < big) (hv : canA f [slc l.length cap] (cells l) = some v) :
    memo2 (.call f [slc l.length cap] V) = some (.value v V) := by
  unfold memo2
  rw [orF_none (m1_none hf1 hf2)]
  have e1 : blockArg [slc l.length cap] = some 0 := rfl
  have e2 : [slc l.length cap].all (okArgB 0) = true := by simp [slc, okArgB, hcap]
  have e3 : [slc l.length cap].map to0 = [slc l.length cap] := rfl
  simp only [oracleR, e1, e2, hf, e3, hv]
theorem can95 {l : List (Int × Int)} {cap : Nat} (hcap : cap < big) (hn : l.length ≤ 20) : canA 95 [slc l.length cap] (cells l) = some (.bool (allQ fit l)) := by
  have e : (Nat.beq l.length l.length && Nat.ble l.length 20 && Nat.blt cap big) = true := by
    rw [Nat.beq_refl, Nat.ble_eq_true_of_le hn]; simpa using hcap
  simp only [canA, unCells_cells, e]
  try rfl
theorem can96 {l : List (Int × Int)} {cap : Nat} (hcap : cap < big) (hn : l.length ≤ 20) (hf : ∀ p, p ∈ l → fit p) : canA 96 [slc l.length cap] (cells l) = some (.bool (allQ bear l)) := by
  have e : (Nat.beq l.length l.length && Nat.ble l.length 20 && Nat.blt cap big) = true := by
    rw [Nat.beq_refl, Nat.ble_eq_true_of_le hn]; simpa using hcap
  simp only [canA, unCells_cells, e]
  exact if_pos hf
structure WN where
  i : Nat
  lo : Int
  hi : Int
  j : Nat → Value
def hV (l : List (Int × Int)) (k : Nat) (lo hi : Int) : View := ⟨k, [(2, .cells #[.int .i64 lo, .int .i64 hi] 27 (0, 0)), (1, .cells #[.int .i64 0, .int .i64 0] 27 (0, 0)), (0, .cells ⟨cells l⟩ 71 (0, 1))]⟩
def hTs (n cap : Nat) (b : WN) : List Value := [slc n cap, undef, (.pointer (some (Addr.mk 1 0 none))), (.int .i64 (0)), (.pointer (some (Addr.mk 2 0 none))), undef, b.j 6, (.bool false), slc n cap, (.int .i64 n), (.bool false), (.bool false), slc n cap, (.int .i64 n), (.bool false), (.bool false), undef, (.bool false), slc n cap, (.bool true), (.bool false), undef, (.bool false), slc n cap, (.bool true), (.bool false), undef, (.agg #[(.int .i64 (100)), (.int .i64 (-100))]), slc n cap, (.int .i64 n), .int .i64 b.i, b.j 31, b.j 32, b.j 33, b.j 34, b.j 35, b.j 36, b.j 37, b.j 38, b.j 39, b.j 40, b.j 41, b.j 42, b.j 43, b.j 44, b.j 45, b.j 46, b.j 47, b.j 48, b.j 49, b.j 50, b.j 51, b.j 52, b.j 53]
def loF (l : List (Int × Int)) : Int := l.foldl (fun a p => min a (exc p / p.2)) 100
def hiF (l : List (Int × Int)) : Int := l.foldl (fun a p => max a (ceil (exc p) p.2)) (-100)
def hInv (l : List (Int × Int)) (cap : Nat) : LInv := ⟨WN, hTs l.length cap, [], fun b => hV l (3 + b.i) b.lo b.hi, fun b => b.i ≤ l.length ∧ b.lo = loF (l.take b.i) ∧ b.hi = hiF (l.take b.i), fun b => l.length - b.i⟩
def hOut (l : List (Int × Int)) (cap : Nat) : LoopEnd := ⟨WN, fun _ => .exit 1, hTs l.length cap, [], fun b => hV l (3 + b.i) b.lo b.hi, fun b => b.lo = loF l ∧ b.hi = hiF l⟩
theorem h_out (x y q u : Int) (l : List (Int × Int)) (cap M : Nat) (k : Nat) (b : WN) (hk : k ∈ KH) : codeWP memo2 [0, 1, 2] (M + 20) (.mk [(31, .bool false)] [] []) none (bodyOfLoop (loopOf 34 0)) (hTs l.length cap b) [] (hV l k b.lo b.hi) (fun e ts df V => RoundEnd (hInv l cap) b [hOut l cap] e ts df (match e with | .normal => pruneV [0, 1, 2] V | _ => V)) = (
      OBin .lss 3 (.tmp 30) (.tmp 29) (.int .i64 (↑b.i)) (.int .i64 (↑l.length)) (.bool false) ∧
      RoundEnd (hInv l cap) b ([hOut l cap]) (Go.Vm.Ex.exit 1) [(.slice (Option.some (Go.Addr.mk 0 0 Option.none)) (l.length) cap), (.tuple #[]), (.pointer (Option.some (Go.Addr.mk 1 0 Option.none))), (.int .i64 (0)), (.pointer (Option.some (Go.Addr.mk 2 0 Option.none))), (.tuple #[]), (b.j 6), (.bool false), (.slice (Option.some (Go.Addr.mk 0 0 Option.none)) (l.length) cap), (.int .i64 (↑l.length)), (.bool false), (.bool false), (.slice (Option.some (Go.Addr.mk 0 0 Option.none)) (l.length) cap), (.int .i64 (↑l.length)), (.bool false), (.bool false), (.tuple #[]), (.bool false), (.slice (Option.some (Go.Addr.mk 0 0 Option.none)) (l.length) cap), (.bool true), (.bool false), (.tuple #[]), (.bool false), (.slice (Option.some (Go.Addr.mk 0 0 Option.none)) (l.length) cap), (.bool true), (.bool false), (.tuple #[]), (.agg #[(.int .i64 (100)), (.int .i64 (-100))]), (.slice (Option.some (Go.Addr.mk 0 0 Option.none)) (l.length) cap), (.int .i64 (↑l.length)), (.int .i64 (↑b.i)), (.bool false), (b.j 32), (b.j 33), (b.j 34), (b.j 35), (b.j 36), (b.j 37), (b.j 38), (b.j 39), (b.j 40), (b.j 41), (b.j 42), (b.j 43), (b.j 44), (b.j 45), (b.j 46), (b.j 47), (b.j 48), (b.j 49), (b.j 50), (b.j 51), (b.j 52), (b.j 53)] [] (Go.Vm.View.mk k [(Prod.mk 2 (Go.Obj.cells #[(.int .i64 (b.lo)), (.int .i64 (b.hi))] 27 (Prod.mk 0 0))), (Prod.mk 1 (Go.Obj.cells #[(.int .i64 (0)), (.int .i64 (0))] 27 (Prod.mk 0 0))), (Prod.mk 0 (Go.Obj.cells (Array.mk (cells l)) 71 (Prod.mk 0 1)))])) := by simp only [KH, List.mem_cons, List.not_mem_nil, or_false] at hk; rcases hk with rfl | rfl | rfl | rfl | rfl | rfl | rfl | rfl | rfl | rfl | rfl | rfl | rfl | rfl | rfl | rfl | rfl | rfl | rfl | rfl | rfl <;> kernel_rfl
theorem h_next (x y q u : Int) (l : List (Int × Int)) (cap M : Nat) (k : Nat) (b : WN) (hk : k ∈ KH) : codeWP memo2 [0, 1, 2] (M + 20) (.mk [(31, .bool true), (32, .pointer (some ⟨0, 2 * b.i, none⟩)), (33, .agg #[.int .i64 x, .int .i64 y]), (37, .int .i64 (1000 * (x - y))), (40, .int .i64 q), (41, .int .i64 (min b.lo q)), (46, .int .i64 (1000 * (x - y))), (49, .int .i64 u), (50, .int .i64 (max b.hi u)), (52, .int .i64 (↑(b.i + 1)))] [] []) none (bodyOfLoop (loopOf 34 0)) (hTs l.length cap b) [] (hV l k b.lo b.hi) (fun e ts df V => RoundEnd (hInv l cap) b [hOut l cap] e ts df (match e with | .normal => pruneV [0, 1, 2] V | _ => V)) = (
      OBin .lss 3 (.tmp 30) (.tmp 29) (.int .i64 (↑b.i)) (.int .i64 (↑l.length)) (.bool true) ∧
      OIx 65 (.slice (Option.some (Go.Addr.mk 0 0 Option.none)) (l.length) cap) (.int .i64 (↑b.i)) (.pointer (Option.some (Go.Addr.mk 0 (2 * b.i) Option.none))) ∧
      OLoad 71 (.pointer (Option.some (Go.Addr.mk 0 (2 * b.i) Option.none))) (Option.some (Go.Obj.cells (Array.mk (cells l)) 71 (Prod.mk 0 1))) (.agg #[(.int .i64 x), (.int .i64 y)]) ∧
      OCall (memo2) 97 [(.agg #[(.int .i64 x), (.int .i64 y)])] (Go.Vm.View.mk (k + 1) [(Prod.mk k (Go.Obj.cells #[(.int .i64 x), (.int .i64 y)] 71 (Prod.mk 0 1))), (Prod.mk 2 (Go.Obj.cells #[(.int .i64 (b.lo)), (.int .i64 (b.hi))] 27 (Prod.mk 0 1))), (Prod.mk 1 (Go.Obj.cells #[(.int .i64 (0)), (.int .i64 (0))] 27 (Prod.mk 0 1))), (Prod.mk 0 (Go.Obj.cells (Array.mk (cells l)) 71 (Prod.mk 0 1)))]) (.int .i64 (1000 * (x - y))) ∧
      OCall (memo2) 93 [(.int .i64 (1000 * (x - y))), (.int .i64 y)] (Go.Vm.View.mk (k + 1) [(Prod.mk k (Go.Obj.cells #[(.int .i64 x), (.int .i64 y)] 71 (Prod.mk 0 1))), (Prod.mk 2 (Go.Obj.cells #[(.int .i64 (b.lo)), (.int .i64 (b.hi))] 27 (Prod.mk 0 1))), (Prod.mk 1 (Go.Obj.cells #[(.int .i64 (0)), (.int .i64 (0))] 27 (Prod.mk 0 1))), (Prod.mk 0 (Go.Obj.cells (Array.mk (cells l)) 71 (Prod.mk 0 1)))]) (.int .i64 q) ∧
      OMin #[2, 2] 2 [(.int .i64 (b.lo)), (.int .i64 q)] (.int .i64 (min b.lo q)) ∧
      OCall (memo2) 97 [(.agg #[(.int .i64 x), (.int .i64 y)])] (Go.Vm.View.mk (k + 1) [(Prod.mk k (Go.Obj.cells #[(.int .i64 x), (.int .i64 y)] 71 (Prod.mk 0 1))), (Prod.mk 2 (Go.Obj.cells #[(.int .i64 (min b.lo q)), (.int .i64 (b.hi))] 27 (Prod.mk 0 1))), (Prod.mk 1 (Go.Obj.cells #[(.int .i64 (0)), (.int .i64 (0))] 27 (Prod.mk 0 1))), (Prod.mk 0 (Go.Obj.cells (Array.mk (cells l)) 71 (Prod.mk 0 1)))]) (.int .i64 (1000 * (x - y))) ∧
      OCall (memo2) 92 [(.int .i64 (1000 * (x - y))), (.int .i64 y)] (Go.Vm.View.mk (k + 1) [(Prod.mk k (Go.Obj.cells #[(.int .i64 x), (.int .i64 y)] 71 (Prod.mk 0 1))), (Prod.mk 2 (Go.Obj.cells #[(.int .i64 (min b.lo q)), (.int .i64 (b.hi))] 27 (Prod.mk 0 1))), (Prod.mk 1 (Go.Obj.cells #[(.int .i64 (0)), (.int .i64 (0))] 27 (Prod.mk 0 1))), (Prod.mk 0 (Go.Obj.cells (Array.mk (cells l)) 71 (Prod.mk 0 1)))]) (.int .i64 u) ∧
      OMax #[2, 2] 2 [(.int .i64 (b.hi)), (.int .i64 u)] (.int .i64 (max b.hi u)) ∧
      OBin .add 3 (.tmp 30) (.const (.int .i64 (1))) (.int .i64 (↑b.i)) (.int .i64 (1)) (.int .i64 (↑(b.i + 1))) ∧
      RoundEnd (hInv l cap) b ([hOut l cap]) Go.Vm.Ex.normal [(.slice (Option.some (Go.Addr.mk 0 0 Option.none)) (l.length) cap), (.tuple #[]), (.pointer (Option.some (Go.Addr.mk 1 0 Option.none))), (.int .i64 (0)), (.pointer (Option.some (Go.Addr.mk 2 0 Option.none))), (.tuple #[]), (.pointer (Option.some (Go.Addr.mk k 0 Option.none))), (.bool false), (.slice (Option.some (Go.Addr.mk 0 0 Option.none)) (l.length) cap), (.int .i64 (↑l.length)), (.bool false), (.bool false), (.slice (Option.some (Go.Addr.mk 0 0 Option.none)) (l.length) cap), (.int .i64 (↑l.length)), (.bool false), (.bool false), (.tuple #[]), (.bool false), (.slice (Option.some (Go.Addr.mk 0 0 Option.none)) (l.length) cap), (.bool true), (.bool false), (.tuple #[]), (.bool false), (.slice (Option.some (Go.Addr.mk 0 0 Option.none)) (l.length) cap), (.bool true), (.bool false), (.tuple #[]), (.agg #[(.int .i64 (100)), (.int .i64 (-100))]), (.slice (Option.some (Go.Addr.mk 0 0 Option.none)) (l.length) cap), (.int .i64 (↑l.length)), (.int .i64 (↑(b.i + 1))), (.bool true), (.pointer (Option.some (Go.Addr.mk 0 (2 * b.i) Option.none))), (.agg #[(.int .i64 x), (.int .i64 y)]), (.pointer (Option.some (Go.Addr.mk 2 0 Option.none))), (.int .i64 (b.lo)), (.agg #[(.int .i64 x), (.int .i64 y)]), (.int .i64 (1000 * (x - y))), (.pointer (Option.some (Go.Addr.mk k 1 Option.none))), (.int .i64 y), (.int .i64 q), (.int .i64 (min b.lo q)), (.pointer (Option.some (Go.Addr.mk 2 0 Option.none))), (.pointer (Option.some (Go.Addr.mk 2 1 Option.none))), (.int .i64 (b.hi)), (.agg #[(.int .i64 x), (.int .i64 y)]), (.int .i64 (1000 * (x - y))), (.pointer (Option.some (Go.Addr.mk k 1 Option.none))), (.int .i64 y), (.int .i64 u), (.int .i64 (max b.hi u)), (.pointer (Option.some (Go.Addr.mk 2 1 Option.none))), (.int .i64 (↑(b.i + 1))), (b.j 53)] [] (Go.Vm.View.mk (k + 1) [(Prod.mk 2 (Go.Obj.cells #[(.int .i64 (min b.lo q)), (.int .i64 (max b.hi u))] 27 (Prod.mk 0 0))), (Prod.mk 1 (Go.Obj.cells #[(.int .i64 (0)), (.int .i64 (0))] 27 (Prod.mk 0 0))), (Prod.mk 0 (Go.Obj.cells (Array.mk (cells l)) 71 (Prod.mk 0 1)))])) := by simp only [KH, List.mem_cons, List.not_mem_nil, or_false] at hk; rcases hk with rfl | rfl | rfl | rfl | rfl | rfl | rfl | rfl | rfl | rfl | rfl | rfl | rfl | rfl | rfl | rfl | rfl | rfl | rfl | rfl | rfl <;> kernel_rfl
theorem wn_1 (l : List (Int × Int)) (cap : Nat) (r : Value) : callWP memo2 [0, 1, 2] (.mk [(10, .bool true)] [] []) 1000 34 [slc l.length cap] (rowV (cells l) 71) (fun v => v = r) = (
      OBin .lss 3 (.tmp 9) (.const (.int .i64 (1))) (.int .i64 (↑l.length)) (.int .i64 (1)) (.bool true) ∧
      ((Go.Value.tuple #[(Go.Value.agg #[(Go.Value.int Go.IntKind.i64 (0)), (Go.Value.int Go.IntKind.i64 (0))]), (Go.Value.int Go.IntKind.i64 (6))]) = r)) := by kernel_rfl
theorem wn_2 (l : List (Int × Int)) (cap : Nat) (r : Value) : callWP memo2 [0, 1, 2] (.mk [(10, .bool false), (14, .bool true)] [] []) 1000 34 [slc l.length cap] (rowV (cells l) 71) (fun v => v = r) = (
      OBin .lss 3 (.tmp 9) (.const (.int .i64 (1))) (.int .i64 (↑l.length)) (.int .i64 (1)) (.bool false) ∧
      OBin .gtr 3 (.tmp 13) (.const (.int .i64 (20))) (.int .i64 (↑l.length)) (.int .i64 (20)) (.bool true) ∧
      ((Go.Value.tuple #[(Go.Value.agg #[(Go.Value.int Go.IntKind.i64 (0)), (Go.Value.int Go.IntKind.i64 (0))]), (Go.Value.int Go.IntKind.i64 (6))]) = r)) := by kernel_rfl
theorem wn_3 (l : List (Int × Int)) (cap : Nat) (r : Value) : callWP memo2 [0, 1, 2] (.mk [(10, .bool false), (14, .bool false), (19, .bool false)] [] []) 1000 34 [slc l.length cap] (rowV (cells l) 71) (fun v => v = r) = (
      OBin .lss 3 (.tmp 9) (.const (.int .i64 (1))) (.int .i64 (↑l.length)) (.int .i64 (1)) (.bool false) ∧
      OBin .gtr 3 (.tmp 13) (.const (.int .i64 (20))) (.int .i64 (↑l.length)) (.int .i64 (20)) (.bool false) ∧
      OCall (memo2) 95 [(.slice (Option.some (Go.Addr.mk 0 0 Option.none)) (l.length) cap)] (Go.Vm.View.mk 2 [(Prod.mk 1 (Go.Obj.cells #[(.int .i64 (0)), (.int .i64 (0))] 27 (Prod.mk 0 0))), (Prod.mk 0 (Go.Obj.cells (Array.mk (cells l)) 71 (Prod.mk 0 1)))]) (.bool false) ∧
      ((Go.Value.tuple #[(Go.Value.agg #[(Go.Value.int Go.IntKind.i64 (0)), (Go.Value.int Go.IntKind.i64 (0))]), (Go.Value.int Go.IntKind.i64 (3))]) = r)) := by kernel_rfl
theorem wn_4 (l : List (Int × Int)) (cap : Nat) (r : Value) : callWP memo2 [0, 1, 2] (.mk [(10, .bool false), (14, .bool false), (19, .bool true), (24, .bool false)] [] []) 1000 34 [slc l.length cap] (rowV (cells l) 71) (fun v => v = r) = (
      OBin .lss 3 (.tmp 9) (.const (.int .i64 (1))) (.int .i64 (↑l.length)) (.int .i64 (1)) (.bool false) ∧
      OBin .gtr 3 (.tmp 13) (.const (.int .i64 (20))) (.int .i64 (↑l.length)) (.int .i64 (20)) (.bool false) ∧
      OCall (memo2) 95 [(.slice (Option.some (Go.Addr.mk 0 0 Option.none)) (l.length) cap)] (Go.Vm.View.mk 2 [(Prod.mk 1 (Go.Obj.cells #[(.int .i64 (0)), (.int .i64 (0))] 27 (Prod.mk 0 0))), (Prod.mk 0 (Go.Obj.cells (Array.mk (cells l)) 71 (Prod.mk 0 1)))]) (.bool true) ∧
      OCall (memo2) 96 [(.slice (Option.some (Go.Addr.mk 0 0 Option.none)) (l.length) cap)] (Go.Vm.View.mk 2 [(Prod.mk 1 (Go.Obj.cells #[(.int .i64 (0)), (.int .i64 (0))] 27 (Prod.mk 0 0))), (Prod.mk 0 (Go.Obj.cells (Array.mk (cells l)) 71 (Prod.mk 0 1)))]) (.bool false) ∧
      ((Go.Value.tuple #[(Go.Value.agg #[(Go.Value.int Go.IntKind.i64 (0)), (Go.Value.int Go.IntKind.i64 (0))]), (Go.Value.int Go.IntKind.i64 (2))]) = r)) := by kernel_rfl
theorem wn_5 (l : List (Int × Int)) (cap : Nat) (r : Value) : callWP memo2 [0, 1, 2] (.mk [(10, .bool false), (14, .bool false), (19, .bool true), (24, .bool true)] [] [hOut l cap]) 1000 34 [slc l.length cap] (rowV (cells l) 71) (fun v => v = r) = (
      OBin .lss 3 (.tmp 9) (.const (.int .i64 (1))) (.int .i64 (↑l.length)) (.int .i64 (1)) (.bool false) ∧
      OBin .gtr 3 (.tmp 13) (.const (.int .i64 (20))) (.int .i64 (↑l.length)) (.int .i64 (20)) (.bool false) ∧
      OCall (memo2) 95 [(.slice (Option.some (Go.Addr.mk 0 0 Option.none)) (l.length) cap)] (Go.Vm.View.mk 2 [(Prod.mk 1 (Go.Obj.cells #[(.int .i64 (0)), (.int .i64 (0))] 27 (Prod.mk 0 0))), (Prod.mk 0 (Go.Obj.cells (Array.mk (cells l)) 71 (Prod.mk 0 1)))]) (.bool true) ∧
      OCall (memo2) 96 [(.slice (Option.some (Go.Addr.mk 0 0 Option.none)) (l.length) cap)] (Go.Vm.View.mk 2 [(Prod.mk 1 (Go.Obj.cells #[(.int .i64 (0)), (.int .i64 (0))] 27 (Prod.mk 0 0))), (Prod.mk 0 (Go.Obj.cells (Array.mk (cells l)) 71 (Prod.mk 0 1)))]) (.bool true) ∧
      LoopRP (memo2) [0, 1, 2] 994 Option.none (loopOf 34 0) [(.slice (Option.some (Go.Addr.mk 0 0 Option.none)) (l.length) cap), (.tuple #[]), (.pointer (Option.some (Go.Addr.mk 1 0 Option.none))), (.int .i64 (0)), (.pointer (Option.some (Go.Addr.mk 2 0 Option.none))), (.tuple #[]), (.tuple #[]), (.bool false), (.slice (Option.some (Go.Addr.mk 0 0 Option.none)) (l.length) cap), (.int .i64 (↑l.length)), (.bool false), (.bool false), (.slice (Option.some (Go.Addr.mk 0 0 Option.none)) (l.length) cap), (.int .i64 (↑l.length)), (.bool false), (.bool false), (.tuple #[]), (.bool false), (.slice (Option.some (Go.Addr.mk 0 0 Option.none)) (l.length) cap), (.bool true), (.bool false), (.tuple #[]), (.bool false), (.slice (Option.some (Go.Addr.mk 0 0 Option.none)) (l.length) cap), (.bool true), (.bool false), (.tuple #[]), (.agg #[(.int .i64 (100)), (.int .i64 (-100))]), (.slice (Option.some (Go.Addr.mk 0 0 Option.none)) (l.length) cap), (.int .i64 (↑l.length)), (.int .i64 (0)), (.tuple #[]), (.tuple #[]), (.tuple #[]), (.tuple #[]), (.tuple #[]), (.tuple #[]), (.tuple #[]), (.tuple #[]), (.tuple #[]), (.tuple #[]), (.tuple #[]), (.tuple #[]), (.tuple #[]), (.tuple #[]), (.tuple #[]), (.tuple #[]), (.tuple #[]), (.tuple #[]), (.tuple #[]), (.tuple #[]), (.tuple #[]), (.tuple #[]), (.tuple #[])] [] (Go.Vm.View.mk 3 [(Prod.mk 2 (Go.Obj.cells #[(.int .i64 (100)), (.int .i64 (-100))] 27 (Prod.mk 0 0))), (Prod.mk 1 (Go.Obj.cells #[(.int .i64 (0)), (.int .i64 (0))] 27 (Prod.mk 0 0))), (Prod.mk 0 (Go.Obj.cells (Array.mk (cells l)) 71 (Prod.mk 0 1)))]) ([hOut l cap]) ∧
      (∀ z0 : (hOut l cap).α,
      ((hOut l cap).P z0 →
        ((Go.Value.tuple #[(Go.Value.agg #[(Go.Value.int Go.IntKind.i64 (z0.lo)), (Go.Value.int Go.IntKind.i64 (z0.hi))]), (Go.Value.int Go.IntKind.i64 (0))]) = r))) ∧
      True) := by kernel_rfl

theorem call92 : callOk TP 92 = true := by kernel_rfl
theorem call93 : callOk TP 93 = true := by kernel_rfl
theorem call95 : callOk TP 95 = true := by kernel_rfl
theorem call96 : callOk TP 96 = true := by kernel_rfl
theorem loop34 : loopOf 34 0 = .loop (bodyOfLoop (loopOf 34 0)) := by kernel_rfl
theorem take_next {l : List (Int × Int)} {i : Nat} {p : Int × Int} (h : l[i]? = some p) : l.take (i + 1) = l.take i ++ [p] := by
  rw [List.take_add_one, h]; rfl
theorem loF_next {l : List (Int × Int)} {p : Int × Int} : loF (l ++ [p]) = min (loF l) (exc p / p.2) := by simp [loF, List.foldl_append]
theorem hiF_next {l : List (Int × Int)} {p : Int × Int} : hiF (l ++ [p]) = max (hiF l) (ceil (exc p) p.2) := by simp [hiF, List.foldl_append]
theorem worn_loop (l : List (Int × Int)) (cap : Nat) (hn : l.length ≤ 20) (hf : ∀ p, p ∈ l → fit p) : ∀ (M : Nat) (b : WN), (hInv l cap).P b → (hInv l cap).μ b + 20 < M →
    LoopRP memo2 [0, 1, 2] M none (.loop (bodyOfLoop (loopOf 34 0))) (hTs l.length cap b) [] (hV l (3 + b.i) b.lo b.hi) [hOut l cap] := by
  refine loop_ruleP memo2_code (hInv l cap) _ (N0 := 20) (by kernel_rfl) ?_
  intro M b ⟨hb1, hb2, hb3⟩
  have hk := KH_mem b.i (by omega)
  by_cases hi : b.i < l.length
  · obtain ⟨p, hx⟩ : ∃ p, l[b.i]? = some p := ⟨l[b.i], List.getElem?_eq_getElem hi⟩
    have hpm : p ∈ l := List.mem_of_getElem? hx
    have hfp := hf p hpm
    obtain ⟨⟨f1, f2⟩, f3, f4⟩ := hf p hpm
    have hbd := exc_bd hfp
    obtain ⟨r, hr⟩ := cells_drop hx
    have o1 := ob_lss (t := 3) (x := .tmp 30) (y := .tmp 29) (k := .i64) (decide_eq_true (show (b.i : Int) < (l.length : Int) by omega))
    have o2 := ob_ix (cap := cap) (b := 0) (o := 0) (off := 2 * b.i) su65 si71 hi (by omega)
    have o3 := ob_load2 (b := 0) (e := 71) (fz := (0, 1)) hr
    have z1 : excA [.agg #[.int .i64 p.1, .int .i64 p.2]] = some (.int .i64 (1000 * (p.1 - p.2))) := exc_at (by omega) (by omega)
    refine ⟨_, (h_next p.1 p.2 (exc p / p.2) (ceil (exc p) p.2) l cap M (3 + b.i) b hk).mpr ⟨o1, o2, o3, ⟨call97, m2_call z1⟩, ⟨call93, m2_call (down_at (by omega) (by omega) (by omega))⟩, ob_min (by split <;> omega), ⟨call97, m2_call z1⟩, ⟨call92, m2_call (up_at (by omega) (by omega) (by omega))⟩, ob_max (by split <;> omega), ob_add64 (by omega) (by omega) (by omega), ?_⟩⟩
    refine .againL (fun ts => ⟨b.i + 1, min b.lo (exc p / p.2), max b.hi (ceil (exc p) p.2), lget ts⟩) ⟨hi, ?_, ?_⟩ (show l.length - (b.i + 1) < l.length - b.i by omega) rfl rfl (congrArg (fun n => View.mk n _) (show 3 + b.i + 1 = 3 + (b.i + 1) by omega))
    · show min b.lo (exc p / p.2) = loF (l.take (b.i + 1))
      rw [take_next hx, loF_next, hb2]
    · show max b.hi (ceil (exc p) p.2) = hiF (l.take (b.i + 1))
      rw [take_next hx, hiF_next, hb3]
  · refine ⟨_, (h_out 0 0 0 0 l cap M (3 + b.i) b hk).mpr ⟨ob_lss (decide_eq_false (by omega)), ?_⟩⟩
    have e : l.take b.i = l := List.take_of_length_le (by omega)
    rw [e] at hb2 hb3
    exact .outL (by simp) (hOut l cap) (by simp) (fun ts => ⟨b.i, b.lo, b.hi, lget ts⟩) ⟨hb2, hb3⟩ rfl rfl rfl rfl
/-- what both functions return of cans -/
noncomputable def wornV (l : List (Int × Int)) : Value :=
  if l.length < 1 ∨ 20 < l.length then errV 6 else if allQ fit l = false then errV 3 else if allQ bear l = false then errV 2 else .tuple #[.agg #[.int .i64 (loF l), .int .i64 (hiF l)], .int .i64 0]
theorem worn_flat (l : List (Int × Int)) : flatN 3 (wornV l) = true := by
  unfold wornV
  split
  · rfl
  · split
    · rfl
    · split <;> rfl
theorem m2_none {f : FuncId} {args : List Value} {V : View} (h1 : smF f args = none) (h2 : Nat.beq f 90 = false) (h3 : ∀ a c, canA f a c = none) : memo2 (.call f args V) = none := by
  unfold memo2
  rw [orF_none (m1_none h1 h2)]
  simp only [oracleR, h3]
  repeat' split
  all_goals rfl
theorem can_no {f : FuncId} (h1 : Nat.beq f 95 = false) (h2 : Nat.beq f 96 = false) (a c : List Value) : canA f a c = none := by
  unfold canA
  simp only [h1, h2]
  repeat' split
  all_goals rfl
theorem worn_any (l : List (Int × Int)) (cap : Nat) (hcap : cap < big) (hn : l.length ≤ 1000) (w : World) (b off : Nat) (hr : RowsAt w b off (cells l)) :
    Calls TP 34 #[.slice (some ⟨b, off + 0, none⟩) l.length cap] w fun e w' => e = .returned (wornV l) ∧ RowKit.Below w.heap.size w w' := by
  have go : ∀ adv, callWP memo2 [0, 1, 2] adv 1000 34 [slc l.length cap] (rowV (cells l) 71) (fun v => v = wornV l) → Calls TP 34 #[.slice (some ⟨b, off + 0, none⟩) l.length cap] w fun e w' => e = .returned (wornV l) ∧ RowKit.Below w.heap.size w w' := fun adv h =>
    run_val (call_rowsP memo2_ok memo2_code (cells_flat l) (m2_none rfl rfl (can_no rfl rfl)) (by simp [slc, okArg, hcap]) (fun v h => by rw [h]; exact worn_flat l) h w b off hr)
  by_cases h1 : l.length < 1
  · exact go _ ((wn_1 l cap _).mpr ⟨ob_lss (decide_eq_true (by omega)), by unfold wornV; rw [if_pos (.inl h1)]; rfl⟩)
  by_cases h2 : 20 < l.length
  · exact go _ ((wn_2 l cap _).mpr ⟨ob_lss (decide_eq_false (by omega)), ob_gtr (decide_eq_true (by omega)), by unfold wornV; rw [if_pos (.inr h2)]; rfl⟩)
  have hn2 : l.length ≤ 20 := by omega
  have hne : ¬ (l.length < 1 ∨ 20 < l.length) := by omega
  cases h3 : allQ fit l
  · exact go _ ((wn_3 l cap _).mpr ⟨ob_lss (decide_eq_false (by omega)), ob_gtr (decide_eq_false (by omega)), ⟨call95, by rw [← h3]; exact m2_rows rfl rfl rfl hcap (can95 hcap hn2)⟩, by unfold wornV; rw [if_neg hne, if_pos h3]; rfl⟩)
  have hf : ∀ p, p ∈ l → fit p := by unfold allQ at h3; simpa using h3
  cases h4 : allQ bear l
  · exact go _ ((wn_4 l cap _).mpr ⟨ob_lss (decide_eq_false (by omega)), ob_gtr (decide_eq_false (by omega)), ⟨call95, by rw [← h3]; exact m2_rows rfl rfl rfl hcap (can95 hcap hn2)⟩, ⟨call96, by rw [← h4]; exact m2_rows rfl rfl rfl hcap (can96 hcap hn2 hf)⟩, by unfold wornV; rw [if_neg hne, if_neg (by rw [h3]; simp), if_pos h4]; rfl⟩)
  · refine go _ ((wn_5 l cap _).mpr ⟨ob_lss (decide_eq_false (by omega)), ob_gtr (decide_eq_false (by omega)), ⟨call95, by rw [← h3]; exact m2_rows rfl rfl rfl hcap (can95 hcap hn2)⟩, ⟨call96, by rw [← h4]; exact m2_rows rfl rfl rfl hcap (can96 hcap hn2 hf)⟩, ?_, fun z hz => ?_, trivial⟩)
    · have := worn_loop l cap hn2 hf 994 ⟨0, 100, -100, fun _ => undef⟩ ⟨by simp, rfl, rfl⟩ (show l.length - 0 + 20 < 994 by omega)
      rw [loop34]
      exact this
    · obtain ⟨a1, a2⟩ := hz
      unfold wornV
      rw [if_neg hne, if_neg (by rw [h3]; simp), if_neg (by rw [h4]; simp), a1, a2]
end Go.Vm
