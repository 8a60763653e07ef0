/- Contracts of stock's small functions. -/
import Derived.Test.YtcphndfipjifcaaVrS2
set_option linter.unusedVariables false
namespace Go.Vm
set_option maxRecDepth 100000
set_option maxHeartbeats 4000000
def noF : FuncId → List Value → Option Value := fun _ _ => none
theorem noF_ok : SelfOK TP (oracle noF) := oracle_ok fun f args v h => by cases h
theorem run_bool {f : FuncId} {args : List Value} {w : World} {r : Bool} (h : Calls TP f args.toArray w fun e w' => (∃ v, e = .returned v ∧ v = .bool r) ∧ RowKit.Below w.heap.size w w') : Calls TP f args.toArray w fun e w' => e = .returned (.bool r) ∧ RowKit.Below w.heap.size w w' := by
  refine h.mono ?_
  rintro e w' ⟨⟨v, rfl, rfl⟩, hb⟩
  exact ⟨rfl, hb⟩
structure WB where
  i : Nat
  j : Nat → Value
abbrev sl0 (n cap : Nat) : Value := .slice (some ⟨0, 0, none⟩) n cap
def wTs (least most : Int) (n cap : Nat) (b : WB) : List Value :=
  [.int .i64 least, .int .i64 most, sl0 n cap, undef, undef, undef, .bool false, undef, b.j 8, sl0 n cap, .int .i64 n, .int .i64 b.i, b.j 12, b.j 13, b.j 14, b.j 15, b.j 16, b.j 17, b.j 18, b.j 19, b.j 20, b.j 21, b.j 22, b.j 23]
def ints (l : List Int) : List Value := l.map (.int .i64)
def wInv (least most : Int) (l : List Int) (cap : Nat) (e : TypeId) : LInv := ⟨WB, wTs least most l.length cap, [], fun _ => rowV (ints l) e, fun b => b.i ≤ l.length ∧ ∀ k x, k < b.i → l[k]? = some x → least ≤ x ∧ x ≤ most, fun b => l.length - b.i⟩
def wOut (least most : Int) (l : List Int) (cap : Nat) (e : TypeId) : LoopEnd := ⟨WB, fun _ => .exit 0, wTs least most l.length cap, [], fun _ => rowV (ints l) e, fun b => ∀ x, x ∈ l → least ≤ x ∧ x ≤ most⟩
def wRet (least most : Int) (l : List Int) (cap : Nat) (e : TypeId) : LoopEnd := ⟨WB, fun _ => .ret, wTs least most l.length cap, [], fun _ => rowV (ints l) e, fun b => ∃ x, x ∈ l ∧ ¬ (least ≤ x ∧ x ≤ most)⟩
theorem w_out (least most x : Int) (l : List Int) (cap M : Nat) (e : TypeId) (b : WB) : codeW (oracle noF) (M + 20) (.mk [(12, .bool false)] [] []) none (bodyOfLoop (loopOf 90 0)) (wTs least most l.length cap b) [] (rowV (ints l) e) (RoundEnd (wInv least most l cap e) b [wOut least most l cap e, wRet least most l cap e]) = (
      OBin .lss 3 (.tmp 11) (.tmp 10) (.int .i64 (↑b.i)) (.int .i64 (↑l.length)) (.bool false) ∧
      RoundEnd (wInv least most l cap e) b ([wOut least most l cap e, wRet least most l cap e]) (Go.Vm.Ex.exit 0) [(.int .i64 least), (.int .i64 most), (.slice (Option.some (Go.Addr.mk 0 0 Option.none)) (l.length) cap), (.tuple #[]), (.tuple #[]), (.tuple #[]), (.bool false), (.tuple #[]), (b.j 8), (.slice (Option.some (Go.Addr.mk 0 0 Option.none)) (l.length) cap), (.int .i64 (↑l.length)), (.int .i64 (↑b.i)), (.bool false), (b.j 13), (b.j 14), (b.j 15), (b.j 16), (b.j 17), (b.j 18), (b.j 19), (b.j 20), (b.j 21), (b.j 22), (b.j 23)] [] (Go.Vm.View.mk 1 [(Prod.mk 0 (Go.Obj.cells (Array.mk (ints l)) e (Prod.mk 0 1)))])) := by kernel_rfl
theorem w_low (least most x : Int) (l : List Int) (cap M : Nat) (e : TypeId) (b : WB) : codeW (oracle noF) (M + 20) (.mk [(12, .bool true), (13, .pointer (some ⟨0, b.i, none⟩)), (14, .int .i64 x), (17, .bool true)] [] []) none (bodyOfLoop (loopOf 90 0)) (wTs least most l.length cap b) [] (rowV (ints l) e) (RoundEnd (wInv least most l cap e) b [wOut least most l cap e, wRet least most l cap e]) = (
      OBin .lss 3 (.tmp 11) (.tmp 10) (.int .i64 (↑b.i)) (.int .i64 (↑l.length)) (.bool true) ∧
      OIx 47 (.slice (Option.some (Go.Addr.mk 0 0 Option.none)) (l.length) cap) (.int .i64 (↑b.i)) (.pointer (Option.some (Go.Addr.mk 0 (b.i) Option.none))) ∧
      OLoad 2 (.pointer (Option.some (Go.Addr.mk 0 (b.i) Option.none))) (Option.some (Go.Obj.cells (Array.mk (ints l)) e (Prod.mk 0 1))) (.int .i64 x) ∧
      OBin .lss 2 (.tmp 15) (.tmp 16) (.int .i64 x) (.int .i64 least) (.bool true) ∧
      RoundEnd (wInv least most l cap e) b ([wOut least most l cap e, wRet least most l cap e]) Go.Vm.Ex.ret [(.int .i64 least), (.int .i64 most), (.slice (Option.some (Go.Addr.mk 0 0 Option.none)) (l.length) cap), (.tuple #[]), (.tuple #[]), (.tuple #[]), (.bool false), (.tuple #[]), (.int .i64 x), (.slice (Option.some (Go.Addr.mk 0 0 Option.none)) (l.length) cap), (.int .i64 (↑l.length)), (.int .i64 (↑b.i)), (.bool true), (.pointer (Option.some (Go.Addr.mk 0 (b.i) Option.none))), (.int .i64 x), (.int .i64 x), (.int .i64 least), (.bool true), (.bool true), (.tuple #[]), (.tuple #[]), (.tuple #[]), (.bool true), (b.j 23)] [] (Go.Vm.View.mk 1 [(Prod.mk 0 (Go.Obj.cells (Array.mk (ints l)) e (Prod.mk 0 1)))])) := by kernel_rfl
theorem w_high (least most x : Int) (l : List Int) (cap M : Nat) (e : TypeId) (b : WB) : codeW (oracle noF) (M + 20) (.mk [(12, .bool true), (13, .pointer (some ⟨0, b.i, none⟩)), (14, .int .i64 x), (17, .bool false), (21, .bool true)] [] []) none (bodyOfLoop (loopOf 90 0)) (wTs least most l.length cap b) [] (rowV (ints l) e) (RoundEnd (wInv least most l cap e) b [wOut least most l cap e, wRet least most l cap e]) = (
      OBin .lss 3 (.tmp 11) (.tmp 10) (.int .i64 (↑b.i)) (.int .i64 (↑l.length)) (.bool true) ∧
      OIx 47 (.slice (Option.some (Go.Addr.mk 0 0 Option.none)) (l.length) cap) (.int .i64 (↑b.i)) (.pointer (Option.some (Go.Addr.mk 0 (b.i) Option.none))) ∧
      OLoad 2 (.pointer (Option.some (Go.Addr.mk 0 (b.i) Option.none))) (Option.some (Go.Obj.cells (Array.mk (ints l)) e (Prod.mk 0 1))) (.int .i64 x) ∧
      OBin .lss 2 (.tmp 15) (.tmp 16) (.int .i64 x) (.int .i64 least) (.bool false) ∧
      OBin .gtr 2 (.tmp 19) (.tmp 20) (.int .i64 x) (.int .i64 most) (.bool true) ∧
      RoundEnd (wInv least most l cap e) b ([wOut least most l cap e, wRet least most l cap e]) Go.Vm.Ex.ret [(.int .i64 least), (.int .i64 most), (.slice (Option.some (Go.Addr.mk 0 0 Option.none)) (l.length) cap), (.tuple #[]), (.tuple #[]), (.tuple #[]), (.bool false), (.tuple #[]), (.int .i64 x), (.slice (Option.some (Go.Addr.mk 0 0 Option.none)) (l.length) cap), (.int .i64 (↑l.length)), (.int .i64 (↑b.i)), (.bool true), (.pointer (Option.some (Go.Addr.mk 0 (b.i) Option.none))), (.int .i64 x), (.int .i64 x), (.int .i64 least), (.bool false), (.bool false), (.int .i64 x), (.int .i64 most), (.bool true), (.bool true), (b.j 23)] [] (Go.Vm.View.mk 1 [(Prod.mk 0 (Go.Obj.cells (Array.mk (ints l)) e (Prod.mk 0 1)))])) := by kernel_rfl
theorem w_next (least most x : Int) (l : List Int) (cap M : Nat) (e : TypeId) (b : WB) : codeW (oracle noF) (M + 20) (.mk [(12, .bool true), (13, .pointer (some ⟨0, b.i, none⟩)), (14, .int .i64 x), (17, .bool false), (21, .bool false), (23, .int .i64 (↑(b.i + 1)))] [] []) none (bodyOfLoop (loopOf 90 0)) (wTs least most l.length cap b) [] (rowV (ints l) e) (RoundEnd (wInv least most l cap e) b [wOut least most l cap e, wRet least most l cap e]) = (
      OBin .lss 3 (.tmp 11) (.tmp 10) (.int .i64 (↑b.i)) (.int .i64 (↑l.length)) (.bool true) ∧
      OIx 47 (.slice (Option.some (Go.Addr.mk 0 0 Option.none)) (l.length) cap) (.int .i64 (↑b.i)) (.pointer (Option.some (Go.Addr.mk 0 (b.i) Option.none))) ∧
      OLoad 2 (.pointer (Option.some (Go.Addr.mk 0 (b.i) Option.none))) (Option.some (Go.Obj.cells (Array.mk (ints l)) e (Prod.mk 0 1))) (.int .i64 x) ∧
      OBin .lss 2 (.tmp 15) (.tmp 16) (.int .i64 x) (.int .i64 least) (.bool false) ∧
      OBin .gtr 2 (.tmp 19) (.tmp 20) (.int .i64 x) (.int .i64 most) (.bool false) ∧
      OBin .add 3 (.tmp 11) (.const (.int .i64 (1))) (.int .i64 (↑b.i)) (.int .i64 (1)) (.int .i64 (↑(b.i + 1))) ∧
      RoundEnd (wInv least most l cap e) b ([wOut least most l cap e, wRet least most l cap e]) Go.Vm.Ex.normal [(.int .i64 least), (.int .i64 most), (.slice (Option.some (Go.Addr.mk 0 0 Option.none)) (l.length) cap), (.tuple #[]), (.tuple #[]), (.tuple #[]), (.bool false), (.tuple #[]), (.int .i64 x), (.slice (Option.some (Go.Addr.mk 0 0 Option.none)) (l.length) cap), (.int .i64 (↑l.length)), (.int .i64 (↑(b.i + 1))), (.bool true), (.pointer (Option.some (Go.Addr.mk 0 (b.i) Option.none))), (.int .i64 x), (.int .i64 x), (.int .i64 least), (.bool false), (.bool false), (.int .i64 x), (.int .i64 most), (.bool false), (.bool false), (.int .i64 (↑(b.i + 1)))] [] (Go.Vm.View.mk 1 [(Prod.mk 0 (Go.Obj.cells (Array.mk (ints l)) e (Prod.mk 0 1)))])) := by kernel_rfl
theorem w_run (least most : Int) (l : List Int) (cap : Nat) (e : TypeId) (r : Bool)  : callW (oracle noF) (.mk [] [] [wOut least most l cap e, wRet least most l cap e]) 100000 90 [.int .i64 least, .int .i64 most, sl0 l.length cap] (rowV (ints l) e) (fun v => v = .bool r) = (
      LoopR (oracle noF) 99996 Option.none (loopOf 90 0) [(.int .i64 least), (.int .i64 most), (.slice (Option.some (Go.Addr.mk 0 0 Option.none)) (l.length) cap), (.tuple #[]), (.tuple #[]), (.tuple #[]), (.bool false), (.tuple #[]), (.tuple #[]), (.slice (Option.some (Go.Addr.mk 0 0 Option.none)) (l.length) cap), (.int .i64 (↑l.length)), (.int .i64 (0)), (.tuple #[]), (.tuple #[]), (.tuple #[]), (.tuple #[]), (.tuple #[]), (.tuple #[]), (.tuple #[]), (.tuple #[]), (.tuple #[]), (.tuple #[]), (.tuple #[]), (.tuple #[])] [] (Go.Vm.View.mk 1 [(Prod.mk 0 (Go.Obj.cells (Array.mk (ints l)) e (Prod.mk 0 1)))]) ([wOut least most l cap e, wRet least most l cap e]) ∧
      (∀ z0 : (wOut least most l cap e).α,
      ((wOut least most l cap e).P z0 →
        ((Go.Value.bool true) = (Go.Value.bool r)))) ∧
      (∀ z0 : (wRet least most l cap e).α,
      ((wRet least most l cap e).P z0 →
        ((Go.Value.bool false) = (Go.Value.bool r)))) ∧
      True) := by kernel_rfl
theorem ints_get {l : List Int} {i : Nat} {x : Int} (h : l[i]? = some x) : (ints l)[i]? = some (.int .i64 x) := by simp [ints, h]
theorem ints_flat (l : List Int) : (ints l).all (flatN 3) = true := List.all_eq_true.2 fun v hv => by
  obtain ⟨x, _, rfl⟩ := List.mem_map.1 hv; rfl
theorem su47 : TP.underlying 47 = some (.slice 2) := by kernel_rfl
theorem si2 : (TP.info? 2).map (·.size) = some 1 := by kernel_rfl
theorem ag2 : aggB TP 2 = some false := by kernel_rfl
theorem within_loop (least most : Int) (l : List Int) (cap : Nat) (e : TypeId) (hn : l.length ≤ 1000) : ∀ (M : Nat) (b : WB), (wInv least most l cap e).P b → (wInv least most l cap e).μ b + 20 < M → LoopR (oracle noF) M none (.loop (bodyOfLoop (loopOf 90 0))) (wTs least most l.length cap b) [] (rowV (ints l) e) [wOut least most l cap e, wRet least most l cap e] := by
  refine loop_rule (oracle_code _) (wInv least most l cap e) _ (N0 := 20) ?_
  intro M b ⟨hb1, hb2⟩
  by_cases hi : b.i < l.length
  · obtain ⟨x, hx⟩ : ∃ x, l[b.i]? = some x := ⟨l[b.i], List.getElem?_eq_getElem hi⟩
    have hxm : x ∈ l := List.mem_of_getElem? hx
    have o1 := ob_lss (t := 3) (x := .tmp 11) (y := .tmp 10) (k := .i64) (decide_eq_true (show (b.i : Int) < (l.length : Int) by omega))
    have o2 := ob_ix (cap := cap) (b := 0) (o := 0) (off := b.i) su47 si2 hi (by omega)
    have o3 := ob_load (b := 0) (e := e) (fz := (0, 1)) ag2 (ints_get hx)
    by_cases h1 : x < least
    · refine ⟨_, (w_low least most x l cap M e b).mpr ⟨o1, o2, o3, ob_lss (decide_eq_true h1), ?_⟩⟩
      exact .outL (by simp) (wRet least most l cap e) (by simp) (fun ts => ⟨b.i, lget ts⟩) ⟨x, hxm, by omega⟩ rfl rfl rfl rfl
    · by_cases h2 : most < x
      · refine ⟨_, (w_high least most x l cap M e b).mpr ⟨o1, o2, o3, ob_lss (decide_eq_false h1), ob_gtr (decide_eq_true h2), ?_⟩⟩
        exact .outL (by simp) (wRet least most l cap e) (by simp) (fun ts => ⟨b.i, lget ts⟩) ⟨x, hxm, by omega⟩ rfl rfl rfl rfl
      · refine ⟨_, (w_next least most x l cap M e b).mpr ⟨o1, o2, o3, ob_lss (decide_eq_false h1), ob_gtr (decide_eq_false h2), ob_add64 (by omega) (by omega) (by omega), ?_⟩⟩
        refine .againL (fun ts => ⟨b.i + 1, lget ts⟩) ⟨hi, fun k y hk hy => ?_⟩ (show l.length - (b.i + 1) < l.length - b.i by omega) rfl rfl rfl
        have hk : k < b.i + 1 := hk
        by_cases hkb : k = b.i
        · subst hkb; rw [hx] at hy; cases hy; omega
        · exact hb2 k y (by omega) hy
  · refine ⟨_, (w_out least most 0 l cap M e b).mpr ⟨ob_lss (decide_eq_false (by omega)), ?_⟩⟩
    refine .outL (by simp) (wOut least most l cap e) (by simp) (fun ts => ⟨b.i, lget ts⟩) (fun x hx => ?_) rfl rfl rfl rfl
    obtain ⟨k, hk⟩ := List.mem_iff_getElem?.1 hx
    exact hb2 k x (by have := (List.getElem?_eq_some_iff.1 hk).1; omega) hk
/-- whether all numbers are from least to most -/
def allIn (least most : Int) (l : List Int) : Bool := decide (∀ x, x ∈ l → least ≤ x ∧ x ≤ most)
theorem loop90 : loopOf 90 0 = .loop (bodyOfLoop (loopOf 90 0)) := by kernel_rfl
theorem within_any (least most : Int) (l : List Int) (cap : Nat) (hcap : cap < big) (hn : l.length ≤ 1000) (w : World) (b off : Nat) (hr : RowsAt w b off (ints l)) :
    Calls TP 90 #[.int .i64 least, .int .i64 most, .slice (some ⟨b, off + 0, none⟩) l.length cap] w fun e w' => e = .returned (.bool (allIn least most l)) ∧ RowKit.Below w.heap.size w w' := by
  have hc : callW (oracle noF) (.mk [] [] [wOut least most l cap 2, wRet least most l cap 2]) 100000 90 [.int .i64 least, .int .i64 most, sl0 l.length cap] (rowV (ints l) 2) (fun v => v = .bool (allIn least most l)) := by
    rw [w_run]
    refine ⟨?_, fun z hz => ?_, fun z hz => ?_, trivial⟩
    · have := within_loop least most l cap 2 hn 99996 ⟨0, fun _ => undef⟩ ⟨by simp, fun k x hk => by simp at hk⟩ (show l.length - 0 + 20 < 99996 by omega)
      rw [loop90]
      exact this
    · have : allIn least most l = true := decide_eq_true hz
      rw [this]
    · have : allIn least most l = false := decide_eq_false (fun h => by obtain ⟨x, hx, hn⟩ := hz; exact hn (h x hx))
      rw [this]
  exact run_bool (call_rows noF_ok (oracle_code _) (ints_flat l) rfl (by simp [sl0, okArg, flatN, flat, hcap]) (fun v h => by rw [h]; rfl) hc w b off hr)

/-! numbers that are divided -/
theorem down_eq {a d : Int} (hd : 0 < d) : a / d = if a.tmod d < 0 then a.tdiv d - 1 else a.tdiv d := by
  have e := Int.tdiv_mul_add_tmod a d
  have h1 := Int.tmod_lt_of_pos a hd
  have h2 : -d < a.tmod d := by
    have := Int.tmod_lt_of_pos (-a) hd
    rw [Int.neg_tmod] at this
    omega
  generalize a.tdiv d = q at *
  generalize a.tmod d = r at *
  split
  · rename_i hr
    have h3 : a = (r + d) + (q - 1) * d := by rw [Int.sub_mul, ← e]; omega
    rw [h3, Int.add_mul_ediv_right _ _ (by omega), Int.ediv_eq_zero_of_lt (by omega) (by omega)]
    omega
  · rename_i hr
    have h3 : a = r + q * d := by rw [← e]; omega
    rw [h3, Int.add_mul_ediv_right _ _ (by omega), Int.ediv_eq_zero_of_lt (by omega) (by omega)]
    omega
theorem tdiv_bd {a d : Int} (hd : 0 < d) (h1 : -1000000000000 ≤ a) (h2 : a ≤ 1000000000000) : -1000000000000 ≤ a.tdiv d ∧ a.tdiv d ≤ 1000000000000 := by
  rcases Int.le_total 0 a with h | h
  · rw [Int.tdiv_eq_ediv_of_nonneg h]
    have := Int.ediv_le_self d h
    have := Int.ediv_nonneg h (Int.le_of_lt hd)
    omega
  · have h' : 0 ≤ -a := by omega
    have e1 : a.tdiv d = -((-a) / d) := by rw [← Int.tdiv_eq_ediv_of_nonneg h', Int.neg_tdiv, Int.neg_neg]
    have := Int.ediv_le_self d h'
    have := Int.ediv_nonneg h' (Int.le_of_lt hd)
    omega
theorem ediv_bd {a d : Int} (hd : 0 < d) (h1 : -1000000000000 ≤ a) (h2 : a ≤ 1000000000000) : -1000000000001 ≤ a / d ∧ a / d ≤ 1000000000000 := by
  have := tdiv_bd hd h1 h2
  rw [down_eq hd]
  split <;> omega
def downA (args : List Value) : Option Value := match args with
  | [.int .i64 a, .int .i64 d] => if 0 < d ∧ -1000000000000 ≤ a ∧ a ≤ 1000000000000 then some (.int .i64 (a / d)) else none
  | _ => none
def downF (f : FuncId) (args : List Value) : Option Value := match Nat.beq f 93 with
  | true => downA args
  | false => none
theorem down_lo (num den : Int) : callW (oracle noF) (.mk [(8, .int .i64 (num.tdiv den)), (11, .int .i64 (num.tmod den)), (12, .bool false)] [] []) 30 93 [.int .i64 num, .int .i64 den] ⟨0, []⟩ (fun v => v = .int .i64 (num.tdiv den)) = (
      OBin .quo 2 (.tmp 6) (.tmp 7) (.int .i64 num) (.int .i64 den) (.int .i64 (num.tdiv den)) ∧
      OBin .rem 2 (.tmp 9) (.tmp 10) (.int .i64 num) (.int .i64 den) (.int .i64 (num.tmod den)) ∧
      OBin .lss 2 (.tmp 11) (.const (.int .i64 (0))) (.int .i64 (num.tmod den)) (.int .i64 (0)) (.bool false) ∧
      ((Go.Value.int Go.IntKind.i64 (num.tdiv den)) = (Go.Value.int Go.IntKind.i64 (num.tdiv den)))) := by kernel_rfl
theorem down_hi (num den : Int) : callW (oracle noF) (.mk [(8, .int .i64 (num.tdiv den)), (11, .int .i64 (num.tmod den)), (12, .bool true), (14, .int .i64 (num.tdiv den - 1))] [] []) 30 93 [.int .i64 num, .int .i64 den] ⟨0, []⟩ (fun v => v = .int .i64 (num.tdiv den - 1)) = (
      OBin .quo 2 (.tmp 6) (.tmp 7) (.int .i64 num) (.int .i64 den) (.int .i64 (num.tdiv den)) ∧
      OBin .rem 2 (.tmp 9) (.tmp 10) (.int .i64 num) (.int .i64 den) (.int .i64 (num.tmod den)) ∧
      OBin .lss 2 (.tmp 11) (.const (.int .i64 (0))) (.int .i64 (num.tmod den)) (.int .i64 (0)) (.bool true) ∧
      OBin .sub 2 (.tmp 13) (.const (.int .i64 (1))) (.int .i64 (num.tdiv den)) (.int .i64 (1)) (.int .i64 (num.tdiv den - 1)) ∧
      ((Go.Value.int Go.IntKind.i64 (num.tdiv den - 1)) = (Go.Value.int Go.IntKind.i64 (num.tdiv den - 1)))) := by kernel_rfl
theorem up_run (a d q c : Int) : callW (oracle downF) (.mk [(6, .int .i64 (0 - a)), (8, .int .i64 q), (9, .int .i64 (0 - q))] [] []) 30 92 [.int .i64 a, .int .i64 d] ⟨0, []⟩ (fun v => v = .int .i64 (0 - q)) = (
      OUn .neg (.int .i64 a) (.int .i64 (0 - a)) ∧
      OCall (oracle downF) 93 [(.int .i64 (0 - a)), (.int .i64 d)] (Go.Vm.View.mk 0 []) (.int .i64 q) ∧
      OUn .neg (.int .i64 q) (.int .i64 (0 - q)) ∧
      ((Go.Value.int Go.IntKind.i64 (0 - q)) = (Go.Value.int Go.IntKind.i64 (0 - q)))) := by kernel_rfl
theorem excess_run (a b : Int) : callW (oracle noF) (.mk [(7, .int .i64 (a - b)), (8, .int .i64 (1000 * (a - b)))] [] []) 30 97 [.agg #[.int .i64 a, .int .i64 b]] ⟨0, []⟩ (fun v => v = .int .i64 (1000 * (a - b))) = (
      OBin .sub 2 (.tmp 4) (.tmp 6) (.int .i64 a) (.int .i64 b) (.int .i64 (a - b)) ∧
      OBin .mul 2 (.const (.int .i64 (1000))) (.tmp 7) (.int .i64 (1000)) (.int .i64 (a - b)) (.int .i64 (1000 * (a - b))) ∧
      ((Go.Value.int Go.IntKind.i64 (1000 * (a - b))) = (Go.Value.int Go.IntKind.i64 (1000 * (a - b))))) := by kernel_rfl

theorem run_val {f : FuncId} {args : List Value} {w : World} {r : Value} (h : Calls TP f args.toArray w fun e w' => (∃ v, e = .returned v ∧ v = r) ∧ RowKit.Below w.heap.size w w') : Calls TP f args.toArray w fun e w' => e = .returned r ∧ RowKit.Below w.heap.size w w' := by
  refine h.mono ?_
  rintro e w' ⟨⟨v, rfl, rfl⟩, hb⟩
  exact ⟨rfl, hb⟩
theorem down_any (a d : Int) (w : World) (hd : 0 < d) (h1 : -1000000000000 ≤ a) (h2 : a ≤ 1000000000000) : Calls TP 93 #[.int .i64 a, .int .i64 d] w fun e w' => e = .returned (.int .i64 (a / d)) ∧ RowKit.Below w.heap.size w w' := by
  have hb := tdiv_bd hd h1 h2
  rw [down_eq hd]
  by_cases h : a.tmod d < 0
  · rw [if_pos h]
    refine run_val (call_sym noF_ok (oracle_code _) rfl rfl (fun v h => by rw [h]; rfl) ((down_hi a d).mpr ⟨ob_quo (by omega) (wrap64 (by omega) (by omega)), ob_rem' (by omega) rfl, ob_lss (decide_eq_true h), ob_sub64 (by omega) (by omega) rfl, rfl⟩) w)
  · rw [if_neg h]
    refine run_val (call_sym noF_ok (oracle_code _) rfl rfl (fun v h => by rw [h]; rfl) ((down_lo a d).mpr ⟨ob_quo (by omega) (wrap64 (by omega) (by omega)), ob_rem' (by omega) rfl, ob_lss (decide_eq_false h), rfl⟩) w)
theorem downA_ok {args : List Value} {v : Value} (h : downA args = some v) : args.all (flatN 3) = true ∧ flatN 3 v = true ∧ ∀ w, Calls TP 93 args.toArray w fun e w' => e = .returned v ∧ RowKit.Below w.heap.size w w' := by
  unfold downA at h
  split at h
  · split at h
    · rename_i hok
      cases h
      exact ⟨rfl, rfl, fun w => down_any _ _ w hok.1 hok.2.1 hok.2.2⟩
    · cases h
  · cases h
theorem downF_ok : SelfOK TP (oracle downF) := oracle_ok fun f args v h => by
  unfold downF at h
  split at h
  · rename_i hf
    have := Nat.eq_of_beq_eq_true hf
    subst this
    exact downA_ok h
  · cases h
theorem down_at {a d : Int} (hd : 0 < d) (h1 : -1000000000000 ≤ a) (h2 : a ≤ 1000000000000) : downA [.int .i64 a, .int .i64 d] = some (.int .i64 (a / d)) := by
  unfold downA
  exact if_pos ⟨hd, h1, h2⟩
/-- a / d, rounded up -/
def ceil (a d : Int) : Int := 0 - (0 - a) / d
theorem up_any (a d : Int) (w : World) (hd : 0 < d) (h1 : -1000000000000 ≤ a) (h2 : a ≤ 1000000000000) : Calls TP 92 #[.int .i64 a, .int .i64 d] w fun e w' => e = .returned (.int .i64 (ceil a d)) ∧ RowKit.Below w.heap.size w w' := by
  have hb := ediv_bd hd (show -1000000000000 ≤ 0 - a by omega) (by omega)
  refine run_val (call_sym downF_ok (oracle_code _) rfl rfl (fun v h => by rw [h]; rfl) ((up_run a d ((0 - a) / d) 0).mpr ⟨ob_neg64 (by omega) (by omega) rfl, ob_oracle (by kernel_rfl) (down_at hd (by omega) (by omega)) _, ob_neg64 (by omega) (by omega) rfl, rfl⟩) w)
theorem excess_any (a b : Int) (w : World) (ha : 0 ≤ a ∧ a ≤ 1000000) (hb : 0 ≤ b ∧ b ≤ 1000000) : Calls TP 97 #[.agg #[.int .i64 a, .int .i64 b]] w fun e w' => e = .returned (.int .i64 (1000 * (a - b))) ∧ RowKit.Below w.heap.size w w' := by
  refine run_val (call_sym noF_ok (oracle_code _) rfl rfl (fun v h => by rw [h]; rfl) ((excess_run a b).mpr ⟨ob_sub64 (by omega) (by omega) rfl, ob_mul64 (by omega) (by omega) rfl, rfl⟩) w)
end Go.Vm
