/- Contracts of stock's meter, and of the document's. -/
import Derived.Test.YtcphndfipjifcaaVrSm
set_option linter.unusedVariables false
namespace Go.Vm
set_option maxRecDepth 100000
set_option maxHeartbeats 4000000
/-! within, as a table -/
def unInts : List Value → Option (List Int)
  | [] => some []
  | v :: r => match v with
    | .int .i64 x => match unInts r with
      | some l => some (x :: l)
      | none => none
    | _ => none
theorem unInts_eq : ∀ {c : List Value} {l : List Int}, unInts c = some l → c = ints l
  | [], l, h => by cases h; rfl
  | v :: r, l, h => by
    unfold unInts at h
    split at h
    · split at h
      · rename_i l' hl
        cases h
        rw [unInts_eq hl]
        rfl
      · cases h
    · cases h
def withinA (args c : List Value) : Option Value := match args with
  | [.int .i64 least, .int .i64 most, .slice (some ⟨0, 0, none⟩) n cap] => match unInts c with
    | some l => match Nat.beq n l.length && Nat.ble n 1000 && Nat.blt cap big with
      | true => some (.bool (allIn least most l))
      | false => none
    | none => none
  | _ => none
def withinR (f : FuncId) (args c : List Value) : Option Value := match Nat.beq f 90 with
  | true => withinA args c
  | false => none
theorem withinR_ok : SelfOK TP (oracleR withinR) := oracleR_ok fun f args c v h => by
  unfold withinR at h
  split at h
  · rename_i hf
    have := Nat.eq_of_beq_eq_true hf
    subst this
    unfold withinA at h
    split at h
    · rename_i least most n cap
      split at h
      · rename_i l hl
        split at h
        · rename_i hk
          simp only [Bool.and_eq_true, Nat.blt_eq] at hk
          have h1 := Nat.eq_of_beq_eq_true hk.1.1
          have h2 := Nat.le_of_ble_eq_true hk.1.2
          cases h
          have hc := unInts_eq hl
          subst hc h1
          exact ⟨ints_flat l, rfl, fun w b off hr => within_any least most l cap hk.2 h2 w b off hr⟩
        · cases h
      · cases h
    · cases h
  · cases h
def memo0 : Job → Option Out := oracleR withinR
theorem memo0_code : ∀ ar c ts df V, memo0 (.code ar c ts df V) = none := oracleR_code _
theorem memo0_ok : SelfOK TP memo0 := withinR_ok
theorem vr_no (lo hi least most : Int) (r : Value) : callW memo0 (.mk [(11, .bool false)] [] []) 100 91 [.agg #[.int .i64 lo, .int .i64 hi], .int .i64 least, .int .i64 most] ⟨0, []⟩ (fun v => v = r) = (
      OBin .leq 2 (.tmp 8) (.tmp 10) (.int .i64 lo) (.int .i64 hi) (.bool false) ∧
      ((Go.Value.bool false) = r)) := by kernel_rfl
theorem vr_yes (lo hi least most : Int) (q : Bool) (r : Value) : callW memo0 (.mk [(11, .bool true), (20, .bool q)] [] []) 100 91 [.agg #[.int .i64 lo, .int .i64 hi], .int .i64 least, .int .i64 most] ⟨0, []⟩ (fun v => v = r) = (
      OBin .leq 2 (.tmp 8) (.tmp 10) (.int .i64 lo) (.int .i64 hi) (.bool true) ∧
      OCall (memo0) 90 [(.int .i64 least), (.int .i64 most), (.slice (Option.some (Go.Addr.mk 1 0 Option.none)) 2 2)] (Go.Vm.View.mk 2 [(Prod.mk 1 (Go.Obj.cells #[(.int .i64 lo), (.int .i64 hi)] 2 (Prod.mk 0 0))), (Prod.mk 0 (Go.Obj.cells #[(.int .i64 lo), (.int .i64 hi)] 27 (Prod.mk 0 0)))]) (.bool q) ∧
      ((Go.Value.bool q) = r)) := by kernel_rfl
theorem va_1 (lo hi least most : Int) (r : Value) : callW memo0 (.mk [(10, .bool false)] [] []) 100 94 [.agg #[.int .i64 lo, .int .i64 hi], .int .i64 least, .int .i64 most] ⟨0, []⟩ (fun v => v = r) = (
      OBin .geq 2 (.tmp 8) (.tmp 9) (.int .i64 lo) (.int .i64 least) (.bool false) ∧
      ((Go.Value.bool false) = r)) := by kernel_rfl
theorem va_2 (lo hi least most : Int) (r : Value) : callW memo0 (.mk [(10, .bool true), (16, .bool false)] [] []) 100 94 [.agg #[.int .i64 lo, .int .i64 hi], .int .i64 least, .int .i64 most] ⟨0, []⟩ (fun v => v = r) = (
      OBin .geq 2 (.tmp 8) (.tmp 9) (.int .i64 lo) (.int .i64 least) (.bool true) ∧
      OBin .leq 2 (.tmp 13) (.tmp 15) (.int .i64 lo) (.int .i64 hi) (.bool false) ∧
      ((Go.Value.bool false) = r)) := by kernel_rfl
theorem va_3 (lo hi least most : Int) (q : Bool) (r : Value) : callW memo0 (.mk [(10, .bool true), (16, .bool true), (22, .bool q)] [] []) 100 94 [.agg #[.int .i64 lo, .int .i64 hi], .int .i64 least, .int .i64 most] ⟨0, []⟩ (fun v => v = r) = (
      OBin .geq 2 (.tmp 8) (.tmp 9) (.int .i64 lo) (.int .i64 least) (.bool true) ∧
      OBin .leq 2 (.tmp 13) (.tmp 15) (.int .i64 lo) (.int .i64 hi) (.bool true) ∧
      OBin .leq 2 (.tmp 20) (.tmp 21) (.int .i64 hi) (.int .i64 most) (.bool q) ∧
      ((Go.Value.bool q) = r)) := by kernel_rfl

theorem ob_quoN {t : TypeId} {x y : Operand} {a b c : Int} (ha : 0 ≤ a) (ha2 : a ≤ 1000000000000) (hb : 0 < b) (h : a / b = c) : OBin .quo t x y (.int .i64 a) (.int .i64 b) (.int .i64 c) := ob_quo (by omega) (by
  have h1 := Int.ediv_le_self b ha
  have h2 := Int.ediv_nonneg ha (Int.le_of_lt hb)
  rw [Int.tdiv_eq_ediv_of_nonneg ha, wrap64 (by omega) (by omega), h])
def okR (lo hi least most : Int) : Bool := decide (lo ≤ hi ∧ least ≤ lo ∧ hi ≤ most)
theorem vr_any (lo hi least most : Int) (w : World) : Calls TP 91 #[.agg #[.int .i64 lo, .int .i64 hi], .int .i64 least, .int .i64 most] w fun e w' => e = .returned (.bool (okR lo hi least most)) ∧ RowKit.Below w.heap.size w w' := by
  by_cases h : lo ≤ hi
  · have e : allIn least most [lo, hi] = okR lo hi least most := by unfold allIn okR; apply decide_eq_decide.2; simp; omega
    refine run_val (call_sym memo0_ok memo0_code rfl rfl (fun v h => by rw [h]; rfl) ((vr_yes lo hi least most (okR lo hi least most) _).mpr ⟨ob_leq (decide_eq_true h), ⟨by kernel_rfl, ?_⟩, rfl⟩) w)
    rw [← e]
    kernel_rfl
  · have e : okR lo hi least most = false := decide_eq_false (by omega)
    rw [e]
    exact run_val (call_sym memo0_ok memo0_code rfl rfl (fun v h => by rw [h]; rfl) ((vr_no lo hi least most _).mpr ⟨ob_leq (decide_eq_false h), rfl⟩) w)
theorem va_any (lo hi least most : Int) (w : World) : Calls TP 94 #[.agg #[.int .i64 lo, .int .i64 hi], .int .i64 least, .int .i64 most] w fun e w' => e = .returned (.bool (okR lo hi least most)) ∧ RowKit.Below w.heap.size w w' := by
  by_cases h1 : least ≤ lo
  · by_cases h2 : lo ≤ hi
    · exact run_val (call_sym memo0_ok memo0_code rfl rfl (fun v h => by rw [h]; rfl) ((va_3 lo hi least most (decide (hi ≤ most)) _).mpr ⟨ob_geq (decide_eq_true h1), ob_leq (decide_eq_true h2), ob_leq rfl, by unfold okR; congr 1; apply decide_eq_decide.2; omega⟩) w)
    · have e : okR lo hi least most = false := decide_eq_false (by omega)
      rw [e]
      exact run_val (call_sym memo0_ok memo0_code rfl rfl (fun v h => by rw [h]; rfl) ((va_2 lo hi least most _).mpr ⟨ob_geq (decide_eq_true h1), ob_leq (decide_eq_false h2), rfl⟩) w)
  · have e : okR lo hi least most = false := decide_eq_false (by omega)
    rw [e]
    exact run_val (call_sym memo0_ok memo0_code rfl rfl (fun v h => by rw [h]; rfl) ((va_1 lo hi least most _).mpr ⟨ob_geq (decide_eq_false h1), rfl⟩) w)
/-! the small functions, as a table -/
def rangeA (args : List Value) : Option Value := match args with
  | [.agg ⟨[.int .i64 lo, .int .i64 hi]⟩, .int .i64 least, .int .i64 most] => some (.bool (okR lo hi least most))
  | _ => none
def upA (args : List Value) : Option Value := match args with
  | [.int .i64 a, .int .i64 d] => if 0 < d ∧ -1000000000000 ≤ a ∧ a ≤ 1000000000000 then some (.int .i64 (ceil a d)) else none
  | _ => none
def excA (args : List Value) : Option Value := match args with
  | [.agg ⟨[.int .i64 a, .int .i64 b]⟩] => if (0 ≤ a ∧ a ≤ 1000000) ∧ (0 ≤ b ∧ b ≤ 1000000) then some (.int .i64 (1000 * (a - b))) else none
  | _ => none
def smF (f : FuncId) (args : List Value) : Option Value := match Nat.beq f 91 || Nat.beq f 94 with
  | true => rangeA args
  | false => match Nat.beq f 92 with
    | true => upA args
    | false => match Nat.beq f 93 with
      | true => downA args
      | false => match Nat.beq f 97 with
        | true => excA args
        | false => none
theorem up_at {a d : Int} (hd : 0 < d) (h1 : -1000000000000 ≤ a) (h2 : a ≤ 1000000000000) : upA [.int .i64 a, .int .i64 d] = some (.int .i64 (ceil a d)) := by
  unfold upA
  exact if_pos ⟨hd, h1, h2⟩
theorem exc_at {a b : Int} (ha : 0 ≤ a ∧ a ≤ 1000000) (hb : 0 ≤ b ∧ b ≤ 1000000) : excA [.agg #[.int .i64 a, .int .i64 b]] = some (.int .i64 (1000 * (a - b))) := by
  unfold excA
  exact if_pos ⟨ha, hb⟩
theorem smF_ok : SelfOK TP (oracle smF) := oracle_ok fun f args v h => by
  unfold smF at h
  split at h
  · rename_i hf
    rw [Bool.or_eq_true] at hf
    unfold rangeA at h
    split at h
    · cases h
      rcases hf with hf | hf
      · have := Nat.eq_of_beq_eq_true hf
        subst this
        exact ⟨rfl, rfl, fun w => vr_any _ _ _ _ w⟩
      · have := Nat.eq_of_beq_eq_true hf
        subst this
        exact ⟨rfl, rfl, fun w => va_any _ _ _ _ w⟩
    · cases h
  · split at h
    · rename_i hf
      have := Nat.eq_of_beq_eq_true hf
      subst this
      unfold upA at h
      split at h
      · split at h
        · rename_i hok
          cases h
          exact ⟨rfl, rfl, fun w => up_any _ _ w hok.1 hok.2.1 hok.2.2⟩
        · cases h
      · cases h
    · split at h
      · rename_i hf
        have := Nat.eq_of_beq_eq_true hf
        subst this
        exact downA_ok h
      · split at h
        · rename_i hf
          have := Nat.eq_of_beq_eq_true hf
          subst this
          unfold excA at h
          split at h
          · split at h
            · rename_i hok
              cases h
              exact ⟨rfl, rfl, fun w => excess_any _ _ w hok.1 hok.2⟩
            · cases h
          · cases h
        · cases h
def memo1 : Job → Option Out := orF (oracle smF) (oracleR withinR)
theorem memo1_code : ∀ ar c ts df V, memo1 (.code ar c ts df V) = none := fun _ _ _ _ _ => rfl
theorem memo1_ok : SelfOK TP memo1 := SelfOK.or smF_ok withinR_ok
theorem m1_call {f : FuncId} {args : List Value} {V : View} {v : Value} (h : smF f args = some v) : memo1 (.call f args V) = some (.value v V) := by simp only [memo1, orF, oracle, h]
structure MB where
  t : Int
  f : Bool
  lo : Int
  hi : Int
  j : Nat → Value
def mV (lo hi : Int) (b : MB) : View := ⟨3, [(2, .cells #[.int .i64 b.lo, .int .i64 b.hi] 27 (0, 0)), (1, .cells #[.int .i64 0, .int .i64 0] 27 (0, 0)), (0, .cells #[.int .i64 lo, .int .i64 hi] 27 (0, 0))]⟩
def mTs (x lo hi : Int) (b : MB) : List Value :=
  [.int .i64 x, .agg #[.int .i64 lo, .int .i64 hi], undef, .pointer (some ⟨0, 0, none⟩), .pointer (some ⟨1, 0, none⟩), .int .i64 0, .bool b.f, .pointer (some ⟨2, 0, none⟩), .int .i64 b.t, .int .i64 x, .bool false, .bool false, .int .i64 x, .bool false, .bool false, undef,
   .agg #[.int .i64 lo, .int .i64 hi], .bool true, .bool false, undef, .int .i64 x, .int .i64 (x * 9), .int .i64 (x * 9 / 10), b.j 23, b.j 24, b.j 25, b.j 26, b.j 27, b.j 28, b.j 29, b.j 30, b.j 31, b.j 32, b.j 33, b.j 34, b.j 35, b.j 36, b.j 37, b.j 38, b.j 39, b.j 40, b.j 41, b.j 42, b.j 43, b.j 44, b.j 45, b.j 46, b.j 47, b.j 48, b.j 49, b.j 50, b.j 51, b.j 52, b.j 53, b.j 54, b.j 55, b.j 56, b.j 57, b.j 58]
def mL (x hi : Int) : Int := ceil (1000 * x) (1000 + hi)
def mH (x lo : Int) : Int := 1000 * x / (1000 + lo)
def mInv (x lo hi : Int) : LInv := ⟨MB, mTs x lo hi, [], mV lo hi, fun b => x * 9 / 10 ≤ b.t ∧ b.t ≤ x * 12 / 10 + 2 ∧ b.f = decide (mL x hi ≤ mH x lo ∧ mL x hi < b.t) ∧ (b.f = true → b.lo = mL x hi ∧ b.hi = min (mH x lo) (b.t - 1)) ∧ (b.f = false → b.lo = 0 ∧ b.hi = 0), fun b => (x * 12 / 10 + 2 - b.t).toNat⟩
def mT (x lo hi : Int) : LoopEnd := ⟨MB, fun _ => .exit 0, fun b => mTs x lo hi ⟨b.t, true, b.lo, b.hi, b.j⟩, [], mV lo hi, fun b => mL x hi ≤ mH x lo ∧ b.lo = mL x hi ∧ b.hi = mH x lo⟩
def mF (x lo hi : Int) : LoopEnd := ⟨MB, fun _ => .exit 0, fun b => mTs x lo hi ⟨b.t, false, b.lo, b.hi, b.j⟩, [], mV lo hi, fun b => ¬ mL x hi ≤ mH x lo⟩
theorem m_out (x lo hi : Int) (M : Nat) (b : MB) : codeW memo1 (M + 20) (.mk [(25, .int .i64 (x * 12)), (26, .int .i64 (x * 12 / 10)), (27, .int .i64 (x * 12 / 10 + 1)), (28, .bool false)] [] []) none (bodyOfLoop (loopOf 33 0)) (mTs x lo hi b) [] (mV lo hi b) (RoundEnd (mInv x lo hi) b [mT x lo hi, mF x lo hi]) = (
      OBin .mul 2 (.tmp 24) (.const (.int .i64 (12))) (.int .i64 x) (.int .i64 (12)) (.int .i64 (x * 12)) ∧
      OBin .quo 2 (.tmp 25) (.const (.int .i64 (10))) (.int .i64 (x * 12)) (.int .i64 (10)) (.int .i64 (x * 12 / 10)) ∧
      OBin .add 2 (.tmp 26) (.const (.int .i64 (1))) (.int .i64 (x * 12 / 10)) (.int .i64 (1)) (.int .i64 (x * 12 / 10 + 1)) ∧
      OBin .leq 2 (.tmp 23) (.tmp 27) (.int .i64 (b.t)) (.int .i64 (x * 12 / 10 + 1)) (.bool false) ∧
      RoundEnd (mInv x lo hi) b ([mT x lo hi, mF x lo hi]) (Go.Vm.Ex.exit 0) [(.int .i64 x), (.agg #[(.int .i64 lo), (.int .i64 hi)]), (.tuple #[]), (.pointer (Option.some (Go.Addr.mk 0 0 Option.none))), (.pointer (Option.some (Go.Addr.mk 1 0 Option.none))), (.int .i64 (0)), (.bool (b.f)), (.pointer (Option.some (Go.Addr.mk 2 0 Option.none))), (.int .i64 (b.t)), (.int .i64 x), (.bool false), (.bool false), (.int .i64 x), (.bool false), (.bool false), (.tuple #[]), (.agg #[(.int .i64 lo), (.int .i64 hi)]), (.bool true), (.bool false), (.tuple #[]), (.int .i64 x), (.int .i64 (x * 9)), (.int .i64 (x * 9 / 10)), (.int .i64 (b.t)), (.int .i64 x), (.int .i64 (x * 12)), (.int .i64 (x * 12 / 10)), (.int .i64 (x * 12 / 10 + 1)), (.bool false), (b.j 29), (b.j 30), (b.j 31), (b.j 32), (b.j 33), (b.j 34), (b.j 35), (b.j 36), (b.j 37), (b.j 38), (b.j 39), (b.j 40), (b.j 41), (b.j 42), (b.j 43), (b.j 44), (b.j 45), (b.j 46), (b.j 47), (b.j 48), (b.j 49), (b.j 50), (b.j 51), (b.j 52), (b.j 53), (b.j 54), (b.j 55), (b.j 56), (b.j 57), (b.j 58)] [] (Go.Vm.View.mk 3 [(Prod.mk 2 (Go.Obj.cells #[(.int .i64 (b.lo)), (.int .i64 (b.hi))] 27 (Prod.mk 0 0))), (Prod.mk 1 (Go.Obj.cells #[(.int .i64 (0)), (.int .i64 (0))] 27 (Prod.mk 0 0))), (Prod.mk 0 (Go.Obj.cells #[(.int .i64 lo), (.int .i64 hi)] 27 (Prod.mk 0 0)))])) := by kernel_rfl
theorem m_no1 (x lo hi : Int) (M : Nat) (b : MB) : codeW memo1 (M + 20) (.mk [(25, .int .i64 (x * 12)), (26, .int .i64 (x * 12 / 10)), (27, .int .i64 (x * 12 / 10 + 1)), (28, .bool true), (34, .int .i64 (1000 + lo)), (35, .int .i64 (b.t * (1000 + lo))), (37, .int .i64 (1000 * x)), (30, .int .i64 (b.t + 1)), (38, .bool false)] [] []) none (bodyOfLoop (loopOf 33 0)) (mTs x lo hi b) [] (mV lo hi b) (RoundEnd (mInv x lo hi) b [mT x lo hi, mF x lo hi]) = (
      OBin .mul 2 (.tmp 24) (.const (.int .i64 (12))) (.int .i64 x) (.int .i64 (12)) (.int .i64 (x * 12)) ∧
      OBin .quo 2 (.tmp 25) (.const (.int .i64 (10))) (.int .i64 (x * 12)) (.int .i64 (10)) (.int .i64 (x * 12 / 10)) ∧
      OBin .add 2 (.tmp 26) (.const (.int .i64 (1))) (.int .i64 (x * 12 / 10)) (.int .i64 (1)) (.int .i64 (x * 12 / 10 + 1)) ∧
      OBin .leq 2 (.tmp 23) (.tmp 27) (.int .i64 (b.t)) (.int .i64 (x * 12 / 10 + 1)) (.bool true) ∧
      OBin .add 2 (.const (.int .i64 (1000))) (.tmp 33) (.int .i64 (1000)) (.int .i64 lo) (.int .i64 (1000 + lo)) ∧
      OBin .mul 2 (.tmp 31) (.tmp 34) (.int .i64 (b.t)) (.int .i64 (1000 + lo)) (.int .i64 (b.t * (1000 + lo))) ∧
      OBin .mul 2 (.const (.int .i64 (1000))) (.tmp 36) (.int .i64 (1000)) (.int .i64 x) (.int .i64 (1000 * x)) ∧
      OBin .leq 2 (.tmp 35) (.tmp 37) (.int .i64 (b.t * (1000 + lo))) (.int .i64 (1000 * x)) (.bool false) ∧
      OBin .add 2 (.tmp 29) (.const (.int .i64 (1))) (.int .i64 (b.t)) (.int .i64 (1)) (.int .i64 (b.t + 1)) ∧
      RoundEnd (mInv x lo hi) b ([mT x lo hi, mF x lo hi]) Go.Vm.Ex.normal [(.int .i64 x), (.agg #[(.int .i64 lo), (.int .i64 hi)]), (.tuple #[]), (.pointer (Option.some (Go.Addr.mk 0 0 Option.none))), (.pointer (Option.some (Go.Addr.mk 1 0 Option.none))), (.int .i64 (0)), (.bool (b.f)), (.pointer (Option.some (Go.Addr.mk 2 0 Option.none))), (.int .i64 (b.t + 1)), (.int .i64 x), (.bool false), (.bool false), (.int .i64 x), (.bool false), (.bool false), (.tuple #[]), (.agg #[(.int .i64 lo), (.int .i64 hi)]), (.bool true), (.bool false), (.tuple #[]), (.int .i64 x), (.int .i64 (x * 9)), (.int .i64 (x * 9 / 10)), (.int .i64 (b.t)), (.int .i64 x), (.int .i64 (x * 12)), (.int .i64 (x * 12 / 10)), (.int .i64 (x * 12 / 10 + 1)), (.bool true), (.int .i64 (b.t)), (.int .i64 (b.t + 1)), (.int .i64 (b.t)), (.pointer (Option.some (Go.Addr.mk 0 0 Option.none))), (.int .i64 lo), (.int .i64 (1000 + lo)), (.int .i64 (b.t * (1000 + lo))), (.int .i64 x), (.int .i64 (1000 * x)), (.bool false), (.bool false), (.tuple #[]), (.tuple #[]), (.tuple #[]), (.tuple #[]), (.tuple #[]), (.tuple #[]), (.tuple #[]), (.tuple #[]), (.bool false), (b.j 49), (b.j 50), (b.j 51), (b.j 52), (b.j 53), (b.j 54), (b.j 55), (b.j 56), (b.j 57), (b.j 58)] [] (Go.Vm.View.mk 3 [(Prod.mk 2 (Go.Obj.cells #[(.int .i64 (b.lo)), (.int .i64 (b.hi))] 27 (Prod.mk 0 0))), (Prod.mk 1 (Go.Obj.cells #[(.int .i64 (0)), (.int .i64 (0))] 27 (Prod.mk 0 0))), (Prod.mk 0 (Go.Obj.cells #[(.int .i64 lo), (.int .i64 hi)] 27 (Prod.mk 0 0)))])) := by kernel_rfl
theorem m_no2 (x lo hi : Int) (M : Nat) (b : MB) : codeW memo1 (M + 20) (.mk [(25, .int .i64 (x * 12)), (26, .int .i64 (x * 12 / 10)), (27, .int .i64 (x * 12 / 10 + 1)), (28, .bool true), (34, .int .i64 (1000 + lo)), (35, .int .i64 (b.t * (1000 + lo))), (37, .int .i64 (1000 * x)), (30, .int .i64 (b.t + 1)), (38, .bool true), (43, .int .i64 (1000 + hi)), (44, .int .i64 (b.t * (1000 + hi))), (46, .int .i64 (1000 * x)), (47, .bool false)] [] []) none (bodyOfLoop (loopOf 33 0)) (mTs x lo hi b) [] (mV lo hi b) (RoundEnd (mInv x lo hi) b [mT x lo hi, mF x lo hi]) = (
      OBin .mul 2 (.tmp 24) (.const (.int .i64 (12))) (.int .i64 x) (.int .i64 (12)) (.int .i64 (x * 12)) ∧
      OBin .quo 2 (.tmp 25) (.const (.int .i64 (10))) (.int .i64 (x * 12)) (.int .i64 (10)) (.int .i64 (x * 12 / 10)) ∧
      OBin .add 2 (.tmp 26) (.const (.int .i64 (1))) (.int .i64 (x * 12 / 10)) (.int .i64 (1)) (.int .i64 (x * 12 / 10 + 1)) ∧
      OBin .leq 2 (.tmp 23) (.tmp 27) (.int .i64 (b.t)) (.int .i64 (x * 12 / 10 + 1)) (.bool true) ∧
      OBin .add 2 (.const (.int .i64 (1000))) (.tmp 33) (.int .i64 (1000)) (.int .i64 lo) (.int .i64 (1000 + lo)) ∧
      OBin .mul 2 (.tmp 31) (.tmp 34) (.int .i64 (b.t)) (.int .i64 (1000 + lo)) (.int .i64 (b.t * (1000 + lo))) ∧
      OBin .mul 2 (.const (.int .i64 (1000))) (.tmp 36) (.int .i64 (1000)) (.int .i64 x) (.int .i64 (1000 * x)) ∧
      OBin .leq 2 (.tmp 35) (.tmp 37) (.int .i64 (b.t * (1000 + lo))) (.int .i64 (1000 * x)) (.bool true) ∧
      OBin .add 2 (.const (.int .i64 (1000))) (.tmp 42) (.int .i64 (1000)) (.int .i64 hi) (.int .i64 (1000 + hi)) ∧
      OBin .mul 2 (.tmp 40) (.tmp 43) (.int .i64 (b.t)) (.int .i64 (1000 + hi)) (.int .i64 (b.t * (1000 + hi))) ∧
      OBin .mul 2 (.const (.int .i64 (1000))) (.tmp 45) (.int .i64 (1000)) (.int .i64 x) (.int .i64 (1000 * x)) ∧
      OBin .geq 2 (.tmp 44) (.tmp 46) (.int .i64 (b.t * (1000 + hi))) (.int .i64 (1000 * x)) (.bool false) ∧
      OBin .add 2 (.tmp 29) (.const (.int .i64 (1))) (.int .i64 (b.t)) (.int .i64 (1)) (.int .i64 (b.t + 1)) ∧
      RoundEnd (mInv x lo hi) b ([mT x lo hi, mF x lo hi]) Go.Vm.Ex.normal [(.int .i64 x), (.agg #[(.int .i64 lo), (.int .i64 hi)]), (.tuple #[]), (.pointer (Option.some (Go.Addr.mk 0 0 Option.none))), (.pointer (Option.some (Go.Addr.mk 1 0 Option.none))), (.int .i64 (0)), (.bool (b.f)), (.pointer (Option.some (Go.Addr.mk 2 0 Option.none))), (.int .i64 (b.t + 1)), (.int .i64 x), (.bool false), (.bool false), (.int .i64 x), (.bool false), (.bool false), (.tuple #[]), (.agg #[(.int .i64 lo), (.int .i64 hi)]), (.bool true), (.bool false), (.tuple #[]), (.int .i64 x), (.int .i64 (x * 9)), (.int .i64 (x * 9 / 10)), (.int .i64 (b.t)), (.int .i64 x), (.int .i64 (x * 12)), (.int .i64 (x * 12 / 10)), (.int .i64 (x * 12 / 10 + 1)), (.bool true), (.int .i64 (b.t)), (.int .i64 (b.t + 1)), (.int .i64 (b.t)), (.pointer (Option.some (Go.Addr.mk 0 0 Option.none))), (.int .i64 lo), (.int .i64 (1000 + lo)), (.int .i64 (b.t * (1000 + lo))), (.int .i64 x), (.int .i64 (1000 * x)), (.bool true), (.bool true), (.int .i64 (b.t)), (.pointer (Option.some (Go.Addr.mk 0 1 Option.none))), (.int .i64 hi), (.int .i64 (1000 + hi)), (.int .i64 (b.t * (1000 + hi))), (.int .i64 x), (.int .i64 (1000 * x)), (.bool false), (.bool false), (b.j 49), (b.j 50), (b.j 51), (b.j 52), (b.j 53), (b.j 54), (b.j 55), (b.j 56), (b.j 57), (b.j 58)] [] (Go.Vm.View.mk 3 [(Prod.mk 2 (Go.Obj.cells #[(.int .i64 (b.lo)), (.int .i64 (b.hi))] 27 (Prod.mk 0 0))), (Prod.mk 1 (Go.Obj.cells #[(.int .i64 (0)), (.int .i64 (0))] 27 (Prod.mk 0 0))), (Prod.mk 0 (Go.Obj.cells #[(.int .i64 lo), (.int .i64 hi)] 27 (Prod.mk 0 0)))])) := by kernel_rfl
theorem m_yes (x lo hi : Int) (M : Nat) (b : MB) : codeW memo1 (M + 20) (.mk [(25, .int .i64 (x * 12)), (26, .int .i64 (x * 12 / 10)), (27, .int .i64 (x * 12 / 10 + 1)), (28, .bool true), (34, .int .i64 (1000 + lo)), (35, .int .i64 (b.t * (1000 + lo))), (37, .int .i64 (1000 * x)), (30, .int .i64 (b.t + 1)), (38, .bool true), (43, .int .i64 (1000 + hi)), (44, .int .i64 (b.t * (1000 + hi))), (46, .int .i64 (1000 * x)), (47, .bool true), (50, .bool false)] [] []) none (bodyOfLoop (loopOf 33 0)) (mTs x lo hi b) [] (mV lo hi b) (RoundEnd (mInv x lo hi) b [mT x lo hi, mF x lo hi]) = (
      OBin .mul 2 (.tmp 24) (.const (.int .i64 (12))) (.int .i64 x) (.int .i64 (12)) (.int .i64 (x * 12)) ∧
      OBin .quo 2 (.tmp 25) (.const (.int .i64 (10))) (.int .i64 (x * 12)) (.int .i64 (10)) (.int .i64 (x * 12 / 10)) ∧
      OBin .add 2 (.tmp 26) (.const (.int .i64 (1))) (.int .i64 (x * 12 / 10)) (.int .i64 (1)) (.int .i64 (x * 12 / 10 + 1)) ∧
      OBin .leq 2 (.tmp 23) (.tmp 27) (.int .i64 (b.t)) (.int .i64 (x * 12 / 10 + 1)) (.bool true) ∧
      OBin .add 2 (.const (.int .i64 (1000))) (.tmp 33) (.int .i64 (1000)) (.int .i64 lo) (.int .i64 (1000 + lo)) ∧
      OBin .mul 2 (.tmp 31) (.tmp 34) (.int .i64 (b.t)) (.int .i64 (1000 + lo)) (.int .i64 (b.t * (1000 + lo))) ∧
      OBin .mul 2 (.const (.int .i64 (1000))) (.tmp 36) (.int .i64 (1000)) (.int .i64 x) (.int .i64 (1000 * x)) ∧
      OBin .leq 2 (.tmp 35) (.tmp 37) (.int .i64 (b.t * (1000 + lo))) (.int .i64 (1000 * x)) (.bool true) ∧
      OBin .add 2 (.const (.int .i64 (1000))) (.tmp 42) (.int .i64 (1000)) (.int .i64 hi) (.int .i64 (1000 + hi)) ∧
      OBin .mul 2 (.tmp 40) (.tmp 43) (.int .i64 (b.t)) (.int .i64 (1000 + hi)) (.int .i64 (b.t * (1000 + hi))) ∧
      OBin .mul 2 (.const (.int .i64 (1000))) (.tmp 45) (.int .i64 (1000)) (.int .i64 x) (.int .i64 (1000 * x)) ∧
      OBin .geq 2 (.tmp 44) (.tmp 46) (.int .i64 (b.t * (1000 + hi))) (.int .i64 (1000 * x)) (.bool true) ∧
      OUn .not (.bool (b.f)) (.bool false) ∧
      OBin .add 2 (.tmp 29) (.const (.int .i64 (1))) (.int .i64 (b.t)) (.int .i64 (1)) (.int .i64 (b.t + 1)) ∧
      RoundEnd (mInv x lo hi) b ([mT x lo hi, mF x lo hi]) Go.Vm.Ex.normal [(.int .i64 x), (.agg #[(.int .i64 lo), (.int .i64 hi)]), (.tuple #[]), (.pointer (Option.some (Go.Addr.mk 0 0 Option.none))), (.pointer (Option.some (Go.Addr.mk 1 0 Option.none))), (.int .i64 (0)), (.bool true), (.pointer (Option.some (Go.Addr.mk 2 0 Option.none))), (.int .i64 (b.t + 1)), (.int .i64 x), (.bool false), (.bool false), (.int .i64 x), (.bool false), (.bool false), (.tuple #[]), (.agg #[(.int .i64 lo), (.int .i64 hi)]), (.bool true), (.bool false), (.tuple #[]), (.int .i64 x), (.int .i64 (x * 9)), (.int .i64 (x * 9 / 10)), (.int .i64 (b.t)), (.int .i64 x), (.int .i64 (x * 12)), (.int .i64 (x * 12 / 10)), (.int .i64 (x * 12 / 10 + 1)), (.bool true), (.int .i64 (b.t)), (.int .i64 (b.t + 1)), (.int .i64 (b.t)), (.pointer (Option.some (Go.Addr.mk 0 0 Option.none))), (.int .i64 lo), (.int .i64 (1000 + lo)), (.int .i64 (b.t * (1000 + lo))), (.int .i64 x), (.int .i64 (1000 * x)), (.bool true), (.bool true), (.int .i64 (b.t)), (.pointer (Option.some (Go.Addr.mk 0 1 Option.none))), (.int .i64 hi), (.int .i64 (1000 + hi)), (.int .i64 (b.t * (1000 + hi))), (.int .i64 x), (.int .i64 (1000 * x)), (.bool true), (.bool true), (.bool (b.f)), (.bool false), (b.j 51), (b.j 52), (.int .i64 (b.t)), (.pointer (Option.some (Go.Addr.mk 2 1 Option.none))), (b.j 55), (b.j 56), (b.j 57), (b.j 58)] [] (Go.Vm.View.mk 3 [(Prod.mk 2 (Go.Obj.cells #[(.int .i64 (b.lo)), (.int .i64 (b.t))] 27 (Prod.mk 0 0))), (Prod.mk 1 (Go.Obj.cells #[(.int .i64 (0)), (.int .i64 (0))] 27 (Prod.mk 0 0))), (Prod.mk 0 (Go.Obj.cells #[(.int .i64 lo), (.int .i64 hi)] 27 (Prod.mk 0 0)))])) := by kernel_rfl
theorem m_new (x lo hi : Int) (M : Nat) (b : MB) : codeW memo1 (M + 20) (.mk [(25, .int .i64 (x * 12)), (26, .int .i64 (x * 12 / 10)), (27, .int .i64 (x * 12 / 10 + 1)), (28, .bool true), (34, .int .i64 (1000 + lo)), (35, .int .i64 (b.t * (1000 + lo))), (37, .int .i64 (1000 * x)), (30, .int .i64 (b.t + 1)), (38, .bool true), (43, .int .i64 (1000 + hi)), (44, .int .i64 (b.t * (1000 + hi))), (46, .int .i64 (1000 * x)), (47, .bool true), (50, .bool true)] [] []) none (bodyOfLoop (loopOf 33 0)) (mTs x lo hi b) [] (mV lo hi b) (RoundEnd (mInv x lo hi) b [mT x lo hi, mF x lo hi]) = (
      OBin .mul 2 (.tmp 24) (.const (.int .i64 (12))) (.int .i64 x) (.int .i64 (12)) (.int .i64 (x * 12)) ∧
      OBin .quo 2 (.tmp 25) (.const (.int .i64 (10))) (.int .i64 (x * 12)) (.int .i64 (10)) (.int .i64 (x * 12 / 10)) ∧
      OBin .add 2 (.tmp 26) (.const (.int .i64 (1))) (.int .i64 (x * 12 / 10)) (.int .i64 (1)) (.int .i64 (x * 12 / 10 + 1)) ∧
      OBin .leq 2 (.tmp 23) (.tmp 27) (.int .i64 (b.t)) (.int .i64 (x * 12 / 10 + 1)) (.bool true) ∧
      OBin .add 2 (.const (.int .i64 (1000))) (.tmp 33) (.int .i64 (1000)) (.int .i64 lo) (.int .i64 (1000 + lo)) ∧
      OBin .mul 2 (.tmp 31) (.tmp 34) (.int .i64 (b.t)) (.int .i64 (1000 + lo)) (.int .i64 (b.t * (1000 + lo))) ∧
      OBin .mul 2 (.const (.int .i64 (1000))) (.tmp 36) (.int .i64 (1000)) (.int .i64 x) (.int .i64 (1000 * x)) ∧
      OBin .leq 2 (.tmp 35) (.tmp 37) (.int .i64 (b.t * (1000 + lo))) (.int .i64 (1000 * x)) (.bool true) ∧
      OBin .add 2 (.const (.int .i64 (1000))) (.tmp 42) (.int .i64 (1000)) (.int .i64 hi) (.int .i64 (1000 + hi)) ∧
      OBin .mul 2 (.tmp 40) (.tmp 43) (.int .i64 (b.t)) (.int .i64 (1000 + hi)) (.int .i64 (b.t * (1000 + hi))) ∧
      OBin .mul 2 (.const (.int .i64 (1000))) (.tmp 45) (.int .i64 (1000)) (.int .i64 x) (.int .i64 (1000 * x)) ∧
      OBin .geq 2 (.tmp 44) (.tmp 46) (.int .i64 (b.t * (1000 + hi))) (.int .i64 (1000 * x)) (.bool true) ∧
      OUn .not (.bool (b.f)) (.bool true) ∧
      OBin .add 2 (.tmp 29) (.const (.int .i64 (1))) (.int .i64 (b.t)) (.int .i64 (1)) (.int .i64 (b.t + 1)) ∧
      RoundEnd (mInv x lo hi) b ([mT x lo hi, mF x lo hi]) Go.Vm.Ex.normal [(.int .i64 x), (.agg #[(.int .i64 lo), (.int .i64 hi)]), (.tuple #[]), (.pointer (Option.some (Go.Addr.mk 0 0 Option.none))), (.pointer (Option.some (Go.Addr.mk 1 0 Option.none))), (.int .i64 (0)), (.bool true), (.pointer (Option.some (Go.Addr.mk 2 0 Option.none))), (.int .i64 (b.t + 1)), (.int .i64 x), (.bool false), (.bool false), (.int .i64 x), (.bool false), (.bool false), (.tuple #[]), (.agg #[(.int .i64 lo), (.int .i64 hi)]), (.bool true), (.bool false), (.tuple #[]), (.int .i64 x), (.int .i64 (x * 9)), (.int .i64 (x * 9 / 10)), (.int .i64 (b.t)), (.int .i64 x), (.int .i64 (x * 12)), (.int .i64 (x * 12 / 10)), (.int .i64 (x * 12 / 10 + 1)), (.bool true), (.int .i64 (b.t)), (.int .i64 (b.t + 1)), (.int .i64 (b.t)), (.pointer (Option.some (Go.Addr.mk 0 0 Option.none))), (.int .i64 lo), (.int .i64 (1000 + lo)), (.int .i64 (b.t * (1000 + lo))), (.int .i64 x), (.int .i64 (1000 * x)), (.bool true), (.bool true), (.int .i64 (b.t)), (.pointer (Option.some (Go.Addr.mk 0 1 Option.none))), (.int .i64 hi), (.int .i64 (1000 + hi)), (.int .i64 (b.t * (1000 + hi))), (.int .i64 x), (.int .i64 (1000 * x)), (.bool true), (.bool true), (.bool (b.f)), (.bool true), (.int .i64 (b.t)), (.pointer (Option.some (Go.Addr.mk 2 0 Option.none))), (.int .i64 (b.t)), (.pointer (Option.some (Go.Addr.mk 2 1 Option.none))), (b.j 55), (b.j 56), (b.j 57), (b.j 58)] [] (Go.Vm.View.mk 3 [(Prod.mk 2 (Go.Obj.cells #[(.int .i64 (b.t)), (.int .i64 (b.t))] 27 (Prod.mk 0 0))), (Prod.mk 1 (Go.Obj.cells #[(.int .i64 (0)), (.int .i64 (0))] 27 (Prod.mk 0 0))), (Prod.mk 0 (Go.Obj.cells #[(.int .i64 lo), (.int .i64 hi)] 27 (Prod.mk 0 0)))])) := by kernel_rfl
theorem r_low (x lo hi : Int) (r : Value) : callW memo1 (.mk [(10, .bool true)] [] []) 100000 33 [.int .i64 x, .agg #[.int .i64 lo, .int .i64 hi]] ⟨0, []⟩ (fun v => v = r) = (
      OBin .lss 2 (.tmp 9) (.const (.int .i64 (0))) (.int .i64 x) (.int .i64 (0)) (.bool true) ∧
      ((Go.Value.tuple #[(Go.Value.agg #[(Go.Value.int Go.IntKind.i64 (0)), (Go.Value.int Go.IntKind.i64 (0))]), (Go.Value.int Go.IntKind.i64 (3))]) = r)) := by kernel_rfl
theorem r_high (x lo hi : Int) (r : Value) : callW memo1 (.mk [(10, .bool false), (13, .bool true)] [] []) 100000 33 [.int .i64 x, .agg #[.int .i64 lo, .int .i64 hi]] ⟨0, []⟩ (fun v => v = r) = (
      OBin .lss 2 (.tmp 9) (.const (.int .i64 (0))) (.int .i64 x) (.int .i64 (0)) (.bool false) ∧
      OBin .gtr 2 (.tmp 12) (.const (.int .i64 (100000))) (.int .i64 x) (.int .i64 (100000)) (.bool true) ∧
      ((Go.Value.tuple #[(Go.Value.agg #[(Go.Value.int Go.IntKind.i64 (0)), (Go.Value.int Go.IntKind.i64 (0))]), (Go.Value.int Go.IntKind.i64 (3))]) = r)) := by kernel_rfl
theorem r_bad (x lo hi : Int) (r : Value) : callW memo1 (.mk [(10, .bool false), (13, .bool false), (17, .bool false)] [] []) 100000 33 [.int .i64 x, .agg #[.int .i64 lo, .int .i64 hi]] ⟨0, []⟩ (fun v => v = r) = (
      OBin .lss 2 (.tmp 9) (.const (.int .i64 (0))) (.int .i64 x) (.int .i64 (0)) (.bool false) ∧
      OBin .gtr 2 (.tmp 12) (.const (.int .i64 (100000))) (.int .i64 x) (.int .i64 (100000)) (.bool false) ∧
      OCall (memo1) 94 [(.agg #[(.int .i64 lo), (.int .i64 hi)]), (.int .i64 (-100)), (.int .i64 (100))] (Go.Vm.View.mk 2 [(Prod.mk 1 (Go.Obj.cells #[(.int .i64 (0)), (.int .i64 (0))] 27 (Prod.mk 0 0))), (Prod.mk 0 (Go.Obj.cells #[(.int .i64 lo), (.int .i64 hi)] 27 (Prod.mk 0 0)))]) (.bool false) ∧
      ((Go.Value.tuple #[(Go.Value.agg #[(Go.Value.int Go.IntKind.i64 (0)), (Go.Value.int Go.IntKind.i64 (0))]), (Go.Value.int Go.IntKind.i64 (2))]) = r)) := by kernel_rfl
theorem r_run (x lo hi : Int) (r : Value) : callW memo1 (.mk [(10, .bool false), (13, .bool false), (17, .bool true), (21, .int .i64 (x * 9)), (22, .int .i64 (x * 9 / 10))] [] [mT x lo hi, mF x lo hi]) 100000 33 [.int .i64 x, .agg #[.int .i64 lo, .int .i64 hi]] ⟨0, []⟩ (fun v => v = r) = (
      OBin .lss 2 (.tmp 9) (.const (.int .i64 (0))) (.int .i64 x) (.int .i64 (0)) (.bool false) ∧
      OBin .gtr 2 (.tmp 12) (.const (.int .i64 (100000))) (.int .i64 x) (.int .i64 (100000)) (.bool false) ∧
      OCall (memo1) 94 [(.agg #[(.int .i64 lo), (.int .i64 hi)]), (.int .i64 (-100)), (.int .i64 (100))] (Go.Vm.View.mk 2 [(Prod.mk 1 (Go.Obj.cells #[(.int .i64 (0)), (.int .i64 (0))] 27 (Prod.mk 0 0))), (Prod.mk 0 (Go.Obj.cells #[(.int .i64 lo), (.int .i64 hi)] 27 (Prod.mk 0 0)))]) (.bool true) ∧
      OBin .mul 2 (.tmp 20) (.const (.int .i64 (9))) (.int .i64 x) (.int .i64 (9)) (.int .i64 (x * 9)) ∧
      OBin .quo 2 (.tmp 21) (.const (.int .i64 (10))) (.int .i64 (x * 9)) (.int .i64 (10)) (.int .i64 (x * 9 / 10)) ∧
      LoopR (memo1) 99992 Option.none (loopOf 33 0) [(.int .i64 x), (.agg #[(.int .i64 lo), (.int .i64 hi)]), (.tuple #[]), (.pointer (Option.some (Go.Addr.mk 0 0 Option.none))), (.pointer (Option.some (Go.Addr.mk 1 0 Option.none))), (.int .i64 (0)), (.bool false), (.pointer (Option.some (Go.Addr.mk 2 0 Option.none))), (.int .i64 (x * 9 / 10)), (.int .i64 x), (.bool false), (.bool false), (.int .i64 x), (.bool false), (.bool false), (.tuple #[]), (.agg #[(.int .i64 lo), (.int .i64 hi)]), (.bool true), (.bool false), (.tuple #[]), (.int .i64 x), (.int .i64 (x * 9)), (.int .i64 (x * 9 / 10)), (.tuple #[]), (.tuple #[]), (.tuple #[]), (.tuple #[]), (.tuple #[]), (.tuple #[]), (.tuple #[]), (.tuple #[]), (.tuple #[]), (.tuple #[]), (.tuple #[]), (.tuple #[]), (.tuple #[]), (.tuple #[]), (.tuple #[]), (.tuple #[]), (.tuple #[]), (.tuple #[]), (.tuple #[]), (.tuple #[]), (.tuple #[]), (.tuple #[]), (.tuple #[]), (.tuple #[]), (.tuple #[]), (.tuple #[]), (.tuple #[]), (.tuple #[]), (.tuple #[]), (.tuple #[]), (.tuple #[]), (.tuple #[]), (.tuple #[]), (.tuple #[]), (.tuple #[]), (.tuple #[])] [] (Go.Vm.View.mk 3 [(Prod.mk 2 (Go.Obj.cells #[(.int .i64 (0)), (.int .i64 (0))] 27 (Prod.mk 0 0))), (Prod.mk 1 (Go.Obj.cells #[(.int .i64 (0)), (.int .i64 (0))] 27 (Prod.mk 0 0))), (Prod.mk 0 (Go.Obj.cells #[(.int .i64 lo), (.int .i64 hi)] 27 (Prod.mk 0 0)))]) ([mT x lo hi, mF x lo hi]) ∧
      (∀ z0 : (mT x lo hi).α,
      ((mT x lo hi).P z0 →
        ((Go.Value.tuple #[(Go.Value.agg #[(Go.Value.int Go.IntKind.i64 (z0.lo)), (Go.Value.int Go.IntKind.i64 (z0.hi))]), (Go.Value.int Go.IntKind.i64 (0))]) = r))) ∧
      (∀ z0 : (mF x lo hi).α,
      ((mF x lo hi).P z0 →
        ((Go.Value.tuple #[(Go.Value.agg #[(Go.Value.int Go.IntKind.i64 (0)), (Go.Value.int Go.IntKind.i64 (0))]), (Go.Value.int Go.IntKind.i64 (5))]) = r))) ∧
      True) := by kernel_rfl
theorem k_range (x lo hi : Int) (r : Value) : callW memo1 (.mk [(9, .bool false)] [] []) 100 32 [.int .i64 x, .agg #[.int .i64 lo, .int .i64 hi]] ⟨0, []⟩ (fun v => v = r) = (
      OCall (memo1) 90 [(.int .i64 (0)), (.int .i64 (100000)), (.slice (Option.some (Go.Addr.mk 2 0 Option.none)) 1 1)] (Go.Vm.View.mk 3 [(Prod.mk 2 (Go.Obj.cells #[(.int .i64 x)] 2 (Prod.mk 0 0))), (Prod.mk 1 (Go.Obj.cells #[(.int .i64 (0)), (.int .i64 (0))] 27 (Prod.mk 0 0))), (Prod.mk 0 (Go.Obj.cells #[(.int .i64 lo), (.int .i64 hi)] 27 (Prod.mk 0 0)))]) (.bool false) ∧
      ((Go.Value.tuple #[(Go.Value.agg #[(Go.Value.int Go.IntKind.i64 (0)), (Go.Value.int Go.IntKind.i64 (0))]), (Go.Value.int Go.IntKind.i64 (3))]) = r)) := by kernel_rfl
theorem k_bad (x lo hi : Int) (r : Value) : callW memo1 (.mk [(9, .bool true), (13, .bool false)] [] []) 100 32 [.int .i64 x, .agg #[.int .i64 lo, .int .i64 hi]] ⟨0, []⟩ (fun v => v = r) = (
      OCall (memo1) 90 [(.int .i64 (0)), (.int .i64 (100000)), (.slice (Option.some (Go.Addr.mk 2 0 Option.none)) 1 1)] (Go.Vm.View.mk 3 [(Prod.mk 2 (Go.Obj.cells #[(.int .i64 x)] 2 (Prod.mk 0 0))), (Prod.mk 1 (Go.Obj.cells #[(.int .i64 (0)), (.int .i64 (0))] 27 (Prod.mk 0 0))), (Prod.mk 0 (Go.Obj.cells #[(.int .i64 lo), (.int .i64 hi)] 27 (Prod.mk 0 0)))]) (.bool true) ∧
      OCall (memo1) 91 [(.agg #[(.int .i64 lo), (.int .i64 hi)]), (.int .i64 (-100)), (.int .i64 (100))] (Go.Vm.View.mk 3 [(Prod.mk 2 (Go.Obj.cells #[(.int .i64 x)] 2 (Prod.mk 0 0))), (Prod.mk 1 (Go.Obj.cells #[(.int .i64 (0)), (.int .i64 (0))] 27 (Prod.mk 0 0))), (Prod.mk 0 (Go.Obj.cells #[(.int .i64 lo), (.int .i64 hi)] 27 (Prod.mk 0 0)))]) (.bool false) ∧
      ((Go.Value.tuple #[(Go.Value.agg #[(Go.Value.int Go.IntKind.i64 (0)), (Go.Value.int Go.IntKind.i64 (0))]), (Go.Value.int Go.IntKind.i64 (2))]) = r)) := by kernel_rfl
theorem k_none (x lo hi : Int) (r : Value) : callW memo1 (.mk [(9, .bool true), (13, .bool true), (17, .int .i64 (1000 * x)), (20, .int .i64 (1000 + hi)), (21, .int .i64 (mL x hi)), (23, .int .i64 (1000 * x)), (26, .int .i64 (1000 + lo)), (27, .int .i64 (mH x lo)), (33, .bool true)] [] []) 100 32 [.int .i64 x, .agg #[.int .i64 lo, .int .i64 hi]] ⟨0, []⟩ (fun v => v = r) = (
      OCall (memo1) 90 [(.int .i64 (0)), (.int .i64 (100000)), (.slice (Option.some (Go.Addr.mk 2 0 Option.none)) 1 1)] (Go.Vm.View.mk 3 [(Prod.mk 2 (Go.Obj.cells #[(.int .i64 x)] 2 (Prod.mk 0 0))), (Prod.mk 1 (Go.Obj.cells #[(.int .i64 (0)), (.int .i64 (0))] 27 (Prod.mk 0 0))), (Prod.mk 0 (Go.Obj.cells #[(.int .i64 lo), (.int .i64 hi)] 27 (Prod.mk 0 0)))]) (.bool true) ∧
      OCall (memo1) 91 [(.agg #[(.int .i64 lo), (.int .i64 hi)]), (.int .i64 (-100)), (.int .i64 (100))] (Go.Vm.View.mk 3 [(Prod.mk 2 (Go.Obj.cells #[(.int .i64 x)] 2 (Prod.mk 0 0))), (Prod.mk 1 (Go.Obj.cells #[(.int .i64 (0)), (.int .i64 (0))] 27 (Prod.mk 0 0))), (Prod.mk 0 (Go.Obj.cells #[(.int .i64 lo), (.int .i64 hi)] 27 (Prod.mk 0 0)))]) (.bool true) ∧
      OBin .mul 2 (.const (.int .i64 (1000))) (.tmp 16) (.int .i64 (1000)) (.int .i64 x) (.int .i64 (1000 * x)) ∧
      OBin .add 2 (.const (.int .i64 (1000))) (.tmp 19) (.int .i64 (1000)) (.int .i64 hi) (.int .i64 (1000 + hi)) ∧
      OCall (memo1) 92 [(.int .i64 (1000 * x)), (.int .i64 (1000 + hi))] (Go.Vm.View.mk 3 [(Prod.mk 2 (Go.Obj.cells #[(.int .i64 x)] 2 (Prod.mk 0 1))), (Prod.mk 1 (Go.Obj.cells #[(.int .i64 (0)), (.int .i64 (0))] 27 (Prod.mk 0 1))), (Prod.mk 0 (Go.Obj.cells #[(.int .i64 lo), (.int .i64 hi)] 27 (Prod.mk 0 1)))]) (.int .i64 (mL x hi)) ∧
      OBin .mul 2 (.const (.int .i64 (1000))) (.tmp 22) (.int .i64 (1000)) (.int .i64 x) (.int .i64 (1000 * x)) ∧
      OBin .add 2 (.const (.int .i64 (1000))) (.tmp 25) (.int .i64 (1000)) (.int .i64 lo) (.int .i64 (1000 + lo)) ∧
      OCall (memo1) 93 [(.int .i64 (1000 * x)), (.int .i64 (1000 + lo))] (Go.Vm.View.mk 3 [(Prod.mk 2 (Go.Obj.cells #[(.int .i64 x)] 2 (Prod.mk 0 1))), (Prod.mk 1 (Go.Obj.cells #[(.int .i64 (0)), (.int .i64 (0))] 27 (Prod.mk 0 1))), (Prod.mk 0 (Go.Obj.cells #[(.int .i64 lo), (.int .i64 hi)] 27 (Prod.mk 0 1)))]) (.int .i64 (mH x lo)) ∧
      OBin .gtr 2 (.tmp 30) (.tmp 32) (.int .i64 (mL x hi)) (.int .i64 (mH x lo)) (.bool true) ∧
      ((Go.Value.tuple #[(Go.Value.agg #[(Go.Value.int Go.IntKind.i64 (0)), (Go.Value.int Go.IntKind.i64 (0))]), (Go.Value.int Go.IntKind.i64 (5))]) = r)) := by kernel_rfl
theorem k_ok (x lo hi : Int) (r : Value) : callW memo1 (.mk [(9, .bool true), (13, .bool true), (17, .int .i64 (1000 * x)), (20, .int .i64 (1000 + hi)), (21, .int .i64 (mL x hi)), (23, .int .i64 (1000 * x)), (26, .int .i64 (1000 + lo)), (27, .int .i64 (mH x lo)), (33, .bool false)] [] []) 100 32 [.int .i64 x, .agg #[.int .i64 lo, .int .i64 hi]] ⟨0, []⟩ (fun v => v = r) = (
      OCall (memo1) 90 [(.int .i64 (0)), (.int .i64 (100000)), (.slice (Option.some (Go.Addr.mk 2 0 Option.none)) 1 1)] (Go.Vm.View.mk 3 [(Prod.mk 2 (Go.Obj.cells #[(.int .i64 x)] 2 (Prod.mk 0 0))), (Prod.mk 1 (Go.Obj.cells #[(.int .i64 (0)), (.int .i64 (0))] 27 (Prod.mk 0 0))), (Prod.mk 0 (Go.Obj.cells #[(.int .i64 lo), (.int .i64 hi)] 27 (Prod.mk 0 0)))]) (.bool true) ∧
      OCall (memo1) 91 [(.agg #[(.int .i64 lo), (.int .i64 hi)]), (.int .i64 (-100)), (.int .i64 (100))] (Go.Vm.View.mk 3 [(Prod.mk 2 (Go.Obj.cells #[(.int .i64 x)] 2 (Prod.mk 0 0))), (Prod.mk 1 (Go.Obj.cells #[(.int .i64 (0)), (.int .i64 (0))] 27 (Prod.mk 0 0))), (Prod.mk 0 (Go.Obj.cells #[(.int .i64 lo), (.int .i64 hi)] 27 (Prod.mk 0 0)))]) (.bool true) ∧
      OBin .mul 2 (.const (.int .i64 (1000))) (.tmp 16) (.int .i64 (1000)) (.int .i64 x) (.int .i64 (1000 * x)) ∧
      OBin .add 2 (.const (.int .i64 (1000))) (.tmp 19) (.int .i64 (1000)) (.int .i64 hi) (.int .i64 (1000 + hi)) ∧
      OCall (memo1) 92 [(.int .i64 (1000 * x)), (.int .i64 (1000 + hi))] (Go.Vm.View.mk 3 [(Prod.mk 2 (Go.Obj.cells #[(.int .i64 x)] 2 (Prod.mk 0 1))), (Prod.mk 1 (Go.Obj.cells #[(.int .i64 (0)), (.int .i64 (0))] 27 (Prod.mk 0 1))), (Prod.mk 0 (Go.Obj.cells #[(.int .i64 lo), (.int .i64 hi)] 27 (Prod.mk 0 1)))]) (.int .i64 (mL x hi)) ∧
      OBin .mul 2 (.const (.int .i64 (1000))) (.tmp 22) (.int .i64 (1000)) (.int .i64 x) (.int .i64 (1000 * x)) ∧
      OBin .add 2 (.const (.int .i64 (1000))) (.tmp 25) (.int .i64 (1000)) (.int .i64 lo) (.int .i64 (1000 + lo)) ∧
      OCall (memo1) 93 [(.int .i64 (1000 * x)), (.int .i64 (1000 + lo))] (Go.Vm.View.mk 3 [(Prod.mk 2 (Go.Obj.cells #[(.int .i64 x)] 2 (Prod.mk 0 1))), (Prod.mk 1 (Go.Obj.cells #[(.int .i64 (0)), (.int .i64 (0))] 27 (Prod.mk 0 1))), (Prod.mk 0 (Go.Obj.cells #[(.int .i64 lo), (.int .i64 hi)] 27 (Prod.mk 0 1)))]) (.int .i64 (mH x lo)) ∧
      OBin .gtr 2 (.tmp 30) (.tmp 32) (.int .i64 (mL x hi)) (.int .i64 (mH x lo)) (.bool false) ∧
      ((Go.Value.tuple #[(Go.Value.agg #[(Go.Value.int Go.IntKind.i64 (mL x hi)), (Go.Value.int Go.IntKind.i64 (mH x lo))]), (Go.Value.int Go.IntKind.i64 (0))]) = r)) := by kernel_rfl

theorem mul_bd {t d : Int} (h1 : 0 ≤ t) (h2 : t ≤ 200000) (h3 : 800 ≤ d) (h4 : d ≤ 1200) : 0 ≤ t * d ∧ t * d ≤ 240000000 := by
  have a1 : t * d ≤ t * 1200 := Int.mul_le_mul_of_nonneg_left h4 h1
  have a2 : 0 ≤ t * d := Int.mul_nonneg h1 (by omega)
  omega
theorem mH_iff {x lo t : Int} (h : 0 < 1000 + lo) : t ≤ mH x lo ↔ t * (1000 + lo) ≤ 1000 * x := Int.le_ediv_iff_mul_le h
theorem ceil_iff {a d t : Int} (h : 0 < d) : ceil a d ≤ t ↔ a ≤ t * d := by
  unfold ceil
  have e := Int.le_ediv_iff_mul_le (a := 0 - t) (b := 0 - a) h
  have e2 : (0 - t) * d = 0 - t * d := by rw [Int.sub_mul, Int.zero_mul]
  rw [e2] at e
  omega
theorem mL_iff {x hi t : Int} (h : 0 < 1000 + hi) : mL x hi ≤ t ↔ 1000 * x ≤ t * (1000 + hi) := ceil_iff h
theorem mL_ge {x hi : Int} (hx : 0 ≤ x) (h1 : -100 ≤ hi) (h2 : hi ≤ 100) : x * 9 / 10 ≤ mL x hi := by
  rcases Int.lt_or_le (mL x hi) (x * 9 / 10) with h | h
  · exfalso
    have h3 := (mL_iff (x := x) (hi := hi) (t := x * 9 / 10 - 1) (by omega)).1 (by omega)
    rcases Int.lt_or_le (x * 9 / 10 - 1) 0 with h4 | h4
    · have := Int.mul_le_mul_of_nonneg_right (show x * 9 / 10 - 1 ≤ -1 by omega) (show 0 ≤ 1000 + hi by omega)
      omega
    · have := Int.mul_le_mul_of_nonneg_left (show 1000 + hi ≤ 1100 by omega) h4
      omega
  · exact h
theorem mH_le {x lo : Int} (hx : 0 ≤ x) (h1 : -100 ≤ lo) (h2 : lo ≤ 100) : mH x lo ≤ x * 12 / 10 + 1 := by
  rcases Int.lt_or_le (x * 12 / 10 + 1) (mH x lo) with h | h
  · exfalso
    have h3 := (mH_iff (x := x) (lo := lo) (t := x * 12 / 10 + 2) (by omega)).1 (by omega)
    have := Int.mul_le_mul_of_nonneg_left (show 900 ≤ 1000 + lo by omega) (show 0 ≤ x * 12 / 10 + 2 by omega)
    omega
  · exact h
theorem meter_loop (x lo hi : Int) (hx : 0 ≤ x ∧ x ≤ 100000) (hr : lo ≤ hi ∧ -100 ≤ lo ∧ hi ≤ 100) : ∀ (M : Nat) (b : MB), (mInv x lo hi).P b → (mInv x lo hi).μ b + 20 < M →
    LoopR memo1 M none (.loop (bodyOfLoop (loopOf 33 0))) (mTs x lo hi b) [] (mV lo hi b) [mT x lo hi, mF x lo hi] := by
  refine loop_rule memo1_code (mInv x lo hi) _ (N0 := 20) ?_
  intro M b hP
  have hP : x * 9 / 10 ≤ b.t ∧ b.t ≤ x * 12 / 10 + 2 ∧ b.f = decide (mL x hi ≤ mH x lo ∧ mL x hi < b.t) ∧ (b.f = true → b.lo = mL x hi ∧ b.hi = min (mH x lo) (b.t - 1)) ∧ (b.f = false → b.lo = 0 ∧ b.hi = 0) := hP
  obtain ⟨t, f, l, h, j⟩ := b
  obtain ⟨h1, h2, h3, h4, h5⟩ := hP
  simp only at h1 h2 h3 h4 h5
  have q1 := mH_iff (x := x) (lo := lo) (t := t) (by omega)
  have q2 := mL_iff (x := x) (hi := hi) (t := t) (by omega)
  have g1 := mL_ge hx.1 (show -100 ≤ hi by omega) hr.2.2
  have g2 := mH_le hx.1 hr.2.1 (show lo ≤ 100 by omega)
  have p1 := mul_bd (t := t) (d := 1000 + lo) (by omega) (by omega) (by omega) (by omega)
  have p2 := mul_bd (t := t) (d := 1000 + hi) (by omega) (by omega) (by omega) (by omega)
  have o1 := ob_mul64 (t := 2) (x := .tmp 24) (y := .const (.int .i64 12)) (a := x) (b := 12) (by omega) (by omega) rfl
  have o2 := ob_quoN (t := 2) (x := .tmp 25) (y := .const (.int .i64 10)) (a := x * 12) (b := 10) (by omega) (by omega) (by omega) rfl
  have o3 := ob_add64 (t := 2) (x := .tmp 26) (y := .const (.int .i64 1)) (a := x * 12 / 10) (b := 1) (by omega) (by omega) rfl
  have o4 := ob_add64 (t := 2) (x := .const (.int .i64 1000)) (y := .tmp 33) (a := 1000) (b := lo) (by omega) (by omega) rfl
  have o5 := ob_mul64 (t := 2) (x := .tmp 31) (y := .tmp 34) (a := t) (b := 1000 + lo) (by omega) (by omega) rfl
  have o6 := ob_mul64 (t := 2) (x := .const (.int .i64 1000)) (y := .tmp 36) (a := 1000) (b := x) (by omega) (by omega) rfl
  have o7 := ob_add64 (t := 2) (x := .const (.int .i64 1000)) (y := .tmp 42) (a := 1000) (b := hi) (by omega) (by omega) rfl
  have o8 := ob_mul64 (t := 2) (x := .tmp 40) (y := .tmp 43) (a := t) (b := 1000 + hi) (by omega) (by omega) rfl
  have o9 := ob_mul64 (t := 2) (x := .const (.int .i64 1000)) (y := .tmp 45) (a := 1000) (b := x) (by omega) (by omega) rfl
  have o10 := ob_add64 (t := 2) (x := .tmp 29) (y := .const (.int .i64 1)) (a := t) (b := 1) (by omega) (by omega) rfl
  by_cases c1 : t ≤ x * 12 / 10 + 1
  · by_cases c2 : t * (1000 + lo) ≤ 1000 * x
    · by_cases c3 : 1000 * x ≤ t * (1000 + hi)
      · have hL := q2.2 c3
        have hH := q1.2 c2
        cases f
        · have hn : ¬ (mL x hi ≤ mH x lo ∧ mL x hi < t) := of_decide_eq_false h3.symm
          refine ⟨_, (m_new x lo hi M ⟨t, false, l, h, j⟩).mpr ⟨o1, o2, o3, ob_leq (decide_eq_true c1), o4, o5, o6, ob_leq (decide_eq_true c2), o7, o8, o9, ob_geq (decide_eq_true c3), ob_not, o10, ?_⟩⟩
          refine .againL (fun ts => ⟨t + 1, true, t, t, lget ts⟩) ⟨?_, ?_, ?_, fun _ => ⟨?_, ?_⟩, fun h => by cases h⟩ ?_ rfl rfl rfl
          · show x * 9 / 10 ≤ t + 1; omega
          · show t + 1 ≤ x * 12 / 10 + 2; omega
          · exact (decide_eq_true (show mL x hi ≤ mH x lo ∧ mL x hi < t + 1 by omega)).symm
          · show t = mL x hi; omega
          · show t = min (mH x lo) (t + 1 - 1); omega
          · show (x * 12 / 10 + 2 - (t + 1)).toNat < (x * 12 / 10 + 2 - t).toNat; omega
        · obtain ⟨h6, h7⟩ := h4 rfl
          refine ⟨_, (m_yes x lo hi M ⟨t, true, l, h, j⟩).mpr ⟨o1, o2, o3, ob_leq (decide_eq_true c1), o4, o5, o6, ob_leq (decide_eq_true c2), o7, o8, o9, ob_geq (decide_eq_true c3), ob_not, o10, ?_⟩⟩
          refine .againL (fun ts => ⟨t + 1, true, l, t, lget ts⟩) ⟨?_, ?_, ?_, fun _ => ⟨h6, ?_⟩, fun h => by cases h⟩ ?_ rfl rfl rfl
          · show x * 9 / 10 ≤ t + 1; omega
          · show t + 1 ≤ x * 12 / 10 + 2; omega
          · exact (decide_eq_true (show mL x hi ≤ mH x lo ∧ mL x hi < t + 1 by omega)).symm
          · show t = min (mH x lo) (t + 1 - 1); omega
          · show (x * 12 / 10 + 2 - (t + 1)).toNat < (x * 12 / 10 + 2 - t).toNat; omega
      · have hL : ¬ mL x hi ≤ t := fun h => c3 (q2.1 h)
        refine ⟨_, (m_no2 x lo hi M ⟨t, f, l, h, j⟩).mpr ⟨o1, o2, o3, ob_leq (decide_eq_true c1), o4, o5, o6, ob_leq (decide_eq_true c2), o7, o8, o9, ob_geq (decide_eq_false c3), o10, ?_⟩⟩
        refine .againL (fun ts => ⟨t + 1, f, l, h, lget ts⟩) ⟨?_, ?_, ?_, fun hf => ?_, h5⟩ ?_ rfl rfl rfl
        · show x * 9 / 10 ≤ t + 1; omega
        · show t + 1 ≤ x * 12 / 10 + 2; omega
        · rw [h3]; show decide (mL x hi ≤ mH x lo ∧ mL x hi < t) = decide (mL x hi ≤ mH x lo ∧ mL x hi < t + 1); apply decide_eq_decide.2; omega
        · exfalso; have hf : f = true := hf; rw [hf] at h3; have := of_decide_eq_true h3.symm; omega
        · show (x * 12 / 10 + 2 - (t + 1)).toNat < (x * 12 / 10 + 2 - t).toNat; omega
    · have hH : ¬ t ≤ mH x lo := fun h => c2 (q1.1 h)
      refine ⟨_, (m_no1 x lo hi M ⟨t, f, l, h, j⟩).mpr ⟨o1, o2, o3, ob_leq (decide_eq_true c1), o4, o5, o6, ob_leq (decide_eq_false c2), o10, ?_⟩⟩
      refine .againL (fun ts => ⟨t + 1, f, l, h, lget ts⟩) ⟨?_, ?_, ?_, fun hf => ⟨(h4 hf).1, ?_⟩, h5⟩ ?_ rfl rfl rfl
      · show x * 9 / 10 ≤ t + 1; omega
      · show t + 1 ≤ x * 12 / 10 + 2; omega
      · rw [h3]; show decide (mL x hi ≤ mH x lo ∧ mL x hi < t) = decide (mL x hi ≤ mH x lo ∧ mL x hi < t + 1); apply decide_eq_decide.2; omega
      · have := (h4 hf).2; show h = min (mH x lo) (t + 1 - 1); omega
      · show (x * 12 / 10 + 2 - (t + 1)).toNat < (x * 12 / 10 + 2 - t).toNat; omega
  · cases f
    · have hn : ¬ (mL x hi ≤ mH x lo ∧ mL x hi < t) := of_decide_eq_false h3.symm
      refine ⟨_, (m_out x lo hi M ⟨t, false, l, h, j⟩).mpr ⟨o1, o2, o3, ob_leq (decide_eq_false c1), ?_⟩⟩
      exact .outL (by simp) (mF x lo hi) (by simp) (fun ts => ⟨t, false, l, h, lget ts⟩) (show ¬ mL x hi ≤ mH x lo by omega) rfl rfl rfl rfl
    · have hy := of_decide_eq_true h3.symm
      obtain ⟨h6, h7⟩ := h4 rfl
      refine ⟨_, (m_out x lo hi M ⟨t, true, l, h, j⟩).mpr ⟨o1, o2, o3, ob_leq (decide_eq_false c1), ?_⟩⟩
      exact .outL (by simp) (mT x lo hi) (by simp) (fun ts => ⟨t, true, l, h, lget ts⟩) (show mL x hi ≤ mH x lo ∧ l = mL x hi ∧ h = mH x lo by omega) rfl rfl rfl rfl
theorem loop33 : loopOf 33 0 = .loop (bodyOfLoop (loopOf 33 0)) := by kernel_rfl
def errV (n : Int) : Value := .tuple #[.agg #[.int .i64 0, .int .i64 0], .int .i64 n]
/-- what both meters return -/
def meterV (x lo hi : Int) : Value :=
  if ¬ (0 ≤ x ∧ x ≤ 100000) then errV 3 else if okR lo hi (-100) 100 = false then errV 2 else if ¬ mL x hi ≤ mH x lo then errV 5 else .tuple #[.agg #[.int .i64 (mL x hi), .int .i64 (mH x lo)], .int .i64 0]
theorem meter_flat (x lo hi : Int) : flatN 3 (meterV x lo hi) = true := by
  unfold meterV
  split
  · rfl
  · split
    · rfl
    · split <;> rfl
theorem refMeter_any (x lo hi : Int) (w : World) : Calls TP 33 #[.int .i64 x, .agg #[.int .i64 lo, .int .i64 hi]] w fun e w' => e = .returned (meterV x lo hi) ∧ RowKit.Below w.heap.size w w' := by
  have go : ∀ adv, callW memo1 adv 100000 33 [.int .i64 x, .agg #[.int .i64 lo, .int .i64 hi]] ⟨0, []⟩ (fun v => v = meterV x lo hi) → Calls TP 33 #[.int .i64 x, .agg #[.int .i64 lo, .int .i64 hi]] w fun e w' => e = .returned (meterV x lo hi) ∧ RowKit.Below w.heap.size w w' := fun adv h => run_val (call_sym memo1_ok memo1_code rfl rfl (fun v h => by rw [h]; exact meter_flat _ _ _) h w)
  by_cases h1 : x < 0
  · exact go _ ((r_low x lo hi _).mpr ⟨ob_lss (decide_eq_true h1), by unfold meterV; rw [if_pos (by omega)]; rfl⟩)
  by_cases h2 : 100000 < x
  · exact go _ ((r_high x lo hi _).mpr ⟨ob_lss (decide_eq_false h1), ob_gtr (decide_eq_true h2), by unfold meterV; rw [if_pos (by omega)]; rfl⟩)
  cases h3 : okR lo hi (-100) 100
  · exact go _ ((r_bad x lo hi _).mpr ⟨ob_lss (decide_eq_false h1), ob_gtr (decide_eq_false h2), ⟨by kernel_rfl, m1_call (by rw [← h3]; rfl)⟩, by unfold meterV; rw [if_neg (by omega), if_pos h3]; rfl⟩)
  · have hr : lo ≤ hi ∧ -100 ≤ lo ∧ hi ≤ 100 := of_decide_eq_true h3
    refine go _ ((r_run x lo hi _).mpr ⟨ob_lss (decide_eq_false h1), ob_gtr (decide_eq_false h2), ⟨by kernel_rfl, m1_call (by rw [← h3]; rfl)⟩, ob_mul64 (by omega) (by omega) rfl, ob_quoN (by omega) (by omega) (by omega) rfl, ?_, fun z hz => ?_, fun z hz => ?_, trivial⟩)
    · have := meter_loop x lo hi (by omega) hr 99992 ⟨x * 9 / 10, false, 0, 0, fun _ => undef⟩ ⟨Int.le_refl _, show x * 9 / 10 ≤ x * 12 / 10 + 2 by omega, (decide_eq_false (by have := mL_ge (x := x) (hi := hi) (by omega) (by omega) (by omega); show ¬ (mL x hi ≤ mH x lo ∧ mL x hi < x * 9 / 10); omega)).symm, (fun h => (by cases h)), fun _ => ⟨rfl, rfl⟩⟩ (show (x * 12 / 10 + 2 - x * 9 / 10).toNat + 20 < 99992 by omega)
      rw [loop33]
      exact this
    · obtain ⟨a1, a2, a3⟩ := hz
      unfold meterV
      rw [if_neg (by omega), if_neg (by rw [h3]; simp), if_neg (by omega), a2, a3]
    · have a1 : ¬ mL x hi ≤ mH x lo := hz
      unfold meterV
      rw [if_neg (by omega), if_neg (by rw [h3]; simp), if_pos a1]
      rfl
theorem meter_any (x lo hi : Int) (w : World) : Calls TP 32 #[.int .i64 x, .agg #[.int .i64 lo, .int .i64 hi]] w fun e w' => e = .returned (meterV x lo hi) ∧ RowKit.Below w.heap.size w w' := by
  have go : ∀ adv, callW memo1 adv 100 32 [.int .i64 x, .agg #[.int .i64 lo, .int .i64 hi]] ⟨0, []⟩ (fun v => v = meterV x lo hi) → Calls TP 32 #[.int .i64 x, .agg #[.int .i64 lo, .int .i64 hi]] w fun e w' => e = .returned (meterV x lo hi) ∧ RowKit.Below w.heap.size w w' := fun adv h => run_val (call_sym memo1_ok memo1_code rfl rfl (fun v h => by rw [h]; exact meter_flat _ _ _) h w)
  have ea : allIn 0 100000 [x] = decide (0 ≤ x ∧ x ≤ 100000) := by unfold allIn; apply decide_eq_decide.2; simp
  by_cases h1 : 0 ≤ x ∧ x ≤ 100000
  · have c1 : memo1 (.call 90 [.int .i64 0, .int .i64 100000, .slice (some ⟨2, 0, none⟩) 1 1] ⟨3, [(2, .cells #[.int .i64 x] 2 (0, 0)), (1, .cells #[.int .i64 0, .int .i64 0] 27 (0, 0)), (0, .cells #[.int .i64 lo, .int .i64 hi] 27 (0, 0))]⟩) = some (.value (.bool true) ⟨3, [(2, .cells #[.int .i64 x] 2 (0, 0)), (1, .cells #[.int .i64 0, .int .i64 0] 27 (0, 0)), (0, .cells #[.int .i64 lo, .int .i64 hi] 27 (0, 0))]⟩) := by
      rw [← decide_eq_true h1, ← ea]
      kernel_rfl
    cases h3 : okR lo hi (-100) 100
    · exact go _ ((k_bad x lo hi _).mpr ⟨⟨by kernel_rfl, c1⟩, ⟨by kernel_rfl, m1_call (by rw [← h3]; rfl)⟩, by unfold meterV; rw [if_neg (by omega), if_pos h3]; rfl⟩)
    · have hr : lo ≤ hi ∧ -100 ≤ lo ∧ hi ≤ 100 := of_decide_eq_true h3
      by_cases h4 : mL x hi ≤ mH x lo
      · exact go _ ((k_ok x lo hi _).mpr ⟨⟨by kernel_rfl, c1⟩, ⟨by kernel_rfl, m1_call (by rw [← h3]; rfl)⟩, ob_mul64 (by omega) (by omega) rfl, ob_add64 (by omega) (by omega) rfl, ⟨by kernel_rfl, m1_call (up_at (by omega) (by omega) (by omega))⟩, ob_mul64 (by omega) (by omega) rfl, ob_add64 (by omega) (by omega) rfl, ⟨by kernel_rfl, m1_call (down_at (by omega) (by omega) (by omega))⟩, ob_gtr (decide_eq_false (by omega)), by unfold meterV; rw [if_neg (by omega), if_neg (by rw [h3]; simp), if_neg (by omega)]⟩)
      · exact go _ ((k_none x lo hi _).mpr ⟨⟨by kernel_rfl, c1⟩, ⟨by kernel_rfl, m1_call (by rw [← h3]; rfl)⟩, ob_mul64 (by omega) (by omega) rfl, ob_add64 (by omega) (by omega) rfl, ⟨by kernel_rfl, m1_call (up_at (by omega) (by omega) (by omega))⟩, ob_mul64 (by omega) (by omega) rfl, ob_add64 (by omega) (by omega) rfl, ⟨by kernel_rfl, m1_call (down_at (by omega) (by omega) (by omega))⟩, ob_gtr (decide_eq_true (by omega)), by unfold meterV; rw [if_neg (by omega), if_neg (by rw [h3]; simp), if_pos h4]; rfl⟩)
  · refine go _ ((k_range x lo hi _).mpr ⟨⟨by kernel_rfl, ?_⟩, by unfold meterV; rw [if_pos h1]; rfl⟩)
    rw [← decide_eq_false h1, ← ea]
    kernel_rfl
end Go.Vm
