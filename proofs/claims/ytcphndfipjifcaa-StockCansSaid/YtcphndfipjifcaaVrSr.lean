/- StockMeters: its body, with what is known of what it calls. -/
import Derived.Test.YtcphndfipjifcaaVrSq
set_option linter.unusedVariables false
namespace Go.Vm
set_option maxRecDepth 100000
set_option maxHeartbeats 4000000
/-- a call with slices without elements -/
theorem call_empty {memo : Job → Option Out} {K : List Nat} {adv : Adv} (hs : SelfOK TP memo) (hm : ∀ ar c ts df V, memo (.code ar c ts df V) = none) {N : Nat} {f : FuncId} {args : List Value} {k : Value → Prop}
    (hf : memo (.call f args ⟨1, []⟩) = none) (ha : args.all okArg = true) (hk : ∀ v, k v → flatN 3 v = true) (h : callWP memo K adv N f args ⟨1, []⟩ k) (w : World) (b off : Nat) :
    Calls TP f (args.map (shift b off)).toArray w fun e w' => (∃ v, e = .returned v ∧ k v) ∧ RowKit.Below w.heap.size w w' := by
  obtain ⟨v, V2, h3, h2⟩ := call_runP hm hf h
  have hkv := hk v h2
  obtain ⟨_, ok⟩ := (rmP_ok (K := K) hs (N + 1)).call _ _ _ _ _ h3
  have hl : LRel (VRel ⟨fun _ => b, fun _ => off, fun _ => 0, fun _ => 0⟩ (fun x => x = 0)) args (args.map (shift b off)) := LRel.of_get (by simp) fun i x y hx hy => by
    rw [List.getElem?_map, hx] at hy
    simp only [Option.map_some, Option.some.injEq] at hy
    subst hy
    have hax := List.all_eq_true.1 ha x (List.mem_of_getElem? hx)
    unfold okArg at hax
    split at hax
    · rename_i a n c'
      simp only [Bool.and_eq_true, Nat.blt_eq] at hax
      have h0 := Nat.eq_of_beq_eq_true hax.1
      exact .slice (ρ := ⟨fun _ => b, fun _ => off, fun _ => 0, fun _ => 0⟩) h0 hax.2
    · rename_i hne
      have : shift b off x = x := by
        unfold shift
        split
        · rename_i a n c'; exact absurd rfl (hne a n c')
        · rfl
      rw [this]
      exact VRel.of_flatN 3 x hax
  have := ok ⟨fun _ => b, fun _ => off, fun _ => 0, fun _ => 0⟩ (fun x => x = 0) w (args.map (shift b off)).toArray 5 ⟨fun b o h => (by cases h), fun b o h => (by cases h), fun b o h => (by cases h), fun b cs e fz h => (by cases h), fun b es c h => (by cases h), fun b c x y h => (by cases h)⟩ hl (fun x h1 _ h => by
    have h : x = 0 := h
    have h1 : 1 ≤ x := h1
    omega)
  refine (callsIn_wide.1 this).mono ?_
  rintro e w' ⟨ρ1, v', rfl, st, hrel⟩
  have hv' := hrel.flatN_eq 3 hkv
  subst hv'
  exact ⟨⟨_, rfl, h2⟩, st.os, st.tape, st.output, st.size, fun k hk => st.frame k hk fun x o hx ho => by cases hx⟩
theorem e_34 (o : Option Addr) (cap : Nat) (r : Value) : callWP memo2 [] (.mk [] [] []) 100 34 [.slice o 0 cap] ⟨1, []⟩ (fun v => v = r) = (
      ((Go.Value.tuple #[(Go.Value.agg #[(Go.Value.int Go.IntKind.i64 (0)), (Go.Value.int Go.IntKind.i64 (0))]), (Go.Value.int Go.IntKind.i64 (6))]) = r)) := by kernel_rfl
theorem e_35 (o : Option Addr) (cap : Nat) (r : Value) : callWP memo2 [] (.mk [] [] []) 100 35 [.slice o 0 cap] ⟨1, []⟩ (fun v => v = r) = (
      ((Go.Value.tuple #[(Go.Value.agg #[(Go.Value.int Go.IntKind.i64 (0)), (Go.Value.int Go.IntKind.i64 (0))]), (Go.Value.int Go.IntKind.i64 (6))]) = r)) := by kernel_rfl

/-- a slice without elements, wherever it lies, as the machine has it -/
def mark (o : Option Addr) : Option Addr := o.map fun a => ⟨0, 0, a.spot⟩
theorem mark_ok {o : Option Addr} {n cap : Nat} (hcap : cap < big) : okArg (.slice (mark o) n cap) = true := by
  cases o <;> simp [mark, okArg, flatN, flat, hcap]
theorem shift_id {b off : Nat} : ∀ {l : List Value}, (∀ v, v ∈ l → shift b off v = v) → l.map (shift b off) = l
  | [], _ => rfl
  | v :: l, h => by rw [List.map_cons, h v (by simp), shift_id fun v hv => h v (List.mem_cons_of_mem _ hv)]
theorem mark_back {o : Option Addr} {n cap : Nat} : ∃ b off, ∀ l : List Value, (∀ v, v ∈ l → shift b off v = v) → (l ++ [Value.slice (mark o) n cap]).map (shift b off) = l ++ [Value.slice o n cap] := by
  cases o with
  | none => exact ⟨0, 0, fun l hl => by rw [List.map_append, shift_id hl]; rfl⟩
  | some a =>
    obtain ⟨bk, of, sp⟩ := a
    exact ⟨bk, of, fun l hl => by rw [List.map_append, shift_id hl]; rfl⟩
theorem worn_none (o : Option Addr) (cap : Nat) (hcap : cap < big) (w : World) : Calls TP 34 #[.slice o 0 cap] w fun e w' => e = .returned (errV 6) ∧ RowKit.Below w.heap.size w w' := by
  obtain ⟨b, off, hb⟩ := mark_back (o := o) (n := 0) (cap := cap)
  have := run_val (call_empty memo2_ok memo2_code (m2_none rfl rfl (can_no rfl rfl)) (by simp [mark_ok hcap]) (fun v h => by rw [h]; rfl) ((e_34 (mark o) cap (errV 6)).mpr rfl) w b off)
  have e := hb [] (by simp)
  simp only [List.nil_append] at e
  rw [e] at this
  exact this
theorem refWorn_none (o : Option Addr) (cap : Nat) (hcap : cap < big) (w : World) : Calls TP 35 #[.slice o 0 cap] w fun e w' => e = .returned (errV 6) ∧ RowKit.Below w.heap.size w w' := by
  obtain ⟨b, off, hb⟩ := mark_back (o := o) (n := 0) (cap := cap)
  have := run_val (call_empty memo2_ok memo2_code (m2_none rfl rfl (can_no rfl rfl)) (by simp [mark_ok hcap]) (fun v h => by rw [h]; rfl) ((e_35 (mark o) cap (errV 6)).mpr rfl) w b off)
  have e := hb [] (by simp)
  simp only [List.nil_append] at e
  rw [e] at this
  exact this
def meterA (args : List Value) : Option Value := match args with
  | [.int .i64 x, .agg ⟨[.int .i64 lo, .int .i64 hi]⟩] => some (meterV x lo hi)
  | _ => none
def bdF (f : FuncId) (args : List Value) : Option Value := match Nat.beq f 31 && args.isEmpty with
  | true => some (.bool true)
  | false => match Nat.beq f 32 || Nat.beq f 33 with
    | true => meterA args
    | false => none
def oracleE (j : Job) : Option Out := match j with
  | .call f args V => match args with
    | [.slice _ 0 cap] => match (Nat.beq f 34 || Nat.beq f 35) && Nat.blt cap big with
      | true => some (.value (errV 6) V)
      | false => none
    | _ => none
  | _ => none
noncomputable def wornR (f : FuncId) (args c : List Value) : Option Value := match args with
  | [.slice (some ⟨0, 0, none⟩) n cap] => match unCells c with
    | some l => match Nat.beq n l.length && Nat.ble n 1000 && Nat.blt cap big with
      | true => match Nat.beq f 34 || Nat.beq f 35 with
        | true => some (wornV l)
        | false => none
      | false => none
    | none => none
  | _ => none
theorem bdF_ok (works : ∀ w, Calls TP 31 #[] w fun e w' => e = .returned (.bool true) ∧ RowKit.Below w.heap.size w w') : SelfOK TP (oracle bdF) := oracle_ok fun f args v h => by
  unfold bdF at h
  split at h
  · rename_i hf
    rw [Bool.and_eq_true] at hf
    have := Nat.eq_of_beq_eq_true hf.1
    subst this
    have := List.isEmpty_iff.1 hf.2
    subst this
    cases h
    exact ⟨rfl, rfl, works⟩
  · split at h
    · rename_i hf
      rw [Bool.or_eq_true] at hf
      unfold meterA at h
      split at h
      · cases h
        rcases hf with hf | hf
        · have := Nat.eq_of_beq_eq_true hf
          subst this
          exact ⟨rfl, meter_flat _ _ _, fun w => meter_any _ _ _ w⟩
        · have := Nat.eq_of_beq_eq_true hf
          subst this
          exact ⟨rfl, meter_flat _ _ _, fun w => refMeter_any _ _ _ w⟩
      · cases h
    · cases h
theorem oracleE_ok : SelfOK TP oracleE := by
  refine ⟨(fun _ _ _ _ _ _ _ _ _ h => by cases h), (fun _ _ _ _ _ _ _ _ _ h => by cases h), fun f args V v V1 hj => ?_⟩
  simp only [oracleE] at hj
  split at hj
  case h_2 => cases hj
  rename_i o cap
  split at hj
  case h_2 => cases hj
  rename_i hk
  cases hj
  simp only [Bool.and_eq_true, Bool.or_eq_true, Nat.blt_eq] at hk
  refine ⟨Nat.le_refl _, ?_⟩
  intro ρ D w args' n hw hl hd
  have ha : ∃ o', args' = #[.slice o' 0 cap] := by
    obtain ⟨la⟩ := args'
    cases hl with
    | cons hx ht =>
      cases ht
      rcases hx.sliceInv with ⟨rfl, rfl⟩ | ⟨a, c', rfl, _, rfl, ⟨rfl, _⟩ | ⟨rfl, _⟩⟩
      · exact ⟨none, rfl⟩
      · exact ⟨_, rfl⟩
      · omega
  obtain ⟨o', rfl⟩ := ha
  have hc : Calls TP f #[.slice o' 0 cap] w fun e w' => e = .returned (errV 6) ∧ RowKit.Below w.heap.size w w' := by
    rcases hk.1 with hf | hf
    · have := Nat.eq_of_beq_eq_true hf
      subst this
      exact worn_none o' cap hk.2 w
    · have := Nat.eq_of_beq_eq_true hf
      subst this
      exact refWorn_none o' cap hk.2 w
  refine (callsIn_wide.2 hc).mono ?_
  rintro e w' ⟨he, hbl⟩
  exact ⟨ρ, _, he, .below hw hbl, VRel.of_flatN 3 _ rfl⟩
theorem wornR_ok : SelfOK TP (oracleR wornR) := oracleR_ok fun f args c v h => by
  unfold wornR at h
  split at h
  · rename_i n cap
    split at h
    · rename_i l hl
      split at h
      · rename_i hk
        simp only [Bool.and_eq_true, Nat.blt_eq] at hk
        have h1 := Nat.eq_of_beq_eq_true hk.1.1
        have h2 := Nat.le_of_ble_eq_true hk.1.2
        have hc := unCells_eq hl
        subst hc h1
        split at h
        · rename_i hf
          rw [Bool.or_eq_true] at hf
          cases h
          rcases hf with hf | hf
          · have := Nat.eq_of_beq_eq_true hf
            subst this
            exact ⟨cells_flat l, worn_flat l, fun w b off hr => worn_any l cap hk.2 h2 w b off hr⟩
          · have := Nat.eq_of_beq_eq_true hf
            subst this
            exact ⟨cells_flat l, worn_flat l, fun w b off hr => refWorn_any l cap hk.2 h2 w b off hr⟩
        · cases h
      · cases h
    · cases h
  · cases h
noncomputable def memo3 : Job → Option Out := orF (oracle bdF) (orF oracleE (oracleR wornR))
theorem memo3_code : ∀ ar c ts df V, memo3 (.code ar c ts df V) = none := fun _ _ _ _ _ => rfl
theorem memo3_ok (works : ∀ w, Calls TP 31 #[] w fun e w' => e = .returned (.bool true) ∧ RowKit.Below w.heap.size w w') : SelfOK TP memo3 := SelfOK.or (bdF_ok works) (SelfOK.or oracleE_ok wornR_ok)
theorem b_big (x lo hi a b e c d g : Int) (l : List (Int × Int)) (cap : Nat) (r : Value) : callWP memo3 [] (.mk [(17, .bool true)] [] []) 100 6 [.int .i64 x, .agg #[.int .i64 lo, .int .i64 hi], slc l.length cap] (rowV (cells l) 71) (fun v => v = r) = (
      OBin .gtr 3 (.tmp 16) (.const (.int .i64 (30))) (.int .i64 (↑l.length)) (.int .i64 (30)) (.bool true) ∧
      ((Go.Value.bool true) = r)) := by kernel_rfl
theorem b_rows (x lo hi a b e c d g : Int) (l : List (Int × Int)) (cap : Nat) (r : Value) : callWP memo3 [] (.mk [(17, .bool false), (22, .tuple #[.agg #[.int .i64 a, .int .i64 b], .int .i64 e]), (28, .tuple #[.agg #[.int .i64 a, .int .i64 b], .int .i64 e]), (33, .tuple #[.agg #[.int .i64 c, .int .i64 d], .int .i64 g]), (38, .tuple #[.agg #[.int .i64 c, .int .i64 d], .int .i64 g]), (43, .bool true), (47, .bool true), (52, .bool true), (57, .bool true)] [] []) 100 6 [.int .i64 x, .agg #[.int .i64 lo, .int .i64 hi], slc l.length cap] (rowV (cells l) 71) (fun v => v = r) = (
      OBin .gtr 3 (.tmp 16) (.const (.int .i64 (30))) (.int .i64 (↑l.length)) (.int .i64 (30)) (.bool false) ∧
      OCall (memo3) 32 [(.int .i64 x), (.agg #[(.int .i64 lo), (.int .i64 hi)])] (Go.Vm.View.mk 2 [(Prod.mk 1 (Go.Obj.cells #[(.int .i64 lo), (.int .i64 hi)] 27 (Prod.mk 0 0))), (Prod.mk 0 (Go.Obj.cells (Array.mk (cells l)) 71 (Prod.mk 0 1)))]) (.tuple #[(.agg #[(.int .i64 a), (.int .i64 b)]), (.int .i64 e)]) ∧
      OCall (memo3) 33 [(.int .i64 x), (.agg #[(.int .i64 lo), (.int .i64 hi)])] (Go.Vm.View.mk 3 [(Prod.mk 2 (Go.Obj.cells #[(.int .i64 a), (.int .i64 b)] 27 (Prod.mk 0 0))), (Prod.mk 1 (Go.Obj.cells #[(.int .i64 lo), (.int .i64 hi)] 27 (Prod.mk 0 0))), (Prod.mk 0 (Go.Obj.cells (Array.mk (cells l)) 71 (Prod.mk 0 1)))]) (.tuple #[(.agg #[(.int .i64 a), (.int .i64 b)]), (.int .i64 e)]) ∧
      OCall (memo3) 34 [(.slice (Option.some (Go.Addr.mk 0 0 Option.none)) (l.length) cap)] (Go.Vm.View.mk 4 [(Prod.mk 3 (Go.Obj.cells #[(.int .i64 a), (.int .i64 b)] 27 (Prod.mk 0 0))), (Prod.mk 2 (Go.Obj.cells #[(.int .i64 a), (.int .i64 b)] 27 (Prod.mk 0 0))), (Prod.mk 1 (Go.Obj.cells #[(.int .i64 lo), (.int .i64 hi)] 27 (Prod.mk 0 0))), (Prod.mk 0 (Go.Obj.cells (Array.mk (cells l)) 71 (Prod.mk 0 1)))]) (.tuple #[(.agg #[(.int .i64 c), (.int .i64 d)]), (.int .i64 g)]) ∧
      OCall (memo3) 35 [(.slice (Option.some (Go.Addr.mk 0 0 Option.none)) (l.length) cap)] (Go.Vm.View.mk 5 [(Prod.mk 4 (Go.Obj.cells #[(.int .i64 c), (.int .i64 d)] 27 (Prod.mk 0 0))), (Prod.mk 3 (Go.Obj.cells #[(.int .i64 a), (.int .i64 b)] 27 (Prod.mk 0 0))), (Prod.mk 2 (Go.Obj.cells #[(.int .i64 a), (.int .i64 b)] 27 (Prod.mk 0 0))), (Prod.mk 1 (Go.Obj.cells #[(.int .i64 lo), (.int .i64 hi)] 27 (Prod.mk 0 0))), (Prod.mk 0 (Go.Obj.cells (Array.mk (cells l)) 71 (Prod.mk 0 1)))]) (.tuple #[(.agg #[(.int .i64 c), (.int .i64 d)]), (.int .i64 g)]) ∧
      OBin .eql 27 (.tmp 41) (.tmp 42) (.agg #[(.int .i64 a), (.int .i64 b)]) (.agg #[(.int .i64 a), (.int .i64 b)]) (.bool true) ∧
      OBin .eql 33 (.tmp 45) (.tmp 46) (.int .i64 e) (.int .i64 e) (.bool true) ∧
      OBin .eql 27 (.tmp 50) (.tmp 51) (.agg #[(.int .i64 c), (.int .i64 d)]) (.agg #[(.int .i64 c), (.int .i64 d)]) (.bool true) ∧
      OBin .eql 33 (.tmp 55) (.tmp 56) (.int .i64 g) (.int .i64 g) (.bool true) ∧
      ((Go.Value.bool true) = r)) := by kernel_rfl
theorem b_empty (x lo hi a b e c d g : Int) (o : Option Addr) (cap : Nat) (r : Value) : callWP memo3 [] (.mk [(22, .tuple #[.agg #[.int .i64 a, .int .i64 b], .int .i64 e]), (28, .tuple #[.agg #[.int .i64 a, .int .i64 b], .int .i64 e]), (33, .tuple #[.agg #[.int .i64 c, .int .i64 d], .int .i64 g]), (38, .tuple #[.agg #[.int .i64 c, .int .i64 d], .int .i64 g]), (43, .bool true), (47, .bool true), (52, .bool true), (57, .bool true)] [] []) 100 6 [.int .i64 x, .agg #[.int .i64 lo, .int .i64 hi], .slice o 0 cap] ⟨1, []⟩ (fun v => v = r) = (
      OCall (memo3) 32 [(.int .i64 x), (.agg #[(.int .i64 lo), (.int .i64 hi)])] (Go.Vm.View.mk 2 [(Prod.mk 1 (Go.Obj.cells #[(.int .i64 lo), (.int .i64 hi)] 27 (Prod.mk 0 0)))]) (.tuple #[(.agg #[(.int .i64 a), (.int .i64 b)]), (.int .i64 e)]) ∧
      OCall (memo3) 33 [(.int .i64 x), (.agg #[(.int .i64 lo), (.int .i64 hi)])] (Go.Vm.View.mk 3 [(Prod.mk 2 (Go.Obj.cells #[(.int .i64 a), (.int .i64 b)] 27 (Prod.mk 0 0))), (Prod.mk 1 (Go.Obj.cells #[(.int .i64 lo), (.int .i64 hi)] 27 (Prod.mk 0 0)))]) (.tuple #[(.agg #[(.int .i64 a), (.int .i64 b)]), (.int .i64 e)]) ∧
      OCall (memo3) 34 [(.slice o 0 cap)] (Go.Vm.View.mk 4 [(Prod.mk 3 (Go.Obj.cells #[(.int .i64 a), (.int .i64 b)] 27 (Prod.mk 0 0))), (Prod.mk 2 (Go.Obj.cells #[(.int .i64 a), (.int .i64 b)] 27 (Prod.mk 0 0))), (Prod.mk 1 (Go.Obj.cells #[(.int .i64 lo), (.int .i64 hi)] 27 (Prod.mk 0 0)))]) (.tuple #[(.agg #[(.int .i64 c), (.int .i64 d)]), (.int .i64 g)]) ∧
      OCall (memo3) 35 [(.slice o 0 cap)] (Go.Vm.View.mk 5 [(Prod.mk 4 (Go.Obj.cells #[(.int .i64 c), (.int .i64 d)] 27 (Prod.mk 0 0))), (Prod.mk 3 (Go.Obj.cells #[(.int .i64 a), (.int .i64 b)] 27 (Prod.mk 0 0))), (Prod.mk 2 (Go.Obj.cells #[(.int .i64 a), (.int .i64 b)] 27 (Prod.mk 0 0))), (Prod.mk 1 (Go.Obj.cells #[(.int .i64 lo), (.int .i64 hi)] 27 (Prod.mk 0 0)))]) (.tuple #[(.agg #[(.int .i64 c), (.int .i64 d)]), (.int .i64 g)]) ∧
      OBin .eql 27 (.tmp 41) (.tmp 42) (.agg #[(.int .i64 a), (.int .i64 b)]) (.agg #[(.int .i64 a), (.int .i64 b)]) (.bool true) ∧
      OBin .eql 33 (.tmp 45) (.tmp 46) (.int .i64 e) (.int .i64 e) (.bool true) ∧
      OBin .eql 27 (.tmp 50) (.tmp 51) (.agg #[(.int .i64 c), (.int .i64 d)]) (.agg #[(.int .i64 c), (.int .i64 d)]) (.bool true) ∧
      OBin .eql 33 (.tmp 55) (.tmp 56) (.int .i64 g) (.int .i64 g) (.bool true) ∧
      ((Go.Value.bool true) = r)) := by kernel_rfl

theorem m3_meter {f : FuncId} {x lo hi : Int} {V : View} {v : Value} (hf : (Nat.beq f 32 || Nat.beq f 33) = true) (h31 : Nat.beq f 31 = false) (h : meterV x lo hi = v) : memo3 (.call f [.int .i64 x, .agg #[.int .i64 lo, .int .i64 hi]] V) = some (.value v V) := by
  have e : bdF f [.int .i64 x, .agg #[.int .i64 lo, .int .i64 hi]] = some v := by
    unfold bdF
    simp only [h31, hf, Bool.false_and]
    rw [← h]; rfl
  simp only [memo3, orF, oracle, e]
theorem m3_empty {f : FuncId} {o : Option Addr} {cap : Nat} {V : View} (hf : (Nat.beq f 34 || Nat.beq f 35) = true) (h1 : bdF f [.slice o 0 cap] = none) (hcap : cap < big) : memo3 (.call f [.slice o 0 cap] V) = some (.value (errV 6) V) := by
  have e : oracleE (.call f [.slice o 0 cap] V) = some (.value (errV 6) V) := by
    have : Nat.blt cap big = true := by rw [Nat.blt_eq]; exact hcap
    simp only [oracleE, hf, this, Bool.and_self]
  simp only [memo3, orF, oracle, h1, e]
theorem m3_rows {f : FuncId} {l : List (Int × Int)} {cap : Nat} {V : View} {e : TypeId} {fz : Nat × Nat} {v : Value} (hf : (Nat.beq f 34 || Nat.beq f 35) = true) (h1 : bdF f [slc l.length cap] = none) (hl : 0 < l.length) (hn : l.length ≤ 1000) (hcap : cap < big)
    (hV : find V.objs 0 = some (.cells ⟨cells l⟩ e fz)) (hv : wornV l = v) : memo3 (.call f [slc l.length cap] V) = some (.value v V) := by
  have e0 : oracleE (.call f [slc l.length cap] V) = none := by
    cases hq : l.length with
    | zero => omega
    | succ m => rfl
  have e1 : blockArg [slc l.length cap] = some 0 := rfl
  have e2 : [slc l.length cap].all (okArgB 0) = true := by simp [slc, okArgB, hcap]
  have e3 : [slc l.length cap].map to0 = [slc l.length cap] := rfl
  have e4 : (Nat.beq l.length l.length && Nat.ble l.length 1000 && Nat.blt cap big) = true := by
    rw [Nat.beq_refl, Nat.ble_eq_true_of_le hn]; simpa using hcap
  have e5 : wornR f [slc l.length cap] (cells l) = some v := by
    simp only [wornR, unCells_cells, e4, hf, hv]
  simp only [memo3, orF, oracle, h1, e0, oracleR, e1, e2, hV, e3, e5]
noncomputable abbrev fl (t i : Nat) : Field := (TP.fieldsOf t)[i]!
theorem ty2 : TP.underlying 2 = some (.int .i64) := by kernel_rfl
theorem eqInt (d : Nat) (k : IntKind) (a b : Int) (V : View) : runV TP (Op.equalIn (d + 1) 2 (.int k a) (.int k b)) V = some (a == b, V) := by
  simp only [Op.equalIn, runV_bind, run_under ty2, Option.bind_some, if_true]
  rfl
theorem eqR (d : Nat) (a b : Int) (V : View) : runV TP (Op.equalIn (d + 1 + 1) 27 (.agg #[.int .i64 a, .int .i64 b]) (.agg #[.int .i64 a, .int .i64 b])) V = some (true, V) := by
  have hl : (TP.fieldsOf 27).toList = [fl 27 0, fl 27 1] := by kernel_rfl
  have t0 : (fl 27 0).type = 2 := by kernel_rfl
  have t1 : (fl 27 1).type = 2 := by kernel_rfl
  have n0 : decide ((fl 27 0).name = "_") = false := by kernel_rfl
  have n1 : decide ((fl 27 1).name = "_") = false := by kernel_rfl
  have p0 : ∀ V, runV TP (part 2 #[.int .i64 a, .int .i64 b] (fl 27 0).offset) V = some (.int .i64 a, V) := fun V => by kernel_rfl
  have p1 : ∀ V, runV TP (part 2 #[.int .i64 a, .int .i64 b] (fl 27 1).offset) V = some (.int .i64 b, V) := fun V => by kernel_rfl
  rw [runV_struct _ _ _ _ _ (by kernel_rfl) (by kernel_rfl), hl]
  simp only [Op.eqFields, t0, t1, of_decide_eq_false n0, of_decide_eq_false n1, ne_eq, not_false_eq_true, if_true, runV_bind, p0, p1, Option.bind_some, eqInt, beq_self_eq_true, Bool.not_true, Bool.false_eq_true, if_false]
  rfl
theorem eql27 (x y : Operand) (a b : Int) : OBin .eql 27 x y (.agg #[.int .i64 a, .int .i64 b]) (.agg #[.int .i64 a, .int .i64 b]) (.bool true) := by
  refine ⟨rfl, ?_⟩
  have e1 : pureRun TP (do eqGuard .eql 27 x y (.agg #[.int .i64 a, .int .i64 b]) (.agg #[.int .i64 a, .int .i64 b]); binOp .eql 27 (.agg #[.int .i64 a, .int .i64 b]) (.agg #[.int .i64 a, .int .i64 b])) =
      pureRun TP (binOp .eql 27 (.agg #[.int .i64 a, .int .i64 b]) (.agg #[.int .i64 a, .int .i64 b])) := by kernel_rfl
  rw [e1]
  have e2 : (binOp .eql 27 (.agg #[.int .i64 a, .int .i64 b]) (.agg #[.int .i64 a, .int .i64 b])) = (do let r ← Op.equalIn (9998 + 1 + 1) 27 (.agg #[.int .i64 a, .int .i64 b]) (.agg #[.int .i64 a, .int .i64 b]); pure (Value.bool r)) := by kernel_rfl
  rw [e2]
  simp only [pureRun, runV_bind, eqR, Option.bind_some]
  rfl
theorem meter_tuple (x lo hi : Int) : ∃ a b e, meterV x lo hi = .tuple #[.agg #[.int .i64 a, .int .i64 b], .int .i64 e] := by
  unfold meterV
  split
  · exact ⟨0, 0, 3, rfl⟩
  · split
    · exact ⟨0, 0, 2, rfl⟩
    · split
      · exact ⟨0, 0, 5, rfl⟩
      · exact ⟨_, _, 0, rfl⟩
theorem worn_tuple (l : List (Int × Int)) : ∃ a b e, wornV l = .tuple #[.agg #[.int .i64 a, .int .i64 b], .int .i64 e] := by
  unfold wornV
  split
  · exact ⟨0, 0, 6, rfl⟩
  · split
    · exact ⟨0, 0, 3, rfl⟩
    · split
      · exact ⟨0, 0, 2, rfl⟩
      · exact ⟨_, _, 0, rfl⟩
theorem call32 : callOk TP 32 = true := by kernel_rfl
theorem call33 : callOk TP 33 = true := by kernel_rfl
theorem call34 : callOk TP 34 = true := by kernel_rfl
theorem call35 : callOk TP 35 = true := by kernel_rfl
theorem m3_none {args : List Value} {V : View} : memo3 (.call 6 args V) = none := by
  have h1 : oracle bdF (.call 6 args V) = none := rfl
  have h2 : oracleE (.call 6 args V) = none := by
    simp only [oracleE]
    repeat' split
    all_goals first | rfl | (rename_i h; cases h)
  have h3 : oracleR wornR (.call 6 args V) = none := by
    have : ∀ a c, wornR 6 a c = none := fun a c => by
      unfold wornR
      repeat' split
      all_goals first | rfl | (rename_i h; cases h)
    simp only [oracleR, this]
    repeat' split
    all_goals rfl
  simp only [memo3, orF, h1, h2, h3]
/-- without cans -/
theorem meters_empty (works : ∀ w, Calls TP 31 #[] w fun e w' => e = .returned (.bool true) ∧ RowKit.Below w.heap.size w w') (x lo hi : Int) (o : Option Addr) (cap : Nat) (hcap : cap < big) (w : World) :
    Calls TP 6 #[.int .i64 x, .agg #[.int .i64 lo, .int .i64 hi], .slice o 0 cap] w fun e w' => e = .returned (.bool true) ∧ RowKit.Below w.heap.size w w' := by
  obtain ⟨a, b, e, hm⟩ := meter_tuple x lo hi
  obtain ⟨b0, off, hb⟩ := mark_back (o := o) (n := 0) (cap := cap)
  have oe : ∀ (n : Int) (x y : Operand), OBin .eql 33 x y (.int .i64 n) (.int .i64 n) (.bool true) := fun n x y => ob_eql (by simp)
  have := run_val (call_empty (memo3_ok works) memo3_code m3_none (by simp [mark_ok hcap]; exact ⟨rfl, rfl⟩) (fun v h => by rw [h]; rfl)
    ((b_empty x lo hi a b e 0 0 6 (mark o) cap (.bool true)).mpr ⟨⟨call32, m3_meter rfl rfl hm⟩, ⟨call33, m3_meter rfl rfl hm⟩, ⟨call34, m3_empty rfl rfl hcap⟩, ⟨call35, m3_empty rfl rfl hcap⟩, eql27 _ _ _ _, oe _ _ _, eql27 _ _ _ _, oe _ _ _, rfl⟩) w b0 off)
  have e := hb [.int .i64 x, .agg #[.int .i64 lo, .int .i64 hi]] (by intro v hv; simp at hv; rcases hv with rfl | rfl <;> rfl)
  simp only [List.cons_append, List.nil_append] at e
  rw [e] at this
  exact this
/-- with cans -/
theorem meters_rows (works : ∀ w, Calls TP 31 #[] w fun e w' => e = .returned (.bool true) ∧ RowKit.Below w.heap.size w w') (x lo hi : Int) (l : List (Int × Int)) (hl : 0 < l.length) (cap : Nat) (hcap : cap < big) (w : World) (b0 off : Nat) (hr : RowsAt w b0 off (cells l)) :
    Calls TP 6 #[.int .i64 x, .agg #[.int .i64 lo, .int .i64 hi], .slice (some ⟨b0, off + 0, none⟩) l.length cap] w fun e w' => e = .returned (.bool true) ∧ RowKit.Below w.heap.size w w' := by
  have go : ∀ adv, callWP memo3 [] adv 100 6 [.int .i64 x, .agg #[.int .i64 lo, .int .i64 hi], slc l.length cap] (rowV (cells l) 71) (fun v => v = .bool true) → Calls TP 6 #[.int .i64 x, .agg #[.int .i64 lo, .int .i64 hi], .slice (some ⟨b0, off + 0, none⟩) l.length cap] w fun e w' => e = .returned (.bool true) ∧ RowKit.Below w.heap.size w w' := fun adv h =>
    run_val (call_rowsP (memo3_ok works) memo3_code (cells_flat l) m3_none (by simp [slc, okArg, hcap]; exact ⟨rfl, rfl⟩) (fun v h => by rw [h]; rfl) h w b0 off hr)
  by_cases h1 : 30 < l.length
  · exact go _ ((b_big x lo hi 0 0 0 0 0 0 l cap _).mpr ⟨ob_gtr (decide_eq_true (by omega)), rfl⟩)
  · obtain ⟨a, b, e, hm⟩ := meter_tuple x lo hi
    obtain ⟨c, d, g, hw⟩ := worn_tuple l
    have oe : ∀ (n : Int) (x y : Operand), OBin .eql 33 x y (.int .i64 n) (.int .i64 n) (.bool true) := fun n x y => ob_eql (by simp)
    exact go _ ((b_rows x lo hi a b e c d g l cap _).mpr ⟨ob_gtr (decide_eq_false (by omega)), ⟨call32, m3_meter rfl rfl hm⟩, ⟨call33, m3_meter rfl rfl hm⟩, ⟨call34, m3_rows rfl rfl hl (by omega) hcap rfl hw⟩, ⟨call35, m3_rows rfl rfl hl (by omega) hcap rfl hw⟩, eql27 _ _ _ _, oe _ _ _, eql27 _ _ _ _, oe _ _ _, rfl⟩)
end Go.Vm
