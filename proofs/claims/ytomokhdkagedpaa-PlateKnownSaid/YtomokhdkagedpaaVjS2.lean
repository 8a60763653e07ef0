/- What is to be proved of single operations, in plain arithmetic. -/
import Derived.Test.YtomokhdkagedpaaVjS1
import Derived.Laws.StructEq
set_option linter.unusedVariables false
namespace Go.Vm

theorem pure_of {s : Sem Value} {v : Value} {V : View} (h : pureV TP s V = some (.value v, V)) : pureRun TP s = some v := by
  unfold pureV at h
  split at h
  · rename_i v' hv
    split at h
    · cases h; exact hv
    · cases h
  · cases h
theorem intBin_flat {op : BinOp} {k : IntKind} {a b : Int} {v : Value} (h : intBin op k a b = some v) : flatN 3 v = true := by
  cases op <;> first | (cases h; rfl) | cases h
theorem ob_int {op : BinOp} {t : TypeId} {x y : Operand} {k : IntKind} {a b : Int} {v : Value} (h : intBin op k a b = some v) : OBin op t x y (.int k a) (.int k b) v := by
  have hf : fBin op (.int k a) (.int k b) = some v := by simp only [fBin, fBinY, decide_true]; exact h
  obtain ⟨h1, h2⟩ := fBin_run (P := TP) (V := ⟨0, []⟩) hf t x y
  exact ⟨by rw [h1, intBin_flat h]; rfl, pure_of h2⟩
theorem ob_add {t : TypeId} {x y : Operand} {k : IntKind} {a b c : Int} (h : k.wrap (a + b) = c) : OBin .add t x y (.int k a) (.int k b) (.int k c) := ob_int (by rw [← h]; rfl)
theorem ob_sub {t : TypeId} {x y : Operand} {k : IntKind} {a b c : Int} (h : k.wrap (a - b) = c) : OBin .sub t x y (.int k a) (.int k b) (.int k c) := ob_int (by rw [← h]; rfl)
theorem ob_mul {t : TypeId} {x y : Operand} {k : IntKind} {a b c : Int} (h : k.wrap (a * b) = c) : OBin .mul t x y (.int k a) (.int k b) (.int k c) := ob_int (by rw [← h]; rfl)
theorem ob_lss {t : TypeId} {x y : Operand} {k : IntKind} {a b : Int} {c : Bool} (h : decide (a < b) = c) : OBin .lss t x y (.int k a) (.int k b) (.bool c) := ob_int (by rw [← h]; rfl)
theorem ob_leq {t : TypeId} {x y : Operand} {k : IntKind} {a b : Int} {c : Bool} (h : decide (a ≤ b) = c) : OBin .leq t x y (.int k a) (.int k b) (.bool c) := ob_int (by rw [← h]; rfl)
theorem ob_gtr {t : TypeId} {x y : Operand} {k : IntKind} {a b : Int} {c : Bool} (h : decide (b < a) = c) : OBin .gtr t x y (.int k a) (.int k b) (.bool c) := ob_int (by rw [← h]; rfl)
theorem ob_geq {t : TypeId} {x y : Operand} {k : IntKind} {a b : Int} {c : Bool} (h : decide (b ≤ a) = c) : OBin .geq t x y (.int k a) (.int k b) (.bool c) := ob_int (by rw [← h]; rfl)
theorem ob_eql {t : TypeId} {x y : Operand} {k : IntKind} {a b : Int} {c : Bool} (h : (a == b) = c) : OBin .eql t x y (.int k a) (.int k b) (.bool c) := ob_int (by rw [← h]; rfl)
theorem ob_neq {t : TypeId} {x y : Operand} {k : IntKind} {a b : Int} {c : Bool} (h : (a != b) = c) : OBin .neq t x y (.int k a) (.int k b) (.bool c) := ob_int (by rw [← h]; rfl)
theorem wrap64 {n : Int} (h1 : -9223372036854775808 ≤ n) (h2 : n ≤ 9223372036854775807) : IntKind.i64.wrap n = n := by
  by_cases h : 0 ≤ n
  · have e : n % 2 ^ 64 = n := by omega
    simp [IntKind.wrap, IntKind.bits, IntKind.signed]; omega
  · have e : n % 2 ^ 64 = n + 2 ^ 64 := by omega
    simp [IntKind.wrap, IntKind.bits, IntKind.signed]; omega
theorem ob_rem {t : TypeId} {x y : Operand} {a b c : Int} (ha : 0 ≤ a) (hb : b ≠ 0) (h : a % b = c) : OBin .rem t x y (.int .i64 a) (.int .i64 b) (.int .i64 c) := by
  refine ⟨rfl, ?_⟩
  have e : (do eqGuard .rem t x y (.int .i64 a) (.int .i64 b); binOp .rem t (.int .i64 a) (.int .i64 b)) = (Pure.pure (.int .i64 c) : Sem Value) := by
    show Op.intDiv .rem .i64 a b = _
    unfold Op.intDiv
    rw [if_neg hb, Int.tmod_eq_emod_of_nonneg ha, h]
  rw [e]; rfl
theorem ob_quo {t : TypeId} {x y : Operand} {a b c : Int} (hb : b ≠ 0) (h : IntKind.i64.wrap (a.tdiv b) = c) : OBin .quo t x y (.int .i64 a) (.int .i64 b) (.int .i64 c) := by
  refine ⟨rfl, ?_⟩
  have e : (do eqGuard .quo t x y (.int .i64 a) (.int .i64 b); binOp .quo t (.int .i64 a) (.int .i64 b)) = (Pure.pure (.int .i64 c) : Sem Value) := by
    show Op.intDiv .quo .i64 a b = _
    unfold Op.intDiv
    rw [if_neg hb, h]
  rw [e]; rfl
theorem ob_rem' {t : TypeId} {x y : Operand} {a b c : Int} (hb : b ≠ 0) (h : a.tmod b = c) : OBin .rem t x y (.int .i64 a) (.int .i64 b) (.int .i64 c) := by
  refine ⟨rfl, ?_⟩
  have e : (do eqGuard .rem t x y (.int .i64 a) (.int .i64 b); binOp .rem t (.int .i64 a) (.int .i64 b)) = (Pure.pure (.int .i64 c) : Sem Value) := by
    show Op.intDiv .rem .i64 a b = _
    unfold Op.intDiv
    rw [if_neg hb, h]
  rw [e]; rfl
theorem ob_cv {s d : TypeId} {k k' : IntKind} {a c : Int} (hr : pureRun TP (convert s d (.int k a)) = some (.int k' (k'.wrap a))) (h : k'.wrap a = c) : OCv s d (.int k a) (.int k' c) := ⟨rfl, by rw [hr, h]⟩
theorem ob_min {ts : Array TypeId} {ty : TypeId} {k k' : IntKind} {a b c : Int} (h : (if b < a then b else a) = c) : OMin ts ty [.int k a, .int k' b] (.int k c) := by
  refine ⟨rfl, ?_⟩
  subst h
  rfl
theorem ob_max {ts : Array TypeId} {ty : TypeId} {k k' : IntKind} {a b c : Int} (h : (if a < b then b else a) = c) : OMax ts ty [.int k a, .int k' b] (.int k c) := by
  refine ⟨rfl, ?_⟩
  subst h
  rfl
theorem ob_not {a : Bool} : OUn .not (.bool a) (.bool (!a)) := ⟨rfl, rfl⟩
theorem ob_oracle {F : FuncId → List Value → Option Value} {g : FuncId} {l : List Value} {v : Value} (hg : callOk TP g = true) (h : F g l = some v) (V : View) : OCall (oracle F) g l V v := ⟨hg, by simp only [oracle, h]⟩

/-! structs that are compared -/
theorem runV_prog {α : Type} (k : Program → Sem α) (V : View) : runV TP (Sem.program k) V = runV TP (k TP) V := rfl
theorem runV_struct (d : Nat) (t : TypeId) (xs ys : Array Value) (V : View) (ht : TP.underlying t = some (.struct (TP.fieldsOf t))) (hp : TP.stoodInHeld t = false) :
    runV TP (Op.equalIn (d + 1) t (.agg xs) (.agg ys)) V = runV TP (Op.eqFields d xs ys (TP.fieldsOf t).toList) V := by
  have hpr : ∀ V, runV TP Go.program V = some (TP, V) := fun V => rfl
  simp only [Op.equalIn, runV_bind, run_under ht, Option.bind_some, hpr, hp, Bool.false_eq_true, if_false]
  rw [← Array.forIn_toList]
  generalize (TP.fieldsOf t).toList = fs
  clear ht
  induction fs generalizing V with
  | nil => rfl
  | cons f fs ih =>
    simp only [List.forIn_cons, Op.eqFields, runV_bind]
    split
    · simp only [runV_bind]
      cases runV TP (part f.type xs f.offset) V with
      | none => rfl
      | some p =>
        simp only [Option.bind_some]
        cases runV TP (part f.type ys f.offset) p.2 with
        | none => rfl
        | some q =>
          simp only [Option.bind_some]
          cases runV TP (Op.equalIn d f.type p.1 q.1) q.2 with
          | none => rfl
          | some r =>
            simp only [Option.bind_some]
            cases r.1
            · rfl
            · exact ih r.2
    · exact ih V

theorem ob_add64 {t : TypeId} {x y : Operand} {a b c : Int} (h1 : -9223372036854775808 ≤ a + b) (h2 : a + b ≤ 9223372036854775807) (h : a + b = c) : OBin .add t x y (.int .i64 a) (.int .i64 b) (.int .i64 c) := ob_add (by rw [wrap64 h1 h2, h])
theorem ob_sub64 {t : TypeId} {x y : Operand} {a b c : Int} (h1 : -9223372036854775808 ≤ a - b) (h2 : a - b ≤ 9223372036854775807) (h : a - b = c) : OBin .sub t x y (.int .i64 a) (.int .i64 b) (.int .i64 c) := ob_sub (by rw [wrap64 h1 h2, h])
theorem ob_mul64 {t : TypeId} {x y : Operand} {a b c : Int} (h1 : -9223372036854775808 ≤ a * b) (h2 : a * b ≤ 9223372036854775807) (h : a * b = c) : OBin .mul t x y (.int .i64 a) (.int .i64 b) (.int .i64 c) := ob_mul (by rw [wrap64 h1 h2, h])
theorem ob_neg64 {a c : Int} (h1 : -9223372036854775808 ≤ 0 - a) (h2 : 0 - a ≤ 9223372036854775807) (h : 0 - a = c) : OUn .neg (.int .i64 a) (.int .i64 c) := by
  refine ⟨rfl, ?_⟩
  have e : pureRun TP (Op.unary .neg (.int .i64 a)) = some (.int .i64 (IntKind.i64.wrap (0 - a))) := rfl
  rw [e, wrap64 h1 h2, h]

/-! the loops of a function -/
def loopsIn : Code → List Code
  | .seq a b => loopsIn a ++ loopsIn b
  | .cond _ a b => loopsIn a ++ loopsIn b
  | .block _ b => loopsIn b
  | .loop b => .loop b :: loopsIn b
  | .scope b => loopsIn b
  | _ => []
noncomputable def loopOf (f : FuncId) (i : Nat) : Code := match TP.funcs[f]? with
  | some fn => match fn.body with
    | some c => (loopsIn c).getD i .skip
    | none => .skip
  | none => .skip
def bodyOfLoop : Code → Code
  | .loop b => b
  | c => c

theorem ob_ix {t elem : TypeId} {s n cap i b o off : Nat} (hu : TP.underlying t = some (.slice elem)) (hs : (TP.info? elem).map (·.size) = some s) (h : i < n) (ho : o + i * s = off) : OIx t (.slice (some ⟨b, o, none⟩) n cap) (.int .i64 (i : Int)) (.pointer (some ⟨b, off, none⟩)) := ⟨fun V => by
  cases hi : TP.info? elem with
  | none => rw [hi] at hs; cases hs
  | some info =>
    rw [hi] at hs
    have hsz : info.size = s := by simpa using hs
    have h1 := index_run (P := TP) hi h (.inl ⟨cap, hu, rfl⟩) V (b := b) (o := o)
    rw [hsz, ho] at h1
    have e : Value.int .i64 (i : Int) = .int .i64 (.ofNat i) := rfl
    rw [e]
    unfold val at h1
    split at h1
    · rename_i v V2 hv
      cases h1
      exact hv
    · cases h1⟩
theorem ob_slice {t elem : TypeId} {info : TypeInfo} {n cap i b o : Nat} (hu : TP.underlying t = some (.slice elem)) (hi : TP.info? elem = some info) (h : i ≤ cap) (hcap : cap < big) :
    OSl t (.slice (some ⟨b, o, none⟩) n cap) none (some (.int .i64 (i : Int))) none (.slice (some ⟨b, o, none⟩) i cap) :=
  ⟨rfl, ⟨_, _, _, rfl, by cases hq : Nat.beq cap big with | false => rfl | true => exact absurd (Nat.eq_of_beq_eq_true hq) (by omega)⟩, ⟨_, _, _, rfl, by rw [Nat.blt_eq]; exact hcap⟩, fun V => by
    have h0 : (0 : Int) ≤ (i : Int) ∧ (i : Int) ≤ (cap : Int) := by omega
    have e : Go.asIntOf (.int .i64 (i : Int)) = pure (IntKind.i64, (i : Int)) := rfl
    unfold Instr.sliceAt
    simp only [runV_bind, run_under hu, Option.bind_some]
    unfold Instr.slice Instr.sliceBounds Instr.sliceBound
    simp only [runV_bind, run_under hu, Option.bind_some, e, run_pure, h0, and_self, if_true, run_size hi, Int.toNat_natCast, Nat.zero_mul, add_none, Nat.add_zero, Nat.sub_zero, Option.map_some, ite_self]⟩
theorem ob_load {t : TypeId} {b i : Nat} {c : List Value} {e : TypeId} {fz : Nat × Nat} {v : Value} (ht : aggB TP t = some false) (h : c[i]? = some v) : OLoad t (.pointer (some ⟨b, i, none⟩)) (some (.cells ⟨c⟩ e fz)) v := ⟨by
  have : (Array.mk c)[i]? = some v := by simpa using h
  simp only [loadO, fLoadA, ht, this]⟩

/-! what is known of functions that read a slice -/
def to0 : Value → Value
  | .slice (some a) n c => .slice (some ⟨0, a.off, none⟩) n c
  | v => v
def blockArg : List Value → Option Nat
  | [] => none
  | v :: r => match v with
    | .slice (some a) _ _ => some a.block
    | _ => blockArg r
def okArgB (b : Nat) : Value → Bool
  | .slice (some a) _ c => Nat.beq a.block b && Nat.blt c big && a.spot.isNone
  | v => flatN 3 v
def oracleR (F : FuncId → List Value → List Value → Option Value) (j : Job) : Option Out := match j with
  | .call f args V => match blockArg args with
    | some b => match args.all (okArgB b) with
      | true => match find V.objs b with
        | some (.cells c _ _) => match F f (args.map to0) c.toList with
          | some v => some (.value v V)
          | none => none
        | _ => none
      | false => none
    | none => none
  | _ => none
theorem oracleR_code (F : FuncId → List Value → List Value → Option Value) : ∀ ar c ts df V, oracleR F (.code ar c ts df V) = none := fun _ _ _ _ _ => rfl
theorem oracleR_ok {F : FuncId → List Value → List Value → Option Value} (h : ∀ f args c v, F f args c = some v → c.all (flatN 3) = true ∧ flatN 3 v = true ∧ ∀ w b off, RowsAt w b off c → Calls TP f (args.map (shift b off)).toArray w fun e w' => e = .returned v ∧ RowKit.Below w.heap.size w w') :
    SelfOK TP (oracleR F) := by
  refine ⟨(fun _ _ _ _ _ _ _ _ _ h => by cases h), (fun _ _ _ _ _ _ _ _ _ h => by cases h), fun f args V v V1 hj => ?_⟩
  simp only [oracleR] at hj
  split at hj
  case h_2 => cases hj
  rename_i b hb
  split at hj
  case h_2 => cases hj
  rename_i hargs
  split at hj
  case h_2 => cases hj
  rename_i c e fz hf
  split at hj
  case h_2 => cases hj
  rename_i x hF
  cases hj
  obtain ⟨hc, hv, hcall⟩ := h _ _ _ _ hF
  refine ⟨Nat.le_refl _, ?_⟩
  intro ρ D w args' n hw hl hd
  have hr : RowsAt w (ρ.b b) (ρ.o b) c.toList := by
    refine ⟨hw.real b _ hf, fun i v hi => ?_⟩
    obtain ⟨v', h1, h2⟩ := hw.cell (a := ⟨b, i, none⟩) (v := v) (by unfold Vm.cell; rw [hf]; simpa using hi)
    have := h2.flatN_eq 3 (List.all_eq_true.1 hc v (List.mem_of_getElem? hi))
    subst this
    exact h1
  have ha : args'.toList = (args.map to0).map (shift (ρ.b b) (ρ.o b)) := by
    have : ∀ {l l' : List Value}, LRel (VRel ρ D) l l' → l.all (okArgB b) = true → l' = (l.map to0).map (shift (ρ.b b) (ρ.o b)) := by
      intro l l' hl
      induction hl with
      | nil => intro _; rfl
      | @cons x y xs ys hxy _ ih =>
        intro hall
        simp only [List.all_cons, Bool.and_eq_true] at hall
        rw [List.map_cons, List.map_cons, ← ih hall.2]
        congr 1
        have hok := hall.1
        unfold okArgB at hok
        split at hok
        · rename_i a m c'
          simp only [Bool.and_eq_true, Nat.blt_eq] at hok
          have h0 := Nat.eq_of_beq_eq_true hok.1.1
          have hs : a.spot = none := by cases hq : a.spot <;> simp_all
          rcases hxy.sliceInv with ⟨e, _⟩ | ⟨a0, c2, e, hD, rfl, ⟨rfl, _⟩ | ⟨e2, _⟩⟩
          · cases e
          · cases e
            obtain ⟨blk, off, spot⟩ := a
            simp only at h0 hs
            subst h0 hs
            rfl
          · subst e2; have := hok.1.2; omega
        · rename_i hne
          have e1 := hxy.flatN_eq 3 hok
          subst e1
          have e2 : to0 y = y := by
            cases y <;> first | rfl | (rename_i o m c'; cases o <;> first | rfl | exact (hne _ _ _ rfl).elim)
          rw [e2]
          cases y <;> first | rfl | (rename_i o m c'; cases o <;> first | rfl | exact (hne _ _ _ rfl).elim)
    exact this hl hargs
  have e1 : args' = ((args.map to0).map (shift (ρ.b b) (ρ.o b))).toArray := by
    cases args'; simp only at ha; rw [ha]
  rw [e1]
  refine (callsIn_wide.2 (hcall w _ _ hr)).mono ?_
  rintro e w' ⟨he, hbl⟩
  exact ⟨ρ, _, he, .below hw hbl, VRel.of_flatN 3 _ hv⟩
end Go.Vm
