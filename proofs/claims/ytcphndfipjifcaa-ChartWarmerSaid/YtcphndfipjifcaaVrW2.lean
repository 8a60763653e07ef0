/- What is to be proved of single operations, in plain arithmetic. -/
import Derived.Test.YtcphndfipjifcaaVrW1
import Derived.Laws.StructEq
set_option linter.unusedVariables false
namespace Go.Vm

theorem pure_of {s : Sem Value} {v : Value} {V : View} (h : pureV TP s V = some (.value v, V)) : pureRun TP s = some v := by
  unfold pureV at h
  split at h
  · rename_i v' hv
    split at h
    · cases h; exact hv
    · cases h
  · cases h
theorem intBin_flat {op : BinOp} {k : IntKind} {a b : Int} {v : Value} (h : intBin op k a b = some v) : flatN 3 v = true := by
  cases op <;> first | (cases h; rfl) | cases h
theorem ob_int {op : BinOp} {t : TypeId} {x y : Operand} {k : IntKind} {a b : Int} {v : Value} (h : intBin op k a b = some v) : OBin op t x y (.int k a) (.int k b) v := by
  have hf : fBin op (.int k a) (.int k b) = some v := by simp only [fBin, fBinY, decide_true]; exact h
  obtain ⟨h1, h2⟩ := fBin_run (P := TP) (V := ⟨0, []⟩) hf t x y
  exact ⟨by rw [h1, intBin_flat h]; rfl, pure_of h2⟩
theorem ob_add {t : TypeId} {x y : Operand} {k : IntKind} {a b c : Int} (h : k.wrap (a + b) = c) : OBin .add t x y (.int k a) (.int k b) (.int k c) := ob_int (by rw [← h]; rfl)
theorem ob_sub {t : TypeId} {x y : Operand} {k : IntKind} {a b c : Int} (h : k.wrap (a - b) = c) : OBin .sub t x y (.int k a) (.int k b) (.int k c) := ob_int (by rw [← h]; rfl)
theorem ob_mul {t : TypeId} {x y : Operand} {k : IntKind} {a b c : Int} (h : k.wrap (a * b) = c) : OBin .mul t x y (.int k a) (.int k b) (.int k c) := ob_int (by rw [← h]; rfl)
theorem ob_lss {t : TypeId} {x y : Operand} {k : IntKind} {a b : Int} {c : Bool} (h : decide (a < b) = c) : OBin .lss t x y (.int k a) (.int k b) (.bool c) := ob_int (by rw [← h]; rfl)
theorem ob_leq {t : TypeId} {x y : Operand} {k : IntKind} {a b : Int} {c : Bool} (h : decide (a ≤ b) = c) : OBin .leq t x y (.int k a) (.int k b) (.bool c) := ob_int (by rw [← h]; rfl)
theorem ob_gtr {t : TypeId} {x y : Operand} {k : IntKind} {a b : Int} {c : Bool} (h : decide (b < a) = c) : OBin .gtr t x y (.int k a) (.int k b) (.bool c) := ob_int (by rw [← h]; rfl)
theorem ob_geq {t : TypeId} {x y : Operand} {k : IntKind} {a b : Int} {c : Bool} (h : decide (b ≤ a) = c) : OBin .geq t x y (.int k a) (.int k b) (.bool c) := ob_int (by rw [← h]; rfl)
theorem ob_eql {t : TypeId} {x y : Operand} {k : IntKind} {a b : Int} {c : Bool} (h : (a == b) = c) : OBin .eql t x y (.int k a) (.int k b) (.bool c) := ob_int (by rw [← h]; rfl)
theorem ob_neq {t : TypeId} {x y : Operand} {k : IntKind} {a b : Int} {c : Bool} (h : (a != b) = c) : OBin .neq t x y (.int k a) (.int k b) (.bool c) := ob_int (by rw [← h]; rfl)
theorem wrap64 {n : Int} (h1 : -9223372036854775808 ≤ n) (h2 : n ≤ 9223372036854775807) : IntKind.i64.wrap n = n := by
  by_cases h : 0 ≤ n
  · have e : n % 2 ^ 64 = n := by omega
    simp [IntKind.wrap, IntKind.bits, IntKind.signed]; omega
  · have e : n % 2 ^ 64 = n + 2 ^ 64 := by omega
    simp [IntKind.wrap, IntKind.bits, IntKind.signed]; omega
theorem ob_rem {t : TypeId} {x y : Operand} {a b c : Int} (ha : 0 ≤ a) (hb : b ≠ 0) (h : a % b = c) : OBin .rem t x y (.int .i64 a) (.int .i64 b) (.int .i64 c) := by
  refine ⟨rfl, ?_⟩
  have e : (do eqGuard .rem t x y (.int .i64 a) (.int .i64 b); binOp .rem t (.int .i64 a) (.int .i64 b)) = (Pure.pure (.int .i64 c) : Sem Value) := by
    show Op.intDiv .rem .i64 a b = _
    unfold Op.intDiv
    rw [if_neg hb, Int.tmod_eq_emod_of_nonneg ha, h]
  rw [e]; rfl
theorem ob_quo {t : TypeId} {x y : Operand} {a b c : Int} (hb : b ≠ 0) (h : IntKind.i64.wrap (a.tdiv b) = c) : OBin .quo t x y (.int .i64 a) (.int .i64 b) (.int .i64 c) := by
  refine ⟨rfl, ?_⟩
  have e : (do eqGuard .quo t x y (.int .i64 a) (.int .i64 b); binOp .quo t (.int .i64 a) (.int .i64 b)) = (Pure.pure (.int .i64 c) : Sem Value) := by
    show Op.intDiv .quo .i64 a b = _
    unfold Op.intDiv
    rw [if_neg hb, h]
  rw [e]; rfl
theorem ob_rem' {t : TypeId} {x y : Operand} {a b c : Int} (hb : b ≠ 0) (h : a.tmod b = c) : OBin .rem t x y (.int .i64 a) (.int .i64 b) (.int .i64 c) := by
  refine ⟨rfl, ?_⟩
  have e : (do eqGuard .rem t x y (.int .i64 a) (.int .i64 b); binOp .rem t (.int .i64 a) (.int .i64 b)) = (Pure.pure (.int .i64 c) : Sem Value) := by
    show Op.intDiv .rem .i64 a b = _
    unfold Op.intDiv
    rw [if_neg hb, h]
  rw [e]; rfl
theorem ob_cv {s d : TypeId} {k k' : IntKind} {a c : Int} (hr : pureRun TP (convert s d (.int k a)) = some (.int k' (k'.wrap a))) (h : k'.wrap a = c) : OCv s d (.int k a) (.int k' c) := ⟨rfl, by rw [hr, h]⟩
theorem ob_min {ts : Array TypeId} {ty : TypeId} {k k' : IntKind} {a b c : Int} (h : (if b < a then b else a) = c) : OMin ts ty [.int k a, .int k' b] (.int k c) := by
  refine ⟨rfl, ?_⟩
  subst h
  rfl
theorem ob_max {ts : Array TypeId} {ty : TypeId} {k k' : IntKind} {a b c : Int} (h : (if a < b then b else a) = c) : OMax ts ty [.int k a, .int k' b] (.int k c) := by
  refine ⟨rfl, ?_⟩
  subst h
  rfl
theorem ob_not {a : Bool} : OUn .not (.bool a) (.bool (!a)) := ⟨rfl, rfl⟩
theorem ob_oracle {F : FuncId → List Value → Option Value} {g : FuncId} {l : List Value} {v : Value} (hg : callOk TP g = true) (h : F g l = some v) : OCall (oracle F) g l v := ⟨hg, fun V => by simp only [oracle, h]⟩

/-! structs that are compared -/
theorem runV_prog {α : Type} (k : Program → Sem α) (V : View) : runV TP (Sem.program k) V = runV TP (k TP) V := rfl
theorem runV_struct (d : Nat) (t : TypeId) (xs ys : Array Value) (V : View) (ht : TP.underlying t = some (.struct (TP.fieldsOf t))) (hp : TP.stoodInHeld t = false) :
    runV TP (Op.equalIn (d + 1) t (.agg xs) (.agg ys)) V = runV TP (Op.eqFields d xs ys (TP.fieldsOf t).toList) V := by
  have hpr : ∀ V, runV TP Go.program V = some (TP, V) := fun V => rfl
  simp only [Op.equalIn, runV_bind, run_under ht, Option.bind_some, hpr, hp, Bool.false_eq_true, if_false]
  rw [← Array.forIn_toList]
  generalize (TP.fieldsOf t).toList = fs
  clear ht
  induction fs generalizing V with
  | nil => rfl
  | cons f fs ih =>
    simp only [List.forIn_cons, Op.eqFields, runV_bind]
    split
    · simp only [runV_bind]
      cases runV TP (part f.type xs f.offset) V with
      | none => rfl
      | some p =>
        simp only [Option.bind_some]
        cases runV TP (part f.type ys f.offset) p.2 with
        | none => rfl
        | some q =>
          simp only [Option.bind_some]
          cases runV TP (Op.equalIn d f.type p.1 q.1) q.2 with
          | none => rfl
          | some r =>
            simp only [Option.bind_some]
            cases r.1
            · rfl
            · exact ih r.2
    · exact ih V
end Go.Vm
