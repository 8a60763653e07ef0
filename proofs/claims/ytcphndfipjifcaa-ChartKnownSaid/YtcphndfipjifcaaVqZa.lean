/- A computation of the machine, cut into parts. -/
import Derived.Test.YtcphndfipjifcaaVqZ
namespace Go.Vm
variable {P : Program} {memo : Job → Option Out}

abbrev St := List Value × List Nat × View
/-- k rounds of a loop -/
noncomputable def iterF (P : Program) (memo : Job → Option Out) (ar : Option Nat) (body : Code) : Nat → Nat → St → Option St
  | 0, _, s => some s
  | _ + 1, 0, _ => none
  | k + 1, n + 1, (ts, df, V) => match runM P memo n (.code ar body ts df V) with
    | some (.code .normal ts1 df1 V1) => fL ts1 fun ts1 => iterF P memo ar body k n (ts1, df1, V1)
    | _ => none
theorem runM_code (hm : ∀ ar c ts df V, memo (.code ar c ts df V) = none) (n : Nat) (ar : Option Nat) (c : Code) (ts : List Value) (df : List Nat) (V : View) :
    runM P memo (n + 1) (.code ar c ts df V) = codeStep P (runM P memo n) ar c ts df V := by
  rw [runM, orF, hm]; rfl
theorem iter_loop (hm : ∀ ar c ts df V, memo (.code ar c ts df V) = none) {ar : Option Nat} {body : Code} : ∀ (k n : Nat) (s s1 : St), iterF P memo ar body k (n + k) s = some s1 →
    runM P memo (n + k) (.code ar (.loop body) s.1 s.2.1 s.2.2) = runM P memo n (.code ar (.loop body) s1.1 s1.2.1 s1.2.2) := by
  intro k
  induction k with
  | zero => intro n s s1 h; cases h; rfl
  | succ k ih =>
    intro n s s1 h
    obtain ⟨ts, df, V⟩ := s
    rw [show n + (k + 1) = (n + k) + 1 by omega] at h ⊢
    rw [runM_code hm]
    simp only [iterF] at h
    show loopF (runM P memo (n + k)) ar body (runM P memo (n + k) (.code ar body ts df V)) = _
    split at h
    · rename_i ts1 df1 V1 hb
      rw [fL_eq] at h
      rw [hb]
      simp only [loopF, fL_eq]
      exact ih n (ts1, df1, V1) s1 h
    · cases h
theorem seq_known (hm : ∀ ar c ts df V, memo (.code ar c ts df V) = none) {n : Nat} {ar : Option Nat} {a b : Code} {ts ts1 : List Value} {df df1 : List Nat} {V V1 : View}
    (h : runM P memo n (.code ar a ts df V) = some (.code .normal ts1 df1 V1)) : runM P memo (n + 1) (.code ar (.seq a b) ts df V) = runM P memo n (.code ar b ts1 df1 V1) := by
  rw [runM_code hm]
  show seqF (runM P memo n) ar b (runM P memo n (.code ar a ts df V)) = _
  rw [h]; rfl
theorem block_known (hm : ∀ ar c ts df V, memo (.code ar c ts df V) = none) (n : Nat) {ar : Option Nat} (id : Nat) (b : Code) (ts : List Value) (df : List Nat) (V : View) :
    runM P memo (n + 1) (.code ar (.block id b) ts df V) = blockF id (runM P memo n (.code ar b ts df V)) := by
  rw [runM_code hm]; rfl
theorem cond_known (hm : ∀ ar c ts df V, memo (.code ar c ts df V) = none) {n : Nat} {ar : Option Nat} {c : Operand} {a b : Code} {ts : List Value} {df : List Nat} {V : View} {v : Bool}
    (hc : okConst c = true) (h : evR ts c = .bool v) : runM P memo (n + 1) (.code ar (.cond c a b) ts df V) = runM P memo n (.code ar (if v then a else b) ts df V) := by
  rw [runM_code hm]
  show (match okConst c with | true => condF (runM P memo n) ar (evR ts c) a b ts df V | false => none) = _
  rw [hc, h]
  cases v <;> rfl
theorem memoOf_code (l : List Known) : ∀ ar c ts df V, memoOf l (.code ar c ts df V) = none := by
  intro ar c ts df V
  induction l with
  | nil => rfl
  | cons k r ih => exact ih
theorem call_known {l : List Known} {n : Nat} {f : FuncId} {args : List Value} {V : View} (h : memoOf l (.call f args V) = none) :
    runM P (memoOf l) (n + 1) (.call f args V) = callStep P (runM P (memoOf l) n) f args V := by
  rw [runM, orF, h]; rfl
end Go.Vm
