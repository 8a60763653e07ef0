/- The quick machine: operations that leave the memory as it is. -/
import Derived.Test.YtcphndfipjifcaaVqGb
namespace Go.Vm
variable {P : Program}

inductive Opd
  | t (p : P3)
  | c (v : Value)
def opdD (x : Operand) : Opd := match x with
  | .tmp t => .t (path t)
  | .const v => .c v
  | .func f => .c (.func (.func f) #[] #[])
  | .global _ => .c undef
def okSlot (nt : Nat) (x : Operand) : Bool := match x with
  | .tmp t => Nat.blt t nt
  | .const v => flatN 3 v
  | .func _ => true
  | .global _ => false
noncomputable def getO (x : Opd) (env : Env) : Value := Opd.rec (motive := fun _ => Env → Value) (fun p env => getE p env) (fun v _ => v) x env
theorem getO_eq {nt : Nat} {env : Env} {ts : List Value} (h : ERel nt env ts) {x : Operand} (hx : okSlot nt x = true) : getO (opdD x) env = ev ts x := by
  cases x with
  | tmp t =>
    simp only [okSlot, Nat.blt_eq] at hx
    exact h.get t hx
  | const v => rfl
  | global g => cases hx
  | func f => rfl
noncomputable def evE (nt : Nat) (env : Env) (x : Operand) : Value := match x with
  | .tmp t => match Nat.blt t nt with
    | true => getE (path t) env
    | false => undef
  | .const v => v
  | .global g => .pointer (some ⟨g, 0, none⟩)
  | .func f => .func (.func f) #[] #[]
theorem evE_eq {nt : Nat} {env : Env} {ts : List Value} (h : ERel nt env ts) : evE nt env = ev ts := by
  funext x
  cases x with
  | tmp t =>
    simp only [evE, ev]
    cases hq : Nat.blt t nt with
    | true => rw [Nat.blt_eq] at hq; exact h.get t hq
    | false =>
      have : nt ≤ t := by
        rcases Nat.lt_or_ge t nt with h1 | h1
        · rw [← Nat.blt_eq] at h1; rw [h1] at hq; cases hq
        · exact h1
      rw [lget_eq, List.getElem?_eq_none_iff.2 (by rw [h.len]; exact this)]
      rfl
  | _ => rfl

/-! whole numbers -/
noncomputable def mkN (r : Nat) (K : Value → Bool) (s : Bool) : Bool := Bool.rec (motive := fun _ => Nat → (Value → Bool) → Bool → Bool) (fun _ _ s => s) (fun r K _ => fNr r fun r => K (.int .i64 (.ofNat r))) (Nat.ble r 9223372036854775807) r K s
noncomputable def mkM (r : Nat) (K : Value → Bool) (s : Bool) : Bool := Bool.rec (motive := fun _ => Nat → (Value → Bool) → Bool → Bool) (fun _ _ s => s) (fun r K _ => fNr r fun r => K (.int .i64 (.negSucc r))) (Nat.ble r 9223372036854775807) r K s
noncomputable def difG (p q : Nat) (K : Value → Bool) (s : Bool) : Bool := Bool.rec (motive := fun _ => Nat → Nat → (Value → Bool) → Bool → Bool) (fun p q K s => mkM (Nat.sub q (Nat.succ p)) K s) (fun p q K s => mkN (Nat.sub p q) K s) (Nat.ble q p) p q K s
noncomputable def negG (r : Nat) (K : Value → Bool) (s : Bool) : Bool := Nat.rec (motive := fun _ => (Value → Bool) → Bool → Bool) (fun K _ => K (.int .i64 (.ofNat 0))) (fun j _ K s => mkM j K s) r K s
noncomputable def mkB (b : Bool) (K : Value → Bool) : Bool := Bool.rec (motive := fun _ => (Value → Bool) → Bool) (fun K => K (.bool false)) (fun K => K (.bool true)) b K
/-- K has a number within bounds -/
def Got (z : Int) (K : Value → Bool) : Prop := -9223372036854775808 ≤ z ∧ z ≤ 9223372036854775807 ∧ K (.int .i64 z) = true
theorem mkN_true {r : Nat} {K : Value → Bool} {s : Bool} (h : mkN r K s = true) : Got r K ∨ s = true := by
  unfold mkN at h
  cases hq : Nat.ble r 9223372036854775807 with
  | true =>
    rw [hq] at h
    simp only [fNr_eq] at h
    have := Nat.le_of_ble_eq_true hq
    exact .inl ⟨by omega, by omega, h⟩
  | false => rw [hq] at h; exact .inr h
theorem mkM_true {r : Nat} {K : Value → Bool} {s : Bool} (h : mkM r K s = true) : Got (Int.negSucc r) K ∨ s = true := by
  unfold mkM at h
  cases hq : Nat.ble r 9223372036854775807 with
  | true =>
    rw [hq] at h
    simp only [fNr_eq] at h
    have := Nat.le_of_ble_eq_true hq
    exact .inl ⟨by omega, by omega, h⟩
  | false => rw [hq] at h; exact .inr h
theorem difG_true {p q : Nat} {K : Value → Bool} {s : Bool} (h : difG p q K s = true) : Got ((p : Int) - q) K ∨ s = true := by
  unfold difG at h
  cases hq : Nat.ble q p with
  | true =>
    rw [hq] at h
    have hle := Nat.le_of_ble_eq_true hq
    have e : ((Nat.sub p q : Nat) : Int) = (p : Int) - q := by show ((p - q : Nat) : Int) = _; omega
    have := mkN_true h
    rwa [e] at this
  | false =>
    rw [hq] at h
    have hlt : p < q := by
      rcases Nat.lt_or_ge p q with h1 | h1
      · exact h1
      · rw [Nat.ble_eq_true_of_le h1] at hq; cases hq
    have e : Int.negSucc (Nat.sub q (Nat.succ p)) = (p : Int) - q := by show Int.negSucc (q - (p + 1)) = _; omega
    have := mkM_true h
    rwa [e] at this
theorem negG_true {r : Nat} {K : Value → Bool} {s : Bool} (h : negG r K s = true) : Got (-(r : Int)) K ∨ s = true := by
  cases r with
  | zero => exact .inl ⟨by decide, by decide, h⟩
  | succ j => exact mkM_true h
noncomputable def int2 (nn nm mn mm : Nat → Nat → (Value → Bool) → Bool → Bool) (a b : Int) (K : Value → Bool) (s : Bool) : Bool :=
  Int.rec (motive := fun _ => Int → (Value → Bool) → Bool → Bool)
    (fun p b K s => Int.rec (motive := fun _ => Nat → (Value → Bool) → Bool → Bool) (fun q p K s => nn p q K s) (fun q p K s => nm p q K s) b p K s)
    (fun p b K s => Int.rec (motive := fun _ => Nat → (Value → Bool) → Bool → Bool) (fun q p K s => mn p q K s) (fun q p K s => mm p q K s) b p K s) a b K s
noncomputable def addI : Int → Int → (Value → Bool) → Bool → Bool := int2 (fun p q => mkN (Nat.add p q)) (fun p q => difG p (Nat.succ q)) (fun p q => difG q (Nat.succ p)) (fun p q => mkM (Nat.succ (Nat.add p q)))
noncomputable def subI : Int → Int → (Value → Bool) → Bool → Bool := int2 (fun p q => difG p q) (fun p q => mkN (Nat.succ (Nat.add p q))) (fun p q => mkM (Nat.add p q)) (fun p q => difG q p)
noncomputable def mulI : Int → Int → (Value → Bool) → Bool → Bool := int2 (fun p q => mkN (Nat.mul p q)) (fun p q => negG (Nat.mul p (Nat.succ q))) (fun p q => negG (Nat.mul (Nat.succ p) q)) (fun p q => mkN (Nat.mul (Nat.succ p) (Nat.succ q)))
noncomputable def notB (b : Bool) : Bool := Bool.rec (motive := fun _ => Bool) true false b
noncomputable def eqI : Int → Int → (Value → Bool) → Bool → Bool := int2 (fun p q K _ => mkB (Nat.beq p q) K) (fun _ _ K _ => K (.bool false)) (fun _ _ K _ => K (.bool false)) (fun p q K _ => mkB (Nat.beq p q) K)
noncomputable def neI : Int → Int → (Value → Bool) → Bool → Bool := int2 (fun p q K _ => mkB (notB (Nat.beq p q)) K) (fun _ _ K _ => K (.bool true)) (fun _ _ K _ => K (.bool true)) (fun p q K _ => mkB (notB (Nat.beq p q)) K)
noncomputable def ltI : Int → Int → (Value → Bool) → Bool → Bool := int2 (fun p q K _ => mkB (Nat.ble (Nat.succ p) q) K) (fun _ _ K _ => K (.bool false)) (fun _ _ K _ => K (.bool true)) (fun p q K _ => mkB (Nat.ble (Nat.succ q) p) K)
noncomputable def leI : Int → Int → (Value → Bool) → Bool → Bool := int2 (fun p q K _ => mkB (Nat.ble p q) K) (fun _ _ K _ => K (.bool false)) (fun _ _ K _ => K (.bool true)) (fun p q K _ => mkB (Nat.ble q p) K)
noncomputable def binI : BinOp → Int → Int → (Value → Bool) → Bool → Bool := BinOp.rec (motive := fun _ => Int → Int → (Value → Bool) → Bool → Bool)
  addI subI mulI (fun _ _ _ s => s) (fun _ _ _ s => s) (fun _ _ _ s => s) (fun _ _ _ s => s) (fun _ _ _ s => s) (fun _ _ _ s => s) (fun _ _ _ s => s) (fun _ _ _ s => s)
  eqI neI ltI leI (fun a b => ltI b a) (fun a b => leI b a)
theorem wrap_in {z : Int} (h1 : -9223372036854775808 ≤ z) (h2 : z ≤ 9223372036854775807) : IntKind.wrap .i64 z = z := by
  simp [IntKind.wrap, IntKind.bits, IntKind.signed]
  omega
theorem mkB_eq (b : Bool) (K : Value → Bool) : mkB b K = K (.bool b) := by cases b <;> rfl
theorem notB_eq (b : Bool) : notB b = !b := by cases b <;> rfl
theorem addI_true {a b : Int} {K : Value → Bool} {s : Bool} (h : addI a b K s = true) : Got (a + b) K ∨ s = true := by
  cases a with
  | ofNat p => cases b with
    | ofNat q => exact (mkN_true h).imp (fun h => by rwa [show ((Nat.add p q : Nat) : Int) = (p : Int) + q from rfl] at h) id
    | negSucc q => exact (difG_true h).imp (fun h => by rwa [show (p : Int) - ((Nat.succ q : Nat) : Int) = Int.ofNat p + Int.negSucc q by rw [Int.ofNat_eq_natCast]; omega] at h) id
  | negSucc p => cases b with
    | ofNat q => exact (difG_true h).imp (fun h => by rwa [show (q : Int) - ((Nat.succ p : Nat) : Int) = Int.negSucc p + Int.ofNat q by rw [Int.ofNat_eq_natCast]; omega] at h) id
    | negSucc q => exact (mkM_true h).imp (fun h => by rwa [show Int.negSucc (Nat.succ (Nat.add p q)) = Int.negSucc p + Int.negSucc q from rfl] at h) id
theorem subI_true {a b : Int} {K : Value → Bool} {s : Bool} (h : subI a b K s = true) : Got (a - b) K ∨ s = true := by
  cases a with
  | ofNat p => cases b with
    | ofNat q => exact difG_true h
    | negSucc q => exact (mkN_true h).imp (fun h => by rwa [show ((Nat.succ (Nat.add p q) : Nat) : Int) = Int.ofNat p - Int.negSucc q by show ((p + q + 1 : Nat) : Int) = _; rw [Int.ofNat_eq_natCast]; omega] at h) id
  | negSucc p => cases b with
    | ofNat q => exact (mkM_true h).imp (fun h => by rwa [show Int.negSucc (Nat.add p q) = Int.negSucc p - Int.ofNat q by show Int.negSucc (p + q) = _; rw [Int.ofNat_eq_natCast]; omega] at h) id
    | negSucc q => exact (difG_true h).imp (fun h => by rwa [show (q : Int) - (p : Int) = Int.negSucc p - Int.negSucc q by omega] at h) id
theorem mulI_true {a b : Int} {K : Value → Bool} {s : Bool} (h : mulI a b K s = true) : Got (a * b) K ∨ s = true := by
  cases a with
  | ofNat p => cases b with
    | ofNat q => exact (mkN_true h).imp (fun h => by rwa [show ((Nat.mul p q : Nat) : Int) = Int.ofNat p * Int.ofNat q from rfl] at h) id
    | negSucc q => exact (negG_true h).imp (fun h => by rwa [show -((Nat.mul p (Nat.succ q) : Nat) : Int) = Int.ofNat p * Int.negSucc q by rw [Int.negSucc_eq, Int.mul_neg]; rfl] at h) id
  | negSucc p => cases b with
    | ofNat q => exact (negG_true h).imp (fun h => by rwa [show -((Nat.mul (Nat.succ p) q : Nat) : Int) = Int.negSucc p * Int.ofNat q by rw [Int.negSucc_eq, Int.neg_mul]; rfl] at h) id
    | negSucc q => exact (mkN_true h).imp (fun h => by rwa [show ((Nat.mul (Nat.succ p) (Nat.succ q) : Nat) : Int) = Int.negSucc p * Int.negSucc q from rfl] at h) id
theorem eqI_eq (a b : Int) (K : Value → Bool) (s : Bool) : eqI a b K s = K (.bool (a == b)) := by
  cases a with
  | ofNat p => cases b with
    | ofNat q =>
      show mkB (Nat.beq p q) K = _
      rw [mkB_eq]; congr 2
      rw [Bool.eq_iff_iff, Nat.beq_eq, beq_iff_eq]
      exact ⟨fun h => by rw [h], fun h => by injection h⟩
    | negSucc q => rfl
  | negSucc p => cases b with
    | ofNat q => rfl
    | negSucc q =>
      show mkB (Nat.beq p q) K = _
      rw [mkB_eq]; congr 2
      rw [Bool.eq_iff_iff, Nat.beq_eq, beq_iff_eq]
      exact ⟨fun h => by rw [h], fun h => by injection h⟩
theorem neI_eq (a b : Int) (K : Value → Bool) (s : Bool) : neI a b K s = K (.bool (a != b)) := by
  cases a with
  | ofNat p => cases b with
    | ofNat q =>
      show mkB (notB (Nat.beq p q)) K = _
      rw [mkB_eq, notB_eq]; congr 2
      show (!Nat.beq p q) = !(_ == _)
      congr 1
      rw [Bool.eq_iff_iff, Nat.beq_eq, beq_iff_eq]
      exact ⟨fun h => by rw [h], fun h => by injection h⟩
    | negSucc q => rfl
  | negSucc p => cases b with
    | ofNat q => rfl
    | negSucc q =>
      show mkB (notB (Nat.beq p q)) K = _
      rw [mkB_eq, notB_eq]; congr 2
      show (!Nat.beq p q) = !(_ == _)
      congr 1
      rw [Bool.eq_iff_iff, Nat.beq_eq, beq_iff_eq]
      exact ⟨fun h => by rw [h], fun h => by injection h⟩
theorem ble_dec (a b : Nat) : Nat.ble a b = decide (a ≤ b) := by
  rw [Bool.eq_iff_iff, decide_eq_true_eq]; exact ⟨Nat.le_of_ble_eq_true, Nat.ble_eq_true_of_le⟩
theorem ltI_eq (a b : Int) (K : Value → Bool) (s : Bool) : ltI a b K s = K (.bool (decide (a < b))) := by
  cases a with
  | ofNat p => cases b with
    | ofNat q => show mkB (Nat.ble (Nat.succ p) q) K = _; rw [mkB_eq, ble_dec]; congr 2; simp only [decide_eq_decide, Int.ofNat_eq_natCast]; omega
    | negSucc q => show K (.bool false) = _; congr 2
  | negSucc p => cases b with
    | ofNat q => show K (.bool true) = _; congr 2; symm; simp only [decide_eq_true_eq, Int.ofNat_eq_natCast]; omega
    | negSucc q => show mkB (Nat.ble (Nat.succ q) p) K = _; rw [mkB_eq, ble_dec]; congr 2; first | (simp only [decide_eq_decide]; omega) | simp only [decide_eq_decide] | rfl
theorem leI_eq (a b : Int) (K : Value → Bool) (s : Bool) : leI a b K s = K (.bool (decide (a ≤ b))) := by
  cases a with
  | ofNat p => cases b with
    | ofNat q => show mkB (Nat.ble p q) K = _; rw [mkB_eq, ble_dec]; congr 2; simp only [decide_eq_decide, Int.ofNat_eq_natCast]; omega
    | negSucc q => show K (.bool false) = _; congr 2; symm; simp only [decide_eq_false_iff_not, Int.ofNat_eq_natCast]; omega
  | negSucc p => cases b with
    | ofNat q => show K (.bool true) = _; congr 2
    | negSucc q => show mkB (Nat.ble q p) K = _; rw [mkB_eq, ble_dec]; congr 2; first | (simp only [decide_eq_decide]; omega) | simp only [decide_eq_decide] | rfl
theorem binI_true {op : BinOp} {a b : Int} {K : Value → Bool} {s : Bool} (h : binI op a b K s = true) : (∃ v, intBin op .i64 a b = some v ∧ K v = true) ∨ s = true := by
  have num : ∀ {z : Int}, Got z K → ∃ v, some (Value.int .i64 (IntKind.wrap .i64 z)) = some v ∧ K v = true := fun {z} hg => ⟨_, rfl, by rw [wrap_in hg.1 hg.2.1]; exact hg.2.2⟩
  cases op
  case add => exact (addI_true h).imp num id
  case sub => exact (subI_true h).imp num id
  case mul => exact (mulI_true h).imp num id
  case eql => exact .inl ⟨_, rfl, by rw [← eqI_eq a b K s]; exact h⟩
  case neq => exact .inl ⟨_, rfl, by rw [← neI_eq a b K s]; exact h⟩
  case lss => exact .inl ⟨_, rfl, by rw [← ltI_eq a b K s]; exact h⟩
  case leq => exact .inl ⟨_, rfl, by rw [← leI_eq a b K s]; exact h⟩
  case gtr => exact .inl ⟨_, rfl, by have := ltI_eq b a K s; rw [show binI .gtr a b K s = ltI b a K s from rfl, this] at h; exact h⟩
  case geq => exact .inl ⟨_, rfl, by have := leI_eq b a K s; rw [show binI .geq a b K s = leI b a K s from rfl, this] at h; exact h⟩
  all_goals exact .inr h
end Go.Vm
