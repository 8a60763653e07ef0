/- The machine of the small memory, its data in their plain form at each step. -/
import Derived.Test.YtcphndfipjifcaaVqM
namespace Go.Vm
variable {β : Type _} {α : Type _}

def fN (n : Nat) (k : Nat → β) : β := match n with
  | 0 => k 0
  | m + 1 => k (Nat.succ m)
def fB (b : Bool) (k : Bool → β) : β := match b with
  | true => k true
  | false => k false
def fI (n : Int) (k : Int → β) : β := match n with
  | .ofNat n => fN n fun n => k (.ofNat n)
  | .negSucc n => fN n fun n => k (.negSucc n)
def fL : List α → (List α → β) → β
  | [], k => k []
  | x :: r, k => fL r fun r => k (x :: r)
def fAddr (a : Addr) (k : Addr → β) : β := match a with
  | ⟨b, o, s⟩ => fN b fun b => fN o fun o => match s with
    | none => k ⟨b, o, none⟩
    | some s => k ⟨b, o, some s⟩
def fV (v : Value) (k : Value → β) : β := match v with
  | .bool b => fB b fun b => k (.bool b)
  | .int t n => fI n fun n => k (.int t n)
  | .agg cs => fL cs.toList fun l => k (.agg ⟨l⟩)
  | .tuple cs => fL cs.toList fun l => k (.tuple ⟨l⟩)
  | .slice (some a) n c => fAddr a fun a => fN n fun n => fN c fun c => k (.slice (some a) n c)
  | .pointer (some a) => fAddr a fun a => k (.pointer (some a))
  | v => k v
def fObj (o : Obj) (k : Obj → β) : β := match o with
  | .cells c e m => k (.cells c e m)
  | .loop r => k (.loop r)
  | o => k o
def fObjD (o : Obj) (k : Obj → β) : β := match o with
  | .cells c e m => fL c.toList fun l => k (.cells ⟨l⟩ e m)
  | .loop r => k (.loop r)
  | o => k o
def fO (n : Nat) (wr : Option Nat) : List (Nat × Obj) → (List (Nat × Obj) → β) → β
  | [], k => k []
  | (b, o) :: r, k => fN b fun b => match Nat.ble n b || isWr wr b with
    | true => fObjD o fun o => fO n wr r fun r => k ((b, o) :: r)
    | false => fObj o fun o => fO n wr r fun r => k ((b, o) :: r)
def fW (n : Nat) (wr : Option Nat) (V : View) (k : View → β) : β := match V with
  | ⟨m, l⟩ => fN m fun m => fO n wr l fun l => k ⟨m, l⟩

theorem fN_eq (n : Nat) (k : Nat → β) : fN n k = k n := by cases n <;> rfl
theorem fB_eq (n : Bool) (k : Bool → β) : fB n k = k n := by cases n <;> rfl
theorem fI_eq (n : Int) (k : Int → β) : fI n k = k n := by cases n <;> simp only [fI, fN_eq]
theorem fL_eq (l : List α) (k : List α → β) : fL l k = k l := by
  induction l generalizing k with
  | nil => rfl
  | cons x r ih => simp only [fL, ih]
theorem fAddr_eq (a : Addr) (k : Addr → β) : fAddr a k = k a := by
  obtain ⟨b, o, s⟩ := a
  cases s <;> simp only [fAddr, fN_eq]
theorem fV_eq (v : Value) (k : Value → β) : fV v k = k v := by
  unfold fV
  split <;> simp only [fB_eq, fI_eq, fL_eq, fAddr_eq, fN_eq]
theorem fObj_eq (o : Obj) (k : Obj → β) : fObj o k = k o := by
  unfold fObj; split <;> rfl
theorem fObjD_eq (o : Obj) (k : Obj → β) : fObjD o k = k o := by
  unfold fObjD; split <;> simp only [fL_eq]
theorem fO_eq (n : Nat) (wr : Option Nat) (l : List (Nat × Obj)) (k : List (Nat × Obj) → β) : fO n wr l k = k l := by
  induction l generalizing k with
  | nil => rfl
  | cons x r ih =>
    obtain ⟨b, o⟩ := x
    simp only [fO, fN_eq, fObj_eq, fObjD_eq, ih]
    split <;> rfl
theorem fW_eq (n : Nat) (wr : Option Nat) (V : View) (k : View → β) : fW n wr V k = k V := by
  obtain ⟨m, l⟩ := V
  simp only [fW, fN_eq, fO_eq]

/-- operations that leave the memory as it is -/
def calm (o : Oper) : Bool := match o.op with
  | .move _ | .assign _ | .load _ _ | .binOp .. | .fieldAddr .. | .indexAddr .. | .unOp .. | .convert .. | .extract .. | .field .. | .index .. => true
  | _ => false
def wrOf : Foot → Option Nat
  | .some _ wr => wr
  | _ => none
def fS (e : Operand → Value) (o : Oper) (V V1 : View) (k : View → β) : β := match calm o with
  | true => k V1
  | false => fW V.next (wrOf (footOf e o)) V1 k
theorem fS_eq (e : Operand → Value) (o : Oper) (V V1 : View) (k : View → β) : fS e o V V1 k = k V1 := by
  unfold fS; split
  · rfl
  · exact fW_eq ..

/-! Operations, computed the short way. -/
def intBin (op : BinOp) (k : IntKind) (a b : Int) : Option Value := match op with
  | .add => some (.int k (k.wrap (a + b)))
  | .sub => some (.int k (k.wrap (a - b)))
  | .mul => some (.int k (k.wrap (a * b)))
  | .eql => some (.bool (a == b))
  | .neq => some (.bool (a != b))
  | .lss => some (.bool (a < b))
  | .leq => some (.bool (a ≤ b))
  | .gtr => some (.bool (a > b))
  | .geq => some (.bool (a ≥ b))
  | _ => none
def fBinY (op : BinOp) (k : IntKind) (a : Int) (y : Value) : Option Value := match y with
  | .int k' b => match decide (k = k') with
    | true => intBin op k a b
    | false => none
  | _ => none
def fBin (op : BinOp) (x y : Value) : Option Value := match x with
  | .int k a => fBinY op k a y
  | _ => none
def aggB (P : Program) (t : TypeId) : Option Bool := match P.underlying t with
  | some (.struct _) => some true
  | some (.array _ _) => some true
  | some _ => some false
  | none => none
def cellAt (V : View) (a : Addr) : Option (Array Value) := match find V.objs a.block with
  | some (.cells c _ _) => match a.spot with
    | none => some c
    | some _ => none
  | _ => none
def cut (n : Nat) (l : List Value) : Option (List Value) := match n with
  | 0 => some []
  | n + 1 => match l with
    | [] => none
    | x :: r => match cut n r with
      | some r => some (x :: r)
      | none => none
def fLoadN (c : Array Value) (off n : Nat) : Option Value := match cut n (c.toList.drop off) with
  | some l => some (.agg ⟨l⟩)
  | none => none
def fLoadA (P : Program) (t : TypeId) (a : Addr) (c : Array Value) : Option Value := match aggB P t with
  | some true => match P.info? t with
    | some i => fLoadN c a.off i.size
    | none => none
  | some false => c[a.off]?
  | none => none
def fLoad (P : Program) (t : TypeId) (v : Value) (V : View) : Option Value := match v with
  | .pointer (some a) => match cellAt V a with
    | some c => fLoadA P t a c
    | none => none
  | _ => none
def fieldOff (P : Program) (s : TypeId) (k : Nat) : Option Nat := match P.underlying s with
  | some (.struct fields) => match fields[k]? with
    | some f => match P.info? f.type with
      | some i => match Nat.beq i.size 0 with
        | true => none
        | false => some f.offset
      | none => none
    | none => none
  | _ => none
def fField (P : Program) (s : TypeId) (v : Value) (k : Nat) : Option Value := match v with
  | .pointer (some a) => match fieldOff P s k with
    | some off => some (.pointer (some (a.add off)))
    | none => none
  | _ => none

theorem fBin_run {P : Program} {op : BinOp} {x y r : Value} {V : View} (h : fBin op x y = some r) (t : TypeId) (X Y : Operand) :
    (flatN 3 x && flatN 3 y) = true ∧ pureV P (do eqGuard op t X Y x y; binOp op t x y) V = some (.value r, V) := by
  unfold fBin at h
  split at h
  · rename_i k a
    unfold fBinY at h
    split at h
    · rename_i k' b
      split at h
      · rename_i hk
      
        have hk := of_decide_eq_true hk
        subst hk
        refine ⟨rfl, ?_⟩
        cases k <;> cases op <;> first | (cases h; rfl) | cases h
      · cases h
    · cases h
  · cases h
theorem cell_at {V : View} {a : Addr} {c : Array Value} (h : cellAt V a = some c) (i : Nat) : Vm.cell V (a.add i) = c[a.off + i]? := by
  unfold cellAt at h
  split at h
  · rename_i c' e m hf
    split at h
    · rename_i hs
      cases h
      by_cases hi : i = 0
      · subst hi
        simp [Vm.cell, Addr.add, hf, hs]
      · simp [Vm.cell, Addr.add, hf, hs, hi]
    · cases h
  · cases h
theorem cut_load {P : Program} {V : View} {a : Addr} {c : Array Value} (hc : cellAt V a = some c) : ∀ (n i : Nat) (acc : Array Value) (l : List Value),
    cut n (c.toList.drop (a.off + i)) = some l → runV P (Go.loadCellsFrom a i n acc) V = some (acc ++ (⟨l⟩ : Array Value), V) := by
  intro n
  induction n with
  | zero => intro i acc l h; simp only [cut] at h; cases h; simp [Go.loadCellsFrom]; rfl
  | succ n ih =>
    intro i acc l h
    unfold cut at h
    split at h
    · cases h
    · rename_i x r hd
      split at h
      · rename_i r' hr
        cases h
        have hx : c[a.off + i]? = some x := by
          have : (c.toList.drop (a.off + i))[0]? = some x := by rw [hd]; rfl
          rw [List.getElem?_drop] at this
          simpa using this
        have hd2 : c.toList.drop (a.off + (i + 1)) = r := by
          have : (c.toList.drop (a.off + i)).tail = r := by rw [hd]; rfl
          rw [List.tail_drop] at this
          exact this
        have := ih (i + 1) (acc.push x) r' (by rw [hd2]; exact hr)
        rw [Go.loadCellsFrom, runV_bind]
        have h1 : runV P (Go.load (a.add i)) V = some (x, V) := by
          simp only [Go.load, runV, cell_at hc i, hx]
        rw [h1]
        simp only [Option.bind]
        rw [this]
        simp
      · cases h
theorem aggB_run {P : Program} {t : TypeId} {b : Bool} (h : aggB P t = some b) (V : View) : runV P (Go.isAgg t) V = some (b, V) := by
  unfold aggB at h
  cases hu : P.underlying t with
  | none => rw [hu] at h; cases h
  | some d =>
    have hu1 : runV P (Go.underlying t) V = some (d, V) := by
      unfold Go.underlying
      simp only [runV_bind, Go.program, runV, Option.bind, hu]
      rfl
    unfold Go.isAgg
    rw [runV_bind, hu1]
    rw [hu] at h
    cases d <;> cases h <;> rfl
theorem fLoad_run {P : Program} {t : TypeId} {v r : Value} {V : View} (h : fLoad P t v V = some r) : val (runV P (Instr.loadAt t v) V) = some (.value r, V) := by
  unfold fLoad at h
  split at h
  · rename_i a
    split at h
    · rename_i c hc
      have hs : runV P (Instr.sureAddr (.pointer (some a))) V = some (a, V) := rfl
      unfold Instr.loadAt
      rw [runV_bind, hs]
      simp only [Option.bind]
      unfold fLoadA at h
      unfold Go.loadVar
      split at h
      · rename_i hb
        rw [runV_bind, aggB_run hb]
        simp only [Option.bind, if_true]
        split at h
        · rename_i i hi
          unfold fLoadN at h
          split at h
          · rename_i l hl
            cases h
            have hz : runV P (Go.sizeOf t) V = some (i.size, V) := by
              unfold Go.sizeOf Go.typeInfo
              simp only [runV_bind, Go.program, runV, Option.bind, hi]
              rfl
            rw [runV_bind, hz]
            simp only [Option.bind]
            rw [runV_bind]
            unfold Go.loadCells
            rw [cut_load hc i.size 0 #[] l (by simpa using hl)]
            simp [val]
            rfl
          · cases h
        · cases h
      · rename_i hb
        rw [runV_bind, aggB_run hb]
        simp only [Option.bind]
        have := cell_at hc 0
        have h2 : Vm.cell V a = c[a.off]? := by
          have e : a.add 0 = a := by cases a; rfl
          rw [e] at this; simpa using this
        simp [Go.load, runV, h2, h, val]
      · cases h
    · cases h
  · cases h
theorem fField_run {P : Program} {s : TypeId} {v r : Value} {k : Nat} {V : View} (h : fField P s v k = some r) : val (runV P (Instr.fieldAt s v k) V) = some (.value r, V) := by
  unfold fField at h
  split at h
  · rename_i a
    split at h
    · rename_i off ho
      cases h
      unfold fieldOff at ho
      split at ho
      · rename_i fields hu
        split at ho
        · rename_i f hf
          split at ho
          · rename_i i hi
            split at ho
            · cases ho
            · rename_i hz
              cases ho
              have hz : i.size ≠ 0 := by intro e; rw [e] at hz; exact absurd hz (by decide)
              have hz1 : runV P (Go.sizeOf f.type) V = some (i.size, V) := by
                unfold Go.sizeOf Go.typeInfo
                simp only [runV_bind, Go.program, runV, Option.bind, hi]
                rfl
              have hs : runV P (Instr.sureAddr (.pointer (some a))) V = some (a, V) := rfl
              have hu1 : runV P (Go.underlying s) V = some (.struct fields, V) := by
                unfold Go.underlying
                simp only [runV_bind, Go.program, runV, Option.bind, hu]
                rfl
              unfold Instr.fieldAt
              rw [runV_bind, hu1]
              simp only [Option.bind, hf]
              rw [runV_bind, hs]
              simp only [Option.bind]
              rw [runV_bind]
              unfold Go.fieldPlace
              rw [runV_bind, hz1]
              simp only [Option.bind, hz, if_false]
              rfl
          · cases ho
        · cases ho
      · cases ho
    · cases h
  · cases h


noncomputable def lgetR (l : List Value) : Nat → Value :=
  List.rec (motive := fun _ => Nat → Value) (fun _ => undef) (fun x _ ih i => Nat.rec (motive := fun _ => Value) x (fun j _ => ih j) i) l
noncomputable def lsetR (l : List Value) : Nat → Value → List Value :=
  List.rec (motive := fun _ => Nat → Value → List Value) (fun _ _ => []) (fun x r ih i v => Nat.rec (motive := fun _ => List Value) (v :: r) (fun j _ => x :: ih j v) i) l
theorem lgetR_eq (l : List Value) (i : Nat) : lgetR l i = lget l i := by
  induction l generalizing i with
  | nil => cases i <;> rfl
  | cons x r ih => cases i with
    | zero => rfl
    | succ j => exact ih j
theorem lsetR_eq (l : List Value) (i : Nat) (v : Value) : lsetR l i v = lset l i v := by
  induction l generalizing i with
  | nil => cases i <;> rfl
  | cons x r ih => cases i with
    | zero => rfl
    | succ j => exact congrArg (x :: ·) (ih j)
noncomputable def evR (ts : List Value) (x : Operand) : Value := match x with
  | .tmp t => lgetR ts t
  | .const v => v
  | .global g => .pointer (some ⟨g, 0, none⟩)
  | .func f => .func (.func f) #[] #[]
theorem evR_eq (ts : List Value) : evR ts = ev ts := by
  funext x; cases x <;> first | rfl | exact lgetR_eq ..
noncomputable def lputR (ts : List Value) (d : Option Tmp) (v : Value) : List Value := match d with
  | some d => lsetR ts d v
  | none => ts
theorem lputR_eq (ts : List Value) (d : Option Tmp) (v : Value) : lputR ts d v = lput ts d v := by
  cases d <;> first | rfl | exact lsetR_eq ..

/-- an operation, made ready -/
inductive FOp
  | mv (d : Nat) (x : Operand)
  | bin (d : Nat) (op : BinOp) (x y : Operand)
  | ld (d : Nat) (t : TypeId) (a : Operand)
  | fa (d : Nat) (off : Nat) (x : Operand)
  | slow
def fdecOp (P : Program) (d : Nat) (op : Op) : FOp := match op with
  | .move x | .assign x => .mv d x
  | .binOp op _ x y _ => match op with
    | .add | .sub | .mul | .eql | .neq | .lss | .leq | .gtr | .geq => .bin d op x y
    | _ => .slow
  | .load t a => .ld d t a
  | .fieldAddr t x k => match fieldOff P t k with
    | some off => .fa d off x
    | none => .slow
  | _ => .slow
def fdec (P : Program) (o : Oper) : FOp := match okOps o with
  | true => match o.guard with
    | none => match o.dst with
      | some d => fdecOp P d o.op
      | none => .slow
    | some _ => .slow
  | false => .slow
def fPtr (off : Nat) (v : Value) : Option Value := match v with
  | .pointer (some a) => some (.pointer (some (a.add off)))
  | _ => none
/-- what a made operation means -/
def Means (P : Program) (o : Oper) (f : FOp) : Prop := match f with
  | .mv d x => okOps o = true ∧ o.guard = none ∧ o.dst = some d ∧ ∀ e, footOf e o = .none ∧ ∀ V, runOp P e o V = some (.value (e x), V)
  | .bin d op x y => okOps o = true ∧ o.guard = none ∧ o.dst = some d ∧ ∀ e, footOf e o = .none ∧ ∀ V v, fBin op (e x) (e y) = some v → runOp P e o V = some (.value v, V)
  | .ld d t a => okOps o = true ∧ o.guard = none ∧ o.dst = some d ∧ ∀ e, footOf e o = .some (blockOf (e a)) none ∧ ∀ V v, fLoad P t (e a) V = some v → runOp P e o V = some (.value v, V)
  | .fa d off x => okOps o = true ∧ o.guard = none ∧ o.dst = some d ∧ ∀ e, footOf e o = .none ∧ ∀ V v, fPtr off (e x) = some v → runOp P e o V = some (.value v, V)
  | .slow => True
theorem fdec_means (P : Program) (o : Oper) : Means P o (fdec P o) := by
  obtain ⟨dst, op, ty, pos, aft, gd⟩ := o
  unfold fdec
  split
  · rename_i hok
    split
    · rename_i hg
      split
      · rename_i d hd
        cases op <;> try exact trivial
        · exact ⟨hok, hg, hd, fun e => ⟨rfl, fun V => rfl⟩⟩
        · exact ⟨hok, hg, hd, fun e => ⟨rfl, fun V => rfl⟩⟩
        · rename_i t a
          exact ⟨hok, hg, hd, fun e => ⟨rfl, fun V v hv => by simp only [runOp, fLoad_run hv]⟩⟩
        · rename_i op t x y ty2
          have key : Means P ⟨dst, .binOp op t x y ty2, ty, pos, aft, gd⟩ (.bin d op x y) := ⟨hok, hg, hd, fun e => ⟨rfl, fun V v hv => by
            have := fBin_run (P := P) (V := V) hv t x y
            simp only [runOp, this.1, this.2]⟩⟩
          cases op <;> first | exact trivial | exact key
        · rename_i t x k
          simp only [fdecOp]
          split
          · rename_i off ho
            refine ⟨hok, hg, hd, fun e => ⟨rfl, fun V v hv => ?_⟩⟩
            have : fField P t (e x) k = some v := by
              unfold fPtr at hv
              split at hv
              · rename_i a hx; rw [hx]; simp only [fField, ho]; exact hv
              · cases hv
            simp only [runOp, fField_run this]
          · exact trivial
      · exact trivial
    · exact trivial
  · exact trivial

abbrev Res := Option (List Value × View)
noncomputable def slowOp (P : Program) (self : Job → Option Out) (ops : Array Oper) (o : Oper) (ts : List Value) (V : View) (k : List Value → View → Res) : Res := match okOps o with
  | true => match wantedL ops ts o with
    | some true => match after self (runOp P (evR ts) o V) with
      | some (v, V1) => fV v fun v => fS (evR ts) o V V1 fun V1 => k (lputR ts o.dst v) V1
      | none => none
    | some false => k (lputR ts o.dst undef) V
    | none => none
  | false => none
noncomputable def qk (r : Option Value) (d : Nat) (ts : List Value) (V : View) (k : List Value → View → Res) (slow : Res) : Res := match r with
  | some v => fV v fun v => k (lsetR ts d v) V
  | none => slow
noncomputable def runOne (P : Program) (self : Job → Option Out) (ops : Array Oper) (o : Oper) (f : FOp) (ts : List Value) (V : View) (k : List Value → View → Res) : Res := match f with
  | .mv d x => fV (evR ts x) fun v => k (lsetR ts d v) V
  | .bin d op x y => qk (fBin op (evR ts x) (evR ts y)) d ts V k (slowOp P self ops o ts V k)
  | .ld d t a => qk (fLoad P t (evR ts a) V) d ts V k (slowOp P self ops o ts V k)
  | .fa d off x => qk (fPtr off (evR ts x)) d ts V k (slowOp P self ops o ts V k)
  | .slow => slowOp P self ops o ts V k
def oldOp (P : Program) (self : Job → Option Out) (ops : Array Oper) (o : Oper) (ts : List Value) (V : View) (k : List Value → View → Res) : Res := match okOps o with
  | true => match wantedL ops ts o with
    | some true => match after self (runOp P (ev ts) o V) with
      | some (v, V1) => k (lput ts o.dst v) V1
      | none => none
    | some false => k (lput ts o.dst undef) V
    | none => none
  | false => none
theorem slowOp_eq (P : Program) (self : Job → Option Out) (ops : Array Oper) (o : Oper) (ts : List Value) (V : View) (k : List Value → View → Res) :
    slowOp P self ops o ts V k = oldOp P self ops o ts V k := by
  simp only [slowOp, oldOp, evR_eq, fV_eq, fS_eq, lputR_eq]
theorem qk_eq {r : Option Value} {d : Nat} {ts : List Value} {V : View} {k : List Value → View → Res} {slow : Res} (h : ∀ v, r = some v → slow = k (lset ts d v) V) : qk r d ts V k slow = slow := by
  cases r with
  | none => rfl
  | some v => simp only [qk, fV_eq, lsetR_eq]; exact (h v rfl).symm
theorem runOne_eq (P : Program) (self : Job → Option Out) (ops : Array Oper) (o : Oper) (ts : List Value) (V : View) (k : List Value → View → Res) :
    runOne P self ops o (fdec P o) ts V k = oldOp P self ops o ts V k := by
  have hm := fdec_means P o
  generalize fdec P o = f at hm
  have hw : o.guard = none → wantedL ops ts o = some true := fun h => by simp only [wantedL, h]
  cases f with
  | slow => exact slowOp_eq ..
  | mv d x =>
    obtain ⟨h1, h2, h3, h4⟩ := hm
    simp only [runOne, fV_eq, evR_eq, lsetR_eq, oldOp, h1, hw h2, (h4 _).2, after, h3, lput]
  | bin d op x y =>
    obtain ⟨h1, h2, h3, h4⟩ := hm
    simp only [runOne, slowOp_eq, evR_eq]
    refine qk_eq fun v hv => ?_
    simp only [oldOp, h1, hw h2, (h4 _).2 _ _ hv, after, h3, lput]
  | ld d t a =>
    obtain ⟨h1, h2, h3, h4⟩ := hm
    simp only [runOne, slowOp_eq, evR_eq]
    refine qk_eq fun v hv => ?_
    simp only [oldOp, h1, hw h2, (h4 _).2 _ _ hv, after, h3, lput]
  | fa d off x =>
    obtain ⟨h1, h2, h3, h4⟩ := hm
    simp only [runOne, slowOp_eq, evR_eq]
    refine qk_eq fun v hv => ?_
    simp only [oldOp, h1, hw h2, (h4 _).2 _ _ hv, after, h3, lput]
noncomputable def runOpsF (P : Program) (self : Job → Option Out) (ops : Array Oper) : List Oper → List Value → View → Res
  | [], ts, V => some (ts, V)
  | o :: rest, ts, V => runOne P self ops o (fdec P o) ts V (runOpsF P self ops rest)
theorem runOpsF_eq (P : Program) (self : Job → Option Out) (ops : Array Oper) : ∀ l ts V, runOpsF P self ops l ts V = runOps P self ops l ts V := by
  intro l
  induction l with
  | nil => intro ts V; rfl
  | cons o r ih =>
    intro ts V
    have : runOpsF P self ops r = runOps P self ops r := by funext ts V; exact ih ts V
    simp only [runOpsF, runOne_eq, this, runOps]
    rfl
/-! Regions that draw their order. -/
def noNew (n : Nat) : List (Nat × Obj) → Bool
  | [] => true
  | (k, _) :: r => match Nat.ble n k with
    | true => false
    | false => noNew n r
theorem newer_no (n : Nat) (l base) (h : noNew n l = true) : newer n l base = base := by
  induction l with
  | nil => rfl
  | cons x r ih =>
    obtain ⟨k, o⟩ := x
    unfold noNew at h
    unfold newer
    split at h
    · cases h
    · rename_i hk; simp only [hk]; exact ih h
def fD (wr : Option Nat) (V Vo : View) (k : View → Res) : Res := match wr with
  | none => match Nat.beq Vo.next V.next && noNew V.next Vo.objs with
    | true => k V
    | false => fW V.next none ⟨Vo.next, newer V.next Vo.objs V.objs⟩ k
  | some b => fW V.next (some b) ⟨Vo.next, newer V.next Vo.objs (turned (some b) Vo V.objs)⟩ k
theorem fD_eq (wr : Option Nat) (V Vo : View) (k : View → Res) : fD wr V Vo k = k ⟨Vo.next, newer V.next Vo.objs (turned wr Vo V.objs)⟩ := by
  unfold fD; split
  · split
    · rename_i h
      rw [Bool.and_eq_true] at h
      rw [newer_no _ _ _ h.2, Nat.eq_of_beq_eq_true h.1]; rfl
    · rw [fW_eq]; rfl
  · rw [fW_eq]
def dull (r : Rec) : Bool := match r.wr with
  | none => Nat.ble r.vo.next r.vi.next
  | some _ => false
def keep : List Rec → List (Nat × Rec)
  | [] => []
  | r :: rest => match dull r with
    | true => keep rest
    | false => (rest.length, r) :: keep rest
def hidS (A : Nat) (b : Nat) : List (Nat × Rec) → Bool
  | [] => false
  | (n, r) :: rest => (!(A.testBit n) && touch r b) || hidS A b rest
theorem dull_touch {r : Rec} (h : dull r = true) (b : Nat) : touch r b = false := by
  unfold dull at h
  split at h
  · rename_i hw
    unfold touch
    rw [hw]
    have := Nat.le_of_ble_eq_true h
    simp only [isWr, Bool.false_or]
    cases h1 : Nat.ble r.vi.next b with
    | false => rfl
    | true =>
      have h3 := Nat.le_of_ble_eq_true h1
      cases h2 : Nat.blt b r.vo.next with
      | false => rfl
      | true =>
        have h4 : b + 1 ≤ r.vo.next := Nat.le_of_ble_eq_true h2
        omega
  · cases h
theorem hidS_eq (A : Nat) (b : Nat) (recs : List Rec) : hidS A b (keep recs) = hid A recs b := by
  induction recs with
  | nil => rfl
  | cons r rest ih =>
    unfold keep
    split
    · rename_i h
      rw [ih, hid, dull_touch h, Bool.and_false, Bool.false_or]
    · rw [hidS, ih, hid]
def anyHidS (A : Nat) (wrs : List (Nat × Rec)) : List Nat → Bool
  | [] => false
  | b :: r => hidS A b wrs || anyHidS A wrs r
theorem anyHidS_eq (A : Nat) (recs : List Rec) (l : List Nat) : anyHidS A (keep recs) l = anyHid A recs l := by
  induction l with
  | nil => rfl
  | cons b r ih => rw [anyHidS, anyHid, ih, hidS_eq]
def viewL (A : Nat) (wrs : List (Nat × Rec)) (V : View) (l : List Nat) : Option View := match anyHidS A wrs l with
  | true => none
  | false => some ⟨V.next, pick1 V none l⟩
def hd : List Nat → Nat
  | [] => 0
  | x :: _ => x
def tl : List Nat → List Nat
  | [] => []
  | _ :: r => r
theorem hd_drop (l : List Nat) (n : Nat) : hd (l.drop n) = (l.toArray).getD n 0 := by
  induction l generalizing n with
  | nil => simp [hd]
  | cons x r ih =>
    cases n with
    | zero => simp [hd]
    | succ n => simpa using ih n
theorem tl_drop (l : List Nat) (n : Nat) : tl (l.drop n) = l.drop (n + 1) := by
  induction l generalizing n with
  | nil => simp [tl]
  | cons x r ih =>
    cases n with
    | zero => rfl
    | succ n => simpa using ih n

abbrev DK := Rec → List Value → View → Res
noncomputable def slowDraw (P : Program) (self : Job → Option Out) (ops : Array Oper) (o : Oper) (A : Nat) (recs : List Rec) (ts : List Value) (V : View) (k : DK) (tot : Bool) (k2 : List Value → View → Res) : Res := match okOps o with
  | true => match wantedL ops ts o with
    | some true => match isAll (footOf (evR ts) o) && tot with
      | true => match after self (runOp P (evR ts) o V) with
        | some (v, V1) => match inb V1.next V1.objs with
          | true => fV v fun v => fW V.next none V1 fun V1 => k2 (lputR ts o.dst v) V1
          | false => none
        | none => none
      | false => match viewFor A recs V (footOf (evR ts) o) with
        | some (Vi, wr) => match after self (runOp P (evR ts) o Vi) with
          | some (v, Vo) => match goodOut V.next wr Vo.next Vo.objs && inb V.next V.objs with
            | true => fV v fun v => fD wr V Vo fun V1 => k ⟨Vi, v, Vo, wr⟩ (lputR ts o.dst v) V1
            | false => none
          | none => none
        | none => none
    | some false => k ⟨⟨V.next, []⟩, undef, ⟨V.next, []⟩, none⟩ (lputR ts o.dst undef) V
    | none => none
  | false => none
def oldDraw (P : Program) (self : Job → Option Out) (ops : Array Oper) (o : Oper) (A : Nat) (recs : List Rec) (ts : List Value) (V : View) (k : DK) (tot : Bool) (k2 : List Value → View → Res) : Res := match okOps o with
  | true => match wantedL ops ts o with
    | some true => match isAll (footOf (ev ts) o) && tot with
      | true => match after self (runOp P (ev ts) o V) with
        | some (v, V1) => match inb V1.next V1.objs with
          | true => k2 (lput ts o.dst v) V1
          | false => none
        | none => none
      | false => match viewFor A recs V (footOf (ev ts) o) with
        | some (Vi, wr) => match after self (runOp P (ev ts) o Vi) with
          | some (v, Vo) => match goodOut V.next wr Vo.next Vo.objs && inb V.next V.objs with
            | true => k ⟨Vi, v, Vo, wr⟩ (lput ts o.dst v) ⟨Vo.next, newer V.next Vo.objs (turned wr Vo V.objs)⟩
            | false => none
          | none => none
        | none => none
    | some false => k ⟨⟨V.next, []⟩, undef, ⟨V.next, []⟩, none⟩ (lput ts o.dst undef) V
    | none => none
  | false => none
theorem slowDraw_eq (P : Program) (self : Job → Option Out) (ops : Array Oper) (o : Oper) (A : Nat) (recs : List Rec) (ts : List Value) (V : View) (k : DK) (tot : Bool) (k2 : List Value → View → Res) :
    slowDraw P self ops o A recs ts V k tot k2 = oldDraw P self ops o A recs ts V k tot k2 := by
  simp only [slowDraw, oldDraw, evR_eq, fV_eq, fD_eq, fW_eq, lputR_eq]
noncomputable def dk (r : Option Value) (d : Nat) (ts : List Value) (V : View) (k : DK) (slow : Res) : Res := match r with
  | some v => match inb V.next V.objs with
    | true => fV v fun v => k ⟨⟨V.next, []⟩, v, ⟨V.next, []⟩, none⟩ (lsetR ts d v) V
    | false => slow
  | none => slow
noncomputable def dld (P : Program) (t : TypeId) (p : Value) (d : Nat) (Vi : Option View) (ts : List Value) (V : View) (k : DK) (slow : Res) : Res := match Vi with
  | none => slow
  | some Vi => match fLoad P t p Vi with
    | some v => match goodOut V.next none V.next Vi.objs && inb V.next V.objs with
      | true => fV v fun v => k ⟨Vi, v, Vi, none⟩ (lsetR ts d v) V
      | false => slow
    | none => slow
noncomputable def drawOne (P : Program) (self : Job → Option Out) (ops : Array Oper) (o : Oper) (f : FOp) (A : Nat) (recs : List Rec) (wrs : List (Nat × Rec)) (ts : List Value) (V : View) (k : DK) (tot : Bool) (k2 : List Value → View → Res) : Res := match f with
  | .mv d x => dk (some (evR ts x)) d ts V k (slowDraw P self ops o A recs ts V k tot k2)
  | .bin d op x y => dk (fBin op (evR ts x) (evR ts y)) d ts V k (slowDraw P self ops o A recs ts V k tot k2)
  | .ld d t a => dld P t (evR ts a) d (viewL A wrs V (blockOf (evR ts a))) ts V k (slowDraw P self ops o A recs ts V k tot k2)
  | .fa d off x => dk (fPtr off (evR ts x)) d ts V k (slowDraw P self ops o A recs ts V k tot k2)
  | .slow => slowDraw P self ops o A recs ts V k tot k2
theorem dk_eq {r : Option Value} {d : Nat} {ts : List Value} {V : View} {k : DK} {slow : Res}
    (h : ∀ v, r = some v → inb V.next V.objs = true → slow = k ⟨⟨V.next, []⟩, v, ⟨V.next, []⟩, none⟩ (lset ts d v) V) : dk r d ts V k slow = slow := by
  cases r with
  | none => rfl
  | some v =>
    simp only [dk, fV_eq, lsetR_eq]
    cases hi : inb V.next V.objs with
    | false => rfl
    | true => exact (h v rfl hi).symm
theorem good_new {n : Nat} {l : List (Nat × Obj)} (h : goodOut n none n l = true) (base : List (Nat × Obj)) : newer n l base = base := by
  induction l with
  | nil => rfl
  | cons x r ih =>
    obtain ⟨k, o⟩ := x
    simp only [goodOut, Bool.and_eq_true] at h
    unfold newer
    have h1 : k + 1 ≤ n := Nat.le_of_ble_eq_true h.1.1
    have h2 : Nat.ble n k = false := by
      cases hb : Nat.ble n k with
      | false => rfl
      | true => have := Nat.le_of_ble_eq_true hb; omega
    simp only [h2]
    exact ih h.2
theorem drawOne_eq (P : Program) (self : Job → Option Out) (ops : Array Oper) (o : Oper) (A : Nat) (recs : List Rec) (ts : List Value) (V : View) (k : DK) (tot : Bool) (k2 : List Value → View → Res) :
    drawOne P self ops o (fdec P o) A recs (keep recs) ts V k tot k2 = oldDraw P self ops o A recs ts V k tot k2 := by
  have hm := fdec_means P o
  generalize fdec P o = f at hm
  have hw : o.guard = none → wantedL ops ts o = some true := fun h => by simp only [wantedL, h]
  have hg : ∀ n, goodOut n none n [] = true := fun n => rfl
  cases f with
  | slow => exact slowDraw_eq ..
  | mv d x =>
    obtain ⟨h1, h2, h3, h4⟩ := hm
    simp only [drawOne, slowDraw_eq, evR_eq]
    refine dk_eq fun v hv hi => ?_
    cases hv
    simp only [oldDraw, h1, hw h2, (h4 _).1, isAll, Bool.false_and, viewFor, (h4 _).2, after, h3, lput, hi, goodOut, newer, turned, Bool.and_true]
  | bin d op x y =>
    obtain ⟨h1, h2, h3, h4⟩ := hm
    simp only [drawOne, slowDraw_eq, evR_eq]
    refine dk_eq fun v hv hi => ?_
    simp only [oldDraw, h1, hw h2, (h4 _).1, isAll, Bool.false_and, viewFor, (h4 _).2 _ _ hv, after, h3, lput, hi, goodOut, newer, turned, Bool.and_true]
  | fa d off x =>
    obtain ⟨h1, h2, h3, h4⟩ := hm
    simp only [drawOne, slowDraw_eq, evR_eq]
    refine dk_eq fun v hv hi => ?_
    simp only [oldDraw, h1, hw h2, (h4 _).1, isAll, Bool.false_and, viewFor, (h4 _).2 _ _ hv, after, h3, lput, hi, goodOut, newer, turned, Bool.and_true]
  | ld d t a =>
    obtain ⟨h1, h2, h3, h4⟩ := hm
    simp only [drawOne, slowDraw_eq, evR_eq, dld, viewL, anyHidS_eq]
    cases ha : anyHid A recs (blockOf (ev ts a)) with
    | true => rfl
    | false =>
      simp only
      cases hl : fLoad P t (ev ts a) ⟨V.next, pick1 V none (blockOf (ev ts a))⟩ with
      | none => rfl
      | some v =>
        simp only [fV_eq, lsetR_eq]
        cases hb : goodOut V.next none V.next (pick1 V none (blockOf (ev ts a))) && inb V.next V.objs with
        | false => rfl
        | true =>
          have hb1 := (Bool.and_eq_true _ _ ▸ hb : _ ∧ _).1
          simp only [oldDraw, h1, hw h2, (h4 _).1, isAll, Bool.false_and, viewFor, ha, Bool.or_false, (h4 _).2 _ _ hl, after, h3, lput, hb, good_new hb1, turned]
noncomputable def keepIf (r : Rec) (recs : List Rec) (wrs : List (Nat × Rec)) : List (Nat × Rec) := match dull r with
  | true => wrs
  | false => (recs.length, r) :: wrs
noncomputable def drawGoF (P : Program) (self : Job → Option Out) (ops : Array Oper) (anc : Array Nat) : List Oper → List Nat → List Rec → List (Nat × Rec) → List Value → View → Res
  | [], _, _, _, ts, V => some (ts, V)
  | o :: rest, al, recs, wrs, ts, V => drawOne P self ops o (fdec P o) (hd al) recs wrs ts V (fun r ts V => drawGoF P self ops anc rest (tl al) (r :: recs) (keepIf r recs wrs) ts V)
      (totalAt anc recs.length) fun ts V => drawGoF P self ops anc rest (tl al) (dummies ops ts V (recs.length + 1)) [] ts V
theorem keepIf_eq (r : Rec) (recs : List Rec) : keepIf r recs (keep recs) = keep (r :: recs) := rfl
theorem keep_dummies (ops : Array Oper) (ts : List Value) (V : View) : ∀ k, keep (dummies ops ts V k) = []
  | 0 => rfl
  | k + 1 => by
    have : dull ⟨⟨V.next, []⟩, valAt ops ts k, ⟨V.next, []⟩, none⟩ = true := Nat.ble_eq_true_of_le (Nat.le_refl _)
    simp only [dummies, keep, this, keep_dummies ops ts V k]
theorem dummies_len (ops : Array Oper) (ts : List Value) (V : View) : ∀ k, (dummies ops ts V k).length = k
  | 0 => rfl
  | k + 1 => by simp [dummies, dummies_len ops ts V k]
theorem drawGoF_eq (P : Program) (self : Job → Option Out) (ops : Array Oper) (anc : Array Nat) : ∀ l recs ts V, drawGoF P self ops anc l (anc.toList.drop recs.length) recs (keep recs) ts V = drawGo P self ops anc l recs ts V := by
  intro l
  induction l with
  | nil => intro recs ts V; rfl
  | cons o r ih =>
    intro recs ts V
    have h1 : hd (anc.toList.drop recs.length) = anc.getD recs.length 0 := by rw [hd_drop]
    have h2 : (fun (r' : Rec) ts V => drawGoF P self ops anc r (tl (anc.toList.drop recs.length)) (r' :: recs) (keepIf r' recs (keep recs)) ts V) = fun r' ts V => drawGo P self ops anc r (r' :: recs) ts V := by
      funext r' ts V
      rw [tl_drop, keepIf_eq]
      exact ih (r' :: recs) ts V
    have h3 : (fun ts V => drawGoF P self ops anc r (tl (anc.toList.drop recs.length)) (dummies ops ts V (recs.length + 1)) [] ts V) = fun ts V => drawGo P self ops anc r (dummies ops ts V (recs.length + 1)) ts V := by
      funext ts V
      have := ih (dummies ops ts V (recs.length + 1)) ts V
      rw [keep_dummies, dummies_len] at this
      rw [tl_drop]
      exact this
    rw [drawGoF, h1, h2, h3, drawOne_eq, drawGo]
    rfl

noncomputable def regionF (P : Program) (self : Job → Option Out) (ops : Array Oper) (draw : Bool) (ts : List Value) (V : View) : Res := match draw with
  | false => runOpsF P self ops ops.toList ts V
  | true => match drawOk ops && inb V.next V.objs with
    | true => drawGoF P self ops (Region.before ops) ops.toList (Region.before ops).toList [] [] ts V
    | false => none
def codeF (df : List Nat) (r : Res) : Option Out := match r with
  | some (ts, V) => some (.code .normal ts df V)
  | none => none
def endF (P : Program) (n : Nat) (rs : List ResultVar) (o : Option Out) : Option Out := match o with
  | some (.code e ts df V1) => match e with
    | .exit _ => none
    | _ => match takeAll df V1.objs with
      | some l => match runV P (resultsL rs ts) ⟨V1.next, l⟩ with
        | some (vs, V2) => fV (shut vs) fun v => fW V1.next none ⟨V2.next, keepR n (rootsOf n v V2.objs) V2.objs⟩ fun V => some (.value v V)
        | none => none
      | none => none
  | _ => none
def seqF (self : Job → Option Out) (ar : Option Nat) (b : Code) (r : Option Out) : Option Out := match r with
  | some (.code .normal ts df V) => self (.code ar b ts df V)
  | r => r
def loopF (self : Job → Option Out) (ar : Option Nat) (body : Code) (r : Option Out) : Option Out := match r with
  | some (.code .normal ts df V) => fL ts fun ts => self (.code ar (.loop body) ts df V)
  | r => r
def blockF (id : Nat) (r : Option Out) : Option Out := match r with
  | some (.code (.exit j) ts df V) => match Nat.beq j id with
    | true => some (.code .normal ts df V)
    | false => some (.code (.exit j) ts df V)
  | r => r
def condF (self : Job → Option Out) (ar : Option Nat) (c : Value) (a b : Code) (ts : List Value) (df : List Nat) (V : View) : Option Out := match c with
  | .bool true => self (.code ar a ts df V)
  | .bool false => self (.code ar b ts df V)
  | _ => none
noncomputable def codeStep (P : Program) (self : Job → Option Out) (ar : Option Nat) (c : Code) (ts : List Value) (df : List Nat) (V : View) : Option Out := match c with
  | .skip | .label _ => some (.code .normal ts df V)
  | .region _ ops draw => codeF df (regionF P self ops draw ts V)
  | .seq a b => seqF self ar b (self (.code ar a ts df V))
  | .loop body => loopF self ar body (self (.code ar body ts df V))
  | .block id body => blockF id (self (.code ar body ts df V))
  | .cond c a b => match okConst c with
    | true => condF self ar (evR ts c) a b ts df V
    | false => none
  | c => step P self (.code ar c ts df V)
noncomputable def callStep (P : Program) (self : Job → Option Out) (f : FuncId) (args : List Value) (V : View) : Option Out := match P.funcs[f]? with
  | some fn => match fn.body with
    | some c => endF P V.next fn.results.toList (self (.code none c (args ++ List.replicate (fn.ntmps - args.length) undef) [] V))
    | none => none
  | none => none
/-- the same steps, quicker -/
noncomputable def stepF (P : Program) (self : Job → Option Out) (j : Job) : Option Out := match j with
  | .code ar c ts df V => codeStep P self ar c ts df V
  | .call f args V => callStep P self f args V
noncomputable def runF (P : Program) : Nat → Job → Option Out
  | 0, _ => none
  | n + 1, j => stepF P (runF P n) j
theorem regionF_eq (P : Program) (self : Job → Option Out) (ops : Array Oper) (draw : Bool) (ts : List Value) (V : View) (ar : Option Nat) (id) (df : List Nat) :
    codeF df (regionF P self ops draw ts V) = step P self (.code ar (.region id ops draw) ts df V) := by
  cases draw
  · simp only [step, regionF, codeF, runOpsF_eq]; rfl
  · have := drawGoF_eq P self ops (Region.before ops) ops.toList [] ts V
    simp only [List.length_nil, List.drop_zero, keep] at this
    simp only [step, regionF, codeF, this]
    cases drawOk ops && inb V.next V.objs <;> rfl
theorem stepF_eq (P : Program) (self : Job → Option Out) (j : Job) : stepF P self j = step P self j := by
  cases j with
  | code ar c ts df V =>
    show codeStep P self ar c ts df V = _
    cases c <;> try rfl
    · exact regionF_eq ..
    · simp only [codeStep, step, evR_eq]; rfl
    · simp only [codeStep, step, loopF, fL_eq]; rfl
  | call f args V =>
    show callStep P self f args V = _
    simp only [callStep, step, endF, fV_eq, fW_eq]
    rfl
theorem runF_eq (P : Program) : ∀ n, runF P n = run P n := by
  intro n
  induction n with
  | zero => rfl
  | succ n ih => funext j; rw [runF, run, stepF_eq, ih]
end Go.Vm
