/- The machine of the small memory, and that it is sound. -/
import Derived.Test.YtomokhdkagedpaaVjV2
import Derived.RangeFuncLeaves
import Derived.Scope
import Derived.Below
set_option linter.unusedVariables false
/- The machine of the small memory. -/
namespace Go.Vm

inductive Ex
  | normal
  | exit (id : Nat)
  | ret
inductive Job
  | code (ar : Option Nat) (c : Code) (ts : List Value) (df : List Nat) (V : View)
  | call (f : FuncId) (args : List Value) (V : View)
inductive Out
  | code (e : Ex) (ts : List Value) (df : List Nat) (V : View)
  | value (v : Value) (V : View)

def lget : List Value → Nat → Value
  | [], _ => undef
  | x :: _, 0 => x
  | _ :: r, i + 1 => lget r i
def lset : List Value → Nat → Value → List Value
  | [], _, _ => []
  | _ :: r, 0, v => v :: r
  | x :: r, i + 1, v => x :: lset r i v
def ev (ts : List Value) : Operand → Value
  | .tmp t => lget ts t
  | .const v => v
  | .global g => .pointer (some ⟨g, 0, none⟩)
  | .func f => .func (.func f) #[] #[]
def lput (ts : List Value) (d : Option Tmp) (v : Value) : List Value := match d with
  | some d => lset ts d v
  | none => ts
def okOps (o : Oper) : Bool := o.op.operands.toList.all okConst

/-- the values of a call's operation, or of a round -/
def after (self : Job → Option Out) (r : Option (Next × View)) : Option (Value × View) := match r with
  | some (.value v, V) => some (v, V)
  | some (.skip, V) => some (undef, V)
  | some (.enter f args, V) => match self (.call f args.toList V) with
    | some (.value v V1) => some (v, V1)
    | _ => none
  | some (.round l _ ts a b, V) => match self (.code (some l) a ts.toList [] V) with
    | some (.code .normal ts1 [] V1) => match find V1.objs l with
      | some (.loop r) => match r.state with
        | .ready => match self (.code (some l) b ts1 [] ⟨V1.next, put V1.objs l (.loop { r with state := .busy })⟩) with
          | some (.code e _ _ V2) => match find V2.objs l with
            | some (.loop r2) => match e with
              | .normal => some (.bool true, ⟨V2.next, put V2.objs l (.loop { r2 with state := .ready, pending := none })⟩)
              | .ret => some (.bool false, ⟨V2.next, put V2.objs l (.loop { r2 with state := .done, pending := some .ret })⟩)
              | .exit id => some (.bool false, ⟨V2.next, put V2.objs l (.loop { r2 with state := .done, pending := some (.exit id) })⟩)
            | _ => none
          | _ => none
        | _ => none
      | _ => none
    | _ => none
  | _ => none

def wantedL (ops : Array Oper) (ts : List Value) (o : Oper) : Option Bool := match o.guard with
  | none => some true
  | some (j, want) => match (ops[j]?).bind (·.dst) with
    | some d => match lget ts d with
      | .bool b => some (b == want)
      | .tuple ⟨[]⟩ => some false
      | _ => none
    | none => none

def runOps (P : Program) (self : Job → Option Out) (ops : Array Oper) : List Oper → List Value → View → Option (List Value × View)
  | [], ts, V => some (ts, V)
  | o :: rest, ts, V => match okOps o with
    | true => match wantedL ops ts o with
      | some true => match after self (runOp P (ev ts) o V) with
        | some (v, V1) => runOps P self ops rest (lput ts o.dst v) V1
        | none => none
      | some false => runOps P self ops rest (lput ts o.dst undef) V
      | none => none
    | false => none

/-! A region that draws its order. -/
structure Rec where
  vi : View
  val : Value
  vo : View
  wr : Option Nat

def freezeAll : List (Nat × Obj) → List (Nat × Obj)
  | [] => []
  | (k, .cells c e _) :: r => (k, .cells c e (0, 1)) :: freezeAll r
  | (k, .map es _) :: r => (k, .map es big) :: freezeAll r
  | _ :: r => freezeAll r
def isWr (wr : Option Nat) (b : Nat) : Bool := match wr with
  | some x => Nat.beq x b
  | none => false
def touch (r : Rec) (b : Nat) : Bool := isWr r.wr b || (Nat.ble r.vi.next b && Nat.blt b r.vo.next)
/-- from an operation that waits for those of A: what others made or turned -/
def hid (A : Nat) : List Rec → Nat → Bool
  | [], _ => false
  | r :: rest, b => (!(A.testBit rest.length) && touch r b) || hid A rest b
def clash (A : Nat) : List Rec → Nat → Bool
  | [], _ => false
  | r :: rest, b => (!(A.testBit rest.length) && (find r.vi.objs b).isSome) || clash A rest b
def visible (A : Nat) (recs : List Rec) : List (Nat × Obj) → List (Nat × Obj)
  | [] => []
  | (k, o) :: r => match hid A recs k with
    | true => visible A recs r
    | false => (k, o) :: visible A recs r
inductive Foot
  | none
  | some (l : List Nat) (wr : Option Nat)
  | all
def blockOf : Value → List Nat
  | .pointer (some a) => [a.block]
  | .slice (some a) _ _ => [a.block]
  | .map (some r) => [r]
  | _ => []
def footOf (e : Operand → Value) (o : Oper) : Foot := match o.op with
  | .load _ a => .some (blockOf (e a)) none
  | .store _ a _ => .some (blockOf (e a)) (blockOf (e a)).head?
  | .lookup _ m _ _ => .some (blockOf (e m)) none
  | .mapUpdate _ m _ _ | .mapEntry _ m _ | .entryStore _ m _ _ | .insert _ m _ _ => .some (blockOf (e m)) (blockOf (e m)).head?
  | .call c => match c.callee with
    | .value _ => .all
    | .builtin .len => match (c.args.toList.map e) with
      | [.map (some r)] => .some [r] (some r)
      | _ => .none
    | .builtin .append => match (c.args.toList.map e) with
      | [.slice (some a) n cap, x] => match Nat.beq cap big || (match x with | .slice _ m _ => Nat.ble (n + m) cap | _ => false) with
        | true => .some (a.block :: blockOf x) (some a.block)
        | false => .some (a.block :: blockOf x) none
      | [_, x] => .some (blockOf x) none
      | _ => .none
    | .builtin .copy => match (c.args.toList.map e) with
      | [s, x] => .some (blockOf s ++ blockOf x) (blockOf s).head?
      | _ => .none
    | .builtin .clear => match (c.args.toList.map e) with
      | [m] => .some (blockOf m) (blockOf m).head?
      | _ => .none
    | .builtin .delete => match (c.args.toList.map e) with
      | [m, _] => .some (blockOf m) (blockOf m).head?
      | _ => .none
    | _ => .none
  | _ => .none
def pick1 (V : View) (wr : Option Nat) : List Nat → List (Nat × Obj)
  | [] => []
  | b :: r => match find V.objs b with
    | some o => match isWr wr b with
      | true => (b, o) :: pick1 V wr r
      | false => freezeAll [(b, o)] ++ pick1 V wr r
    | none => pick1 V wr r
def anyHid (A : Nat) (recs : List Rec) : List Nat → Bool
  | [] => false
  | b :: r => hid A recs b || anyHid A recs r
def memN (b : Nat) : List Nat → Bool
  | [] => false
  | x :: r => Nat.beq x b || memN b r
def viewFor (A : Nat) (recs : List Rec) (V : View) : Foot → Option (View × Option Nat)
  | .none => some (⟨V.next, []⟩, none)
  | .some l wr => match anyHid A recs l || (match wr with | some b => clash A recs b || !(find V.objs b).isSome || !memN b l | none => false) with
    | true => none
    | false => some (⟨V.next, pick1 V wr l⟩, wr)
  | .all => some (⟨V.next, freezeAll (visible A recs V.objs)⟩, none)
/-- what an operation leaves is named in its own range, and its own -/
def goodOut (n : Nat) (wr : Option Nat) (m : Nat) : List (Nat × Obj) → Bool
  | [] => true
  | (k, o) :: r => Nat.blt k m && (owned o || !(Nat.ble n k || isWr wr k)) && goodOut n wr m r
/-- named below m, each one below the one before it -/
def inb (m : Nat) : List (Nat × Obj) → Bool
  | [] => true
  | (k, _) :: r => Nat.blt k m && inb k r
/-- blocks that are new -/
def newer (n : Nat) : List (Nat × Obj) → List (Nat × Obj) → List (Nat × Obj)
  | [], base => base
  | (k, o) :: r, base => match Nat.ble n k with
    | true => (k, o) :: newer n r base
    | false => newer n r base
def turned (wr : Option Nat) (V : View) (base : List (Nat × Obj)) : List (Nat × Obj) := match wr with
  | none => base
  | some b => match find V.objs b with
    | some o => put base b o
    | none => drop base b

/-- an operation that waits for all that stand before it, and for which all behind it wait -/
def upTo (A k : Nat) : Bool := Nat.beq (A % 2 ^ k) (2 ^ k - 1)
def totalAt (anc : Array Nat) (i : Nat) : Bool := anc.toList.zipIdx.all fun p => match Nat.blt p.2 i with
  | true => true
  | false => match Nat.beq p.2 i with
    | true => upTo p.1 i
    | false => upTo p.1 (i + 1)
def isAll : Foot → Bool
  | .all => true
  | _ => false
def valAt (ops : Array Oper) (ts : List Value) (k : Nat) : Value := match (ops[k]?).bind (·.dst) with
  | some d => lget ts d
  | none => undef
/-- what stands for operations that are behind it -/
def dummies (ops : Array Oper) (ts : List Value) (V : View) : Nat → List Rec
  | 0 => []
  | k + 1 => ⟨⟨V.next, []⟩, valAt ops ts k, ⟨V.next, []⟩, none⟩ :: dummies ops ts V k
def drawGo (P : Program) (self : Job → Option Out) (ops : Array Oper) (anc : Array Nat) : List Oper → List Rec → List Value → View → Option (List Value × View)
  | [], _, ts, V => some (ts, V)
  | o :: rest, recs, ts, V => match okOps o with
    | true => match wantedL ops ts o with
      | some true => match isAll (footOf (ev ts) o) && totalAt anc recs.length with
        | true => match after self (runOp P (ev ts) o V) with
          | some (v, V1) => match inb V1.next V1.objs with
            | true => drawGo P self ops anc rest (dummies ops (lput ts o.dst v) V1 (recs.length + 1)) (lput ts o.dst v) V1
            | false => none
          | none => none
        | false => match viewFor (anc.getD recs.length 0) recs V (footOf (ev ts) o) with
          | some (Vi, wr) => match after self (runOp P (ev ts) o Vi) with
            | some (v, Vo) => match goodOut V.next wr Vo.next Vo.objs && inb V.next V.objs with
              | true => drawGo P self ops anc rest (⟨Vi, v, Vo, wr⟩ :: recs) (lput ts o.dst v) ⟨Vo.next, newer V.next Vo.objs (turned wr Vo V.objs)⟩
              | false => none
            | none => none
          | none => none
      | some false => drawGo P self ops anc rest (⟨⟨V.next, []⟩, undef, ⟨V.next, []⟩, none⟩ :: recs) (lput ts o.dst undef) V
      | none => none
    | false => none

def tmpsOf (ops : Array Oper) (o : Oper) : List Nat :=
  (o.op.operands.toList.filterMap fun | .tmp t => some t | _ => none) ++ (match o.guard with | some (j, _) => ((ops[j]?).bind (·.dst)).toList | none => [])
/-- the shape of a region that draws its order -/
def drawOk (ops : Array Oper) : Bool :=
  let anc := Region.before ops
  let l := ops.toList.zipIdx
  l.all fun p =>
    (p.1.after.toList.all fun e => !Region.binds .any e || Nat.blt e.on p.2) &&
    (l.all fun q => (match p.1.dst, q.1.dst with
      | some a, some b => !Nat.beq a b || Nat.beq p.2 q.2
      | _, _ => true) &&
     (match q.1.dst with
      | some d => !(tmpsOf ops p.1).contains d || Nat.beq p.2 q.2 || (anc.getD p.2 0).testBit q.2 || (anc.getD q.2 0).testBit p.2
      | none => true))

def takeAll : List Nat → List (Nat × Obj) → Option (List (Nat × Obj))
  | [], l => some l
  | D :: r, l => match find l D with
    | some (.deferred (some [])) => takeAll r (drop l D)
    | _ => none
/-- the blocks that a value names -/
def refsN : Nat → Value → List Nat
  | 0, _ => []
  | n + 1, v => match v with
    | .pointer (some a) => [a.block]
    | .slice (some a) _ _ => [a.block]
    | .map (some r) => [r]
    | .func fn a b => (match fn with | .yield l => [l] | _ => []) ++ ((a.toList ++ b.toList).map (refsN n)).flatten
    | .agg cs => (cs.toList.map (refsN n)).flatten
    | .tuple cs => (cs.toList.map (refsN n)).flatten
    | _ => []
def refsO : Obj → List Nat
  | .cells c _ _ => (c.toList.map (refsN 4)).flatten
  | .map es _ => (es.toList.map fun e => refsN 4 e.key ++ refsN 4 e.val).flatten
  | _ => []
/-- the new blocks that can be reached from some -/
def reach (n : Nat) (objs : List (Nat × Obj)) : Nat → List Nat → List Nat → List Nat
  | 0, _, seen => seen
  | f + 1, todo, seen => match todo with
    | [] => seen
    | b :: r => match Nat.blt b n || memN b seen with
      | true => reach n objs f r seen
      | false => match find objs b with
        | some o => reach n objs f (refsO o ++ r) (b :: seen)
        | none => reach n objs f r seen
/-- whether a function that is called may run a body of its caller -/
def hasYield : List Value → Bool
  | [] => false
  | v :: r => match v with
    | .func fn _ _ => match fn with
      | .yield _ => true
      | _ => hasYield r
    | _ => hasYield r
/-- what old blocks name -/
def oldRefs (n : Nat) : List (Nat × Obj) → List Nat
  | [] => []
  | (k, o) :: r => match Nat.blt k n with
    | true => refsO o ++ oldRefs n r
    | false => oldRefs n r
def rootsOf (ya : Bool) (n : Nat) (v : Value) (objs : List (Nat × Obj)) : List Nat := match ya with
  | true => reach n objs 10000 (refsN 4 v ++ oldRefs n objs) []
  | false => match flatN 3 v with
    | true => []
    | false => reach n objs 10000 (refsN 4 v) []
/-- what is left of the memory behind a call: old blocks, and those of l -/
def keepR (n : Nat) (l : List Nat) : List (Nat × Obj) → List (Nat × Obj)
  | [] => []
  | (k, o) :: r => match Nat.blt k n || memN k l with
    | true => (k, o) :: keepR n l r
    | false => keepR n l r
def resultsL : List ResultVar → List Value → Sem (List Value)
  | [], _ => pure []
  | .tmp t :: r, ts => do let vs ← resultsL r ts; pure (lget ts t :: vs)
  | .cell a t :: r, ts => do let v ← loadVar t (← asAddr (lget ts a)); let vs ← resultsL r ts; pure (v :: vs)
def shut (vs : List Value) : Value := match vs with
  | [v] => v
  | vs => .tuple vs.toArray

def step (P : Program) (self : Job → Option Out) : Job → Option Out
  | .code ar c ts df V => match c with
    | .skip | .label _ => some (.code .normal ts df V)
    | .exit id => some (.code (.exit id) ts df V)
    | .ret => some (.code .ret ts df V)
    | .region _ ops draw => match draw with
      | false => match runOps P self ops ops.toList ts V with
        | some (ts, V) => some (.code .normal ts df V)
        | none => none
      | true => match drawOk ops && inb V.next V.objs with
        | true => match drawGo P self ops (Region.before ops) ops.toList [] ts V with
          | some (ts, V) => some (.code .normal ts df V)
          | none => none
        | false => none
    | .seq a b => match self (.code ar a ts df V) with
      | some (.code .normal ts df V) => self (.code ar b ts df V)
      | r => r
    | .cond c a b => match okConst c with
      | true => match ev ts c with
        | .bool true => self (.code ar a ts df V)
        | .bool false => self (.code ar b ts df V)
        | _ => none
      | false => none
    | .block id body => match self (.code ar body ts df V) with
      | some (.code (.exit j) ts df V) => match Nat.beq j id with
        | true => some (.code .normal ts df V)
        | false => some (.code (.exit j) ts df V)
      | r => r
    | .loop body => match self (.code ar body ts df V) with
      | some (.code .normal ts df V) => self (.code ar (.loop body) ts df V)
      | r => r
    | .scope body => match ar with
      | none => self (.code none body ts df V)
      | some _ => none
    | .rangeFunc f ps assign body => match okConst f with
      | true => match ev ts f with
        | .func (.func g) first captured => match callOk P g with
          | true =>
            match (match ar with
              | some l => match find V.objs l with
                | some (.loop r) => some (r.defers, V, df)
                | _ => none
              | none => some (V.next, ⟨V.next + 1, (V.next, .deferred (some [])) :: V.objs⟩, V.next :: df)) with
            | some (D, V1, df1) =>
              match self (.call g ((first.toList ++ [.func (.yield V1.next) #[] #[]]) ++ captured.toList) ⟨V1.next + 1, (V1.next, .loop { state := .ready, pending := none, fn := 0, tmps := ts.toArray, params := ps, assign, body, defers := D }) :: V1.objs⟩) with
              | some (.value _ V2) => match find V2.objs V1.next with
                | some (.loop r) => match r.state with
                  | .busy => none
                  | _ => match r.pending with
                    | none => some (.code .normal ts df1 ⟨V2.next, put V2.objs V1.next (.loop { r with state := .exhausted })⟩)
                    | some c => self (.code ar c ts df1 ⟨V2.next, put V2.objs V1.next (.loop { r with state := .exhausted })⟩)
                | _ => none
              | _ => none
            | none => none
          | false => none
        | _ => none
      | false => none
    | _ => none
  | .call f args V => match P.funcs[f]? with
    | some fn => match fn.body with
      | some c => match self (.code none c (args ++ List.replicate (fn.ntmps - args.length) undef) [] V) with
        | some (.code e ts df V1) => match e with
          | .exit _ => none
          | _ => match takeAll df V1.objs with
            | some l => match runV P (resultsL fn.results.toList ts) ⟨V1.next, l⟩ with
              | some (vs, V2) => some (.value (shut vs) ⟨V2.next, keepR V.next (rootsOf (hasYield args) V.next (shut vs) V2.objs) V2.objs⟩)
              | none => none
            | none => none
        | _ => none
      | none => none
    | none => none

def run (P : Program) : Nat → Job → Option Out
  | 0, _ => none
  | n + 1, j => step P (run P n) j
end Go.Vm
/- The machine of the small memory is sound: an operation with what it calls. -/
namespace Go.Vm
variable {P : Program} {ρ ρ1 ρ2 : Ren} {D D1 : Nat → Prop} {V V1 V2 : View} {w w1 w2 : World}

def fence (ro : Option Nat) : Fence := { Fence.wide with round := ro }

def TRel (ρ : Ren) (D : Nat → Prop) (ts : List Value) (a : Array Value) : Prop := LRel (VRel ρ D) ts a.toList
def DRel (ρ : Ren) (D : Nat → Prop) (df : List Nat) (ds : List Deferred) : Prop := LRel (fun x d => D x ∧ d = { target := .collected (ρ.b x), args := #[] }) df ds

theorem TRel.ext (hag : Agree ρ ρ1 D) (hD : ∀ b, D b → D1 b) {ts : List Value} {a : Array Value} (h : TRel ρ D ts a) : TRel ρ1 D1 ts a := h.mono fun _ _ r => r.ext hag hD
theorem DRel.ext (hag : Agree ρ ρ1 D) (hD : ∀ b, D b → D1 b) {df : List Nat} {ds : List Deferred} (h : DRel ρ D df ds) : DRel ρ1 D1 df ds :=
  h.mono fun x d r => ⟨hD _ r.1, by rw [hag.b _ r.1]; exact r.2⟩

theorem undef_rel : VRel ρ D undef undef := VRel.of_flatN 3 undef rfl
theorem lget_eq : ∀ (ts : List Value) (i : Nat), lget ts i = (ts[i]?).getD undef
  | [], i => by simp [lget]
  | x :: r, 0 => by simp [lget]
  | x :: r, i + 1 => by simp [lget, lget_eq r i]
theorem lset_eq : ∀ (ts : List Value) (i : Nat) (v : Value), lset ts i v = ts.set i v
  | [], i, v => by simp [lset]
  | x :: r, 0, v => by simp [lset]
  | x :: r, i + 1, v => by simp [lset, lset_eq r i v]
theorem lget_rel {ts : List Value} {a : Array Value} (h : TRel ρ D ts a) (i : Nat) : VRel ρ D (lget ts i) (a.getD i undef) := by
  rw [lget_eq, Array.getD_eq_getD_getElem?]
  cases hx : ts[i]? with
  | none =>
    have : a[i]? = none := by
      have := h.length
      rw [List.getElem?_eq_none_iff] at hx
      rw [Array.getElem?_eq_none_iff]; simpa [this] using hx
    rw [this]; exact undef_rel
  | some x =>
    obtain ⟨y, hy, hr⟩ := h.get i x hx
    have : a[i]? = some y := by simpa using hy
    rw [this]; exact hr
theorem LRel.set {R : Value → Value → Prop} {xs ys : List Value} (h : LRel R xs ys) {v v' : Value} (hv : R v v') : ∀ (i : Nat), LRel R (xs.set i v) (ys.set i v') := by
  induction h with
  | nil => intro i; exact .nil
  | cons hx ht ih =>
    intro i
    cases i with
    | zero => exact .cons hv ht
    | succ i => exact .cons hx (ih i)
theorem lput_rel {ts : List Value} {a : Act} (h : TRel ρ D ts a.tmps) (d : Option Tmp) {v v' : Value} (hv : VRel ρ D v v') : TRel ρ D (lput ts d v) (a.put d v').tmps := by
  cases d with
  | none => exact h
  | some d =>
    simp only [lput, Act.put, lset_eq, TRel, Array.toList_setIfInBounds]
    exact LRel.set h hv d
theorem put_defers (a : Act) (d : Option Tmp) (v : Value) : (a.put d v).defers = a.defers := by cases d <;> rfl
theorem ev_rel {ts : List Value} {a : Act} (h : TRel ρ D ts a.tmps) {x : Operand} (hx : okConst x = true) : VRel ρ D (ev ts x) (a.eval x) := by
  cases x with
  | tmp t => exact lget_rel h t
  | const v => exact VRel.of_flatN 3 v hx
  | global g => cases hx
  | func f => exact .func (.same fun l => by simp) rfl (fun i v v' h => by simp at h) rfl (fun i v v' h => by simp at h)
theorem ops_rel {ts : List Value} {a : Act} (h : TRel ρ D ts a.tmps) {o : Oper} (ho : okOps o = true) : ∀ x, x ∈ o.op.operands → VRel ρ D (ev ts x) (a.eval x) :=
  fun x hx => ev_rel h (List.all_eq_true.1 ho x (by simpa using hx))

def exOf : Ex → Exit
  | .normal => .normal
  | .exit id => .exit id
  | .ret => .ret
def CodeOK (P : Program) (ar : Option Nat) (c : Code) (ts : List Value) (df : List Nat) (V : View) (e : Ex) (ts1 : List Value) (df1 : List Nat) (V1 : View) : Prop :=
  ∀ (ρ : Ren) (D : Nat → Prop) (w : World) (a : Act) (n : Nat) (Q : Exit → Act → World → Prop), WRel P ρ D V.get w → TRel ρ D ts a.tmps → DRel ρ D df a.defers → (∀ l, ar = some l → D l) → (∀ b, V.next ≤ b → b < V1.next → ¬ D b) →
    (∀ ρ1 a1 w1, Stepped P ρ D V.get V.next w ρ1 V1.get V1.next w1 → TRel ρ1 (grow D V.next V1.next) ts1 a1.tmps → DRel ρ1 (grow D V.next V1.next) df1 a1.defers → Q (exOf e) a1 w1) →
    c.wpIn (fence (ar.map ρ.b)) n P Q a w
def CallOK (P : Program) (f : FuncId) (args : List Value) (V : View) (v : Value) (V1 : View) : Prop :=
  ∀ (ρ : Ren) (D : Nat → Prop) (w : World) (args' : Array Value) (n : Nat), WRel P ρ D V.get w → LRel (VRel ρ D) args args'.toList → (∀ b, V.next ≤ b → b < V1.next → ¬ D b) →
    CallsIn Fence.wide n P f args' w fun e w' => ∃ ρ1 v', e = .returned v' ∧ Stepped P ρ D V.get V.next w ρ1 V1.get V1.next w' ∧ VRel ρ1 (grow D V.next V1.next) v v'
/-- a loop whose first step is behind it -/
def loopAt (F : Fence) (n : Nat) (P : Program) (c : Code) (Q : Exit → Act → World → Prop) (a : Act) (w : World) : Prop :=
  ∀ (b : Frame) (k : List Item) (cs : List Frame), b.roundOf = F.round → F.fn b.fn → F.room (cs.length + 1 + n) →
    ∃ e a' w', Q e a' w' ∧ ArrivesIn (Machine.fenced P F) P (lone (b.atR a (.code c :: .inLoop c :: k)) cs w) b k cs e a' w'
theorem loop_of_at {F : Fence} {n : Nat} {c : Code} {Q : Exit → Act → World → Prop} {a : Act} {w : World} (h : loopAt F n P c Q a w) : (Code.loop c).wpIn F n P Q a w :=
  fun b k cs hro hb hr => let ⟨e, a', w', q, harr⟩ := h b k cs hro hb hr; ⟨e, a', w', q, .of_steps (.one (fenced_calm hb hr rfl) stepR_loop) harr⟩
theorem at_unfold {F : Fence} {n : Nat} {c : Code} {Q : Exit → Act → World → Prop} {a : Act} {w : World} (h : c.wpIn F n P (Exit.then (loopAt F n P c Q) Q) a w) : loopAt F n P c Q a w := by
  intro b k cs hro hb hr
  obtain ⟨e, a₁, w₁, hq, harr⟩ := h b (.inLoop c :: k) cs hro hb hr
  cases e with
  | normal =>
    obtain ⟨e₂, a₂, w₂, hq₂, harr₂⟩ := hq b k cs hro hb hr
    exact ⟨e₂, a₂, w₂, hq₂, .of_steps (StepsIn.trans harr (.one (fenced_calm hb hr rfl) stepR_inLoop)) harr₂⟩
  | exit id => exact ⟨_, a₁, w₁, hq, .pass (x := .inLoop c) rfl (fun _ _ => .inl (by simp)) harr⟩
  | goto l => exact ⟨_, a₁, w₁, hq, .pass (x := .inLoop c) rfl (fun _ _ => .inl (by simp)) harr⟩
  | ret => exact ⟨_, a₁, w₁, hq, .pass (x := .inLoop c) rfl (fun _ _ => .inl (by simp)) harr⟩
  | panic ch => exact ⟨_, a₁, w₁, hq, .pass (x := .inLoop c) rfl (fun _ _ => .inl (by simp)) harr⟩
  | outgrown => exact ⟨_, a₁, w₁, hq, .pass (x := .inLoop c) rfl (fun _ _ => .inl (by simp)) harr⟩
def LoopOK (P : Program) (ar : Option Nat) (c : Code) (ts : List Value) (df : List Nat) (V : View) (e : Ex) (ts1 : List Value) (df1 : List Nat) (V1 : View) : Prop :=
  ∀ (ρ : Ren) (D : Nat → Prop) (w : World) (a : Act) (n : Nat) (Q : Exit → Act → World → Prop), WRel P ρ D V.get w → TRel ρ D ts a.tmps → DRel ρ D df a.defers → (∀ l, ar = some l → D l) → (∀ b, V.next ≤ b → b < V1.next → ¬ D b) →
    (∀ ρ1 a1 w1, Stepped P ρ D V.get V.next w ρ1 V1.get V1.next w1 → TRel ρ1 (grow D V.next V1.next) ts1 a1.tmps → DRel ρ1 (grow D V.next V1.next) df1 a1.defers → Q (exOf e) a1 w1) →
    loopAt (fence (ar.map ρ.b)) n P c Q a w
structure SelfOK (P : Program) (sf : Job → Option Out) : Prop where
  code : ∀ ar c ts df V e ts1 df1 V1, sf (.code ar c ts df V) = some (.code e ts1 df1 V1) → V.next ≤ V1.next ∧ CodeOK P ar c ts df V e ts1 df1 V1
  loop : ∀ ar c ts df V e ts1 df1 V1, sf (.code ar (.loop c) ts df V) = some (.code e ts1 df1 V1) → LoopOK P ar c ts df V e ts1 df1 V1
  call : ∀ f args V v V1, sf (.call f args V) = some (.value v V1) → V.next ≤ V1.next ∧ CallOK P f args V v V1

theorem loop_set (hw : WRel P ρ D V.get w) {l : Nat} {r : Loop} (hf : find V.objs l = some (.loop r)) : ∃ r', w.heap[ρ.b l]? = some (.loop r') ∧ LoopRel ρ D r r' ∧
    ∀ x x', LoopRel ρ D x x' → Stepped P ρ D V.get V.next w ρ (View.get ⟨V.next, put V.objs l (.loop x)⟩) V.next { w with heap := w.heap.setIfInBounds (ρ.b l) (.loop x') } := by
  obtain ⟨h1, o', h2, h3⟩ := hw.own l _ hf rfl
  cases h3 with
  | @loop _ r' hr =>
    refine ⟨r', h2, hr, fun x x' hx => ?_⟩
    have hlt := (Array.getElem?_eq_some_iff.1 h2).1
    have := Stepped.update (n := V.next) (w1 := { w with heap := w.heap.setIfInBounds (ρ.b l) (.loop x') }) hw hf rfl (.loop hx) rfl (by simp) (by simp [hlt]) (fun k hk => by simp [Ne.symm hk]) rfl rfl rfl
    refine (funext fun k => ?_ : (View.get ⟨V.next, put V.objs l (.loop x)⟩) = _) ▸ this
    show find (put V.objs l _) k = _
    rw [find_put, hf]
    rfl

theorem begin_run {l : Nat} {r : Loop} (h : w.heap[l]? = some (.loop r)) (hr : r.state = .ready) : (Instr.beginRound l).run P w = .ok () { w with heap := w.heap.setIfInBounds l (.loop { r with state := .busy }) } := by
  unfold Instr.beginRound Instr.getLoop
  simp [Sem.run_bind, Go.getObj, Go.setObj, Sem.run, h, Result.andThen, hr]
theorem end_run {l : Nat} {r : Loop} (h : w.heap[l]? = some (.loop r)) (j : Option Code) : (Instr.endRound l j).run P w = .ok (.bool j.isNone) { w with heap := w.heap.setIfInBounds l (.loop { r with state := if j.isNone then .ready else .done, pending := j }) } := by
  unfold Instr.endRound Instr.getLoop
  simp [Sem.run_bind, Go.getObj, Go.setObj, Sem.run, h, Result.andThen]
theorem endLoop_run {l : Nat} {r : Loop} (h : w.heap[l]? = some (.loop r)) (hr : r.state ≠ .busy) : (Instr.endLoop l).run P w = .ok r.pending { w with heap := w.heap.setIfInBounds l (.loop { r with state := .exhausted }) } := by
  unfold Instr.endLoop Instr.getLoop
  have : (r.state == .busy) = false := by cases h : r.state <;> simp_all
  simp [Sem.run_bind, Go.getObj, Go.setObj, Sem.run, h, Result.andThen, hr]

theorem val_next {s : Sem Value} {r : Next} (h : val (runV P s V) = some (r, V1)) : V.next ≤ V1.next := by
  unfold val at h
  split at h
  · rename_i v V2 hv; cases h; exact runV_next _ _ _ _ hv
  · cases h
theorem valc_next {s : Sem Value} {r : Next} (h : valc (runV P s V) = some (r, V1)) : V.next ≤ V1.next := by
  unfold valc at h
  split at h
  · rename_i hv; split at h
    · cases h; exact runV_next _ _ _ _ hv
    · cases h
  · rename_i hv; cases h; exact runV_next _ _ _ _ hv
  · cases h
theorem pureV_next {s : Sem Value} {r : Next} (h : pureV P s V = some (r, V1)) : V.next ≤ V1.next := by
  unfold pureV at h
  split at h
  · split at h
    · cases h; exact Nat.le_refl _
    · cases h
  · cases h
theorem appendV_next {ts : Array TypeId} {s x v : Value} (h : appendV P ts s x V = some (v, V1)) : V.next ≤ V1.next := by
  unfold appendV at h
  repeat' split at h
  all_goals first
    | (cases h; done)
    | (cases h; exact Nat.le_refl _)
    | (cases h; exact Nat.le_succ _)
    | (cases h; rename_i hst; exact runV_next _ _ _ _ hst)
theorem setMap_next {r c : Nat} {es : List MapEntry} : (setMap V r es c).next = V.next := rfl
theorem mapEntryV_next {t : TypeId} {m k v : Value} (h : mapEntryV P t m k V = some (v, V1)) : V.next ≤ V1.next := by
  unfold mapEntryV at h
  repeat' split at h
  all_goals first
    | (cases h; done)
    | (cases h; exact Nat.le_refl _)
theorem entryStoreV_next {m s x : Value} (h : entryStoreV m s x V = some V1) : V.next ≤ V1.next := by
  unfold entryStoreV at h
  repeat' split at h
  all_goals first
    | (cases h; done)
    | (cases h; exact Nat.le_refl _)
theorem mapUpdateV_next {t : TypeId} {m k x : Value} (h : mapUpdateV P t m k x V = some V1) : V.next ≤ V1.next := by
  unfold mapUpdateV at h
  repeat' split at h
  all_goals first
    | (cases h; done)
    | (cases h; exact Nat.le_refl _)
theorem deleteV_next {t : TypeId} {m k : Value} (h : deleteV P t m k V = some V1) : V.next ≤ V1.next := by
  unfold deleteV at h
  repeat' split at h
  all_goals first
    | (cases h; done)
    | (cases h; exact Nat.le_refl _)
theorem runCall_next {e : Operand → Value} {c : Call} {t : TypeId} {r : Next} (h : runCall P e c t V = some (r, V1)) : V.next ≤ V1.next := by
  unfold runCall at h
  dsimp only at h
  repeat' split at h
  all_goals first
    | (cases h; done)
    | (cases h; exact Nat.le_refl _)
    | exact val_next h
    | exact pureV_next h
    | exact runV_next _ _ _ _ h
    | (unfold val at h; split at h
       · rename_i hv; cases h; exact appendV_next hv
       · cases h)
    | (rename_i hdel; cases h; exact deleteV_next hdel)
    | (rename_i hcl; cases h; unfold clearMapV at hcl; repeat' split at hcl
       all_goals first | (cases hcl; done) | (cases hcl; exact Nat.le_refl _))
theorem runOp_next {e : Operand → Value} {o : Oper} {r : Next} (h : runOp P e o V = some (r, V1)) : V.next ≤ V1.next := by
  unfold runOp at h
  repeat' split at h
  all_goals first
    | (cases h; done)
    | (cases h; exact Nat.le_refl _)
    | exact val_next h
    | exact valc_next h
    | exact pureV_next h
    | exact runCall_next h
    | (rename_i hp; cases h; exact pureV_next hp)
    | (rename_i hb; cases h; exact bytesV_next hb)
    | (cases h; rename_i hst; exact runV_next _ _ _ _ hst)
    | (unfold val at h; split at h
       · rename_i hv; cases h; exact mapEntryV_next hv
       · cases h)
    | (rename_i hst; cases h; exact entryStoreV_next hst)
    | (rename_i hst; cases h; exact mapUpdateV_next hst)
theorem after_next {sf : Job → Option Out} (hs : SelfOK P sf) {r : Next} {v : Value} (h : after sf (some (r, V1)) = some (v, V2)) : V1.next ≤ V2.next := by
  unfold after at h
  split at h
  · rename_i hq; cases hq; cases h; exact Nat.le_refl _
  · rename_i hq; cases hq; cases h; exact Nat.le_refl _
  · rename_i hq; cases hq
    split at h
    · rename_i hc; cases h; exact (hs.call _ _ _ _ _ hc).1
    · cases h
  · rename_i hq; cases hq
    split at h
    · rename_i ts1 Va ha
      split at h
      · split at h
        · split at h
          · rename_i Vb hb
            have h1 := (hs.code _ _ _ _ _ _ _ _ _ ha).1
            have h2 := (hs.code _ _ _ _ _ _ _ _ _ hb).1
            split at h
            · split at h <;> (cases h; exact Nat.le_trans h1 h2)
            · cases h
          · cases h
        · cases h
      · cases h
    · cases h
  · cases h

theorem callsIn_fence {ro : Option Nat} {n : Nat} {f : FuncId} {args : Array Value} {R : Ending → World → Prop} (h : CallsIn Fence.wide n P f args w R) : CallsIn (fence ro) n P f args w R := h
theorem op_wp (hP : Good P) {sf : Job → Option Out} (hs : SelfOK P sf) {o : Oper} {e : Operand → Value} {a : Act} {v : Value} {ro : Option Nat} {n : Nat} {next : Act → World → Prop} {Q : Exit → Act → World → Prop}
    (hr : after sf (runOp P e o V) = some (v, V2)) (hops : ∀ x, x ∈ o.op.operands → VRel ρ D (e x) (a.eval x)) (hw : WRel P ρ D V.get w) (hd : ∀ b, V.next ≤ b → b < V2.next → ¬ D b)
    (hk : ∀ ρ2 v' w2, Stepped P ρ D V.get V.next w ρ2 V2.get V2.next w2 → VRel ρ2 (grow D V.next V2.next) v v' → next (a.put o.dst v') w2) :
    o.wpIn (fence ro) n P a w next Q := by
  cases h1 : runOp P e o V with
  | none => rw [h1] at hr; cases hr
  | some p =>
    obtain ⟨nx, V1⟩ := p
    rw [h1] at hr
    have n1 := runOp_next h1
    have n2 := after_next hs hr
    obtain ⟨ρ1, r', w1, e1, st1, hn⟩ := runOp_sound hP hops h1 hw (fun b hb hb' => hd b hb (by omega))
    have hd2 : ∀ b, V1.next ≤ b → b < V2.next → ¬ grow D V.next V1.next b := fun b hb hb' hD => by
      rcases hD with hD | hD
      · exact hd b (by omega) hb' hD
      · omega
    have hnd : ∀ c, o.op ≠ .defer c := by
      intro c hc
      unfold runOp at h1
      rw [hc] at h1
      cases h1
    unfold Oper.wpIn
    refine ⟨fun f _ => trivial, ?_⟩
    rw [Oper.semAt_eq _ _ _ hnd, e1]
    have hk' : ∀ ρ2 v' w2, Stepped P ρ1 (grow D V.next V1.next) V1.get V1.next w1 ρ2 V2.get V2.next w2 → VRel ρ2 (grow (grow D V.next V1.next) V1.next V2.next) v v' → next (a.put o.dst v') w2 :=
      fun ρ2 v' w2 st hv => hk ρ2 v' w2 (st1.trans st hw) (by rwa [grow_grow n1 n2] at hv)
    unfold after at hr
    split at hr
    · rename_i hq; cases hq; cases hr
      cases hn with
      | value hv =>
        exact hk' ρ1 _ w1 (.refl st1.rel) (by rw [grow_nil]; exact hv)
    · rename_i hq; cases hq; cases hr
      cases hn
      exact hk' ρ1 _ w1 (.refl st1.rel) undef_rel
    · rename_i hq; cases hq
      cases hn with
      | enter hargs =>
        rename_i f xs ys
        split at hr
        · rename_i hc
          cases hr
          refine ⟨fun h => (by cases h), callsIn_fence (((hs.call _ _ _ _ _ hc).2 ρ1 _ w1 ys _ st1.rel hargs.list hd2).mono ?_)⟩
          rintro ed w2 ⟨ρ2, v', rfl, st2, hv⟩
          exact hk' ρ2 v' w2 st2 hv
        · cases hr
    · rename_i hq; cases hq
      cases hn with
      | round hl hts =>
        rename_i l fn ts ca cb fn' ys
        split at hr
        case h_2 => cases hr
        rename_i ts1 Va ha
        split at hr
        case h_2 => cases hr
        rename_i r hfr
        split at hr
        case h_2 => cases hr
        rename_i hready
        split at hr
        case h_2 => cases hr
        rename_i ex ts2 df2 Vb hb
        split at hr
        case h_2 => cases hr
        rename_i r2 hfr2
        obtain ⟨na, oka⟩ := hs.code _ _ _ _ _ _ _ _ _ ha
        obtain ⟨nb, okb⟩ := hs.code _ _ _ _ _ _ _ _ _ hb
        have nb : Va.next ≤ Vb.next := nb
        have hV2 : V2.next = Vb.next := by split at hr <;> (cases hr; rfl)
        refine ⟨fun h => (by cases h), ?_⟩
        refine roundIn_of_wpIn trivial ?_
        refine oka ρ1 _ w1 { tmps := ys, defers := [] } _ _ st1.rel hts.list .nil (fun l' hl' => by cases hl'; exact hl) (fun b hb hb' => hd2 b hb (by omega)) ?_
        intro ρa aa wa sta htsa hdfa
        have hag := sta.agree (fun b hb hb' => hd2 b hb (by omega))
        have hla : ρa.b l = ρ1.b l := hag.b _ hl
        obtain ⟨r', hheap, hlr, hset⟩ := loop_set sta.rel hfr
        refine ⟨_, begin_run (by rw [← hla]; exact hheap) (by rw [← hlr.state]; exact hready), ?_⟩
        have stb := hset { r with state := .busy } { r' with state := .busy } ⟨rfl, hlr.pending, hlr.tmps, hlr.params, hlr.assign, hlr.body, hlr.defers⟩
        have hlD : grow (grow D V.next V1.next) V1.next Va.next l := .inl hl
        rw [← hla]
        refine okb ρa _ _ aa _ _ (by have := stb.rel; rwa [grow_nil] at this) htsa hdfa (fun l' hl' => by cases hl'; exact hlD) ?_ ?_
        · intro b hb hb' hD
          rcases hD with hD | hD
          · exact hd2 b (by have : Va.next ≤ b := hb; omega) (by omega) hD
          · have : Va.next ≤ b := hb; omega
        · intro ρb ab wb stbb htsb hdfb
          have hd3 : ∀ b, Va.next ≤ b → b < Vb.next → ¬ grow (grow D V.next V1.next) V1.next Va.next b := by
            intro b hb hb' hD
            rcases hD with hD | hD
            · exact hd2 b (by omega) (by omega) hD
            · omega
          have hlb : ρb.b l = ρa.b l := (stbb.agree (fun b hb hb' => hd3 b hb hb')).b _ hlD
          have stab := (sta.trans stb st1.rel).trans stbb st1.rel
          obtain ⟨r2', hheap2, hlr2, hset2⟩ := loop_set stab.rel hfr2
          rw [← hlb]
          cases ex with
          | normal =>
            cases hr
            have := hset2 { r2 with state := .ready, pending := none } { r2' with state := .ready, pending := none } ⟨rfl, rfl, hlr2.tmps, hlr2.params, hlr2.assign, hlr2.body, hlr2.defers⟩
            exact ⟨_, _, end_run hheap2 none, hk' ρb _ _ (stab.trans this st1.rel) (.flat rfl)⟩
          | ret =>
            cases hr
            have := hset2 { r2 with state := .done, pending := some .ret } { r2' with state := .done, pending := some .ret } ⟨rfl, rfl, hlr2.tmps, hlr2.params, hlr2.assign, hlr2.body, hlr2.defers⟩
            exact ⟨_, _, end_run hheap2 (some .ret), hk' ρb _ _ (stab.trans this st1.rel) (.flat rfl)⟩
          | exit id =>
            cases hr
            have := hset2 { r2 with state := .done, pending := some (.exit id) } { r2' with state := .done, pending := some (.exit id) } ⟨rfl, rfl, hlr2.tmps, hlr2.params, hlr2.assign, hlr2.body, hlr2.defers⟩
            exact ⟨_, _, end_run hheap2 (some (.exit id)), hk' ρb _ _ (stab.trans this st1.rel) (.flat rfl)⟩
    · cases hr
end Go.Vm
/- The machine of the small memory is sound: regions in the order of the text. -/
namespace Go.Vm
variable {P : Program} {ρ ρ1 ρ2 : Ren} {D D1 : Nat → Prop} {V V1 V2 : View} {w w1 w2 : World}

theorem wanted_rel {ops : Array Oper} {ts : List Value} {a : Act} (h : TRel ρ D ts a.tmps) {o : Oper} {b : Bool} (hw : wantedL ops ts o = some b) : Region.wanted o (yielded ops a.tmps) = b := by
  unfold wantedL at hw
  unfold Region.wanted
  split at hw
  · rename_i hg; rw [hg]; cases hw; rfl
  · rename_i j want hg
    rw [hg]
    dsimp only
    split at hw
    · rename_i d hd
      split at hw
      · rename_i c hc
        cases hw
        have hr := lget_rel h d
        rw [hc] at hr
        have e := hr.flatEq rfl
        have : a.tmps[d]? = some (.bool c) := by
          rw [Array.getD_eq_getD_getElem?] at e
          cases hq : a.tmps[d]? with
          | none => rw [hq] at e; simp [undef] at e
          | some y => rw [hq] at e; simpa using e
        unfold yielded
        rw [hd]
        simp [this]
      · rename_i hc
        cases hw
        have hr := lget_rel h d
        rw [hc] at hr
        have e := hr.flatN_eq 3 rfl
        have e2 : yielded ops a.tmps j = none := by
          unfold yielded
          rw [hd, Option.bind_some]
          rw [Array.getD_eq_getD_getElem?] at e
          cases hq : a.tmps[d]? with
          | none => rfl
          | some y => rw [hq] at e; simp at e; rw [e]
        rw [e2]; rfl
      · cases hw
    · cases hw

theorem runOps_sound (hP : Good P) {sf : Job → Option Out} (hs : SelfOK P sf) (ops : Array Oper) : ∀ (l : List Oper) (ts : List Value) (V : View) (ts1 : List Value) (V1 : View), runOps P sf ops l ts V = some (ts1, V1) →
    V.next ≤ V1.next ∧ ∀ (ρ : Ren) (D : Nat → Prop) (w : World) (a : Act) (n : Nat) (Q : Exit → Act → World → Prop) (ro : Option Nat) (start : Nat) (df : List Nat), (∀ k o, l[k]? = some o → ops[start + k]? = some o) → WRel P ρ D V.get w → TRel ρ D ts a.tmps → DRel ρ D df a.defers →
      (∀ b, V.next ≤ b → b < V1.next → ¬ D b) →
      (∀ ρ1 a1 w1, Stepped P ρ D V.get V.next w ρ1 V1.get V1.next w1 → TRel ρ1 (grow D V.next V1.next) ts1 a1.tmps → DRel ρ1 (grow D V.next V1.next) df a1.defers → Q .normal a1 w1) →
      wpOpsIn (fence ro) n P ops Q (List.range' start l.length) a w := by
  intro l
  induction l with
  | nil =>
    intro ts V ts1 V1 hr
    simp only [runOps] at hr
    cases hr
    refine ⟨Nat.le_refl _, fun ρ D w a n Q ro start df _ hw ht hdf _ hk => ?_⟩
    exact hk ρ a w (.refl hw) (by rw [grow_nil]; exact ht) (by rw [grow_nil]; exact hdf)
  | cons o rest ih =>
    intro ts V ts1 V1 hr
    simp only [runOps] at hr
    split at hr
    case h_2 => cases hr
    rename_i hok
    split at hr
    · rename_i hwant
      split at hr
      · rename_i v V2 hop
        obtain ⟨n2, ih⟩ := ih _ _ _ _ hr
        have n1 : V.next ≤ V2.next := by
          cases h1 : runOp P (ev ts) o V with
          | none => rw [h1] at hop; cases hop
          | some p => rw [h1] at hop; exact Nat.le_trans (runOp_next h1) (after_next hs hop)
        refine ⟨Nat.le_trans n1 n2, fun ρ D w a n Q ro start df hl hw ht hdf hd hk => ?_⟩
        rw [List.length_cons, List.range'_succ, wpOpsIn_cons]
        have ho : ops[start]? = some o := by simpa using hl 0 o rfl
        unfold wpOpIn
        rw [ho]
        simp only [wanted_rel ht hwant, if_true]
        refine op_wp hP hs hop (ops_rel ht hok) hw (fun b hb hb' => hd b hb (by omega)) ?_
        intro ρ2 v' w2 st hv
        have hag := st.agree (fun b hb hb' => hd b hb (by omega))
        refine ih ρ2 _ w2 _ n Q ro (start + 1) df (fun k o' hk' => by rw [show start + 1 + k = start + (k + 1) by omega]; exact hl (k + 1) o' (by simpa using hk')) st.rel (lput_rel (ht.ext hag fun _ h => .inl h) _ hv) (by rw [put_defers]; exact hdf.ext hag fun _ h => .inl h) ?_ ?_
        · intro b hb hb' hD
          rcases hD with hD | hD
          · exact hd b (by omega) hb' hD
          · omega
        · intro ρ3 a3 w3 st3 ht3 hdf3
          rw [grow_grow n1 n2] at ht3 hdf3
          exact hk ρ3 a3 w3 (st.trans st3 hw) ht3 hdf3
      · cases hr
    · rename_i hwant
      obtain ⟨n2, ih⟩ := ih _ _ _ _ hr
      refine ⟨n2, fun ρ D w a n Q ro start df hl hw ht hdf hd hk => ?_⟩
      rw [List.length_cons, List.range'_succ, wpOpsIn_cons]
      have ho : ops[start]? = some o := by simpa using hl 0 o rfl
      unfold wpOpIn
      rw [ho]
      simp only [wanted_rel ht hwant, Bool.false_eq_true, if_false]
      refine ⟨fun f _ => trivial, ?_⟩
      exact ih ρ D w _ n Q ro (start + 1) df (fun k o' hk' => by rw [show start + 1 + k = start + (k + 1) by omega]; exact hl (k + 1) o' (by simpa using hk')) hw (lput_rel ht _ undef_rel) (by rw [put_defers]; exact hdf) hd hk
    · cases hr

/-- what a region that draws its order must be -/
def DrawOK (P : Program) (sf : Job → Option Out) : Prop :=
  ∀ (ops : Array Oper) (ts : List Value) (V : View) (ts1 : List Value) (V1 : View), (drawOk ops && inb V.next V.objs) = true → drawGo P sf ops (Region.before ops) ops.toList [] ts V = some (ts1, V1) →
    V.next ≤ V1.next ∧ ∀ (ρ : Ren) (D : Nat → Prop) (w : World) (a : Act) (n : Nat) (Q : Exit → Act → World → Prop) (ro : Option Nat) (df : List Nat), WRel P ρ D V.get w → TRel ρ D ts a.tmps → DRel ρ D df a.defers →
      (∀ b, V.next ≤ b → b < V1.next → ¬ D b) →
      (∀ ρ1 a1 w1, Stepped P ρ D V.get V.next w ρ1 V1.get V1.next w1 → TRel ρ1 (grow D V.next V1.next) ts1 a1.tmps → DRel ρ1 (grow D V.next V1.next) df a1.defers → Q .normal a1 w1) →
      wpAnyIn (fence ro) n P .any ops Q ops.size (Array.replicate ops.size false) a w.drew

theorem seq_disj {n m k : Nat} (h1 : n ≤ m) (h2 : m ≤ k) (hd : ∀ b, n ≤ b → b < k → ¬ D b) : (∀ b, n ≤ b → b < m → ¬ D b) ∧ (∀ b, m ≤ b → b < k → ¬ grow D n m b) :=
  ⟨fun b hb hb' => hd b hb (by omega), fun b hb hb' hD => by
    rcases hD with hD | hD
    · exact hd b (by omega) hb' hD
    · omega⟩
theorem ar_grow {ar : Option Nat} (h : ∀ l, ar = some l → D l) (n m : Nat) : ∀ l, ar = some l → grow D n m l := fun l hl => .inl (h l hl)
theorem ar_same {ar : Option Nat} (h : ∀ l, ar = some l → D l) (hag : Agree ρ ρ1 D) : ar.map ρ1.b = ar.map ρ.b := by
  cases ar with
  | none => rfl
  | some l => simp [hag.b _ (h l rfl)]

theorem seq_ok {ar : Option Nat} {x y : Code} {ts ts1 ts2 : List Value} {df df1 df2 : List Nat} {e : Ex} (n1 : V.next ≤ V1.next) (h1 : CodeOK P ar x ts df V .normal ts1 df1 V1) (n2 : V1.next ≤ V2.next) (h2 : CodeOK P ar y ts1 df1 V1 e ts2 df2 V2) :
    CodeOK P ar (.seq x y) ts df V e ts2 df2 V2 := by
  intro ρ D w a n Q hw ht hdf har hd hk
  obtain ⟨d1, d2⟩ := seq_disj n1 n2 hd
  refine wpIn_seq (h1 ρ D w a n _ hw ht hdf har d1 ?_)
  intro ρ1 a1 w1 st1 ht1 hdf1
  have hag := st1.agree d1
  show y.wpIn (fence (ar.map ρ.b)) n P Q a1 w1
  rw [← ar_same har hag]
  refine h2 ρ1 _ w1 a1 n Q st1.rel ht1 hdf1 (ar_grow har _ _) d2 ?_
  intro ρ2 a2 w2 st2 ht2 hdf2
  rw [grow_grow n1 n2] at ht2 hdf2
  exact hk ρ2 a2 w2 (st1.trans st2 hw) ht2 hdf2
end Go.Vm
/- The machine of the small memory is sound: code and calls. -/
namespace Go.Vm
variable {P : Program} {ρ ρ1 ρ2 : Ren} {D D1 : Nat → Prop} {V V1 V2 : View} {w w1 w2 : World}

theorem exit_then {K : Act → World → Prop} {Q : Exit → Act → World → Prop} {e : Ex} (he : e ≠ .normal) {a : Act} {w : World} (h : Q (exOf e) a w) : Exit.then K Q (exOf e) a w := by
  cases e <;> first | exact absurd rfl he | exact h

theorem loop_ok {sf : Job → Option Out} (hs : SelfOK P sf) {ar : Option Nat} {c : Code} {ts ts1 : List Value} {df df1 : List Nat} {e : Ex}
    (h : (match sf (.code ar c ts df V) with
      | some (.code .normal ts df V) => sf (.code ar (.loop c) ts df V)
      | r => r) = some (.code e ts1 df1 V1)) : V.next ≤ V1.next ∧ LoopOK P ar c ts df V e ts1 df1 V1 := by
  split at h
  · rename_i ts2 df2 V2 hb
    obtain ⟨n1, h1⟩ := hs.code _ _ _ _ _ _ _ _ _ hb
    have n2 := (hs.code _ _ _ _ _ _ _ _ _ h).1
    have h2 := hs.loop _ _ _ _ _ _ _ _ _ h
    refine ⟨Nat.le_trans n1 n2, fun ρ D w a n Q hw ht hdf har hd hk => ?_⟩
    obtain ⟨d1, d2⟩ := seq_disj n1 n2 hd
    refine at_unfold (h1 ρ D w a n _ hw ht hdf har d1 ?_)
    intro ρ1 a1 w1 st1 ht1 hdf1
    have hag := st1.agree d1
    show loopAt (fence (ar.map ρ.b)) n P c Q a1 w1
    rw [← ar_same har hag]
    refine h2 ρ1 _ w1 a1 n Q st1.rel ht1 hdf1 (ar_grow har _ _) d2 ?_
    intro ρ2 a2 w2 st2 ht2 hdf2
    rw [grow_grow n1 n2] at ht2 hdf2
    exact hk ρ2 a2 w2 (st1.trans st2 hw) ht2 hdf2
  · rename_i hne
    have he : e ≠ .normal := by rintro rfl; exact hne _ _ _ h
    obtain ⟨n1, h1⟩ := hs.code _ _ _ _ _ _ _ _ _ h
    refine ⟨n1, fun ρ D w a n Q hw ht hdf har hd hk => ?_⟩
    refine at_unfold (h1 ρ D w a n _ hw ht hdf har hd ?_)
    intro ρ1 a1 w1 st1 ht1 hdf1
    exact exit_then he (hk ρ1 a1 w1 st1 ht1 hdf1)

theorem step_loop {sf : Job → Option Out} (hs : SelfOK P sf) {ar : Option Nat} {c : Code} {ts ts1 : List Value} {df df1 : List Nat} {e : Ex} (h : step P sf (.code ar (.loop c) ts df V) = some (.code e ts1 df1 V1)) :
    V.next ≤ V1.next ∧ LoopOK P ar c ts df V e ts1 df1 V1 := by
  simp only [step] at h
  exact loop_ok hs h

theorem LRel.append {α β : Type} {R : α → β → Prop} {xs xs' : List α} {ys ys' : List β} (h : LRel R xs ys) (h' : LRel R xs' ys') : LRel R (xs ++ xs') (ys ++ ys') := by
  induction h with
  | nil => exact h'
  | cons a _ ih => exact .cons a ih
theorem arr_of_list {ts : List Value} {a : Array Value} (h : TRel ρ D ts a) : ARel ρ D ts.toArray a := by
  have := LRel.arr h
  simpa using this

theorem get_cons' (V : View) (m : Nat) {n : Nat} {o : Obj} : View.get ⟨m, (n, o) :: V.objs⟩ = fun k => if k = n then some o else V.get k := get_cons n m o V.objs
/-- what is laid when a range over a function begins -/
def laid (V1 : View) (ps : Array Tmp) (assign body : Code) (ts : List Value) (D0 : Nat) : View :=
  ⟨V1.next + 1, (V1.next, .loop { state := .ready, pending := none, fn := 0, tmps := ts.toArray, params := ps, assign, body, defers := D0 }) :: V1.objs⟩
theorem enter_ok {ar : Option Nat} {ts : List Value} {df df1 : List Nat} {a : Act} {ps : Array Tmp} {assign body : Code} {D0 : Nat} (fn : FuncId)
    (h : (match ar with
      | some l => match find V.objs l with
        | some (.loop r) => some (r.defers, V, df)
        | _ => none
      | none => some (V.next, ⟨V.next + 1, (V.next, .deferred (some [])) :: V.objs⟩, V.next :: df)) = some (D0, V1, df1))
    (hw : WRel P ρ D V.get w) (ht : TRel ρ D ts a.tmps) (hdf : DRel ρ D df a.defers) (har : ∀ l, ar = some l → D l) (hd : ∀ b, V.next ≤ b → b < V1.next + 1 → ¬ D b) :
    V.next ≤ V1.next ∧ ∃ ρ1 mark w1, (Instr.enterLoop fn a.tmps ps assign body (ar.map ρ.b)).run P w = .ok (ρ1.b V1.next, mark) w1 ∧
      Stepped P ρ D V.get V.next w ρ1 (laid V1 ps assign body ts D0).get (V1.next + 1) w1 ∧ DRel ρ1 (grow D V.next (V1.next + 1)) df1 (mark ++ a.defers) := by
  cases ar with
  | none =>
    cases h
    refine ⟨Nat.le_succ _, ?_⟩
    have hn0 : ¬ D V.next := hd _ (Nat.le_refl _) (by simp <;> omega)
    have hag0 : Agree ρ (ρ.put V.next w.heap.size 0 0) D := agree_put hn0
    have st0 := Stepped.alloc (n := V.next) (o := .deferred (some [])) (o' := .deferred (some [])) (sz := 0) (es := 0) hw hn0 .deferred rfl (fun _ _ _ h => by cases h)
    rw [← get_cons' V (V.next + 1)] at st0
    have hn1 : ¬ grow D V.next (V.next + 1) (V.next + 1) := by
      rintro (h | h)
      · exact hd _ (by simp) (by simp) h
      · omega
    have hag1 : ∀ z, Agree (ρ.put V.next w.heap.size 0 0) ((ρ.put V.next w.heap.size 0 0).put (V.next + 1) z 0 0) (grow D V.next (V.next + 1)) := fun z => agree_put hn1
    have st1 := Stepped.alloc (n := V.next + 1) (o := .loop { state := .ready, pending := none, fn := 0, tmps := ts.toArray, params := ps, assign, body, defers := V.next })
      (o' := .loop { state := .ready, pending := none, fn, tmps := a.tmps, params := ps, assign, body, defers := w.heap.size }) (sz := 0) (es := 0) st0.rel hn1
      (by
        simp only [Array.size_push]
        refine .loop ⟨rfl, rfl, (arr_of_list ht).ext (hag0.trans' (hag1 _)) (fun k hk => .inl (.inl hk)), rfl, rfl, rfl, .inl (.inr (by simp)), ?_⟩
        simp [Ren.put]) rfl (fun _ _ _ h => by cases h)
    rw [← get_cons' ⟨V.next + 1, (V.next, .deferred (some [])) :: V.objs⟩ (V.next + 1 + 1)] at st1
    refine ⟨_, [{ target := .collected w.heap.size, args := #[] }], _, ?_, st0.trans st1 hw, ?_⟩
    · simp [Instr.enterLoop, Sem.run_bind, Go.newObj, Sem.run, Result.andThen, Ren.put]
      exact ⟨rfl, rfl, rfl⟩
    · refine LRel.cons ⟨.inr (by simp <;> omega), by simp [Ren.put]⟩ ?_
      exact DRel.ext (D1 := grow D V.next (V.next + 1 + 1)) (hag0.trans' (hag1 _)) (fun k hk => .inl hk) hdf
  | some l =>
    dsimp only at h
    split at h
    · rename_i r hf
      cases h
      refine ⟨Nat.le_refl _, ?_⟩
      have hn0 : ¬ D V.next := hd _ (Nat.le_refl _) (by simp)
      obtain ⟨r', hheap, hlr, -⟩ := loop_set hw hf
      have hag0 : Agree ρ (ρ.put V.next w.heap.size 0 0) D := agree_put hn0
      have st1 := Stepped.alloc (n := V.next) (o := .loop { state := .ready, pending := none, fn := 0, tmps := ts.toArray, params := ps, assign, body, defers := r.defers })
        (o' := .loop { state := .ready, pending := none, fn, tmps := a.tmps, params := ps, assign, body, defers := r'.defers }) (sz := 0) (es := 0) hw hn0
        (.loop ⟨rfl, rfl, (arr_of_list ht).ext hag0 (fun k hk => .inl hk), rfl, rfl, rfl, .inl hlr.defers.1, by rw [hag0.b _ hlr.defers.1]; exact hlr.defers.2⟩) rfl (fun _ _ _ h => by cases h)
      rw [← get_cons' V (V.next + 1)] at st1
      refine ⟨_, [], _, ?_, st1, ?_⟩
      · simp [Instr.enterLoop, Instr.getLoop, Sem.run_bind, Go.newObj, Go.getObj, Sem.run, Result.andThen, hheap, Ren.put]
      · exact hdf.ext hag0 (fun k hk => .inl hk)
    · cases h

theorem step_code (hP : Good P) {sf : Job → Option Out} (hs : SelfOK P sf) (hdr : DrawOK P sf) {ar : Option Nat} {c : Code} {ts ts1 : List Value} {df df1 : List Nat} {e : Ex} (h : step P sf (.code ar c ts df V) = some (.code e ts1 df1 V1)) :
    V.next ≤ V1.next ∧ CodeOK P ar c ts df V e ts1 df1 V1 := by
  have stay : ∀ {c : Code} {e : Ex}, (∀ (F : Fence) (n : Nat) (Q : Exit → Act → World → Prop) (a : Act) (w : World), Q (exOf e) a w → c.wpIn F n P Q a w) → V.next ≤ V.next ∧ CodeOK P ar c ts df V e ts df V := by
    intro c e hc
    refine ⟨Nat.le_refl _, fun ρ D w a n Q hw ht hdf har hd hk => hc _ _ _ _ _ (hk ρ a w (.refl hw) (by rw [grow_nil]; exact ht) (by rw [grow_nil]; exact hdf))⟩
  cases c with
  | skip => simp only [step] at h; cases h; exact stay fun _ _ _ _ _ h => wpIn_skip h
  | label l => simp only [step] at h; cases h; exact stay fun _ _ _ _ _ h => wpIn_label h
  | exit id => simp only [step] at h; cases h; exact stay fun _ _ _ _ _ h => wpIn_exit h
  | ret => simp only [step] at h; cases h; exact stay fun _ _ _ _ _ h => wpIn_ret h
  | region id ops draw =>
    simp only [step] at h
    cases draw with
    | false =>
      dsimp only at h
      split at h
      · rename_i ts2 V2 hr
        cases h
        obtain ⟨n1, hsd⟩ := runOps_sound hP hs ops _ _ _ _ _ hr
        refine ⟨n1, fun ρ D w a n Q hw ht hdf har hd hk => ?_⟩
        refine wpIn_region ?_
        have := hsd ρ D w a n Q (ar.map ρ.b) 0 df (fun k o hk => by simpa using hk) hw ht hdf hd hk
        simpa [List.range_eq_range'] using this
      · cases h
    | true =>
      dsimp only at h
      split at h
      · rename_i hok
        split at h
        · rename_i ts2 V2 hr
          cases h
          obtain ⟨n1, hsd⟩ := hdr ops _ _ _ _ hok hr
          refine ⟨n1, fun ρ D w a n Q hw ht hdf har hd hk => ?_⟩
          exact wpIn_region_any hP.mixed (hsd ρ D w a n Q (ar.map ρ.b) df hw ht hdf hd hk)
        · cases h
      · cases h
  | seq x y =>
    simp only [step] at h
    split at h
    · rename_i ts2 df2 V2 hb
      obtain ⟨n1, h1⟩ := hs.code _ _ _ _ _ _ _ _ _ hb
      obtain ⟨n2, h2⟩ := hs.code _ _ _ _ _ _ _ _ _ h
      exact ⟨Nat.le_trans n1 n2, seq_ok n1 h1 n2 h2⟩
    · rename_i hne
      have he : e ≠ .normal := by rintro rfl; exact hne _ _ _ h
      obtain ⟨n1, h1⟩ := hs.code _ _ _ _ _ _ _ _ _ h
      refine ⟨n1, fun ρ D w a n Q hw ht hdf har hd hk => wpIn_seq (h1 ρ D w a n _ hw ht hdf har hd ?_)⟩
      intro ρ1 a1 w1 st1 ht1 hdf1
      exact exit_then he (hk ρ1 a1 w1 st1 ht1 hdf1)
  | cond c x y =>
    simp only [step] at h
    split at h
    · rename_i hc
      split at h
      · rename_i hv
        obtain ⟨n1, h1⟩ := hs.code _ _ _ _ _ _ _ _ _ h
        refine ⟨n1, fun ρ D w a n Q hw ht hdf har hd hk => wpIn_cond_true ?_ (h1 ρ D w a n _ hw ht hdf har hd hk)⟩
        have := ev_rel ht hc; rw [hv] at this; exact this.flatEq rfl
      · rename_i hv
        obtain ⟨n1, h1⟩ := hs.code _ _ _ _ _ _ _ _ _ h
        refine ⟨n1, fun ρ D w a n Q hw ht hdf har hd hk => wpIn_cond_false ?_ (h1 ρ D w a n _ hw ht hdf har hd hk)⟩
        have := ev_rel ht hc; rw [hv] at this; exact this.flatEq rfl
      · cases h
    · cases h
  | block id body =>
    simp only [step] at h
    split at h
    · rename_i j ts2 df2 V2 hb
      obtain ⟨n1, h1⟩ := hs.code _ _ _ _ _ _ _ _ _ hb
      split at h
      · rename_i hj
        have hj := Nat.eq_of_beq_eq_true hj
        cases h
        refine ⟨n1, fun ρ D w a n Q hw ht hdf har hd hk => wpIn_block (h1 ρ D w a n _ hw ht hdf har hd ?_)⟩
        intro ρ1 a1 w1 st1 ht1 hdf1
        simp only [exOf, Exit.inBlock, hj, if_true]
        exact hk ρ1 a1 w1 st1 ht1 hdf1
      · rename_i hj
        cases h
        refine ⟨n1, fun ρ D w a n Q hw ht hdf har hd hk => wpIn_block (h1 ρ D w a n _ hw ht hdf har hd ?_)⟩
        intro ρ1 a1 w1 st1 ht1 hdf1
        have hne : ¬ j = id := fun e => by rw [e, Nat.beq_refl] at hj; cases hj
        simp only [exOf, Exit.inBlock, hne, if_false]
        exact hk ρ1 a1 w1 st1 ht1 hdf1
    · rename_i hne
      obtain ⟨n1, h1⟩ := hs.code _ _ _ _ _ _ _ _ _ h
      refine ⟨n1, fun ρ D w a n Q hw ht hdf har hd hk => wpIn_block (h1 ρ D w a n _ hw ht hdf har hd ?_)⟩
      intro ρ1 a1 w1 st1 ht1 hdf1
      have := hk ρ1 a1 w1 st1 ht1 hdf1
      cases e with
      | normal => exact this
      | ret => exact this
      | exit j => exact absurd h (hne _ _ _ _)
  | loop c =>
    obtain ⟨n1, h1⟩ := step_loop hs h
    exact ⟨n1, fun ρ D w a n Q hw ht hdf har hd hk => loop_of_at (h1 ρ D w a n Q hw ht hdf har hd hk)⟩
  | scope body =>
    simp only [step] at h
    split at h
    · obtain ⟨n1, h1⟩ := hs.code _ _ _ _ _ _ _ _ _ h
      refine ⟨n1, fun ρ D w a n Q hw ht hdf har hd hk => ?_⟩
      show (Code.scope body).wpIn Fence.wide n P Q a w
      refine wpIn_wide.2 (wp_scope_straight ((wpIn_wide (n := n)).1 (h1 ρ D w a n _ hw ht hdf har hd ?_)))
      intro ρ1 a1 w1 st1 ht1 hdf1
      have := hk ρ1 a1 w1 st1 ht1 hdf1
      cases e <;> exact this
    · cases h
  | rangeFunc f ps assign body =>
    simp only [step] at h
    split at h
    case h_2 => cases h
    rename_i hcf
    split at h
    case h_2 => cases h
    rename_i g first captured hfv
    split at h
    case h_2 => cases h
    rename_i hok
    split at h
    case h_2 => cases h
    rename_i D0 V2 df2 hen
    split at h
    case h_2 => cases h
    rename_i v V3 hc
    split at h
    case h_2 => cases h
    rename_i r hfr
    have hc : sf (.call g ((first.toList ++ [.func (.yield V2.next) #[] #[]]) ++ captured.toList) (laid V2 ps assign body ts D0)) = some (.value v V3) := hc
    obtain ⟨n3, okc⟩ := hs.call _ _ _ _ _ hc
    have n3 : V2.next + 1 ≤ V3.next := n3
    have nV : V.next ≤ V2.next := by
      revert hen
      cases ar with
      | none => intro hen; cases hen; exact Nat.le_succ _
      | some l =>
        dsimp only
        split
        · intro hen; cases hen; exact Nat.le_refl _
        · intro hen; cases hen
    have key : ∀ (Vf : View) (df3 : List Nat) (hnf : V3.next ≤ Vf.next) (hst : r.state ≠ .busy), (∀ (ρ : Ren) (D : Nat → Prop) (w : World) (a : Act) (n : Nat) (Q : Exit → Act → World → Prop), WRel P ρ D (View.get ⟨V3.next, put V3.objs V2.next (.loop { r with state := .exhausted })⟩) w → TRel ρ D ts a.tmps → DRel ρ D df2 a.defers → (∀ l, ar = some l → D l) → (∀ b, V3.next ≤ b → b < Vf.next → ¬ D b) →
        (∀ ρ1 a1 w1, Stepped P ρ D (View.get ⟨V3.next, put V3.objs V2.next (.loop { r with state := .exhausted })⟩) V3.next w ρ1 Vf.get Vf.next w1 → TRel ρ1 (grow D V3.next Vf.next) ts1 a1.tmps → DRel ρ1 (grow D V3.next Vf.next) df3 a1.defers → Q (exOf e) a1 w1) →
        (match r.pending with
         | none => Q .normal a w
         | some c => c.wpIn (fence (ar.map ρ.b)) n P Q a w)) →
        V.next ≤ Vf.next ∧ CodeOK P ar (.rangeFunc f ps assign body) ts df V e ts1 df3 Vf := by
      intro Vf df3 hnf hst hlast
      refine ⟨by omega, fun ρ D w a n Q hw ht hdf har hd hk => ?_⟩
      refine wpIn_rangeFunc fun fn _ => ?_
      obtain ⟨-, ρ1, mark, w1, hrun, st1, hdf1⟩ := enter_ok (P := P) (ps := ps) (assign := assign) (body := body) fn hen hw ht hdf har (fun b hb hb' => hd b hb (by omega))
      have hag1 := st1.agree (fun b hb hb' => hd b hb (by omega))
      have hfrel := ev_rel ht hcf
      rw [hfv] at hfrel
      obtain ⟨first', captured', hev, hf1, hf2⟩ : ∃ first' captured', a.eval f = .func (.func g) first' captured' ∧ ARel ρ D first first' ∧ ARel ρ D captured captured' := by
        generalize a.eval f = fv at hfrel
        cases hfrel with
        | flat h => simp [Vm.flat] at h
        | func hfn h1 h2 h3 h4 => cases hfn; exact ⟨_, _, rfl, ⟨h1, h2⟩, ⟨h3, h4⟩⟩
      refine ⟨ρ1.b V2.next, mark, w1, { target := .fn (.func g) captured', args := first' ++ #[.func (.yield (ρ1.b V2.next)) #[] #[]] }, w1, g, (first' ++ #[.func (.yield (ρ1.b V2.next)) #[] #[]]) ++ captured', w1, hrun, ?_, fun f' _ => trivial, ?_, fun h => (by cases h), ?_⟩
      · simp only [resolve, hev, Deferred.ofValue]
        simp [Act.eval]
      · simp only [invoke]; exact callOk_run hok _ _
      · refine callsIn_fence ((okc ρ1 _ w1 _ (n - 1) st1.rel ?_ ?_).mono ?_)
        · simp only [Array.toList_append]
          refine LRel.append (LRel.append (hf1.ext hag1 fun _ h => .inl h).list (.cons (.func (.yield (.inr (by omega))) rfl (fun i v v' h => by simp at h) rfl (fun i v v' h => by simp at h)) .nil)) (hf2.ext hag1 fun _ h => .inl h).list
        · intro b hb hb' hD
          have hb : V2.next + 1 ≤ b := hb
          rcases hD with hD | hD
          · exact hd b (by omega) (by omega) hD
          · omega
        · rintro ed w2 ⟨ρ2, v', rfl, st2, -⟩
          have st2 : Stepped P ρ1 (grow D V.next (V2.next + 1)) (laid V2 ps assign body ts D0).get (V2.next + 1) w1 ρ2 V3.get V3.next w2 := st2
          have st12 := st1.trans st2 hw
          have hag2 : Agree ρ1 ρ2 (grow D V.next (V2.next + 1)) := st2.agree (fun b hb hb' hD => by
            rcases hD with hD | hD
            · exact hd b (by omega) (by omega) hD
            · omega)
          have hbl : ρ2.b V2.next = ρ1.b V2.next := hag2.b _ (.inr (by omega))
          obtain ⟨r', hheap, hlr, hset⟩ := loop_set st12.rel hfr
          have st3 := st12.trans (hset { r with state := .exhausted } { r' with state := .exhausted } ⟨rfl, hlr.pending, hlr.tmps, hlr.params, hlr.assign, hlr.body, hlr.defers⟩) hw
          refine ⟨r.pending, _, by rw [hlr.pending]; exact endLoop_run (by rw [← hbl]; exact hheap) (by rw [← hlr.state]; exact hst), ?_⟩
          have hagAll : Agree ρ ρ2 D := hag1.trans' hag2
          rw [← ar_same har hagAll, ← hbl]
          have hdd : ∀ b, V3.next ≤ b → b < Vf.next → ¬ grow D V.next V3.next b := by
            intro b hb hb' hD
            rcases hD with hD | hD
            · exact hd b (by omega) hb' hD
            · omega
          refine hlast ρ2 (grow D V.next V3.next) _ { a with defers := mark ++ a.defers } n Q ?_ ?_ ?_ ?_ hdd ?_
          · exact st3.rel
          · exact ht.ext hagAll fun _ h => .inl h
          · refine hdf1.ext hag2 fun k hk => ?_
            rcases hk with hk | hk
            · exact .inl hk
            · exact .inr (by omega)
          · exact ar_grow har _ _
          · intro ρ3 a3 w3 st4 ht4 hdf4
            have hle : V.next ≤ V3.next := by omega
            rw [grow_grow hle hnf] at ht4 hdf4
            exact hk ρ3 a3 w3 (st3.trans st4 hw) ht4 hdf4
    split at h
    case h_1 => cases h
    rename_i hbusy
    split at h
    · rename_i hpend
      cases h
      refine key _ _ (Nat.le_refl _) (fun hb => hbusy hb) ?_
      intro ρ D w a n Q hw ht hdf har hd hk
      rw [hpend]
      exact hk ρ a w (.refl hw) (by rw [grow_nil]; exact ht) (by rw [grow_nil]; exact hdf)
    · rename_i c hpend
      obtain ⟨n4, okj⟩ := hs.code _ _ _ _ _ _ _ _ _ h
      refine key _ _ n4 (fun hb => hbusy hb) ?_
      intro ρ D w a n Q hw ht hdf har hd hk
      rw [hpend]
      exact okj ρ D w a n Q hw ht hdf har hd hk
  | goto l => simp only [step] at h; cases h
  | refuse why => simp only [step] at h; cases h
end Go.Vm
/- The machine of the small memory is sound: calls. -/
namespace Go.Vm
variable {P : Program} {ρ ρ1 ρ2 : Ren} {D D1 : Nat → Prop} {g : Nat → Option Obj} {V V1 V2 : View} {w w1 w2 : World} {n : Nat}

theorem Stepped.forget (h : WRel P ρ D g w) {b : Nat} {o0 : Obj} (hb : g b = some o0) (ho : owned o0 = true)
    (hz : w1.heap.size = w.heap.size) (hs : ∀ k, k ≠ ρ.b b → w1.heap[k]? = w.heap[k]?) (h1 : w1.os = w.os) (h2 : w1.tape = w.tape) (h3 : w1.output = w.output) :
    Stepped P ρ D g n w ρ (fun k => if k = b then none else g k) n w1 where
  next := Nat.le_refl _
  b _ _ := rfl
  o _ _ := rfl
  sz _ _ := rfl
  es _ _ := rfl
  rel := by
    rw [grow_nil]
    refine ⟨fun k x hk => ?_, fun k x hk => ?_, fun k x hk hx => ?_, fun k cs e fz hk hfz i v hi => ?_, fun k es c hk => ?_, fun k c x y hk hc hx hne => ?_⟩
    · (try dsimp only at hk); split at hk
      · cases hk
      · exact h.dom _ _ hk
    · (try dsimp only at hk); rw [hz]; split at hk
      · cases hk
      · exact h.real _ _ hk
    · (try dsimp only at hk); split at hk
      · cases hk
      · rename_i hne
        obtain ⟨h4, x', h5, h6⟩ := h.own _ _ hk hx
        exact ⟨h4, x', by rw [hs _ (h.inj k b _ _ hk hb hx hne)]; exact h5, h6⟩
    · (try dsimp only at hk); split at hk
      · cases hk
      · rename_i hne
        obtain ⟨v', h4, h5⟩ := h.ro _ _ _ _ hk hfz i v hi
        refine ⟨v', ?_, h5⟩
        rw [← h4]; unfold World.cell?; rw [hs _ (fun e => h.inj b k _ _ hb hk ho (fun e2 => hne e2.symm) e.symm)]
    · (try dsimp only at hk); split at hk
      · cases hk
      · rename_i hne
        obtain ⟨es', c', h4, h5⟩ := h.rom _ _ _ hk
        exact ⟨es', c', by rw [hs _ (fun e => h.inj b k _ _ hb hk ho (fun e2 => hne e2.symm) e.symm)]; exact h4, h5⟩
    · (try dsimp only at hk hc)
      split at hk
      · cases hk
      · split at hc
        · cases hc
        · exact h.inj _ _ _ _ hk hc hx hne
  os := h1
  tape := h2
  output := h3
  size := by omega
  frame k hk hn := hs k (fun e => hn b o0 hb ho e.symm)
  fresh k x hk hx := by
    (try dsimp only at hk); split at hk
    · cases hk
    · exact .inr ⟨k, x, hk, hx, rfl⟩

theorem leaves {F : Fence} {k : Nat} {fn : Func} {tmps : Array Value} {R : Ending → World → Prop} : ∀ (df : List Nat) (ds : List Deferred) (objs l : List (Nat × Obj)) (w : World), DRel ρ D df ds → takeAll df objs = some l → WRel P ρ D (find objs) w →
    (∀ w', Stepped P ρ D (find objs) n w ρ (find l) n w' → LeavesIn F k P fn tmps R [] .returning w') → LeavesInM F k P fn tmps R ds .returning w := by
  intro df
  induction df with
  | nil =>
    intro ds objs l w hd ht hw hk
    cases hd
    simp only [takeAll] at ht
    cases ht
    exact hk w (.refl hw)
  | cons x df ih =>
    intro ds objs l w hd ht hw hk
    cases hd with
    | @cons _ d _ ds hx hd =>
      simp only [takeAll] at ht
      split at ht
      · rename_i hf
        obtain ⟨hD, rfl⟩ := hx
        obtain ⟨h1, o', h2, h3⟩ := hw.own x _ hf rfl
        cases h3
        have hlt := (Array.getElem?_eq_some_iff.1 h2).1
        have hrun : (Instr.takeDeferred (ρ.b x)).run P w = .ok [] { w with heap := w.heap.setIfInBounds (ρ.b x) (.deferred none) } := by
          unfold Instr.takeDeferred
          simp [Sem.run_bind, Go.getObj, Go.setObj, Sem.run, h2, Result.andThen]
        have st := Stepped.forget (n := n) (w1 := { w with heap := w.heap.setIfInBounds (ρ.b x) (.deferred none) }) hw hf rfl (by simp) (fun k hk => by simp [Ne.symm hk]) rfl rfl rfl
        have e : (fun k => if k = x then none else find objs k) = find (drop objs x) := by funext k; rw [find_drop]
        rw [e] at st
        refine ⟨(fun h => by cases h), .inl ⟨ρ.b x, _, rfl, hrun, ?_⟩⟩
        refine ih ds (drop objs x) l _ hd ht (by have := st.rel; rwa [grow_nil] at this) fun w' st' => hk w' ?_
        have := st.trans (by rw [grow_nil]; exact st') hw
        exact this
      · cases ht

theorem isAgg_run {t : TypeId} {b : Bool} (h : runV P (Go.isAgg t) V = some (b, V1)) (w : World) : V1 = V ∧ (Go.isAgg t).run P w = .ok b w := by
  unfold Go.isAgg Go.underlying at *
  simp only [bind_assoc] at *
  rw [runV_program] at h
  rw [Sem.run_bind]
  simp only [Go.program, Sem.run, Result.andThen]
  cases hu : P.underlying t with
  | none => rw [hu] at h; rw [runV_bind] at h; cases h
  | some d =>
    rw [hu] at h
    simp only [pure_bind] at h ⊢
    cases d <;> (cases h; exact ⟨rfl, rfl⟩)
theorem sizeOf_run {t : TypeId} {k : Nat} (h : runV P (Go.sizeOf t) V = some (k, V1)) (w : World) : V1 = V ∧ (Go.sizeOf t).run P w = .ok k w := by
  unfold Go.sizeOf Go.typeInfo at *
  simp only [bind_assoc] at *
  rw [runV_program] at h
  rw [Sem.run_bind]
  simp only [Go.program, Sem.run, Result.andThen]
  cases hu : P.info? t with
  | none => rw [hu] at h; rw [runV_bind] at h; cases h
  | some d =>
    rw [hu] at h
    simp only [pure_bind] at h ⊢
    cases h; exact ⟨rfl, rfl⟩
theorem loadVar_run (hw : WRel P ρ D V.get w) {t : TypeId} {a : Addr} {v : Value} (h : runV P (Go.loadVar t a) V = some (v, V1)) : V1 = V ∧ ∃ v', (Go.loadVar t (ρ.addr a)).run P w = .ok v' w ∧ VRel ρ D v v' := by
  unfold Go.loadVar at h ⊢
  rw [runV_bind] at h
  cases h1 : runV P (Go.isAgg t) V with
  | none => rw [h1] at h; cases h
  | some p =>
    obtain ⟨b, V2⟩ := p
    obtain ⟨rfl, hr1⟩ := isAgg_run h1 w
    rw [h1] at h
    simp only [Option.bind_some] at h
    rw [Sem.run_bind, hr1]
    simp only [Result.andThen]
    cases b with
    | false =>
      simp only [Bool.false_eq_true, if_false] at h ⊢
      simp only [Go.load, runV] at h
      split at h
      · rename_i v0 hv
        cases h
        obtain ⟨v', h3, h4⟩ := hw.cell hv
        exact ⟨rfl, v', by simp [Go.load, Sem.run, h3], h4⟩
      · cases h
    | true =>
      simp only [if_true] at h ⊢
      rw [runV_bind] at h
      cases h2 : runV P (Go.sizeOf t) V2 with
      | none => rw [h2] at h; cases h
      | some p =>
        obtain ⟨k, V3⟩ := p
        obtain ⟨rfl, hr2⟩ := sizeOf_run h2 w
        rw [h2] at h
        simp only [Option.bind_some] at h
        rw [Sem.run_bind, hr2]
        simp only [Result.andThen]
        rw [runV_bind] at h
        cases h3 : runV P (Go.loadCells a k) V3 with
        | none => rw [h3] at h; cases h
        | some p =>
          obtain ⟨cs, V4⟩ := p
          obtain ⟨rfl, cs', h4, h5, _⟩ := load_run hw h3
          rw [h3] at h
          cases h
          refine ⟨rfl, .agg cs', ?_, .agg h5.1 h5.2⟩
          rw [Sem.run_bind, h4]; rfl

def resF (tmps : Array Value) : ResultVar → Sem Value
  | .tmp t => pure (tmps.getD t undef)
  | .cell a t => do loadVar t (← asAddr (tmps.getD a undef))
theorem results_eq (fn : Func) (tmps : Array Value) : results fn tmps = (do let vs ← fn.results.mapM (resF tmps); pure (if h : vs.size = 1 then vs[0] else .tuple vs)) := by
  unfold results
  have : (fun (r : ResultVar) => match r with
    | .tmp t => (pure (tmps.getD t undef) : Sem Value)
    | .cell a t => do loadVar t (← asAddr (tmps.getD a undef))) = resF tmps := by funext r; cases r <;> rfl
  rw [← this]
  rfl
theorem resultsL_run (hw : WRel P ρ D V.get w) {ts : List Value} {tmps : Array Value} (ht : TRel ρ D ts tmps) : ∀ (rs : List ResultVar) (vs : List Value) (V1 : View), runV P (resultsL rs ts) V = some (vs, V1) →
    V1 = V ∧ ∃ vs', (rs.mapM (resF tmps)).run P w = .ok vs' w ∧ LRel (VRel ρ D) vs vs' := by
  intro rs
  induction rs with
  | nil => intro vs V1 h; cases h; exact ⟨rfl, [], rfl, .nil⟩
  | cons r rs ih =>
    intro vs V1 h
    rw [List.mapM_cons]
    cases r with
    | tmp t =>
      simp only [resultsL] at h
      rw [runV_bind] at h
      cases h1 : runV P (resultsL rs ts) V with
      | none => rw [h1] at h; cases h
      | some p =>
        obtain ⟨us, V2⟩ := p
        obtain ⟨rfl, us', h2, h3⟩ := ih _ _ h1
        rw [h1] at h
        cases h
        refine ⟨rfl, _ :: us', ?_, .cons (lget_rel ht t) h3⟩
        simp [resF, h2, Result.andThen]
    | cell a t =>
      simp only [resultsL, resF] at h ⊢
      have hrel := lget_rel ht a
      generalize tmps.getD a undef = x at hrel
      generalize lget ts a = y at hrel h
      cases hrel with
      | ptr ha =>
        rename_i ad
        simp only [Go.asAddr, pure_bind] at h ⊢
        rw [runV_bind] at h
        cases h0 : runV P (Go.loadVar t ad) V with
        | none => rw [h0] at h; cases h
        | some p =>
          obtain ⟨u, V2⟩ := p
          obtain ⟨rfl, u', h4, h5⟩ := loadVar_run hw h0
          rw [h0] at h
          simp only [Option.bind_some] at h
          rw [runV_bind] at h
          cases h1 : runV P (resultsL rs ts) V2 with
          | none => rw [h1] at h; cases h
          | some p =>
            obtain ⟨us, V3⟩ := p
            obtain ⟨rfl, us', h2, h3⟩ := ih _ _ h1
            rw [h1] at h
            cases h
            refine ⟨rfl, u' :: us', ?_, .cons h5 h3⟩
            simp [Sem.run_bind, h2, h4, Result.andThen]
      | flat hf =>
        exfalso
        revert h
        rw [runV_bind]
        cases x <;> first | (intro h; cases h; done) | (rename_i q; cases q <;> first | (simp [Vm.flat] at hf; done) | (rw [show Go.asAddr (.pointer none) = (Go.runtimePanic .nilDeref : Sem Addr) from rfl, runV_panic]; intro h; cases h))
      | _ => exfalso; rw [runV_bind] at h; cases h

theorem shut_rel {vs vs' : List Value} (h : LRel (VRel ρ D) vs vs') : VRel ρ D (shut vs) (if h : vs'.toArray.size = 1 then vs'.toArray[0] else .tuple vs'.toArray) := by
  cases h with
  | nil => exact .tuple rfl (fun i v v' h => by simp at h)
  | cons h1 ht =>
    cases ht with
    | nil => exact h1
    | cons h2 ht =>
      have := LRel.arr (.cons h1 (.cons h2 ht))
      exact .tuple this.1 this.2
theorem find_keep (n : Nat) (l : List Nat) : ∀ (L : List (Nat × Obj)) (b : Nat) (o : Obj), find (keepR n l L) b = some o → (Nat.blt b n || memN b l) = true ∧ find L b = some o
  | [], b, o, h => by cases h
  | (k, p) :: r, b, o, h => by
    simp only [keepR] at h
    split at h
    · rename_i hk
      simp only [find] at h ⊢
      split at h
      · rename_i hb
        have := Nat.eq_of_beq_eq_true hb
        subst this
        exact ⟨hk, h⟩
      · exact find_keep n l r b o h
    · rename_i hk
      obtain ⟨h1, h2⟩ := find_keep n l r b o h
      refine ⟨h1, ?_⟩
      simp only [find]
      split
      · rename_i hb
        have := Nat.eq_of_beq_eq_true hb
        subst this
        rw [hk] at h1; cases h1
      · exact h2

theorem loadCells_same {a : Addr} : ∀ (k i : Nat) (acc : Array Value) {cs : Array Value}, runV P (Go.loadCellsFrom a i k acc) V = some (cs, V1) → V1 = V
  | 0, i, acc, cs, h => by cases h; rfl
  | k + 1, i, acc, cs, h => by
    simp only [Go.loadCellsFrom] at h
    rw [runV_bind] at h
    simp only [Go.load, runV] at h
    cases hc : cell V (a.add i) with
    | none => simp [hc] at h
    | some v =>
      simp only [hc, Option.bind_some] at h
      exact loadCells_same k (i + 1) _ h
theorem loadVar_same {t : TypeId} {a : Addr} {v : Value} (h : runV P (Go.loadVar t a) V = some (v, V1)) : V1 = V := by
  unfold Go.loadVar at h
  rw [runV_bind] at h
  cases h1 : runV P (Go.isAgg t) V with
  | none => rw [h1] at h; cases h
  | some p =>
    obtain ⟨b, V2⟩ := p
    obtain ⟨rfl, -⟩ := isAgg_run h1 default
    rw [h1] at h
    simp only [Option.bind_some] at h
    cases b with
    | false =>
      simp only [Bool.false_eq_true, if_false, Go.load, runV] at h
      split at h
      · cases h; rfl
      · cases h
    | true =>
      simp only [if_true] at h
      rw [runV_bind] at h
      cases h2 : runV P (Go.sizeOf t) V2 with
      | none => rw [h2] at h; cases h
      | some p =>
        obtain ⟨k, V3⟩ := p
        obtain ⟨rfl, -⟩ := sizeOf_run h2 default
        rw [h2] at h
        simp only [Option.bind_some] at h
        rw [runV_bind] at h
        cases h3 : runV P (Go.loadCells a k) V3 with
        | none => rw [h3] at h; cases h
        | some p =>
          obtain ⟨cs, V4⟩ := p
          rw [h3] at h
          cases h
          exact loadCells_same k 0 #[] h3
theorem step_call {sf : Job → Option Out} (hs : SelfOK P sf) {f : FuncId} {args : List Value} {v : Value} (h : step P sf (.call f args V) = some (.value v V1)) : V.next ≤ V1.next ∧ CallOK P f args V v V1 := by
  simp only [step] at h
  split at h
  case h_2 => cases h
  rename_i fn hfn
  split at h
  case h_2 => cases h
  rename_i c hc
  split at h
  case h_2 => cases h
  rename_i e ts df V2 hb
  obtain ⟨n1, okb⟩ := hs.code _ _ _ _ _ _ _ _ _ hb
  have main : ∀ l vs V3, takeAll df V2.objs = some l → runV P (resultsL fn.results.toList ts) ⟨V2.next, l⟩ = some (vs, V3) → (e = .normal ∨ e = .ret) → v = shut vs → V1.next = V3.next → (∀ b o, V1.get b = some o → V3.get b = some o) →
      V.next ≤ V1.next ∧ CallOK P f args V v V1 := by
    intro l vs V3 hl hr he hv hn hsub
    have hV3 : V3 = ⟨V2.next, l⟩ := by
      -- the loads leave all as it was
      have : ∀ (rs : List ResultVar) (vs : List Value) (V V1 : View), runV P (resultsL rs ts) V = some (vs, V1) → V1 = V := by
        intro rs
        induction rs with
        | nil => intro vs V V1 h; cases h; rfl
        | cons r rs ih =>
          intro vs V V1 h
          cases r with
          | tmp t =>
            simp only [resultsL] at h
            rw [runV_bind] at h
            cases h1 : runV P (resultsL rs ts) V with
            | none => rw [h1] at h; cases h
            | some p => obtain ⟨us, Vx⟩ := p; rw [h1] at h; cases h; exact ih _ _ _ h1
          | cell a t =>
            simp only [resultsL] at h
            cases ha : lget ts a <;> rw [ha] at h <;> first | (rw [runV_bind] at h; cases h; done) | skip
            rename_i q
            cases q with
            | none => rw [show Go.asAddr (.pointer none) = (Go.runtimePanic .nilDeref : Sem Addr) from rfl, runV_bind, runV_panic] at h; cases h
            | some ad =>
              simp only [Go.asAddr, pure_bind] at h
              rw [runV_bind] at h
              cases h0 : runV P (Go.loadVar t ad) V with
              | none => rw [h0] at h; cases h
              | some p =>
                obtain ⟨u, Vy⟩ := p
                have hy : Vy = V := loadVar_same h0
                subst hy
                rw [h0] at h
                simp only [Option.bind_some] at h
                rw [runV_bind] at h
                cases h1 : runV P (resultsL rs ts) Vy with
                | none => rw [h1] at h; cases h
                | some p => obtain ⟨us, Vx⟩ := p; rw [h1] at h; cases h; exact ih _ _ _ h1
      exact this _ _ _ _ hr
    subst hV3
    have hn : V1.next = V2.next := hn
    refine ⟨by omega, fun ρ D w args' n hw hargs hd => ?_⟩
    refine callsIn_of_wp_marks hfn hc trivial ?_
    refine okb ρ D w { tmps := args' ++ Array.replicate (fn.ntmps - args'.size) undef, defers := [] } n _ hw ?_ .nil (fun l hl => by cases hl) (fun b hb hb' => hd b hb (by omega)) ?_
    · show LRel _ _ _
      simp only [Array.toList_append, Array.toList_replicate]
      rw [show args'.size = args.length by simpa using hargs.length.symm]
      refine LRel.append hargs ?_
      generalize fn.ntmps - args.length = k
      induction k with
      | zero => exact .nil
      | succ k ih => simp only [List.replicate_succ]; exact .cons undef_rel ih
    · intro ρ1 a1 w1 st1 ht1 hdf1
      have hfin : LeavesInM Fence.wide n P fn a1.tmps (fun e w' => ∃ ρ1 v', e = .returned v' ∧ Stepped P ρ D V.get V.next w ρ1 V1.get V1.next w' ∧ VRel ρ1 (grow D V.next V1.next) v v') a1.defers .returning w1 := by
        refine leaves (n := V2.next) df _ _ l w1 hdf1 hl st1.rel fun w' st2 => ?_
        have st12 : Stepped P ρ D V.get V.next w ρ1 (find l) V2.next w' := by
          have hD : grow (grow D V.next V2.next) V2.next V2.next = grow D V.next V2.next := grow_nil
          exact st1.trans st2 hw
        have hw' : WRel P ρ1 (grow D V.next V2.next) (View.get ⟨V2.next, l⟩) w' := st12.rel
        obtain ⟨_, vs', hrun, hrel⟩ := resultsL_run hw' ht1 _ _ _ hr
        refine ⟨(if h : vs'.toArray.size = 1 then vs'.toArray[0] else .tuple vs'.toArray), ?_, ρ1, _, rfl, ?_, ?_⟩
        · rw [results_eq, Array.mapM_eq_mapM_toList]
          simp only [map_eq_pure_bind, bind_assoc, pure_bind]
          rw [Sem.run_bind, hrun]
          rfl
        · rw [hn]; exact st12.sub (fun b o hb => hsub b o hb)
        · rw [hn, hv]; exact shut_rel hrel
      rcases he with rfl | rfl <;> exact hfin
  split at h
  · cases h
  · rename_i hne
    have he : e = .normal ∨ e = .ret := by
      cases e with
      | normal => exact .inl rfl
      | ret => exact .inr rfl
      | exit id => exact absurd rfl (hne id)
    split at h
    · rename_i l hl
      split at h
      · rename_i vs V3 hr
        cases h
        exact main l vs V3 hl hr he rfl rfl (fun b o hb => (find_keep _ _ _ _ _ hb).2)
      · cases h
    · cases h
end Go.Vm
/- A region that draws its order: which operations wait for which; the states of some of them. -/
namespace Go.Vm

def ancF (acc : Array Nat) (o : Oper) : Nat := o.after.foldl (fun s e => if Region.binds .any e then s ||| 2 ^ e.on ||| acc.getD e.on 0 else s) 0
theorem before_eq (ops : Array Oper) : Region.before ops = ops.toList.foldl (fun acc o => acc.push (ancF acc o)) #[] := by
  unfold Region.before
  rw [← Array.foldl_toList]
  rfl
theorem anc_list : ∀ (l : List Oper) (acc : Array Nat), (l.foldl (fun acc o => acc.push (ancF acc o)) acc).size = acc.size + l.length ∧
    (∀ i, i < acc.size → (l.foldl (fun acc o => acc.push (ancF acc o)) acc).getD i 0 = acc.getD i 0) ∧
    ∀ k o, l[k]? = some o → ∃ acc', (l.foldl (fun acc o => acc.push (ancF acc o)) acc).getD (acc.size + k) 0 = ancF acc' o ∧ acc'.size = acc.size + k ∧ ∀ i, i < acc.size + k → acc'.getD i 0 = (l.foldl (fun acc o => acc.push (ancF acc o)) acc).getD i 0
  | [], acc => ⟨by simp, fun _ _ => rfl, fun k o h => by simp at h⟩
  | x :: l, acc => by
    obtain ⟨h1, h2, h3⟩ := anc_list l (acc.push (ancF acc x))
    simp only [List.foldl_cons]
    have hpush : ∀ i, i < acc.size → (acc.push (ancF acc x)).getD i 0 = acc.getD i 0 := by
      intro i hi
      simp only [Array.getD_eq_getD_getElem?, Array.getElem?_push, if_neg (Nat.ne_of_lt hi)]
    refine ⟨by rw [h1]; simp; omega, fun i hi => by rw [h2 i (by simp; omega), hpush i hi], fun k o hk => ?_⟩
    cases k with
    | zero =>
      simp at hk
      subst hk
      refine ⟨acc, ?_, rfl, fun i hi => ?_⟩
      · rw [Nat.add_zero, h2 _ (by simp)]; simp [Array.getD_eq_getD_getElem?]
      · rw [h2 i (by simp; omega), hpush i (by simpa using hi)]
    | succ k =>
      obtain ⟨acc', e1, e2, e3⟩ := h3 k o (by simpa using hk)
      refine ⟨acc', ?_, ?_, fun i hi => ?_⟩
      · rw [← e1]; congr 1; simp; omega
      · rw [e2]; simp; omega
      · exact e3 i (by simp; omega)
theorem bits_fold (acc : Array Nat) (j : Nat) : ∀ (l : List Edge) (s : Nat), (l.foldl (fun s e => if Region.binds .any e then s ||| 2 ^ e.on ||| acc.getD e.on 0 else s) s).testBit j = true ↔
    s.testBit j = true ∨ ∃ e, e ∈ l ∧ Region.binds .any e = true ∧ (e.on = j ∨ (acc.getD e.on 0).testBit j = true)
  | [], s => by simp
  | e :: l, s => by
    simp only [List.foldl_cons]
    rw [bits_fold acc j l]
    by_cases hb : Region.binds .any e = true
    · simp only [hb, if_true, Nat.testBit_or, Nat.testBit_two_pow, Bool.or_eq_true, decide_eq_true_eq]
      constructor
      · rintro (((h | h) | h) | ⟨e', h1, h2⟩)
        · exact .inl h
        · exact .inr ⟨e, by simp, hb, .inl h⟩
        · exact .inr ⟨e, by simp, hb, .inr h⟩
        · exact .inr ⟨e', by simp [h1], h2⟩
      · rintro (h | ⟨e', h1, h2, h3⟩)
        · exact .inl (.inl (.inl h))
        · rcases List.mem_cons.1 h1 with rfl | h1
          · rcases h3 with h3 | h3
            · exact .inl (.inl (.inr h3))
            · exact .inl (.inr h3)
          · exact .inr ⟨e', h1, h2, h3⟩
    · simp only [hb, Bool.false_eq_true, if_false]
      constructor
      · rintro (h | ⟨e', h1, h2⟩)
        · exact .inl h
        · exact .inr ⟨e', by simp [h1], h2⟩
      · rintro (h | ⟨e', h1, h2, h3⟩)
        · exact .inl h
        · rcases List.mem_cons.1 h1 with rfl | h1
          · exact absurd h2 hb
          · exact .inr ⟨e', h1, h2, h3⟩
/-- which operations the i-th one waits for -/
theorem anc_spec {ops : Array Oper} (hlt : ∀ (i : Nat) (o : Oper) (e : Edge), ops[i]? = some o → e ∈ o.after → Region.binds .any e = true → e.on < i) {i : Nat} {o : Oper} (ho : ops[i]? = some o) (j : Nat) :
    ((Region.before ops).getD i 0).testBit j = true ↔ ∃ e, e ∈ o.after ∧ Region.binds .any e = true ∧ (e.on = j ∨ ((Region.before ops).getD e.on 0).testBit j = true) := by
  rw [before_eq]
  obtain ⟨acc', e1, e2, e3⟩ := (anc_list ops.toList #[]).2.2 i o (by simpa using ho)
  simp only [Array.size_empty, Nat.zero_add] at e1 e2 e3
  have hF : ancF acc' o = o.after.toList.foldl (fun s e => if Region.binds .any e then s ||| 2 ^ e.on ||| acc'.getD e.on 0 else s) 0 := by
    unfold ancF; rw [← Array.foldl_toList]
  rw [e1, hF, bits_fold]
  simp only [Nat.zero_testBit, Bool.false_eq_true, false_or, Array.mem_toList_iff]
  constructor
  · rintro ⟨e, h1, h2, h3⟩
    exact ⟨e, h1, h2, h3.imp id fun h => by rw [← e3 _ (hlt i o e ho h1 h2)]; exact h⟩
  · rintro ⟨e, h1, h2, h3⟩
    exact ⟨e, h1, h2, h3.imp id fun h => by rw [e3 _ (hlt i o e ho h1 h2)]; exact h⟩

structure Shape (ops : Array Oper) : Prop where
  edge : ∀ (i : Nat) (o : Oper) (e : Edge), ops[i]? = some o → e ∈ o.after → Region.binds .any e = true → e.on < i
  dst : ∀ (i j : Nat) (p q : Oper) (t : Tmp), ops[i]? = some p → ops[j]? = some q → p.dst = some t → q.dst = some t → i = j
  tmp : ∀ (i j : Nat) (p q : Oper) (t : Tmp), ops[i]? = some p → ops[j]? = some q → q.dst = some t → t ∈ tmpsOf ops p → i = j ∨ ((Region.before ops).getD i 0).testBit j = true ∨ ((Region.before ops).getD j 0).testBit i = true
theorem shape_of {ops : Array Oper} (h : drawOk ops = true) : Shape ops := by
  unfold drawOk at h
  simp only [List.all_eq_true, Bool.and_eq_true] at h
  have mem : ∀ (i : Nat) (o : Oper), ops[i]? = some o → (o, i) ∈ ops.toList.zipIdx := by
    intro i o ho
    rw [List.mem_zipIdx_iff_getElem?]
    simpa using ho
  refine ⟨fun i o e ho he hb => ?_, fun i j p q t hp hq h1 h2 => ?_, fun i j p q t hp hq h1 h2 => ?_⟩
  · have := (h (o, i) (mem i o ho)).1 e (by simpa using he)
    simpa [hb] using this
  · have := ((h (p, i) (mem i p hp)).2 (q, j) (mem j q hq)).1
    simp only [h1, h2, Nat.beq_refl, Bool.not_true, Bool.false_or] at this
    exact Nat.eq_of_beq_eq_true this
  · have := ((h (p, i) (mem i p hp)).2 (q, j) (mem j q hq)).2
    simp only [h1, Bool.or_eq_true, Bool.not_eq_true'] at this
    rcases this with ((h3 | h3) | h3) | h3
    · rw [List.contains_iff_mem.2 h2] at h3; cases h3
    · exact .inl (Nat.eq_of_beq_eq_true h3)
    · exact .inr (.inl h3)
    · exact .inr (.inr h3)

variable {ops : Array Oper}
theorem anc_lt (hs : Shape ops) : ∀ (i j : Nat), i < ops.size → ((Region.before ops).getD i 0).testBit j = true → j < i := by
  intro i
  induction i using Nat.strongRecOn with
  | _ i ih =>
    intro j hi h
    have ho : ops[i]? = some ops[i] := Array.getElem?_eq_getElem hi
    obtain ⟨e, h1, h2, h3⟩ := (anc_spec hs.edge ho j).1 h
    have hlt := hs.edge i _ e ho h1 h2
    rcases h3 with rfl | h3
    · exact hlt
    · exact Nat.lt_trans (ih e.on hlt j (by omega) h3) hlt
/-- what is closed holds all that its members wait for -/
theorem anc_closed (hs : Shape ops) {S : Nat → Bool} (hc : ∀ (i : Nat) (o : Oper) (e : Edge), S i = true → ops[i]? = some o → e ∈ o.after → Region.binds .any e = true → S e.on = true) :
    ∀ (i j : Nat), i < ops.size → (∀ (o : Oper) (e : Edge), ops[i]? = some o → e ∈ o.after → Region.binds .any e = true → S e.on = true) → ((Region.before ops).getD i 0).testBit j = true → S j = true := by
  intro i
  induction i using Nat.strongRecOn with
  | _ i ih =>
    intro j hi hall h
    have ho : ops[i]? = some ops[i] := Array.getElem?_eq_getElem hi
    obtain ⟨e, h1, h2, h3⟩ := (anc_spec hs.edge ho j).1 h
    have hlt := hs.edge i _ e ho h1 h2
    have hS := hall _ e ho h1 h2
    rcases h3 with rfl | h3
    · exact hS
    · exact ih e.on hlt j (by omega) (fun o' e' ho' he' hb' => hc e.on o' e' hS ho' he' hb') h3

def stT (ops : Array Oper) (S : Nat → Bool) (ts0 : List Value) : List Rec → List Value
  | [] => ts0
  | r :: rest => match S rest.length with
    | true => lput (stT ops S ts0 rest) ((ops[rest.length]?).bind (·.dst)) r.val
    | false => stT ops S ts0 rest
def stG (S : Nat → Bool) (g0 : Nat → Option Obj) : List Rec → Nat → Option Obj
  | [], b => g0 b
  | r :: rest, b => match S rest.length && touch r b with
    | true => find r.vo.objs b
    | false => stG S g0 rest b
def stD (S : Nat → Bool) (D : Nat → Prop) : List Rec → Nat → Prop
  | [], b => D b
  | r :: rest, b => stD S D rest b ∨ (S rest.length = true ∧ r.vi.next ≤ b ∧ b < r.vo.next)
end Go.Vm
/- A region that draws its order: what the run in the text's order has told. -/
namespace Go.Vm
variable {P : Program} {sf : Job → Option Out} {ops : Array Oper} {k0 : Nat} {ts0 : List Value} {V0 : View}

inductive Coll (P : Program) (sf : Job → Option Out) (ops : Array Oper) (k0 : Nat) (ts0 : List Value) (V0 : View) : List Rec → List Value → View → Prop
  | nil (k : Nat) (hk : k ≤ k0) : Coll P sf ops k0 ts0 V0 (dummies ops ts0 V0 k) ts0 V0
  | run {recs : List Rec} {ts : List Value} {V : View} {o : Oper} {vi vo : View} {wr : Option Nat} {v : Value} (hc : Coll P sf ops k0 ts0 V0 recs ts V) (hk : k0 ≤ recs.length) (ho : ops[recs.length]? = some o) (hok : okOps o = true) (hw : wantedL ops ts o = some true)
      (hv : viewFor ((Region.before ops).getD recs.length 0) recs V (footOf (ev ts) o) = some (vi, wr)) (ha : after sf (runOp P (ev ts) o vi) = some (v, vo)) (hg : goodOut V.next wr vo.next vo.objs = true) (hi : inb V.next V.objs = true) (hn : vi.next ≤ vo.next) :
      Coll P sf ops k0 ts0 V0 (⟨vi, v, vo, wr⟩ :: recs) (lput ts o.dst v) ⟨vo.next, newer V.next vo.objs (turned wr vo V.objs)⟩
  | skip {recs : List Rec} {ts : List Value} {V : View} {o : Oper} (hc : Coll P sf ops k0 ts0 V0 recs ts V) (hk : k0 ≤ recs.length) (ho : ops[recs.length]? = some o) (hok : okOps o = true) (hw : wantedL ops ts o = some false) :
      Coll P sf ops k0 ts0 V0 (⟨⟨V.next, []⟩, undef, ⟨V.next, []⟩, none⟩ :: recs) (lput ts o.dst undef) V

theorem touch_none (n : Nat) (v : Value) (b : Nat) : touch ⟨⟨n, []⟩, v, ⟨n, []⟩, none⟩ b = false := by
  cases hq : touch ⟨⟨n, []⟩, v, ⟨n, []⟩, none⟩ b with
  | false => rfl
  | true =>
    simp only [touch, isWr, Bool.false_or, Bool.and_eq_true, Nat.blt_eq] at hq
    have := Nat.le_of_ble_eq_true hq.1
    omega
theorem dummies_length (ops : Array Oper) (ts : List Value) (V : View) : ∀ k, (dummies ops ts V k).length = k
  | 0 => rfl
  | k + 1 => by simp [dummies, dummies_length ops ts V k]
theorem lset_same : ∀ (ts : List Value) (d : Nat), lset ts d (lget ts d) = ts
  | [], _ => rfl
  | x :: r, 0 => rfl
  | x :: r, d + 1 => by simp only [lset, lget, lset_same r d]
theorem stT_dummies {S : Nat → Bool} : ∀ k, stT ops S ts0 (dummies ops ts0 V0 k) = ts0
  | 0 => rfl
  | k + 1 => by
    simp only [dummies, stT, dummies_length, stT_dummies k]
    split
    · unfold valAt
      cases (ops[k]?).bind (·.dst) with
      | none => rfl
      | some d => exact lset_same ts0 d
    · rfl
theorem stG_dummies {S : Nat → Bool} {g0 : Nat → Option Obj} (b : Nat) : ∀ k, stG S g0 (dummies ops ts0 V0 k) b = g0 b
  | 0 => rfl
  | k + 1 => by simp only [dummies, stG, touch_none, Bool.and_false, stG_dummies b k]
theorem stD_dummies {S : Nat → Bool} {D : Nat → Prop} (b : Nat) : ∀ k, stD S D (dummies ops ts0 V0 k) b ↔ D b
  | 0 => Iff.rfl
  | k + 1 => by
    simp only [dummies, stD]
    rw [stD_dummies b k]
    constructor
    · rintro (h | ⟨_, h1, h2⟩)
      · exact h
      · omega
    · exact .inl
theorem dummies_cons {x : Rec} {l : List Rec} {k : Nat} (h : x :: l = dummies ops ts0 V0 k) : ∃ j, k = j + 1 ∧ l = dummies ops ts0 V0 j ∧ x.vi.next = V0.next ∧ x.vo.next = V0.next ∧ ∀ b, touch x b = false := by
  cases k with
  | zero => cases h
  | succ j =>
    simp only [dummies] at h
    injection h with h1 h2
    subst h1
    exact ⟨j, rfl, h2, rfl, rfl, touch_none _ _⟩

/-- parts of a region, with an operation on the whole memory between them -/
inductive Segs (P : Program) (sf : Job → Option Out) (ops : Array Oper) (ts1 : List Value) (V1 : View) : Nat → List Value → View → Prop
  | last {k0 : Nat} {ts0 : List Value} {V0 : View} {full : List Rec} (hc : Coll P sf ops k0 ts0 V0 full ts1 V1) (hl : full.length = ops.size) : Segs P sf ops ts1 V1 k0 ts0 V0
  | tot {k0 : Nat} {ts0 : List Value} {V0 : View} {full : List Rec} {ts : List Value} {V : View} {o : Oper} {v : Value} {V2 : View} (hc : Coll P sf ops k0 ts0 V0 full ts V) (hk : k0 ≤ full.length) (ho : ops[full.length]? = some o) (hok : okOps o = true)
      (hw : wantedL ops ts o = some true) (ht : totalAt (Region.before ops) full.length = true) (ha : after sf (runOp P (ev ts) o V) = some (v, V2)) (hn : V.next ≤ V2.next) (hi : inb V2.next V2.objs = true)
      (hr : Segs P sf ops ts1 V1 (full.length + 1) (lput ts o.dst v) V2) : Segs P sf ops ts1 V1 k0 ts0 V0

theorem drawGo_segs (hs : SelfOK P sf) : ∀ (l : List Oper) (k0 : Nat) (ts0 : List Value) (V0 : View) (recs : List Rec) (ts : List Value) (V : View) (ts1 : List Value) (V1 : View), Coll P sf ops k0 ts0 V0 recs ts V → k0 ≤ recs.length →
    (∀ k o, l[k]? = some o → ops[recs.length + k]? = some o) → recs.length + l.length = ops.size → drawGo P sf ops (Region.before ops) l recs ts V = some (ts1, V1) → Segs P sf ops ts1 V1 k0 ts0 V0 := by
  intro l
  induction l with
  | nil => intro k0 ts0 V0 recs ts V ts1 V1 hc _ _ hz h; simp only [drawGo] at h; cases h; exact .last hc (by simpa using hz)
  | cons o l ih =>
    intro k0 ts0 V0 recs ts V ts1 V1 hc hk hl hz h
    simp only [drawGo] at h
    have ho : ops[recs.length]? = some o := by simpa using hl 0 o rfl
    have hl' : ∀ (rs : List Rec), rs.length = recs.length + 1 → ∀ k o', l[k]? = some o' → ops[rs.length + k]? = some o' := fun rs hrs k o' hk => by
      rw [show rs.length + k = recs.length + (k + 1) by omega]; exact hl (k + 1) o' (by simpa using hk)
    have hz' : ∀ (rs : List Rec), rs.length = recs.length + 1 → rs.length + l.length = ops.size := fun rs hrs => by simp at hz; omega
    split at h
    case h_2 => cases h
    rename_i hok
    split at h
    · rename_i hw
      split at h
      · rename_i htot
        rw [Bool.and_eq_true] at htot
        split at h
        case h_2 => cases h
        rename_i v V2 ha
        split at h
        case h_2 => cases h
        rename_i hi
        have hn : V.next ≤ V2.next := by
          cases h1 : runOp P (ev ts) o V with
          | none => rw [h1] at ha; cases ha
          | some p => rw [h1] at ha; exact Nat.le_trans (runOp_next h1) (after_next hs ha)
        refine .tot hc hk ho hok hw htot.2 ha hn hi ?_
        have hlen := dummies_length ops (lput ts o.dst v) V2 (recs.length + 1)
        exact ih _ _ _ _ _ _ _ _ (.nil (recs.length + 1) (Nat.le_refl _)) (by rw [hlen]; exact Nat.le_refl _) (hl' _ hlen) (hz' _ hlen) h
      · split at h
        case h_2 => cases h
        rename_i vi wr hv
        split at h
        case h_2 => cases h
        rename_i v vo ha
        split at h
        case h_2 => cases h
        rename_i hg
        simp only [Bool.and_eq_true] at hg
        have hn : vi.next ≤ vo.next := by
          cases h1 : runOp P (ev ts) o vi with
          | none => rw [h1] at ha; cases ha
          | some p => rw [h1] at ha; exact Nat.le_trans (runOp_next h1) (after_next hs ha)
        exact ih _ _ _ _ _ _ _ _ (.run hc hk ho hok hw hv ha hg.1 hg.2 hn) (by simp; omega) (hl' _ (by simp)) (hz' _ (by simp)) h
    · rename_i hw
      exact ih _ _ _ _ _ _ _ _ (.skip hc hk ho hok hw) (by simp; omega) (hl' _ (by simp)) (hz' _ (by simp)) h
    · cases h

theorem isWr_iff {wr : Option Nat} {b : Nat} : isWr wr b = true ↔ wr = some b := by
  cases wr with
  | none => simp [isWr]
  | some x => simp only [isWr, Option.some.injEq]; exact ⟨Nat.eq_of_beq_eq_true, fun h => by rw [h]; exact Nat.beq_refl _⟩

def Frz (o0 o : Obj) : Prop := (∃ c e fz, o0 = .cells c e fz ∧ o = .cells c e (0, 1)) ∨ ∃ es c, o0 = .map es c ∧ o = .map es big
theorem mem_inb : ∀ (l : List (Nat × Obj)) (m : Nat), inb m l = true → ∀ b o, (b, o) ∈ l → b < m ∧ find l b = some o
  | [], m, _, b, o, h => by cases h
  | (k, x) :: r, m, hi, b, o, h => by
    simp only [inb, Bool.and_eq_true, Nat.blt_eq] at hi
    rcases List.mem_cons.1 h with h | h
    · cases h; exact ⟨hi.1, by simp [find]⟩
    · obtain ⟨h1, h2⟩ := mem_inb r k hi.2 b o h
      refine ⟨by omega, ?_⟩
      simp only [find]
      rw [beq_ne (by omega)]
      exact h2
theorem find_mem : ∀ (l : List (Nat × Obj)) (b : Nat) (o : Obj), find l b = some o → (b, o) ∈ l
  | [], b, o, h => by cases h
  | (k, x) :: r, b, o, h => by
    simp only [find] at h
    split at h
    · rename_i hk
      have := Nat.eq_of_beq_eq_true hk
      subst this; cases h; simp
    · exact List.mem_cons_of_mem _ (find_mem r b o h)
theorem mem_freeze : ∀ (l : List (Nat × Obj)) (b : Nat) (o : Obj), (b, o) ∈ freezeAll l → ∃ o0, (b, o0) ∈ l ∧ Frz o0 o
  | [], b, o, h => by cases h
  | (k, x) :: r, b, o, h => by
    have rec' : (b, o) ∈ freezeAll r → ∃ o0, (b, o0) ∈ (k, x) :: r ∧ Frz o0 o := fun h =>
      let ⟨o0, h1, h2⟩ := mem_freeze r b o h; ⟨o0, List.mem_cons_of_mem _ h1, h2⟩
    cases x with
    | cells c e fz =>
      simp only [freezeAll] at h
      rcases List.mem_cons.1 h with h | h
      · cases h; exact ⟨_, by simp, .inl ⟨c, e, fz, rfl, rfl⟩⟩
      · exact rec' h
    | map es c =>
      simp only [freezeAll] at h
      rcases List.mem_cons.1 h with h | h
      · cases h; exact ⟨_, by simp, .inr ⟨es, c, rfl, rfl⟩⟩
      · exact rec' h
    | _ => simp only [freezeAll] at h; exact rec' h
theorem mem_visible {A : Nat} {recs : List Rec} : ∀ (l : List (Nat × Obj)) (b : Nat) (o : Obj), (b, o) ∈ visible A recs l → (b, o) ∈ l ∧ hid A recs b = false
  | [], b, o, h => by cases h
  | (k, x) :: r, b, o, h => by
    simp only [visible] at h
    split at h
    · obtain ⟨h1, h2⟩ := mem_visible r b o h; exact ⟨List.mem_cons_of_mem _ h1, h2⟩
    · rename_i hh
      rcases List.mem_cons.1 h with h | h
      · cases h; exact ⟨by simp, hh⟩
      · obtain ⟨h1, h2⟩ := mem_visible r b o h; exact ⟨List.mem_cons_of_mem _ h1, h2⟩
theorem mem_pick {V : View} {wr : Option Nat} : ∀ (l : List Nat) (b : Nat) (o : Obj), (b, o) ∈ pick1 V wr l → memN b l = true ∧ ∃ o0, find V.objs b = some o0 ∧ ((isWr wr b = true ∧ o = o0) ∨ (isWr wr b = false ∧ Frz o0 o))
  | [], b, o, h => by cases h
  | x :: r, b, o, h => by
    have rec' : (b, o) ∈ pick1 V wr r → memN b (x :: r) = true ∧ ∃ o0, find V.objs b = some o0 ∧ ((isWr wr b = true ∧ o = o0) ∨ (isWr wr b = false ∧ Frz o0 o)) := fun h =>
      let ⟨h1, h2⟩ := mem_pick r b o h; ⟨by simp [memN, h1], h2⟩
    simp only [pick1] at h
    split at h
    · rename_i o0 hf
      split at h
      · rename_i hw
        rcases List.mem_cons.1 h with h | h
        · cases h; exact ⟨by simp [memN], _, hf, .inl ⟨hw, rfl⟩⟩
        · exact rec' h
      · rename_i hw
        rcases List.mem_append.1 h with h | h
        · obtain ⟨o1, h1, h2⟩ := mem_freeze _ _ _ h
          simp at h1
          obtain ⟨rfl, rfl⟩ := h1
          exact ⟨by simp [memN], _, hf, .inr ⟨hw, h2⟩⟩
        · exact rec' h
    · exact rec' h
theorem pick_wr {V : View} {wr : Option Nat} {b : Nat} (hb : wr = some b) (hf : (find V.objs b).isSome = true) : ∀ (l : List Nat), memN b l = true → (find (pick1 V wr l) b).isSome = true
  | [], h => by cases h
  | x :: r, h => by
    have skipOne : ∀ (p : List (Nat × Obj)), (∀ k o, (k, o) ∈ p → k ≠ b) → (find (pick1 V wr r) b).isSome = true → (find (p ++ pick1 V wr r) b).isSome = true := by
      intro p
      induction p with
      | nil => intro _ h; exact h
      | cons q p ih =>
        obtain ⟨k, o⟩ := q
        intro hp h
        simp only [List.cons_append, find]
        rw [beq_ne (hp k o (by simp))]
        exact ih (fun k o hm => hp k o (List.mem_cons_of_mem _ hm)) h
    simp only [pick1]
    by_cases hx : x = b
    · subst hx
      cases hq : find V.objs x with
      | none => rw [hq] at hf; cases hf
      | some o =>
        simp only [isWr_iff.2 hb, find, Nat.beq_refl]
        rfl
    · have hm : memN b r = true := by simpa [memN, beq_ne hx] using h
      have ih := pick_wr hb hf r hm
      split
      · rename_i o hq
        split
        · simp only [find]; rw [beq_ne hx]; exact ih
        · refine skipOne _ (fun k o' hk => ?_) ih
          obtain ⟨o1, h1, _⟩ := mem_freeze _ _ _ hk
          simp at h1
          rw [h1.1]; exact hx
      · exact ih
theorem anyHid_false {A : Nat} {recs : List Rec} : ∀ (l : List Nat) (b : Nat), anyHid A recs l = false → memN b l = true → hid A recs b = false
  | [], b, _, h => by cases h
  | x :: r, b, h, hm => by
    simp only [anyHid, Bool.or_eq_false_iff] at h
    simp only [memN, Bool.or_eq_true] at hm
    rcases hm with hm | hm
    · rw [← Nat.eq_of_beq_eq_true hm]; exact h.1
    · exact anyHid_false r b h.2 hm
theorem view_spec {A : Nat} {recs : List Rec} {V vi : View} {wr : Option Nat} {foot : Foot} (hi : inb V.next V.objs = true) (h : viewFor A recs V foot = some (vi, wr)) :
    vi.next = V.next ∧ (∀ b o, find vi.objs b = some o → hid A recs b = false ∧ ∃ o0, V.get b = some o0 ∧ ((isWr wr b = true ∧ o = o0) ∨ (isWr wr b = false ∧ Frz o0 o))) ∧
      (∀ b, wr = some b → hid A recs b = false ∧ clash A recs b = false ∧ (find vi.objs b).isSome = true) := by
  cases foot with
  | none =>
    simp only [viewFor] at h
    cases h
    exact ⟨rfl, (fun b o h => by cases h), (fun b h => by cases h)⟩
  | all =>
    simp only [viewFor] at h
    cases h
    refine ⟨rfl, fun b o h => ?_, (fun b h => by cases h)⟩
    obtain ⟨o0, h1, h2⟩ := mem_freeze _ _ _ (find_mem _ _ _ h)
    obtain ⟨h3, h4⟩ := mem_visible _ _ _ h1
    exact ⟨h4, o0, (mem_inb _ _ hi _ _ h3).2, .inr ⟨rfl, h2⟩⟩
  | some l wr' =>
    simp only [viewFor] at h
    split at h
    · cases h
    · rename_i hc
      cases h
      simp only [Bool.or_eq_false_iff] at hc
      refine ⟨rfl, fun b o h => ?_, fun b hb => ?_⟩
      · obtain ⟨h1, h2⟩ := mem_pick _ _ _ (find_mem _ _ _ h)
        exact ⟨anyHid_false l b hc.1 h1, h2⟩
      · subst hb
        have h2 := hc.2
        simp only [Bool.or_eq_false_iff, Bool.not_eq_false'] at h2
        exact ⟨anyHid_false l b hc.1 h2.2, h2.1.1, pick_wr rfl h2.1.2 l h2.2⟩

theorem goodOut_spec {n m : Nat} {wr : Option Nat} : ∀ (l : List (Nat × Obj)), goodOut n wr m l = true → ∀ b o, find l b = some o → b < m ∧ (owned o = true ∨ (b < n ∧ isWr wr b = false))
  | [], _, b, o, h => by cases h
  | (k, x) :: r, hg, b, o, h => by
    simp only [goodOut, Bool.and_eq_true, Nat.blt_eq] at hg
    simp only [find] at h
    split at h
    · rename_i hk
      have := Nat.eq_of_beq_eq_true hk
      subst this; cases h
      refine ⟨hg.1.1, ?_⟩
      have h2 := hg.1.2
      simp only [Bool.or_eq_true, Bool.not_eq_true', Bool.or_eq_false_iff] at h2
      rcases h2 with h2 | ⟨h2, h3⟩
      · exact .inl h2
      · refine .inr ⟨?_, h3⟩
        rcases Nat.lt_or_ge k n with h4 | h4
        · exact h4
        · rw [Nat.ble_eq_true_of_le h4] at h2; cases h2
    · exact goodOut_spec r hg.2 b o h
theorem find_newer (n : Nat) (base : List (Nat × Obj)) : ∀ (l : List (Nat × Obj)) (b : Nat), find (newer n l base) b = if n ≤ b then (find l b).or (find base b) else find base b
  | [], b => by simp [newer, find]
  | (k, x) :: r, b => by
    simp only [newer]
    split
    · rename_i hk
      have hk := Nat.le_of_ble_eq_true hk
      simp only [find]
      by_cases hkb : k = b
      · subst hkb; simp [hk]
      · rw [beq_ne hkb]; simp only [find_newer n base r b]
    · rename_i hk
      rw [find_newer n base r b]
      have hk : ¬ n ≤ k := fun h => by rw [Nat.ble_eq_true_of_le h] at hk; cases hk
      by_cases hnb : n ≤ b
      · rw [if_pos hnb, if_pos hnb]
        simp only [find]
        rw [beq_ne (by omega)]
      · rw [if_neg hnb, if_neg hnb]

/-- the state behind some operations, as the text's order has it -/
theorem coll_state {recs : List Rec} {ts : List Value} {V : View} (hV0 : ∀ b o, V0.get b = some o → b < V0.next) (hc : Coll P sf ops k0 ts0 V0 recs ts V) :
    ts = stT ops (fun _ => true) ts0 recs ∧ (∀ b, V.get b = stG (fun _ => true) V0.get recs b) ∧ (∀ b o, V.get b = some o → b < V.next) ∧ V0.next ≤ V.next := by
  induction hc with
  | nil k hk => exact ⟨(stT_dummies k).symm, fun b => (stG_dummies b k).symm, hV0, Nat.le_refl _⟩
  | @run recs ts V o vi vo wr v hc hk ho hok hw hv ha hg hi hn ih =>
    obtain ⟨h1, h2, h3, h4⟩ := ih
    obtain ⟨e1, e2, e3⟩ := view_spec hi hv
    have hget : ∀ b, View.get ⟨vo.next, newer V.next vo.objs (turned wr vo V.objs)⟩ b = if touch ⟨vi, v, vo, wr⟩ b = true then find vo.objs b else V.get b := by
      intro b
      show find _ b = _
      rw [find_newer]
      have hVn : V.next ≤ b → V.get b = none := by
        intro hb
        cases hq : V.get b with
        | none => rfl
        | some o => have := h3 b o hq; omega
      have hvo : vo.next ≤ b → find vo.objs b = none := by
        intro hb
        cases hq : find vo.objs b with
        | none => rfl
        | some o => have := (goodOut_spec _ hg b o hq).1; omega
      have hturn : find (turned wr vo V.objs) b = if isWr wr b = true then find vo.objs b else V.get b := by
        unfold turned
        cases wr with
        | none => simp [isWr]; rfl
        | some x =>
          dsimp only
          by_cases hx : x = b
          · subst hx
            have hw1 : isWr (some x) x = true := by simp [isWr]
            rw [if_pos hw1]
            have hin : (find V.objs x).isSome = true := by
              obtain ⟨_, _, hsome⟩ := e3 x rfl
              cases hq : find vi.objs x with
              | none => rw [hq] at hsome; cases hsome
              | some o' =>
                obtain ⟨_, o0, h5, _⟩ := e2 x o' hq
                have h5 : find V.objs x = some o0 := h5
                rw [h5]; rfl
            cases hq : find vo.objs x with
            | none => simp [find_drop]
            | some o' =>
              rw [find_put, if_pos rfl]
              cases hq2 : find V.objs x with
              | none => rw [hq2] at hin; cases hin
              | some o2 => rfl
          · have hw1 : ¬ isWr (some x) b = true := by simp [isWr, hx]
            rw [if_neg hw1]
            cases hq : find vo.objs x with
            | none => simp only; rw [find_drop, if_neg (fun e => hx e.symm)]; rfl
            | some o' => simp only; rw [find_put, if_neg (fun e => hx e.symm)]; rfl
      rw [hturn]
      by_cases hnb : V.next ≤ b
      · rw [if_pos hnb]
        by_cases hw1 : isWr wr b = true
        · have : touch ⟨vi, v, vo, wr⟩ b = true := by simp [touch, hw1]
          rw [if_pos hw1, if_pos this]; cases find vo.objs b <;> rfl
        · rw [if_neg hw1, hVn hnb]
          by_cases hvb : b < vo.next
          · have : touch ⟨vi, v, vo, wr⟩ b = true := by simp [touch, e1, hnb, hvb]
            rw [if_pos this]; cases find vo.objs b <;> rfl
          · rw [hvo (by omega)]; simp
      · rw [if_neg hnb]
        by_cases hw1 : isWr wr b = true
        · have : touch ⟨vi, v, vo, wr⟩ b = true := by simp [touch, hw1]
          rw [if_pos hw1, if_pos this]
        · have : ¬ touch ⟨vi, v, vo, wr⟩ b = true := by
            simp [touch, hw1, e1]; omega
          rw [if_neg hw1, if_neg this]
    refine ⟨?_, fun b => ?_, fun b o hb => ?_, by show V0.next ≤ vo.next; omega⟩
    · simp only [stT, ← h1]
      rw [ho]; rfl
    · rw [hget b]
      simp only [stG, Bool.true_and]
      by_cases ht : touch ⟨vi, v, vo, wr⟩ b = true
      · rw [if_pos ht, ht]
      · rw [if_neg ht, h2 b]
        rw [show touch ⟨vi, v, vo, wr⟩ b = false by simpa using ht]
    · rw [hget b] at hb
      show b < vo.next
      split at hb
      · exact (goodOut_spec _ hg b o hb).1
      · have := h3 b o hb; omega
  | @skip recs ts V o hc hk ho hok hw ih =>
    obtain ⟨h1, h2, h3, h4⟩ := ih
    refine ⟨?_, fun b => ?_, h3, h4⟩
    · simp only [stT, ← h1]
      rw [ho]; rfl
    · simp only [stG, Bool.true_and]
      have : touch ⟨⟨V.next, []⟩, undef, ⟨V.next, []⟩, none⟩ b = false := by
        cases hq : touch ⟨⟨V.next, []⟩, undef, ⟨V.next, []⟩, none⟩ b with
        | false => rfl
        | true =>
          simp only [touch, isWr, Bool.false_or, Bool.and_eq_true, Nat.blt_eq] at hq
          have := Nat.le_of_ble_eq_true hq.1
          omega
      rw [this]; exact h2 b
end Go.Vm
/- A region that draws its order: the states of the operations that have come so far. -/
namespace Go.Vm
variable {P : Program} {sf : Job → Option Out} {ops : Array Oper} {k0 : Nat} {ts0 : List Value} {V0 : View}

theorem coll_next {recs : List Rec} {ts : List Value} {V : View} (hc : Coll P sf ops k0 ts0 V0 recs ts V) : ∀ r, r ∈ recs → r.vi.next ≤ r.vo.next ∧ r.vo.next ≤ V.next := by
  induction hc with
  | nil k hk =>
    intro r hr
    clear hk
    induction k with
    | zero => cases hr
    | succ k ih =>
      rcases List.mem_cons.1 hr with rfl | hr
      · exact ⟨Nat.le_refl _, Nat.le_refl _⟩
      · exact ih hr
  | @run recs ts V o vi vo wr v hc hk ho hok hw hv ha hg hi hn ih =>
    intro r hr
    have e1 := (view_spec hi hv).1
    rcases List.mem_cons.1 hr with rfl | hr
    · exact ⟨hn, Nat.le_refl _⟩
    · have := ih r hr
      exact ⟨this.1, by show r.vo.next ≤ vo.next; omega⟩
  | @skip recs ts V o hc hk ho hok hw ih =>
    intro r hr
    rcases List.mem_cons.1 hr with rfl | hr
    · exact ⟨Nat.le_refl _, Nat.le_refl _⟩
    · exact ih r hr
theorem coll_suffix : ∀ (later : List Rec) {recs : List Rec} {ts : List Value} {V : View}, Coll P sf ops k0 ts0 V0 (later ++ recs) ts V → ∃ ts' V', Coll P sf ops k0 ts0 V0 recs ts' V'
  | [], _, _, _, h => ⟨_, _, h⟩
  | x :: later, recs, ts, V, h => by
    rw [List.cons_append] at h
    generalize hq : x :: (later ++ recs) = l at h
    cases h with
    | nil k hk => obtain ⟨j, rfl, hl, _⟩ := dummies_cons hq; exact coll_suffix later (ts := ts0) (V := V0) (by rw [hl]; exact .nil j (by omega))
    | run hc => cases hq; exact coll_suffix later hc
    | skip hc => cases hq; exact coll_suffix later hc

theorem hid_app {A : Nat} {b : Nat} {r : Rec} {rest : List Rec} (hA : A.testBit rest.length = false) : ∀ (l : List Rec), hid A (l ++ r :: rest) b = false → touch r b = false
  | [], h => by
    simp only [List.nil_append, hid, hA, Bool.not_false, Bool.true_and, Bool.or_eq_false_iff] at h
    exact h.1
  | x :: l, h => by
    simp only [List.cons_append, hid, Bool.or_eq_false_iff] at h
    exact hid_app hA l h.2
theorem clash_app {A : Nat} {b : Nat} {r : Rec} {rest : List Rec} (hA : A.testBit rest.length = false) : ∀ (l : List Rec), clash A (l ++ r :: rest) b = false → (find r.vi.objs b).isSome = false
  | [], h => by
    simp only [List.nil_append, clash, hA, Bool.not_false, Bool.true_and, Bool.or_eq_false_iff] at h
    exact h.1
  | x :: l, h => by
    simp only [List.cons_append, clash, Bool.or_eq_false_iff] at h
    exact clash_app hA l h.2

theorem later_untouched {S : Nat → Bool} {g0 : Nat → Option Obj} {r : Rec} {rest : List Rec} {b : Nat} (hb : (find r.vi.objs b).isSome = true ∨ touch r b = true) (hbn : b < r.vo.next)
    (hA : ∀ j, rest.length < j → S j = true → ((Region.before ops).getD j 0).testBit rest.length = false) :
    ∀ (later : List Rec) {ts : List Value} {V : View}, Coll P sf ops k0 ts0 V0 (later ++ r :: rest) ts V → stG S g0 (later ++ r :: rest) b = stG S g0 (r :: rest) b
  | [], _, _, _ => rfl
  | x :: later, ts, V, h => by
    rw [List.cons_append] at h ⊢
    generalize hq : x :: (later ++ r :: rest) = l at h
    have hidx : rest.length < (later ++ r :: rest).length := by simp; omega
    have key : ∀ {ts' : List Value} {V' : View}, Coll P sf ops k0 ts0 V0 (later ++ r :: rest) ts' V' → (S (later ++ r :: rest).length = true → touch x b = false) → stG S g0 (x :: (later ++ r :: rest)) b = stG S g0 (r :: rest) b := by
      intro ts' V' hc ht
      simp only [stG]
      have : (S (later ++ r :: rest).length && touch x b) = false := by
        cases hS : S (later ++ r :: rest).length with
        | false => rfl
        | true => simpa [hS] using ht hS
      rw [this]
      exact later_untouched hb hbn hA later hc
    cases h with
    | nil k hk => obtain ⟨j, rfl, hl, _, _, ht⟩ := dummies_cons hq; rw [← hq]; exact key (ts' := ts0) (V' := V0) (by rw [hl]; exact .nil j (by omega)) (fun _ => ht b)
    | @run recs ts' V' o vi vo wr v hc hk ho hok hw hv ha hg hi hn =>
      cases hq
      refine key hc fun hS => ?_
      obtain ⟨e1, _, e3⟩ := view_spec hi hv
      have hAj := hA _ hidx hS
      cases hT : touch ⟨vi, v, vo, wr⟩ b with
      | false => rfl
      | true =>
        exfalso
        simp only [touch, Bool.or_eq_true, Bool.and_eq_true, Nat.blt_eq] at hT
        rcases hT with hT | ⟨hT, _⟩
        · obtain ⟨h1, h2, _⟩ := e3 b (isWr_iff.1 hT)
          have h3 := hid_app hAj later h1
          have h4 := clash_app hAj later h2
          rcases hb with hb | hb
          · rw [h4] at hb; cases hb
          · rw [h3] at hb; cases hb
        · have := Nat.le_of_ble_eq_true hT
          have := (coll_next hc r (by simp)).2
          omega
    | @skip recs ts' V' o hc hk ho hok hw =>
      cases hq
      refine key hc fun hS => ?_
      cases hT : touch ⟨⟨V.next, []⟩, undef, ⟨V.next, []⟩, none⟩ b with
      | false => rfl
      | true =>
        simp only [touch, isWr, Bool.false_or, Bool.and_eq_true, Nat.blt_eq] at hT
        have := Nat.le_of_ble_eq_true hT.1
        omega

theorem stG_congr {S S' : Nat → Bool} {g0 : Nat → Option Obj} : ∀ (l : List Rec), (∀ j, j < l.length → S j = S' j) → ∀ b, stG S g0 l b = stG S' g0 l b
  | [], _, b => rfl
  | r :: l, h, b => by
    simp only [stG]
    rw [h l.length (by simp), stG_congr l (fun j hj => h j (by simp; omega)) b]
/-- below it, all that turned b is there -/
theorem stG_all {S : Nat → Bool} {g0 : Nat → Option Obj} {b : Nat} {A : Nat} : ∀ (l : List Rec), hid A l b = false → (∀ j, j < l.length → A.testBit j = true → S j = true) → stG S g0 l b = stG (fun _ => true) g0 l b
  | [], _, _ => rfl
  | r :: l, h, hA => by
    simp only [hid, Bool.or_eq_false_iff, Bool.and_eq_false_iff, Bool.not_eq_false'] at h
    simp only [stG, Bool.true_and]
    have ih := stG_all (S := S) (g0 := g0) l h.2 (fun j hj => hA j (by simp; omega))
    rcases h.1 with h1 | h1
    · rw [hA l.length (by simp) h1, Bool.true_and, ih]
    · rw [h1, Bool.and_false]; exact ih

theorem stT_len {S : Nat → Bool} : ∀ (l : List Rec), (stT ops S ts0 l).length = ts0.length
  | [] => rfl
  | r :: l => by
    simp only [stT]
    split
    · cases h : (ops[l.length]?).bind (·.dst) with
      | none => simp only [lput]; exact stT_len l
      | some d => simp only [lput, lset_eq, List.length_set]; exact stT_len l
    · exact stT_len l
theorem lget_lput (ts : List Value) (d : Option Tmp) (v : Value) (t : Nat) : lget (lput ts d v) t = if d = some t ∧ t < ts.length then v else lget ts t := by
  cases d with
  | none => simp [lput]
  | some d =>
    simp only [lput, lset_eq, lget_eq, Option.some.injEq]
    rw [List.getElem?_set]
    by_cases h : d = t
    · subst h
      by_cases h2 : d < ts.length
      · simp [h2]
      · have : ts[d]? = none := List.getElem?_eq_none_iff.2 (Nat.le_of_not_lt h2)
        simp [h2]
    · simp [h]
theorem stT_congr {S S' : Nat → Bool} : ∀ (l : List Rec), (∀ j, j < l.length → S j = S' j) → stT ops S ts0 l = stT ops S' ts0 l
  | [], _ => rfl
  | r :: l, h => by
    simp only [stT]
    rw [h l.length (by simp), stT_congr l (fun j hj => h j (by simp; omega))]
theorem stT_skip {S : Nat → Bool} {t : Nat} {base : List Rec} : ∀ (later : List Rec), (∀ j, base.length ≤ j → S j = true → (ops[j]?).bind (·.dst) ≠ some t) → lget (stT ops S ts0 (later ++ base)) t = lget (stT ops S ts0 base) t
  | [], _ => rfl
  | x :: later, h => by
    simp only [List.cons_append, stT]
    split
    · rename_i hS
      rw [lget_lput, if_neg (fun e => h _ (by simp) hS e.1)]
      exact stT_skip later h
    · exact stT_skip later h
theorem stT_all {S : Nat → Bool} {t : Nat} : ∀ (l : List Rec), (∀ j, j < l.length → (ops[j]?).bind (·.dst) = some t → S j = true) → lget (stT ops S ts0 l) t = lget (stT ops (fun _ => true) ts0 l) t
  | [], _ => rfl
  | r :: l, h => by
    have ih := stT_all (S := S) l (fun j hj => h j (by simp; omega))
    simp only [stT]
    rw [lget_lput]
    split
    · rw [lget_lput, stT_len, stT_len, ih]
    · rename_i hS
      rw [if_neg, ih]
      intro e
      rw [h l.length (by simp) e.1] at hS; cases hS
theorem stT_add {S S' : Nat → Bool} {r : Rec} {rest : List Rec} (hS : S rest.length = false) (hS' : S' rest.length = true) (hne : ∀ j, j ≠ rest.length → S' j = S j) {t : Nat}
    (hd : ∀ j, rest.length < j → (ops[rest.length]?).bind (·.dst) = some t → (ops[j]?).bind (·.dst) ≠ some t) :
    ∀ (later : List Rec), lget (stT ops S' ts0 (later ++ r :: rest)) t = if (ops[rest.length]?).bind (·.dst) = some t ∧ t < ts0.length then r.val else lget (stT ops S ts0 (later ++ r :: rest)) t
  | [] => by
    simp only [List.nil_append, stT, hS, hS']
    rw [lget_lput, stT_len, stT_congr (S := S') (S' := S) rest (fun j hj => hne j (by omega))]
  | x :: later => by
    have ih := stT_add (r := r) hS hS' hne hd later
    have hidx : rest.length < (later ++ r :: rest).length := by simp; omega
    simp only [List.cons_append, stT]
    rw [hne _ (by omega)]
    split
    · rw [lget_lput, lget_lput, ih, stT_len, stT_len]
      by_cases h1 : (ops[(later ++ r :: rest).length]?).bind (·.dst) = some t ∧ t < ts0.length
      · rw [if_pos h1, if_pos h1, if_neg]
        intro e
        exact hd _ hidx e.1 h1.1
      · rw [if_neg h1, if_neg h1]
    · exact ih
theorem stG_add {S S' : Nat → Bool} {g0 : Nat → Option Obj} {r : Rec} {rest : List Rec} (hS : S rest.length = false) (hne : ∀ j, j ≠ rest.length → S' j = S j) {b : Nat} (ht : touch r b = false) :
    ∀ (later : List Rec), stG S' g0 (later ++ r :: rest) b = stG S g0 (later ++ r :: rest) b
  | [] => by
    simp only [List.nil_append, stG, ht, Bool.and_false]
    exact stG_congr rest (fun j hj => hne j (by omega)) b
  | x :: later => by
    simp only [List.cons_append, stG]
    rw [hne _ (by simp; omega), stG_add hS hne ht later]
theorem stD_congr {S S' : Nat → Bool} {D : Nat → Prop} : ∀ (l : List Rec), (∀ j, j < l.length → S j = S' j) → ∀ b, stD S D l b ↔ stD S' D l b
  | [], _, b => Iff.rfl
  | r :: l, h, b => by
    simp only [stD]
    rw [h l.length (by simp), stD_congr l (fun j hj => h j (by simp; omega)) b]
theorem stD_add {S S' : Nat → Bool} {D : Nat → Prop} {r : Rec} {rest : List Rec} (hS : S rest.length = false) (hS' : S' rest.length = true) (hne : ∀ j, j ≠ rest.length → S' j = S j) (b : Nat) :
    ∀ (later : List Rec), stD S' D (later ++ r :: rest) b ↔ grow (stD S D (later ++ r :: rest)) r.vi.next r.vo.next b
  | [] => by
    simp only [List.nil_append, stD, hS, hS', grow]
    rw [stD_congr (S := S') (S' := S) rest (fun j hj => hne j (by omega)) b]
    simp
  | x :: later => by
    have ih := stD_add (D := D) (r := r) hS hS' hne b later
    simp only [List.cons_append, stD]
    rw [hne _ (by simp; omega), ih]
    unfold grow
    simp only []
    constructor
    · rintro ((h | h) | h)
      · exact .inl (.inl h)
      · exact .inr h
      · exact .inl (.inr h)
    · rintro ((h | h) | h)
      · exact .inl (.inl h)
      · exact .inr h
      · exact .inl (.inr h)
end Go.Vm
/- A region that draws its order: one operation more, whichever it is. -/
namespace Go.Vm
variable {P : Program} {sf : Job → Option Out} {ops : Array Oper} {k0 : Nat} {ts0 : List Value} {V0 : View}

structure Frm (ρ0 : Ren) (g0 : Nat → Option Obj) (n : Nat) (w0 : World) (ρ : Ren) (g : Nat → Option Obj) (m : Nat) (w : World) : Prop where
  b : ∀ k, ¬ (n ≤ k ∧ k < m) → ρ.b k = ρ0.b k
  o : ∀ k, ¬ (n ≤ k ∧ k < m) → ρ.o k = ρ0.o k
  sz : ∀ k, ¬ (n ≤ k ∧ k < m) → ρ.sz k = ρ0.sz k
  es : ∀ k, ¬ (n ≤ k ∧ k < m) → ρ.es k = ρ0.es k
  os : w.os = w0.os
  tape : w.tape = w0.tape
  output : w.output = w0.output
  size : w0.heap.size ≤ w.heap.size
  frame : ∀ k, k < w0.heap.size → (∀ b o, g0 b = some o → owned o = true → ρ0.b b ≠ k) → w.heap[k]? = w0.heap[k]?
  fresh : ∀ b o, g b = some o → owned o = true → w0.heap.size ≤ ρ.b b ∨ ∃ b0 o0, g0 b0 = some o0 ∧ owned o0 = true ∧ ρ.b b = ρ0.b b0

structure Inv (P : Program) (ops : Array Oper) (ts0 : List Value) (V0 : View) (D0 : Nat → Prop) (ρ0 : Ren) (w0 : World) (N : Nat) (df : List Nat) (full : List Rec) (S : Nat → Bool) (ρ : Ren) (a : Act) (w : World) : Prop where
  rel : WRel P ρ (stD S D0 full) (stG S V0.get full) w
  tmps : TRel ρ (stD S D0 full) (stT ops S ts0 full) a.tmps
  defers : DRel ρ (stD S D0 full) df a.defers
  frm : Frm ρ0 V0.get V0.next w0 ρ (stG S V0.get full) N w

theorem frz_unowned {o0 o : Obj} (h : Frz o0 o) : owned o = false := by
  rcases h with ⟨c, e, fz, rfl, rfl⟩ | ⟨es, c, rfl, rfl⟩
  · rfl
  · show Nat.blt big big = false
    cases hq : Nat.blt big big
    · rfl
    · rw [Nat.blt_eq] at hq; omega
/-- what some see of it, not to be written -/
theorem wrel_view {ρ : Ren} {D : Nat → Prop} {g g1 : Nat → Option Obj} {w : World} (h : WRel P ρ D g w) (hv : ∀ b o, g1 b = some o → ∃ o0, g b = some o0 ∧ (o = o0 ∨ Frz o0 o)) : WRel P ρ D g1 w := by
  refine ⟨fun b o hb => ?_, fun b o hb => ?_, fun b o hb ho => ?_, fun b cs e fz hb hz i v hi => ?_, fun b es c hb => ?_, fun b c x y hb hc hx hne => ?_⟩
  · obtain ⟨o0, h1, _⟩ := hv b o hb; exact h.dom b o0 h1
  · obtain ⟨o0, h1, _⟩ := hv b o hb; exact h.real b o0 h1
  · obtain ⟨o0, h1, rfl | h2⟩ := hv b o hb
    · exact h.own b _ h1 ho
    · rw [frz_unowned h2] at ho; cases ho
  · obtain ⟨o0, h1, h2 | h2⟩ := hv b _ hb
    · exact h.ro b cs e fz (by rw [h1, ← h2]) hz i v hi
    · rcases h2 with ⟨c, e', fz', rfl, h3⟩ | ⟨_, _, _, h3⟩
      case inr => cases h3
      cases h3
      by_cases h0 : fz'.2 = 0
      · obtain ⟨lo, hi'⟩ := fz'
        simp only at h0
        subst h0
        obtain ⟨h4, o', h5, h6⟩ := h.own b _ h1 rfl
        cases h6 with
        | cells hsz hes hle hvv =>
          obtain ⟨v', h7, h8⟩ := hvv i v hi
          exact ⟨v', by simp [World.cell?, h5, h4, h7], h8⟩
      · exact h.ro b _ _ fz' h1 h0 i v hi
  · obtain ⟨o0, h1, h2 | h2⟩ := hv b _ hb
    · exact h.rom b es c (by rw [h1, ← h2])
    · rcases h2 with ⟨_, _, _, _, h3⟩ | ⟨es0, c0, rfl, h3⟩
      · cases h3
      · cases h3; exact h.rom b _ c0 h1
  · obtain ⟨o0, h1, h2⟩ := hv b x hb
    obtain ⟨o1, h3, _⟩ := hv c y hc
    rcases h2 with rfl | h2
    · exact h.inj b c _ _ h1 h3 hx hne
    · rw [frz_unowned h2] at hx; cases hx

theorem lget_ext {xs ys : List Value} (hl : xs.length = ys.length) (h : ∀ t, lget xs t = lget ys t) : xs = ys := by
  apply List.ext_getElem hl
  intro i h1 h2
  have := h i
  rw [lget_eq, lget_eq, List.getElem?_eq_getElem h1, List.getElem?_eq_getElem h2] at this
  simpa using this
theorem wantedL_congr {ts ts' : List Value} {o : Oper} (h : ∀ t, t ∈ tmpsOf ops o → lget ts t = lget ts' t) : wantedL ops ts o = wantedL ops ts' o := by
  unfold wantedL
  cases hg : o.guard with
  | none => rfl
  | some p =>
    obtain ⟨j, want⟩ := p
    dsimp only
    cases hd : (ops[j]?).bind (·.dst) with
    | none => rfl
    | some d =>
      dsimp only
      rw [h d (by unfold tmpsOf; rw [hg]; simp [hd])]
theorem ev_tmps {ρ : Ren} {D : Nat → Prop} {ts ts' : List Value} {a : Act} {o : Oper} (h : ∀ t, t ∈ tmpsOf ops o → lget ts t = lget ts' t) (ht : TRel ρ D ts' a.tmps) (hok : okOps o = true) : ∀ x, x ∈ o.op.operands → VRel ρ D (ev ts x) (a.eval x) := by
  intro x hx
  have hc : okConst x = true := List.all_eq_true.1 hok x (by simpa using hx)
  cases x with
  | tmp t =>
    show VRel ρ D (lget ts t) _
    rw [h t (by unfold tmpsOf; simp only [List.mem_append, List.mem_filterMap]; exact .inl ⟨.tmp t, by simpa using hx, rfl⟩)]
    exact lget_rel ht t
  | _ => exact ev_rel ht hc

theorem stD_lt {S : Nat → Bool} {D : Nat → Prop} {b : Nat} {recs : List Rec} {ts : List Value} {V : View} (hc : Coll P sf ops k0 ts0 V0 recs ts V) : stD S D recs b → D b ∨ b < V.next := by
  intro h
  have : ∀ (l : List Rec), (∀ r, r ∈ l → r.vo.next ≤ V.next) → stD S D l b → D b ∨ b < V.next := by
    intro l
    induction l with
    | nil => intro _ h; exact .inl h
    | cons r l ih =>
      intro hl h
      rcases h with h | ⟨_, _, h⟩
      · exact ih (fun r hr => hl r (by simp [hr])) h
      · have := hl r (by simp); exact .inr (by omega)
  exact this recs (fun r hr => (coll_next hc r hr).2) h
theorem coll_head {r : Rec} {rest : List Rec} {ts : List Value} {V : View} (hc : Coll P sf ops k0 ts0 V0 (r :: rest) ts V) : ∃ ts' V', Coll P sf ops k0 ts0 V0 rest ts' V' ∧ r.vi.next = V'.next := by
  generalize hq : r :: rest = l at hc
  cases hc with
  | nil k hk => obtain ⟨j, rfl, hl, h1, _, _⟩ := dummies_cons hq; exact ⟨ts0, V0, by rw [hl]; exact .nil j (by omega), h1⟩
  | run hc hk ho hok hw hv ha hg hi hn => cases hq; exact ⟨_, _, hc, (view_spec hi hv).1⟩
  | skip hc => cases hq; exact ⟨_, _, hc, rfl⟩
theorem stD_not {S : Nat → Bool} {D : Nat → Prop} {r : Rec} {rest : List Rec} (hS : S rest.length = false) {b : Nat} (h1 : r.vi.next ≤ b) (h2 : b < r.vo.next) :
    ∀ (later : List Rec) {ts : List Value} {V : View}, Coll P sf ops k0 ts0 V0 (later ++ r :: rest) ts V → stD S D (later ++ r :: rest) b → D b
  | [], ts, V, hc, h => by
    obtain ⟨ts', V', hc', e⟩ := coll_head hc
    rcases h with h | ⟨h, _⟩
    · rcases stD_lt hc' h with h | h
      · exact h
      · omega
    · rw [hS] at h; cases h
  | x :: later, ts, V, hc, h => by
    obtain ⟨ts', V', hc', e⟩ := coll_head hc
    rcases h with h | ⟨_, h3, _⟩
    · exact stD_not hS h1 h2 later hc' h
    · have := (coll_next hc' r (by simp)).2
      omega

theorem draw_step (hP : Good P) (hs : SelfOK P sf) (hsh : Shape ops) {D0 : Nat → Prop} {ρ0 : Ren} {w0 : World} {df : List Nat} {later rest : List Rec} {r : Rec} {ts1 : List Value} {V1 : View} {S S' : Nat → Bool}
    (hV0 : ∀ b o, V0.get b = some o → b < V0.next) (hc : Coll P sf ops k0 ts0 V0 (later ++ r :: rest) ts1 V1) (hSi : S rest.length = false) (hS' : S' rest.length = true) (hne : ∀ j, j ≠ rest.length → S' j = S j) (hlow : ∀ j, j < k0 → S j = true)
    (hcl : ∀ j k, S j = true → ((Region.before ops).getD j 0).testBit k = true → S k = true) (hAi : ∀ k, ((Region.before ops).getD rest.length 0).testBit k = true → S k = true)
    (hd : ∀ b, V0.next ≤ b → b < V1.next → ¬ D0 b) {ρ : Ren} {a : Act} {w : World} (inv : Inv P ops ts0 V0 D0 ρ0 w0 V1.next df (later ++ r :: rest) S ρ a w)
    {n : Nat} {Q : Exit → Act → World → Prop} {ro : Option Nat} {K : Act → World → Prop} (hK : ∀ ρ' a' w', Inv P ops ts0 V0 D0 ρ0 w0 V1.next df (later ++ r :: rest) S' ρ' a' w' → K a' w') :
    wpOpIn (fence ro) n P ops Q rest.length K a w := by
  obtain ⟨tsr, Vr, hcr⟩ := coll_suffix later hc
  have hrn := coll_next hc r (by simp)
  have hnotin : ∀ j, rest.length < j → S j = true → ((Region.before ops).getD j 0).testBit rest.length = false := by
    intro j _ hj
    cases hq : ((Region.before ops).getD j 0).testBit rest.length with
    | false => rfl
    | true => rw [hcl j _ hj hq] at hSi; cases hSi
  have hnotin' : ∀ j, rest.length < j → S' j = true → ((Region.before ops).getD j 0).testBit rest.length = false := by
    intro j h1 h2; exact hnotin j h1 (by rw [← hne j (by omega)]; exact h2)
  have hlt : ∀ i k, ((Region.before ops).getD i 0).testBit k = true → i < ops.size := by
    intro i k h
    rcases Nat.lt_or_ge i ops.size with h1 | h1
    · exact h1
    · exfalso
      have hz : (Region.before ops).size = ops.size := by rw [before_eq]; have := (anc_list ops.toList #[]).1; simpa using this
      rw [Array.getD_eq_getD_getElem?, Array.getElem?_eq_none_iff.2 (by omega)] at h
      simp at h
  have bindDst : ∀ {j : Nat} {t : Nat}, (ops[j]?).bind (·.dst) = some t → ∃ q, ops[j]? = some q ∧ q.dst = some t := by
    intro j t h
    cases hq : ops[j]? with
    | none => rw [hq] at h; cases h
    | some q => rw [hq] at h; exact ⟨q, rfl, h⟩
  have hget : ∀ {o : Oper} {tsi : List Value} {Vi : View}, ops[rest.length]? = some o → Coll P sf ops k0 ts0 V0 rest tsi Vi → ∀ t, t ∈ tmpsOf ops o → lget tsi t = lget (stT ops S ts0 (later ++ r :: rest)) t := by
    intro o tsi Vi ho hci t ht
    rw [(coll_state hV0 hci).1]
    have e1 : lget (stT ops S ts0 (later ++ r :: rest)) t = lget (stT ops S ts0 rest) t := by
      have := stT_skip (ops := ops) (S := S) (ts0 := ts0) (t := t) (base := rest) (later ++ [r]) (fun j hj hSj hdj => by
        obtain ⟨q, hq1, hq2⟩ := bindDst hdj
        rcases hsh.tmp rest.length j o q t ho hq1 hq2 ht with h | h | h
        · rw [← h, hSi] at hSj; cases hSj
        · have := anc_lt hsh rest.length j (hlt _ _ h) h; omega
        · rw [hcl j _ hSj h] at hSi; cases hSi)
      simpa using this
    rw [e1]
    refine (stT_all rest fun j hj hdj => ?_).symm
    obtain ⟨q, hq1, hq2⟩ := bindDst hdj
    rcases hsh.tmp rest.length j o q t ho hq1 hq2 ht with h | h | h
    · omega
    · exact hAi j h
    · have := anc_lt hsh j rest.length (hlt _ _ h) h; omega
  have hdst : ∀ {o : Oper}, ops[rest.length]? = some o → ∀ v, r.val = v → stT ops S' ts0 (later ++ r :: rest) = lput (stT ops S ts0 (later ++ r :: rest)) o.dst v := by
    intro o ho v hv
    apply lget_ext
    · cases hdo : o.dst with
      | none => simp only [lput]; rw [stT_len, stT_len]
      | some d => simp only [lput, lset_eq, List.length_set]; rw [stT_len, stT_len]
    · intro t
      rw [lget_lput, stT_len]
      have := stT_add (ops := ops) (ts0 := ts0) (r := r) hSi hS' hne (t := t) (fun j hj h1 h2 => by
        obtain ⟨p, hp1, hp2⟩ := bindDst h1
        obtain ⟨q, hq1, hq2⟩ := bindDst h2
        have := hsh.dst _ _ p q t hp1 hq1 hp2 hq2
        omega) later
      rw [this, ho, hv]
      rfl
  have hD' : stD S' D0 (later ++ r :: rest) = grow (stD S D0 (later ++ r :: rest)) r.vi.next r.vo.next := by
    funext b; exact propext (stD_add hSi hS' hne b later)
  generalize hq : r :: rest = l at hcr
  cases hcr with
  | nil k hk =>
    obtain ⟨j, rfl, hl, _⟩ := dummies_cons hq
    have : rest.length = j := by rw [hl, dummies_length]
    rw [hlow _ (by omega)] at hSi; cases hSi
  | @skip recs tsi Vi o hci hkk ho hok hw =>
    cases hq
    have hg := hget ho hci
    have hwant := wanted_rel inv.tmps (by rw [← wantedL_congr hg]; exact hw)
    unfold wpOpIn
    rw [ho]
    simp only [hwant, Bool.false_eq_true, if_false]
    refine ⟨fun f _ => trivial, hK ρ _ w ?_⟩
    have hGG : stG S' V0.get (later ++ ⟨⟨Vr.next, []⟩, undef, ⟨Vr.next, []⟩, none⟩ :: rest) = stG S V0.get (later ++ ⟨⟨Vr.next, []⟩, undef, ⟨Vr.next, []⟩, none⟩ :: rest) := by
      funext b
      refine stG_add hSi hne ?_ later
      cases hT : touch ⟨⟨Vr.next, []⟩, undef, ⟨Vr.next, []⟩, none⟩ b with
      | false => rfl
      | true =>
        simp only [touch, isWr, Bool.false_or, Bool.and_eq_true, Nat.blt_eq] at hT
        have := Nat.le_of_ble_eq_true hT.1
        omega
    have hDD : stD S' D0 (later ++ ⟨⟨Vr.next, []⟩, undef, ⟨Vr.next, []⟩, none⟩ :: rest) = stD S D0 (later ++ ⟨⟨Vr.next, []⟩, undef, ⟨Vr.next, []⟩, none⟩ :: rest) := by
      rw [hD']; exact grow_nil
    refine ⟨by rw [hGG, hDD]; exact inv.rel, ?_, by rw [hDD, put_defers]; exact inv.defers, by rw [hGG]; exact inv.frm⟩
    rw [hDD, hdst ho undef rfl]
    exact lput_rel inv.tmps _ undef_rel
  | @run recs tsi Vi o vi vo wr v hci hkk ho hok hw hv ha hgo hi hn =>
    cases hq
    have hg := hget ho hci
    have hwant := wanted_rel inv.tmps (by rw [← wantedL_congr hg]; exact hw)
    obtain ⟨_, hVi, hVib, hVin⟩ := coll_state hV0 hci
    obtain ⟨e1, e2, e3⟩ := view_spec hi hv
    have hsee : ∀ b o', find vi.objs b = some o' → ∃ o0, stG S V0.get (later ++ ⟨vi, v, vo, wr⟩ :: rest) b = some o0 ∧ ((isWr wr b = true ∧ o' = o0) ∨ (isWr wr b = false ∧ Frz o0 o')) := by
      intro b o' hb
      obtain ⟨h1, o0, h2, h3⟩ := e2 b o' hb
      refine ⟨o0, ?_, h3⟩
      rw [later_untouched (r := ⟨vi, v, vo, wr⟩) (.inl (by show (find vi.objs b).isSome = true; rw [hb]; rfl)) (by show b < vo.next; have := hVib b o0 h2; omega) hnotin later hc]
      simp only [stG, hSi, Bool.false_and]
      rw [stG_all rest h1 (fun j _ hj => hAi j hj), ← hVi b]; exact h2
    have hpre : WRel P ρ (stD S D0 (later ++ ⟨vi, v, vo, wr⟩ :: rest)) vi.get w := wrel_view inv.rel fun b o' hb => by
      obtain ⟨o0, h1, h2⟩ := hsee b o' hb
      exact ⟨o0, h1, h2.imp And.right And.right⟩
    have hdis : ∀ b, vi.next ≤ b → b < vo.next → ¬ stD S D0 (later ++ ⟨vi, v, vo, wr⟩ :: rest) b := by
      intro b h1 h2 h3
      have := stD_not (r := ⟨vi, v, vo, wr⟩) hSi h1 h2 later hc h3
      refine hd b (by omega) ?_ this
      have : vo.next ≤ V1.next := hrn.2
      omega
    unfold wpOpIn
    rw [ho]
    simp only [hwant, if_true]
    refine op_wp hP hs ha (ev_tmps hg inv.tmps hok) hpre hdis ?_
    intro ρ2 v' w2 st hvr
    refine hK ρ2 _ w2 ?_
    have hag := st.agree hdis
    -- the state with this one
    have hG : ∀ b, stG S' V0.get (later ++ ⟨vi, v, vo, wr⟩ :: rest) b = if touch ⟨vi, v, vo, wr⟩ b = true then find vo.objs b else stG S V0.get (later ++ ⟨vi, v, vo, wr⟩ :: rest) b := by
      intro b
      by_cases ht : touch ⟨vi, v, vo, wr⟩ b = true
      · rw [if_pos ht]
        have hbn : b < vo.next := by
          have ht2 := ht
          simp only [touch, Bool.or_eq_true, Bool.and_eq_true, Nat.blt_eq] at ht2
          rcases ht2 with ht2 | ht2
          · obtain ⟨_, _, h3⟩ := e3 b (isWr_iff.1 ht2)
            cases hq : find vi.objs b with
            | none => rw [hq] at h3; cases h3
            | some o' =>
              obtain ⟨_, o0, h4, _⟩ := e2 b o' hq
              have := hVib b o0 h4
              omega
          · exact ht2.2
        rw [later_untouched (r := ⟨vi, v, vo, wr⟩) (.inr ht) hbn hnotin' later hc]
        simp only [stG, hS', ht, Bool.and_self]
      · rw [if_neg ht]
        exact stG_add hSi hne (by simpa using ht) later
    have hwr : ∀ b o', find vi.objs b = some o' → owned o' = true → isWr wr b = true ∧ stG S V0.get (later ++ ⟨vi, v, vo, wr⟩ :: rest) b = some o' := by
      intro b o' hb ho'
      obtain ⟨o0, h1, ⟨h2, rfl⟩ | ⟨_, h2⟩⟩ := hsee b o' hb
      · exact ⟨h2, h1⟩
      · rw [frz_unowned h2] at ho'; cases ho'
    have hsame : ∀ b o', touch ⟨vi, v, vo, wr⟩ b = false → stG S V0.get (later ++ ⟨vi, v, vo, wr⟩ :: rest) b = some o' → ρ2.b b = ρ.b b ∧ ρ2.o b = ρ.o b ∧ w2.heap[ρ.b b]? = w.heap[ρ.b b]? := by
      intro b o' ht hb
      have hDb := inv.rel.dom _ _ hb
      refine ⟨hag.b _ hDb, hag.o _ hDb, st.frame _ (inv.rel.real _ _ hb) fun b0 o0 hb0 ho0 => ?_⟩
      obtain ⟨h1, h2⟩ := hwr b0 o0 hb0 ho0
      refine inv.rel.inj b0 b _ _ h2 hb ho0 fun e => ?_
      subst e
      simp [touch, h1] at ht
    have hown : ∀ b o', touch ⟨vi, v, vo, wr⟩ b = true → find vo.objs b = some o' → owned o' = true := by
      intro b o' ht hb
      rcases (goodOut_spec _ hgo b o' hb).2 with h | ⟨h1, h2⟩
      · exact h
      · exfalso
        simp only [touch, h2, Bool.false_or, Bool.and_eq_true] at ht
        have := Nat.le_of_ble_eq_true ht.1
        omega
    have hfr : ∀ b o', touch ⟨vi, v, vo, wr⟩ b = true → find vo.objs b = some o' → w.heap.size ≤ ρ2.b b ∨ ∃ b0 o0, stG S V0.get (later ++ ⟨vi, v, vo, wr⟩ :: rest) b0 = some o0 ∧ owned o0 = true ∧ isWr wr b0 = true ∧ ρ2.b b = ρ.b b0 := by
      intro b o' ht hb
      rcases st.fresh b o' hb (hown b o' ht hb) with h | ⟨b0, o0, h1, h2, h3⟩
      · exact .inl h
      · obtain ⟨h4, h5⟩ := hwr b0 o0 h1 h2
        exact .inr ⟨b0, o0, h5, h2, h4, h3⟩
    have tw : ∀ b, isWr wr b = true → touch ⟨vi, v, vo, wr⟩ b = true := fun b h => by simp [touch, h]
    refine ⟨?_, ?_, ?_, ?_⟩
    · rw [hD']
      refine ⟨fun b o' hb => ?_, fun b o' hb => ?_, fun b o' hb ho' => ?_, fun b cs e fz hb hz i x hx => ?_, fun b es c hb => ?_, fun b c x y hb hcc hx hbc => ?_⟩
      · rw [hG] at hb; split at hb
        · exact st.rel.dom _ _ hb
        · exact .inl (inv.rel.dom _ _ hb)
      · rw [hG] at hb; split at hb
        · exact st.rel.real _ _ hb
        · rename_i ht
          obtain ⟨h1, _, _⟩ := hsame b o' (by simpa using ht) hb
          rw [h1]; have := inv.rel.real _ _ hb; have := st.size; omega
      · rw [hG] at hb; split at hb
        · exact st.rel.own _ _ hb ho'
        · rename_i ht
          obtain ⟨h1, h2, h3⟩ := hsame b o' (by simpa using ht) hb
          obtain ⟨h4, x', h5, h6⟩ := inv.rel.own _ _ hb ho'
          exact ⟨by rw [h2]; exact h4, x', by rw [h1, h3]; exact h5, h6.ext hag (fun k hk => .inl hk) (inv.rel.dom _ _ hb)⟩
      · rw [hG] at hb; split at hb
        · exact st.rel.ro _ _ _ _ hb hz i x hx
        · rename_i ht
          obtain ⟨h1, h2, h3⟩ := hsame b _ (by simpa using ht) hb
          obtain ⟨v2, h4, h5⟩ := inv.rel.ro _ _ _ _ hb hz i x hx
          refine ⟨v2, ?_, h5.ext hag (fun k hk => .inl hk)⟩
          rw [h1, h2, ← h4]; unfold World.cell?; rw [h3]
      · rw [hG] at hb; split at hb
        · exact st.rel.rom _ _ _ hb
        · rename_i ht
          obtain ⟨h1, h2, h3⟩ := hsame b _ (by simpa using ht) hb
          obtain ⟨es', c', h4, h5⟩ := inv.rel.rom _ _ _ hb
          exact ⟨es', c', by rw [h1, h3]; exact h4, h5.mono fun _ _ r => r.ext hag (fun k hk => .inl hk)⟩
      · rw [hG] at hb hcc
        split at hb
        · rename_i ht
          split at hcc
          · exact st.rel.inj _ _ _ _ hb hcc hx hbc
          · rename_i htc
            obtain ⟨h1, _, _⟩ := hsame c y (by simpa using htc) hcc
            rw [h1]
            rcases hfr b x ht hb with h | ⟨b0, o0, h2, h3, h4, h5⟩
            · have := inv.rel.real _ _ hcc; omega
            · rw [h5]
              exact inv.rel.inj b0 c _ _ h2 hcc h3 fun e => by subst e; exact htc (tw _ h4)
        · rename_i ht
          obtain ⟨h1, _, _⟩ := hsame b x (by simpa using ht) hb
          rw [h1]
          split at hcc
          · rename_i htc
            rcases hfr c y htc hcc with h | ⟨b0, o0, h2, h3, h4, h5⟩
            · have := inv.rel.real _ _ hb; omega
            · rw [h5]
              exact inv.rel.inj b b0 _ _ hb h2 hx fun e => by subst e; exact ht (tw _ h4)
          · rename_i htc
            obtain ⟨h6, _, _⟩ := hsame c y (by simpa using htc) hcc
            rw [h6]
            exact inv.rel.inj _ _ _ _ hb hcc hx hbc
    · rw [hD', hdst ho v rfl]
      exact lput_rel (inv.tmps.ext hag fun _ h => .inl h) _ hvr
    · rw [hD', put_defers]
      exact inv.defers.ext hag fun _ h => .inl h
    · have hrange : ∀ k, ¬ (V0.next ≤ k ∧ k < V1.next) → ¬ (vi.next ≤ k ∧ k < vo.next) := by
        intro k h1 h2
        have : vo.next ≤ V1.next := hrn.2
        exact h1 (by omega)
      have f := inv.frm
      refine ⟨fun k hk => (st.b k (hrange k hk)).trans (f.b k hk), fun k hk => (st.o k (hrange k hk)).trans (f.o k hk), fun k hk => (st.sz k (hrange k hk)).trans (f.sz k hk), fun k hk => (st.es k (hrange k hk)).trans (f.es k hk),
        st.os.trans f.os, st.tape.trans f.tape, st.output.trans f.output, Nat.le_trans f.size st.size, fun k hk hn' => ?_, fun b o' hb ho' => ?_⟩
      · rw [← f.frame k hk hn']
        refine st.frame k (Nat.lt_of_lt_of_le hk f.size) fun b0 o0 hb0 ho0 e => ?_
        obtain ⟨h1, h2⟩ := hwr b0 o0 hb0 ho0
        rcases f.fresh b0 o0 h2 ho0 with h | ⟨b1, o1, h3, h4, h5⟩
        · omega
        · exact hn' b1 o1 h3 h4 (by rw [← h5]; exact e)
      · rw [hG] at hb; split at hb
        · rename_i ht
          rcases hfr b o' ht hb with h | ⟨b0, o0, h2, h3, h4, h5⟩
          · exact .inl (Nat.le_trans f.size h)
          · rcases f.fresh b0 o0 h2 h3 with h | ⟨b1, o1, h6, h7, h8⟩
            · exact .inl (by rw [h5]; exact h)
            · exact .inr ⟨b1, o1, h6, h7, h5.trans h8⟩
        · rename_i ht
          obtain ⟨h1, _, _⟩ := hsame b o' (by simpa using ht) hb
          rcases f.fresh b o' hb ho' with h | ⟨b1, o1, h6, h7, h8⟩
          · exact .inl (by rw [h1]; exact h)
          · exact .inr ⟨b1, o1, h6, h7, h1.trans h8⟩
end Go.Vm
/- The machine of the small memory is sound. -/
namespace Go.Vm
variable {P : Program} {sf : Job → Option Out} {ops : Array Oper} {k0 : Nat} {ts0 : List Value} {V0 : View}

theorem getD_false_of (listed : Array Bool) (i : Nat) (hi : i < listed.size) : listed.getD i true = listed.getD i false := by simp [hi]
theorem exists_unlisted : ∀ (k : Nat) (listed : Array Bool), (∃ i, i < k ∧ listed.getD i false = false) → ∃ i, i < k ∧ listed.getD i false = false ∧ ∀ j, j < i → listed.getD j false = true
  | 0, _, ⟨i, hi, _⟩ => by omega
  | k + 1, listed, ⟨i, hi, hf⟩ => by
    by_cases hk : ∃ i, i < k ∧ listed.getD i false = false
    · obtain ⟨i, h1, h2, h3⟩ := exists_unlisted k listed hk
      exact ⟨i, by omega, h2, h3⟩
    · have : i = k := by
        rcases Nat.lt_or_ge i k with h1 | h1
        · exact absurd ⟨i, h1, hf⟩ hk
        · omega
      subst this
      refine ⟨i, by omega, hf, fun j hj => ?_⟩
      cases hv : listed.getD j false
      · exact absurd ⟨j, hj, hv⟩ hk
      · rfl
theorem all_listed (hsh : Shape ops) {listed : Array Bool} (hz : listed.size = ops.size) (hr : Region.ready .any ops listed = []) : ∀ i, i < ops.size → listed.getD i false = true := by
  intro i hi
  cases hv : listed.getD i false
  · exfalso
    obtain ⟨j, hj, hf, hall⟩ := exists_unlisted ops.size listed ⟨i, hi, hv⟩
    have : j ∈ Region.ready .any ops listed := by
      rw [mem_ready]
      refine ⟨by rw [getD_false_of _ _ (by omega)]; exact hf, ops[j], Array.getElem?_eq_getElem hj, fun e he hb => hall _ (hsh.edge j _ e (Array.getElem?_eq_getElem hj) he hb)⟩
    rw [hr] at this; cases this
  · rfl
theorem filter_drop {i : Nat} {p p' : Nat → Bool} (hp : p i = true) (hp' : p' i = false) (hne : ∀ j, j ≠ i → p' j = p j) : ∀ (l : List Nat), l.Nodup → i ∈ l → (l.filter p').length + 1 = (l.filter p).length
  | [], _, h => by cases h
  | a :: l, hn, hi => by
    obtain ⟨h1, h2⟩ := List.nodup_cons.1 hn
    by_cases ha : a = i
    · subst ha
      have : l.filter p' = l.filter p := List.filter_congr fun j hj => hne j (fun e => h1 (by rw [← e]; exact hj))
      simp [hp, hp', this]
    · have hil : i ∈ l := by rcases List.mem_cons.1 hi with e | e
                             · exact absurd e.symm ha
                             · exact e
      have ih := filter_drop hp hp' hne l h2 hil
      have hpa := hne a ha
      cases hv : p a
      · rw [hv] at hpa; simp [hv, hpa, ih]
      · rw [hv] at hpa; simp [hv, hpa]; omega
def leftN (ops : Array Oper) (listed : Array Bool) : Nat := ((List.range ops.size).filter fun i => !listed.getD i false).length
theorem leftN_set {listed : Array Bool} (hz : listed.size = ops.size) {i : Nat} (hi : i < ops.size) (hf : listed.getD i false = false) : leftN ops (listed.setIfInBounds i true) + 1 = leftN ops listed := by
  unfold leftN
  refine filter_drop (i := i) (by rw [hf]; rfl) ?_ (fun j hj => by rw [getD_set_ne false (Ne.symm hj)]) _ List.nodup_range (by simpa using hi)
  have : i < listed.size := by omega
  simp [this]

theorem split_at : ∀ (l : List Rec) (i : Nat), i < l.length → ∃ later r rest, l = later ++ r :: rest ∧ rest.length = i
  | [], i, h => by simp at h
  | x :: l, i, h => by
    by_cases hi : i = l.length
    · exact ⟨[], x, l, rfl, hi.symm⟩
    · obtain ⟨later, r, rest, h1, h2⟩ := split_at l i (by simp at h; omega)
      exact ⟨x :: later, r, rest, by rw [h1]; rfl, h2⟩

theorem Inv.congr {D0 : Nat → Prop} {ρ0 : Ren} {w0 : World} {N : Nat} {df : List Nat} {full : List Rec} {S S' : Nat → Bool} {ρ : Ren} {a : Act} {w : World} (h : Inv P ops ts0 V0 D0 ρ0 w0 N df full S ρ a w) (hS : ∀ j, j < full.length → S j = S' j) : Inv P ops ts0 V0 D0 ρ0 w0 N df full S' ρ a w := by
  have e1 : stD S D0 full = stD S' D0 full := by funext b; exact propext (stD_congr full hS b)
  have e2 : stG S V0.get full = stG S' V0.get full := by funext b; exact stG_congr full hS b
  have e3 : stT ops S ts0 full = stT ops S' ts0 full := stT_congr full hS
  exact ⟨by rw [← e1, ← e2]; exact h.rel, by rw [← e1, ← e3]; exact h.tmps, by rw [← e1]; exact h.defers, by rw [← e2]; exact h.frm⟩

theorem draw_walk (hP : Good P) (hs : SelfOK P sf) (hsh : Shape ops) {D0 : Nat → Prop} {ρ0 : Ren} {w0 : World} {df : List Nat} {full : List Rec} {ts1 : List Value} {V1 : View}
    (hV0 : ∀ b o, V0.get b = some o → b < V0.next) (hc : Coll P sf ops k0 ts0 V0 full ts1 V1) (hlen : full.length ≤ ops.size) (hkf : k0 ≤ full.length)
    (htot : ∀ j k, full.length ≤ j → j < ops.size → k < full.length → ((Region.before ops).getD j 0).testBit k = true) (hd : ∀ b, V0.next ≤ b → b < V1.next → ¬ D0 b)
    {n : Nat} {Q : Exit → Act → World → Prop} {ro : Option Nat} (hend : ∀ (fuel : Nat) (listed : Array Bool) (ρ : Ren) (a : Act) (w : World), listed.size = ops.size → (∀ j, listed.getD j false = decide (j < full.length)) →
      (∀ (i : Nat) (o : Oper) (e : Edge), listed.getD i false = true → ops[i]? = some o → e ∈ o.after → Region.binds .any e = true → listed.getD e.on false = true) →
      leftN ops listed ≤ fuel → Inv P ops ts0 V0 D0 ρ0 w0 V1.next df full (fun _ => true) ρ a w → wpAnyIn (fence ro) n P .any ops Q fuel listed a w) :
    ∀ (fuel : Nat) (listed : Array Bool) (ρ : Ren) (a : Act) (w : World), listed.size = ops.size → (∀ j, j < k0 → listed.getD j false = true) → (∀ j, full.length ≤ j → listed.getD j false = false) →
      (∀ (i : Nat) (o : Oper) (e : Edge), listed.getD i false = true → ops[i]? = some o → e ∈ o.after → Region.binds .any e = true → listed.getD e.on false = true) →
      leftN ops listed ≤ fuel → Inv P ops ts0 V0 D0 ρ0 w0 V1.next df full (fun j => listed.getD j false) ρ a w → wpAnyIn (fence ro) n P .any ops Q fuel listed a w := by
  have done : ∀ (fuel : Nat) (listed : Array Bool) (ρ : Ren) (a : Act) (w : World), listed.size = ops.size → (∀ j, full.length ≤ j → listed.getD j false = false) → (∀ j, j < full.length → listed.getD j false = true) →
      (∀ (i : Nat) (o : Oper) (e : Edge), listed.getD i false = true → ops[i]? = some o → e ∈ o.after → Region.binds .any e = true → listed.getD e.on false = true) →
      leftN ops listed ≤ fuel → Inv P ops ts0 V0 D0 ρ0 w0 V1.next df full (fun j => listed.getD j false) ρ a w → wpAnyIn (fence ro) n P .any ops Q fuel listed a w := by
    intro fuel listed ρ a w hz hhi hall hcl hf inv
    refine hend fuel listed ρ a w hz (fun j => ?_) hcl hf (inv.congr fun j hj => hall j hj)
    by_cases hj : j < full.length
    · rw [hall j hj]; simp [hj]
    · rw [hhi j (by omega)]; simp [hj]
  intro fuel
  induction fuel with
  | zero =>
    intro listed ρ a w hz hlo hhi hcl hf inv
    refine done 0 listed ρ a w hz hhi (fun j hj => ?_) hcl hf inv
    cases hv : listed.getD j false
    · have := leftN_set hz (by omega) hv; omega
    · rfl
  | succ fuel ih =>
    intro listed ρ a w hz hlo hhi hcl hf inv
    by_cases hall : ∀ j, j < full.length → listed.getD j false = true
    · exact done (fuel + 1) listed ρ a w hz hhi hall hcl hf inv
    · obtain ⟨j0, hj0, hj1⟩ : ∃ j, j < full.length ∧ listed.getD j false = false := by
        refine Classical.byContradiction fun hno => hall fun j hj => ?_
        cases hv : listed.getD j false
        · exact absurd ⟨j, hj, hv⟩ hno
        · rfl
      refine ⟨fun hr => ?_, fun i hi => ?_⟩
      · have := all_listed hsh hz hr j0 (by omega)
        rw [hj1] at this; cases this
      rw [mem_ready] at hi
      obtain ⟨h0, o, ho, hedges⟩ := hi
      have hlt := (Array.getElem?_eq_some_iff.1 ho).1
      rw [getD_false_of _ _ (by omega)] at h0
      have hcl' : ∀ j k, listed.getD j false = true → ((Region.before ops).getD j 0).testBit k = true → listed.getD k false = true := by
        intro j k hj hk
        have hjs : j < ops.size := by
          rcases Nat.lt_or_ge j ops.size with h | h
          · exact h
          · rw [Array.getD_eq_getD_getElem?, Array.getElem?_eq_none_iff.2 (by omega)] at hj; simp at hj
        exact anc_closed hsh (S := fun j => listed.getD j false) hcl j k hjs (fun o e ho he hb => hcl j o e hj ho he hb) hk
      have hAi : ∀ k, ((Region.before ops).getD i 0).testBit k = true → listed.getD k false = true := fun k hk =>
        anc_closed hsh (S := fun j => listed.getD j false) hcl i k hlt (fun o' e ho' he hb => by rw [ho] at ho'; cases ho'; exact hedges e he hb) hk
      have him : i < full.length := by
        rcases Nat.lt_or_ge i full.length with h | h
        · exact h
        · have := hAi j0 (htot i j0 h hlt hj0)
          rw [hj1] at this; cases this
      obtain ⟨later, r, rest, rfl, rfl⟩ := split_at full i him
      have hset : (listed.setIfInBounds rest.length true).getD rest.length false = true := by
        have : rest.length < listed.size := by omega
        simp [this]
      refine draw_step hP hs hsh (S := fun j => listed.getD j false) (S' := fun j => (listed.setIfInBounds rest.length true).getD j false) hV0 hc h0 hset (fun j hj => getD_set_ne false (Ne.symm hj)) hlo hcl' hAi hd inv ?_
      intro ρ' a' w' inv'
      refine ih _ ρ' a' w' (by simpa using hz) (fun j hj => ?_) (fun j hj => ?_) ?_ (by have := leftN_set hz hlt h0; omega) inv'
      · by_cases e : j = rest.length
        · rw [e]; exact hset
        · rw [getD_set_ne false (Ne.symm e)]; exact hlo j hj
      · rw [getD_set_ne false (by omega)]; exact hhi j hj
      · intro j o' e hj ho' he hb
        by_cases hjr : j = rest.length
        · subst hjr
          rw [ho] at ho'; cases ho'
          have := hedges e he hb
          by_cases hk : e.on = rest.length
          · rw [hk]; exact hset
          · rw [getD_set_ne false (Ne.symm hk)]; exact this
        · rw [getD_set_ne false (Ne.symm hjr)] at hj
          have := hcl j o' e hj ho' he hb
          by_cases hk : e.on = rest.length
          · rw [hk]; exact hset
          · rw [getD_set_ne false (Ne.symm hk)]; exact this

theorem Agree.refl (ρ : Ren) (D : Nat → Prop) : Agree ρ ρ D := ⟨fun _ _ => rfl, fun _ _ => rfl, fun _ _ => rfl, fun _ _ => rfl⟩
theorem WRel.widen {ρ : Ren} {D D' : Nat → Prop} {g : Nat → Option Obj} {w : World} (h : WRel P ρ D g w) (hD : ∀ b, D b → D' b) : WRel P ρ D' g w :=
  ⟨fun b o e => hD _ (h.dom b o e), h.real, fun b o e ho => let ⟨h1, o', h2, h3⟩ := h.own b o e ho; ⟨h1, o', h2, h3.ext (.refl _ _) hD (h.dom _ _ e)⟩,
   fun b cs e fz hb hz i v hi => let ⟨v', h1, h2⟩ := h.ro b cs e fz hb hz i v hi; ⟨v', h1, h2.ext (.refl _ _) hD⟩, fun b es c hb => let ⟨es', c', h1, h2⟩ := h.rom b es c hb; ⟨es', c', h1, h2.mono fun _ _ r => r.ext (.refl _ _) hD⟩, h.inj⟩

theorem coll_low {D : Nat → Prop} {S : Nat → Bool} (hS : ∀ j, k0 ≤ j → S j = false) {full : List Rec} {ts1 : List Value} {V1 : View} (hc : Coll P sf ops k0 ts0 V0 full ts1 V1) :
    stD S D full = D ∧ stG S V0.get full = V0.get ∧ stT ops S ts0 full = ts0 := by
  induction hc with
  | nil k hk => exact ⟨funext fun b => propext (stD_dummies b k), funext fun b => stG_dummies b k, stT_dummies k⟩
  | @run recs ts V o vi vo wr v hc hk ho hok hw hv ha hg hi hn ih =>
    have e := hS _ hk
    refine ⟨?_, ?_, ?_⟩
    · rw [← ih.1]; funext b; apply propext; simp only [stD, e, ih.1]
      constructor
      · rintro (h | ⟨h, _⟩)
        · exact h
        · cases h
      · exact .inl
    · funext b; simp only [stG, e, Bool.false_and, ih.2.1]
    · simp only [stT, e, ih.2.2]
  | @skip recs ts V o hc hk ho hok hw ih =>
    have e := hS _ hk
    refine ⟨?_, ?_, ?_⟩
    · rw [← ih.1]; funext b; apply propext; simp only [stD, e, ih.1]
      constructor
      · rintro (h | ⟨h, _⟩)
        · exact h
        · cases h
      · exact .inl
    · funext b; simp only [stG, e, Bool.false_and, ih.2.1]
    · simp only [stT, e, ih.2.2]
theorem coll_mono {full : List Rec} {ts1 : List Value} {V1 : View} (hc : Coll P sf ops k0 ts0 V0 full ts1 V1) : V0.next ≤ V1.next := by
  induction hc with
  | nil => exact Nat.le_refl _
  | run hc hk ho hok hw hv ha hg hi hn ih =>
    have := (view_spec hi hv).1
    refine Nat.le_trans ih ?_
    rw [← this]; exact hn
  | skip hc hk ho hok hw ih => exact ih
theorem coll_long {full : List Rec} {ts1 : List Value} {V1 : View} (hc : Coll P sf ops k0 ts0 V0 full ts1 V1) : ∀ b, stD (fun _ => true) (fun _ => False) full b → V0.next ≤ b ∧ b < V1.next := by
  induction hc with
  | nil k hk => intro b h; exact ((stD_dummies b k).1 h).elim
  | @run recs ts V o vi vo wr v hc hk ho hok hw hv ha hg hi hn ih =>
    intro b h
    have e1 := (view_spec hi hv).1
    have e2 := coll_mono hc
    rcases h with h | ⟨_, h1, h2⟩
    · have := ih b h
      refine ⟨this.1, ?_⟩
      show b < vo.next
      omega
    · have h1 : vi.next ≤ b := h1
      have h2 : b < vo.next := h2
      refine ⟨by omega, h2⟩
  | @skip recs ts V o hc hk ho hok hw ih =>
    intro b h
    rcases h with h | ⟨_, h1, h2⟩
    · exact ih b h
    · have h1 : V.next ≤ b := h1
      have h2 : b < V.next := h2
      omega
theorem stD_union {S : Nat → Bool} {D : Nat → Prop} : ∀ (l : List Rec) (b : Nat), stD S D l b → D b ∨ stD S (fun _ => False) l b
  | [], b, h => .inl h
  | r :: l, b, h => by
    rcases h with h | h
    · exact (stD_union l b h).imp id .inl
    · exact .inr (.inr h)
theorem inv_end {D0 : Nat → Prop} {ρ0 ρ : Ren} {w0 w : World} {df : List Nat} {full : List Rec} {ts1 : List Value} {V1 : View} {a : Act} (hV0 : ∀ b o, V0.get b = some o → b < V0.next) (hc : Coll P sf ops k0 ts0 V0 full ts1 V1)
    (inv : Inv P ops ts0 V0 D0 ρ0 w0 V1.next df full (fun _ => true) ρ a w) :
    Stepped P ρ0 D0 V0.get V0.next w0 ρ V1.get V1.next w ∧ TRel ρ (grow D0 V0.next V1.next) ts1 a.tmps ∧ DRel ρ (grow D0 V0.next V1.next) df a.defers := by
  obtain ⟨hts, hVg, _, hn⟩ := coll_state hV0 hc
  have hD : ∀ b, stD (fun _ => true) D0 full b → grow D0 V0.next V1.next b := fun b h => (stD_union full b h).imp id (coll_long hc b)
  have eG : stG (fun _ => true) V0.get full = V1.get := by funext b; exact (hVg b).symm
  have f := inv.frm
  rw [eG] at f
  refine ⟨⟨hn, f.b, f.o, f.sz, f.es, ?_, f.os, f.tape, f.output, f.size, f.frame, f.fresh⟩, ?_, ?_⟩
  · have := inv.rel.widen hD
    rwa [eG] at this
  · have := inv.tmps.ext (.refl _ _) hD
    rwa [← hts] at this
  · exact inv.defers.ext (.refl _ _) hD

theorem upTo_bit {A k j : Nat} (h : upTo A k = true) (hj : j < k) : A.testBit j = true := by
  have h := Nat.eq_of_beq_eq_true h
  have h1 : (A % 2 ^ k).testBit j = true := by rw [h, Nat.testBit_two_pow_sub_one]; simp [hj]
  rw [Nat.testBit_mod_two_pow] at h1
  simpa [hj] using h1
theorem total_bits {i : Nat} (h : totalAt (Region.before ops) i = true) : ∀ j, i ≤ j → j < ops.size → ∀ k, (k < i ∨ (i < j ∧ k = i)) → ((Region.before ops).getD j 0).testBit k = true := by
  intro j hij hj k hk
  unfold totalAt at h
  rw [List.all_eq_true] at h
  have hz : (Region.before ops).size = ops.size := by rw [before_eq]; have := (anc_list ops.toList #[]).1; simpa using this
  have hj' : j < (Region.before ops).size := by omega
  have := h ((Region.before ops)[j], j) (by rw [List.mem_zipIdx_iff_getElem?]; simp [hj'])
  have e : (Region.before ops).getD j 0 = (Region.before ops)[j] := by simp [hj']
  rw [e]
  dsimp only at this
  have hb : Nat.blt j i = false := by
    cases hq : Nat.blt j i with
    | false => rfl
    | true => rw [Nat.blt_eq] at hq; omega
  rw [hb] at this
  dsimp only at this
  split at this
  · rename_i hq
    have := Nat.eq_of_beq_eq_true hq
    exact upTo_bit ‹upTo _ i = true› (by omega)
  · exact upTo_bit this (by omega)

/-- the parts, one behind the other -/
theorem segs_walk (hP : Good P) (hs : SelfOK P sf) (hsh : Shape ops) {n : Nat} {Q : Exit → Act → World → Prop} {ro : Option Nat} {df : List Nat} {ts1 : List Value} {V1 : View} {k0 : Nat} {ts0 : List Value} {V0 : View} (hsg : Segs P sf ops ts1 V1 k0 ts0 V0) :
    (∀ b o, V0.get b = some o → b < V0.next) → k0 ≤ ops.size → V0.next ≤ V1.next ∧ ∀ (D0 : Nat → Prop) (ρ0 : Ren) (w0 : World) (a0 : Act) (fuel : Nat) (listed : Array Bool), WRel P ρ0 D0 V0.get w0 → TRel ρ0 D0 ts0 a0.tmps → DRel ρ0 D0 df a0.defers →
      (∀ b, V0.next ≤ b → b < V1.next → ¬ D0 b) → listed.size = ops.size → (∀ j, listed.getD j false = decide (j < k0)) →
      (∀ (i : Nat) (o : Oper) (e : Edge), listed.getD i false = true → ops[i]? = some o → e ∈ o.after → Region.binds .any e = true → listed.getD e.on false = true) → leftN ops listed ≤ fuel →
      (∀ ρ1 a1 w1, Stepped P ρ0 D0 V0.get V0.next w0 ρ1 V1.get V1.next w1 → TRel ρ1 (grow D0 V0.next V1.next) ts1 a1.tmps → DRel ρ1 (grow D0 V0.next V1.next) df a1.defers → Q .normal a1 w1) →
      wpAnyIn (fence ro) n P .any ops Q fuel listed a0 w0 := by
  have start : ∀ {k0 : Nat} {ts0 : List Value} {V0 : View} {full : List Rec} {ts : List Value} {V : View} {D0 : Nat → Prop} {ρ0 : Ren} {w0 : World} {a0 : Act} {listed : Array Bool}, Coll P sf ops k0 ts0 V0 full ts V → WRel P ρ0 D0 V0.get w0 → TRel ρ0 D0 ts0 a0.tmps → DRel ρ0 D0 df a0.defers →
      (∀ j, listed.getD j false = decide (j < k0)) → Inv P ops ts0 V0 D0 ρ0 w0 V.next df full (fun j => listed.getD j false) ρ0 a0 w0 := by
    intro k0 ts0 V0 full ts V D0 ρ0 w0 a0 listed hc hw ht hdf hl
    obtain ⟨e1, e2, e3⟩ := coll_low (D := D0) (S := fun j => listed.getD j false) (fun j hj => by show listed.getD j false = false; rw [hl]; simp; omega) hc
    refine ⟨by rw [e1, e2]; exact hw, by rw [e1, e3]; exact ht, by rw [e1]; exact hdf, ?_⟩
    rw [e2]
    exact ⟨fun _ _ => rfl, fun _ _ => rfl, fun _ _ => rfl, fun _ _ => rfl, rfl, rfl, rfl, Nat.le_refl _, fun _ _ _ => rfl, fun b o hb ho => .inr ⟨b, o, hb, ho, rfl⟩⟩
  have longer : ∀ {k0 : Nat} {ts0 : List Value} {V0 : View} {full : List Rec} {ts : List Value} {V : View}, Coll P sf ops k0 ts0 V0 full ts V → k0 ≤ ops.size → full.length ≤ ops.size := by
    intro k0 ts0 V0 full ts V hc hk
    cases hc with
    | nil k hk' => rw [dummies_length]; omega
    | run hc hkk ho => have := (Array.getElem?_eq_some_iff.1 ho).1; simp; omega
    | skip hc hkk ho => have := (Array.getElem?_eq_some_iff.1 ho).1; simp; omega
  induction hsg with
  | @last k0 ts0 V0 full hc hlen =>
    intro hV0 hk0
    have hn := (coll_state hV0 hc).2.2.2
    refine ⟨hn, fun D0 ρ0 w0 a0 fuel listed hw ht hdf hd hz hl hcl hf hk => ?_⟩
    refine draw_walk hP hs hsh (ρ0 := ρ0) (w0 := w0) hV0 hc (by omega) (by omega) (fun j k h1 h2 _ => by omega) hd ?_ fuel listed ρ0 a0 w0 hz (fun j hj => by rw [hl]; simp [hj]) (fun j hj => by rw [hl]; simp; omega) hcl hf (start hc hw ht hdf hl)
    intro fuel listed ρ a w hz hl hcl hf inv
    obtain ⟨h1, h2, h3⟩ := inv_end hV0 hc inv
    have hall : ∀ j, j < ops.size → listed.getD j false = true := fun j hj => by rw [hl]; simp; omega
    have hnil : Region.ready .any ops listed = [] := by
      rw [List.eq_nil_iff_forall_not_mem]
      intro j hj
      rw [mem_ready] at hj
      obtain ⟨h0, o, ho, _⟩ := hj
      have hlt := (Array.getElem?_eq_some_iff.1 ho).1
      rw [getD_false_of _ _ (by omega), hall j hlt] at h0
      cases h0
    cases fuel with
    | zero => exact ⟨hnil, hk ρ a w h1 h2 h3⟩
    | succ fuel => exact ⟨fun _ => hk ρ a w h1 h2 h3, fun i hi => by rw [hnil] at hi; cases hi⟩
  | @tot k0 ts0 V0 full ts V o v V2 hc hkf ho hok hw htt ha hn hi hr ih =>
    intro hV0 hk0
    have hn0 := (coll_state hV0 hc).2.2.2
    have hm := (Array.getElem?_eq_some_iff.1 ho).1
    obtain ⟨hn2, ih⟩ := ih (fun b o hb => (mem_inb _ _ hi b o (find_mem _ _ _ hb)).1) (by omega)
    refine ⟨by omega, fun D0 ρ0 w0 a0 fuel listed hw0 ht hdf hd hz hl hcl hf hk => ?_⟩
    refine draw_walk hP hs hsh (ρ0 := ρ0) (w0 := w0) hV0 hc (by omega) hkf (fun j k h1 h2 h3 => total_bits htt j h1 h2 k (.inl h3)) (fun b h1 h2 => hd b h1 (by omega)) ?_ fuel listed ρ0 a0 w0 hz (fun j hj => by rw [hl]; simp [hj]) (fun j hj => by rw [hl]; simp; omega) hcl hf (start hc hw0 ht hdf hl)
    intro fuel listed ρ a w hz hl hcl hf inv
    obtain ⟨h1, h2, h3⟩ := inv_end hV0 hc inv
    have hunl : listed.getD full.length false = false := by rw [hl]; simp
    cases fuel with
    | zero => have := leftN_set hz hm hunl; omega
    | succ fuel =>
      refine ⟨fun hr => ?_, fun i hi => ?_⟩
      · have := all_listed hsh hz hr _ hm
        rw [hunl] at this; cases this
      rw [mem_ready] at hi
      obtain ⟨h0, o', ho', hedges⟩ := hi
      have hlt := (Array.getElem?_eq_some_iff.1 ho').1
      rw [getD_false_of _ _ (by omega)] at h0
      have hAi : ∀ k, ((Region.before ops).getD i 0).testBit k = true → listed.getD k false = true := fun k hk =>
        anc_closed hsh (S := fun j => listed.getD j false) hcl i k hlt (fun o' e ho2 he hb => by rw [ho'] at ho2; cases ho2; exact hedges e he hb) hk
      have him : i = full.length := by
        rcases Nat.lt_trichotomy i full.length with h | h | h
        · rw [hl] at h0; simp [h] at h0
        · exact h
        · have := hAi _ (total_bits htt i (by omega) hlt full.length (.inr ⟨h, rfl⟩))
          rw [hunl] at this; cases this
      subst him
      unfold wpOpIn
      rw [ho]
      simp only [wanted_rel h2 hw, if_true]
      have hdis : ∀ b, V.next ≤ b → b < V2.next → ¬ grow D0 V0.next V.next b := fun b hb hb' hD => by
        rcases hD with hD | hD
        · exact hd b (by omega) (by omega) hD
        · omega
      refine op_wp hP hs ha (ops_rel h2 hok) h1.rel hdis ?_
      intro ρ2 v' w2 st hv
      have hag := st.agree hdis
      refine ih _ ρ2 w2 _ fuel (listed.setIfInBounds full.length true) st.rel (lput_rel (h2.ext hag fun _ h => .inl h) _ hv) (by rw [put_defers]; exact h3.ext hag fun _ h => .inl h) ?_ (by simpa using hz) ?_ ?_ (by have := leftN_set hz hm hunl; omega) ?_
      · intro b hb hb' hD
        rcases hD with (hD | hD) | hD
        · exact hd b (by omega) hb' hD
        · omega
        · omega
      · intro j
        by_cases hj : j = full.length
        · subst hj
          have : full.length < listed.size := by omega
          simp [this]
        · rw [getD_set_ne false (Ne.symm hj), hl]
          simp only [decide_eq_decide]
          omega
      · intro j o2 e hj ho2 he hb
        by_cases hk : e.on = full.length
        · rw [hk]
          have : full.length < listed.size := by omega
          simp [this]
        · rw [getD_set_ne false (Ne.symm hk)]
          by_cases hjr : j = full.length
          · subst hjr
            rw [ho'] at ho2; cases ho2
            exact hedges e he hb
          · rw [getD_set_ne false (Ne.symm hjr)] at hj
            exact hcl j o2 e hj ho2 he hb
      · intro ρ3 a3 w3 st3 ht3 hdf3
        rw [grow_grow hn hn2, grow_grow hn0 (by omega)] at ht3 hdf3
        exact hk ρ3 a3 w3 ((h1.trans st hw0).trans (by rw [← grow_grow hn0 hn]; exact st3) hw0) ht3 hdf3

theorem draw_ok (hP : Good P) (hs : SelfOK P sf) : DrawOK P sf := by
  intro ops ts V ts1 V1 hok hr
  simp only [Bool.and_eq_true] at hok
  have hsh := shape_of hok.1
  have hV0 : ∀ b o, V.get b = some o → b < V.next := fun b o hb => (mem_inb _ _ hok.2 b o (find_mem _ _ _ hb)).1
  have hsg := drawGo_segs hs ops.toList 0 ts V [] ts V ts1 V1 (.nil 0 (Nat.le_refl _)) (Nat.le_refl _) (fun k o hk => by simpa using hk) (by simp) hr
  refine ⟨(segs_walk hP hs hsh (n := 0) (Q := fun _ _ _ => True) (ro := none) (df := []) hsg hV0 (Nat.zero_le _)).1, fun ρ D w a n Q ro df hw ht hdf hd hk => ?_⟩
  have z : ∀ k, (Array.replicate ops.size false).getD k false = false := by intro k; simp only [Array.getD_eq_getD_getElem?, Array.getElem?_replicate]; split <;> rfl
  refine ((segs_walk hP hs hsh (n := n) (Q := Q) (ro := ro) (df := df) hsg hV0 (Nat.zero_le _)).2 D ρ w.drew a ops.size (Array.replicate ops.size false) ⟨hw.dom, hw.real, hw.own, hw.ro, hw.rom, hw.inj⟩ ht hdf hd (by simp) (fun j => by rw [z]; simp) (fun i o e hi => by rw [z] at hi; cases hi) ?_ ?_)
  · unfold leftN
    exact Nat.le_trans (List.length_filter_le _ _) (by simp)
  · intro ρ1 a1 w1 st ht1 hdf1
    exact hk ρ1 a1 w1 ⟨st.next, st.b, st.o, st.sz, st.es, st.rel, st.os, st.tape, st.output, st.size, st.frame, st.fresh⟩ ht1 hdf1

/-- **The machine of the small memory is sound.** -/
theorem run_sound (hP : Good P) : ∀ n, SelfOK P (run P n) := by
  intro n
  induction n with
  | zero => exact ⟨(fun _ _ _ _ _ _ _ _ _ h => by cases h), (fun _ _ _ _ _ _ _ _ _ h => by cases h), (fun _ _ _ _ _ h => by cases h)⟩
  | succ n ih => exact ⟨fun _ _ _ _ _ _ _ _ _ h => step_code hP ih (draw_ok hP ih) h, fun _ _ _ _ _ _ _ _ _ h => (step_loop ih h).2, fun _ _ _ _ _ h => step_call ih h⟩

/-- a closed call, computed -/
theorem call_closed (hP : Good P) {n : Nat} {f : FuncId} {v : Value} {V1 : View} (h : run P n (.call f [] ⟨0, []⟩) = some (.value v V1)) (hv : flatN 3 v = true) (w : World) :
    Calls P f #[] w fun e w' => e = .returned v ∧ RowKit.Below w.heap.size w w' := by
  obtain ⟨_, ok⟩ := (run_sound hP n).call _ _ _ _ _ h
  have := ok ⟨id, fun _ => 0, fun _ => 0, fun _ => 0⟩ (fun _ => False) w #[] 5 ⟨fun b o h => (by cases h), fun b o h => (by cases h), fun b o h => (by cases h), fun b cs e fz h => (by cases h), fun b es c h => (by cases h), fun b c x y h => (by cases h)⟩ .nil (fun b _ _ h => h)
  refine (callsIn_wide.1 this).mono ?_
  rintro e w' ⟨ρ1, v', rfl, st, hr⟩
  have e := hr.flatN_eq 3 hv
  exact ⟨by rw [e], st.os, st.tape, st.output, st.size, fun k hk => st.frame k hk fun b o hb => by cases hb⟩
end Go.Vm
