/- The machine of the small memory. -/
import Derived.Test.YtcphndfipjifcaaVqL
namespace Go.Vm

inductive Ex
  | normal
  | exit (id : Nat)
  | ret
inductive Job
  | code (ar : Option Nat) (c : Code) (ts : List Value) (df : List Nat) (V : View)
  | call (f : FuncId) (args : List Value) (V : View)
inductive Out
  | code (e : Ex) (ts : List Value) (df : List Nat) (V : View)
  | value (v : Value) (V : View)

def lget : List Value → Nat → Value
  | [], _ => undef
  | x :: _, 0 => x
  | _ :: r, i + 1 => lget r i
def lset : List Value → Nat → Value → List Value
  | [], _, _ => []
  | _ :: r, 0, v => v :: r
  | x :: r, i + 1, v => x :: lset r i v
def ev (ts : List Value) : Operand → Value
  | .tmp t => lget ts t
  | .const v => v
  | .global g => .pointer (some ⟨g, 0, none⟩)
  | .func f => .func (.func f) #[] #[]
def lput (ts : List Value) (d : Option Tmp) (v : Value) : List Value := match d with
  | some d => lset ts d v
  | none => ts
def okOps (o : Oper) : Bool := o.op.operands.toList.all okConst

/-- the values of a call's operation, or of a round -/
def after (self : Job → Option Out) (r : Option (Next × View)) : Option (Value × View) := match r with
  | some (.value v, V) => some (v, V)
  | some (.skip, V) => some (undef, V)
  | some (.enter f args, V) => match self (.call f args.toList V) with
    | some (.value v V1) => some (v, V1)
    | _ => none
  | some (.round l _ ts a b, V) => match self (.code (some l) a ts.toList [] V) with
    | some (.code .normal ts1 [] V1) => match find V1.objs l with
      | some (.loop r) => match r.state with
        | .ready => match self (.code (some l) b ts1 [] ⟨V1.next, put V1.objs l (.loop { r with state := .busy })⟩) with
          | some (.code e _ _ V2) => match find V2.objs l with
            | some (.loop r2) => match e with
              | .normal => some (.bool true, ⟨V2.next, put V2.objs l (.loop { r2 with state := .ready, pending := none })⟩)
              | .ret => some (.bool false, ⟨V2.next, put V2.objs l (.loop { r2 with state := .done, pending := some .ret })⟩)
              | .exit id => some (.bool false, ⟨V2.next, put V2.objs l (.loop { r2 with state := .done, pending := some (.exit id) })⟩)
            | _ => none
          | _ => none
        | _ => none
      | _ => none
    | _ => none
  | _ => none

def wantedL (ops : Array Oper) (ts : List Value) (o : Oper) : Option Bool := match o.guard with
  | none => some true
  | some (j, want) => match (ops[j]?).bind (·.dst) with
    | some d => match lget ts d with
      | .bool b => some (b == want)
      | .tuple ⟨[]⟩ => some false
      | _ => none
    | none => none

def runOps (P : Program) (self : Job → Option Out) (ops : Array Oper) : List Oper → List Value → View → Option (List Value × View)
  | [], ts, V => some (ts, V)
  | o :: rest, ts, V => match okOps o with
    | true => match wantedL ops ts o with
      | some true => match after self (runOp P (ev ts) o V) with
        | some (v, V1) => runOps P self ops rest (lput ts o.dst v) V1
        | none => none
      | some false => runOps P self ops rest (lput ts o.dst undef) V
      | none => none
    | false => none

/-! A region that draws its order. -/
structure Rec where
  vi : View
  val : Value
  vo : View
  wr : Option Nat

def freezeAll : List (Nat × Obj) → List (Nat × Obj)
  | [] => []
  | (k, .cells c e _) :: r => (k, .cells c e (0, 1)) :: freezeAll r
  | _ :: r => freezeAll r
def isWr (wr : Option Nat) (b : Nat) : Bool := match wr with
  | some x => Nat.beq x b
  | none => false
def touch (r : Rec) (b : Nat) : Bool := isWr r.wr b || (Nat.ble r.vi.next b && Nat.blt b r.vo.next)
/-- from an operation that waits for those of A: what others made or turned -/
def hid (A : Nat) : List Rec → Nat → Bool
  | [], _ => false
  | r :: rest, b => (!(A.testBit rest.length) && touch r b) || hid A rest b
def clash (A : Nat) : List Rec → Nat → Bool
  | [], _ => false
  | r :: rest, b => (!(A.testBit rest.length) && (find r.vi.objs b).isSome) || clash A rest b
def visible (A : Nat) (recs : List Rec) : List (Nat × Obj) → List (Nat × Obj)
  | [] => []
  | (k, o) :: r => match hid A recs k with
    | true => visible A recs r
    | false => (k, o) :: visible A recs r
inductive Foot
  | none
  | some (l : List Nat) (wr : Option Nat)
  | all
def blockOf : Value → List Nat
  | .pointer (some a) => [a.block]
  | .slice (some a) _ _ => [a.block]
  | .map (some r) => [r]
  | _ => []
def footOf (e : Operand → Value) (o : Oper) : Foot := match o.op with
  | .load _ a => .some (blockOf (e a)) none
  | .store _ a _ => .some (blockOf (e a)) (blockOf (e a)).head?
  | .lookup _ m _ _ | .mapUpdate _ m _ _ | .mapEntry _ m _ | .entryStore _ m _ _ | .insert _ m _ _ => .some (blockOf (e m)) (blockOf (e m)).head?
  | .call c => match c.callee with
    | .value _ => .all
    | .builtin .len => match (c.args.toList.map e) with
      | [.map (some r)] => .some [r] (some r)
      | _ => .none
    | .builtin .append => match (c.args.toList.map e) with
      | [.slice (some a) n cap, x] => match Nat.beq cap big || (match x with | .slice _ m _ => Nat.ble (n + m) cap | _ => false) with
        | true => .some (a.block :: blockOf x) (some a.block)
        | false => .some (a.block :: blockOf x) none
      | [_, x] => .some (blockOf x) none
      | _ => .none
    | .builtin .copy => match (c.args.toList.map e) with
      | [s, x] => .some (blockOf s ++ blockOf x) (blockOf s).head?
      | _ => .none
    | .builtin .clear => match (c.args.toList.map e) with
      | [m] => .some (blockOf m) (blockOf m).head?
      | _ => .none
    | .builtin .delete => match (c.args.toList.map e) with
      | [m, _] => .some (blockOf m) (blockOf m).head?
      | _ => .none
    | _ => .none
  | _ => .none
def pick1 (V : View) (wr : Option Nat) : List Nat → List (Nat × Obj)
  | [] => []
  | b :: r => match find V.objs b with
    | some o => match isWr wr b with
      | true => (b, o) :: pick1 V wr r
      | false => freezeAll [(b, o)] ++ pick1 V wr r
    | none => pick1 V wr r
def anyHid (A : Nat) (recs : List Rec) : List Nat → Bool
  | [] => false
  | b :: r => hid A recs b || anyHid A recs r
def memN (b : Nat) : List Nat → Bool
  | [] => false
  | x :: r => Nat.beq x b || memN b r
def viewFor (A : Nat) (recs : List Rec) (V : View) : Foot → Option (View × Option Nat)
  | .none => some (⟨V.next, []⟩, none)
  | .some l wr => match anyHid A recs l || (match wr with | some b => clash A recs b || !(find V.objs b).isSome || !memN b l | none => false) with
    | true => none
    | false => some (⟨V.next, pick1 V wr l⟩, wr)
  | .all => some (⟨V.next, freezeAll (visible A recs V.objs)⟩, none)
/-- what an operation leaves is named in its own range, and its own -/
def goodOut (n : Nat) (wr : Option Nat) (m : Nat) : List (Nat × Obj) → Bool
  | [] => true
  | (k, o) :: r => Nat.blt k m && (owned o || !(Nat.ble n k || isWr wr k)) && goodOut n wr m r
/-- named below m, each one below the one before it -/
def inb (m : Nat) : List (Nat × Obj) → Bool
  | [] => true
  | (k, _) :: r => Nat.blt k m && inb k r
/-- blocks that are new -/
def newer (n : Nat) : List (Nat × Obj) → List (Nat × Obj) → List (Nat × Obj)
  | [], base => base
  | (k, o) :: r, base => match Nat.ble n k with
    | true => (k, o) :: newer n r base
    | false => newer n r base
def turned (wr : Option Nat) (V : View) (base : List (Nat × Obj)) : List (Nat × Obj) := match wr with
  | none => base
  | some b => match find V.objs b with
    | some o => put base b o
    | none => drop base b

/-- an operation that waits for all that stand before it, and for which all behind it wait -/
def upTo (A k : Nat) : Bool := Nat.beq (A % 2 ^ k) (2 ^ k - 1)
def totalAt (anc : Array Nat) (i : Nat) : Bool := anc.toList.zipIdx.all fun p => match Nat.blt p.2 i with
  | true => true
  | false => match Nat.beq p.2 i with
    | true => upTo p.1 i
    | false => upTo p.1 (i + 1)
def isAll : Foot → Bool
  | .all => true
  | _ => false
def valAt (ops : Array Oper) (ts : List Value) (k : Nat) : Value := match (ops[k]?).bind (·.dst) with
  | some d => lget ts d
  | none => undef
/-- what stands for operations that are behind it -/
def dummies (ops : Array Oper) (ts : List Value) (V : View) : Nat → List Rec
  | 0 => []
  | k + 1 => ⟨⟨V.next, []⟩, valAt ops ts k, ⟨V.next, []⟩, none⟩ :: dummies ops ts V k
def drawGo (P : Program) (self : Job → Option Out) (ops : Array Oper) (anc : Array Nat) : List Oper → List Rec → List Value → View → Option (List Value × View)
  | [], _, ts, V => some (ts, V)
  | o :: rest, recs, ts, V => match okOps o with
    | true => match wantedL ops ts o with
      | some true => match isAll (footOf (ev ts) o) && totalAt anc recs.length with
        | true => match after self (runOp P (ev ts) o V) with
          | some (v, V1) => match inb V1.next V1.objs with
            | true => drawGo P self ops anc rest (dummies ops (lput ts o.dst v) V1 (recs.length + 1)) (lput ts o.dst v) V1
            | false => none
          | none => none
        | false => match viewFor (anc.getD recs.length 0) recs V (footOf (ev ts) o) with
          | some (Vi, wr) => match after self (runOp P (ev ts) o Vi) with
            | some (v, Vo) => match goodOut V.next wr Vo.next Vo.objs && inb V.next V.objs with
              | true => drawGo P self ops anc rest (⟨Vi, v, Vo, wr⟩ :: recs) (lput ts o.dst v) ⟨Vo.next, newer V.next Vo.objs (turned wr Vo V.objs)⟩
              | false => none
            | none => none
          | none => none
      | some false => drawGo P self ops anc rest (⟨⟨V.next, []⟩, undef, ⟨V.next, []⟩, none⟩ :: recs) (lput ts o.dst undef) V
      | none => none
    | false => none

def tmpsOf (ops : Array Oper) (o : Oper) : List Nat :=
  (o.op.operands.toList.filterMap fun | .tmp t => some t | _ => none) ++ (match o.guard with | some (j, _) => ((ops[j]?).bind (·.dst)).toList | none => [])
/-- the shape of a region that draws its order -/
def drawOk (ops : Array Oper) : Bool :=
  let anc := Region.before ops
  let l := ops.toList.zipIdx
  l.all fun p =>
    (p.1.after.toList.all fun e => !Region.binds .any e || Nat.blt e.on p.2) &&
    (l.all fun q => (match p.1.dst, q.1.dst with
      | some a, some b => !Nat.beq a b || Nat.beq p.2 q.2
      | _, _ => true) &&
     (match q.1.dst with
      | some d => !(tmpsOf ops p.1).contains d || Nat.beq p.2 q.2 || (anc.getD p.2 0).testBit q.2 || (anc.getD q.2 0).testBit p.2
      | none => true))

def takeAll : List Nat → List (Nat × Obj) → Option (List (Nat × Obj))
  | [], l => some l
  | D :: r, l => match find l D with
    | some (.deferred (some [])) => takeAll r (drop l D)
    | _ => none
/-- the blocks that a value names -/
def refsN : Nat → Value → List Nat
  | 0, _ => []
  | n + 1, v => match v with
    | .pointer (some a) => [a.block]
    | .slice (some a) _ _ => [a.block]
    | .map (some r) => [r]
    | .func fn a b => (match fn with | .yield l => [l] | _ => []) ++ ((a.toList ++ b.toList).map (refsN n)).flatten
    | .agg cs => (cs.toList.map (refsN n)).flatten
    | .tuple cs => (cs.toList.map (refsN n)).flatten
    | _ => []
def refsO : Obj → List Nat
  | .cells c _ _ => (c.toList.map (refsN 4)).flatten
  | .map es _ => (es.toList.map fun e => refsN 4 e.key ++ refsN 4 e.val).flatten
  | _ => []
/-- the new blocks that can be reached from some -/
def reach (n : Nat) (objs : List (Nat × Obj)) : Nat → List Nat → List Nat → List Nat
  | 0, _, seen => seen
  | f + 1, todo, seen => match todo with
    | [] => seen
    | b :: r => match Nat.blt b n || memN b seen with
      | true => reach n objs f r seen
      | false => match find objs b with
        | some o => reach n objs f (refsO o ++ r) (b :: seen)
        | none => reach n objs f r seen
def rootsOf (n : Nat) (v : Value) (objs : List (Nat × Obj)) : List Nat := match flatN 3 v with
  | true => []
  | false => reach n objs 10000 (refsN 4 v) []
/-- what is left of the memory behind a call: old blocks, and those of l -/
def keepR (n : Nat) (l : List Nat) : List (Nat × Obj) → List (Nat × Obj)
  | [] => []
  | (k, o) :: r => match Nat.blt k n || memN k l with
    | true => (k, o) :: keepR n l r
    | false => keepR n l r
def resultsL : List ResultVar → List Value → Sem (List Value)
  | [], _ => pure []
  | .tmp t :: r, ts => do let vs ← resultsL r ts; pure (lget ts t :: vs)
  | .cell a t :: r, ts => do let v ← loadVar t (← asAddr (lget ts a)); let vs ← resultsL r ts; pure (v :: vs)
def shut (vs : List Value) : Value := match vs with
  | [v] => v
  | vs => .tuple vs.toArray

def step (P : Program) (self : Job → Option Out) : Job → Option Out
  | .code ar c ts df V => match c with
    | .skip | .label _ => some (.code .normal ts df V)
    | .exit id => some (.code (.exit id) ts df V)
    | .ret => some (.code .ret ts df V)
    | .region _ ops draw => match draw with
      | false => match runOps P self ops ops.toList ts V with
        | some (ts, V) => some (.code .normal ts df V)
        | none => none
      | true => match drawOk ops && inb V.next V.objs with
        | true => match drawGo P self ops (Region.before ops) ops.toList [] ts V with
          | some (ts, V) => some (.code .normal ts df V)
          | none => none
        | false => none
    | .seq a b => match self (.code ar a ts df V) with
      | some (.code .normal ts df V) => self (.code ar b ts df V)
      | r => r
    | .cond c a b => match okConst c with
      | true => match ev ts c with
        | .bool true => self (.code ar a ts df V)
        | .bool false => self (.code ar b ts df V)
        | _ => none
      | false => none
    | .block id body => match self (.code ar body ts df V) with
      | some (.code (.exit j) ts df V) => match Nat.beq j id with
        | true => some (.code .normal ts df V)
        | false => some (.code (.exit j) ts df V)
      | r => r
    | .loop body => match self (.code ar body ts df V) with
      | some (.code .normal ts df V) => self (.code ar (.loop body) ts df V)
      | r => r
    | .scope body => match ar with
      | none => self (.code none body ts df V)
      | some _ => none
    | .rangeFunc f ps assign body => match okConst f with
      | true => match ev ts f with
        | .func (.func g) first captured => match callOk P g with
          | true =>
            match (match ar with
              | some l => match find V.objs l with
                | some (.loop r) => some (r.defers, V, df)
                | _ => none
              | none => some (V.next, ⟨V.next + 1, (V.next, .deferred (some [])) :: V.objs⟩, V.next :: df)) with
            | some (D, V1, df1) =>
              match self (.call g ((first.toList ++ [.func (.yield V1.next) #[] #[]]) ++ captured.toList) ⟨V1.next + 1, (V1.next, .loop { state := .ready, pending := none, fn := 0, tmps := ts.toArray, params := ps, assign, body, defers := D }) :: V1.objs⟩) with
              | some (.value _ V2) => match find V2.objs V1.next with
                | some (.loop r) => match r.state with
                  | .busy => none
                  | _ => match r.pending with
                    | none => some (.code .normal ts df1 ⟨V2.next, put V2.objs V1.next (.loop { r with state := .exhausted })⟩)
                    | some c => self (.code ar c ts df1 ⟨V2.next, put V2.objs V1.next (.loop { r with state := .exhausted })⟩)
                | _ => none
              | _ => none
            | none => none
          | false => none
        | _ => none
      | false => none
    | _ => none
  | .call f args V => match P.funcs[f]? with
    | some fn => match fn.body with
      | some c => match self (.code none c (args ++ List.replicate (fn.ntmps - args.length) undef) [] V) with
        | some (.code e ts df V1) => match e with
          | .exit _ => none
          | _ => match takeAll df V1.objs with
            | some l => match runV P (resultsL fn.results.toList ts) ⟨V1.next, l⟩ with
              | some (vs, V2) => some (.value (shut vs) ⟨V2.next, keepR V.next (rootsOf V.next (shut vs) V2.objs) V2.objs⟩)
              | none => none
            | none => none
        | _ => none
      | none => none
    | none => none

def run (P : Program) : Nat → Job → Option Out
  | 0, _ => none
  | n + 1, j => step P (run P n) j
end Go.Vm
