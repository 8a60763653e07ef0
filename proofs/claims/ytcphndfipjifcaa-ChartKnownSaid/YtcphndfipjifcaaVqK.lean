/- One operation. -/
import Derived.Test.YtcphndfipjifcaaVqJ
namespace Go.Vm
variable {P : Program} {ρ ρ1 ρ2 : Ren} {D D1 : Nat → Prop} {V : View} {α β γ δ : Type} {w w1 : World}
  {Φ : Ren → (Nat → Prop) → α → β → Prop} {Ψ : Ren → (Nat → Prop) → γ → δ → Prop}

inductive NRel (ρ : Ren) (D : Nat → Prop) : Next → Next → Prop
  | value {v v'} (h : VRel ρ D v v') : NRel ρ D (.value v) (.value v')
  | skip : NRel ρ D .skip .skip
  | enter {f xs ys} (h : ARel ρ D xs ys) : NRel ρ D (.enter f xs) (.enter f ys)
  | round {l fn fn' xs ys a b} (hl : D l) (h : ARel ρ D xs ys) : NRel ρ D (.round l fn xs a b) (.round (ρ.b l) fn' ys a b)

theorem Sim.lenOf {v v' : Value} (hv : VRel ρ D v v') : Sim P ρ D V (Builtin.lenOf v) (Builtin.lenOf v') (Eq2 Nat) := by
  cases v <;> try exact .stuck
  · obtain rfl := hv.strInv; exact .pure rfl
  · rcases hv.sliceInv with ⟨rfl, rfl⟩ | ⟨a, c', rfl, ha, rfl, _⟩ <;> exact .pure rfl
theorem Sim.firstCells {size n : Nat} {v v' : Value} (hs : ∀ s, v ≠ .string s) (hv : VRel ρ D v v') : Sim P ρ D V (Builtin.firstCells size n v) (Builtin.firstCells size n v') ARel := by
  cases v <;> try exact .stuck
  · exact absurd rfl (hs _)
  · rcases hv.sliceInv with ⟨rfl, rfl⟩ | ⟨a, c', rfl, ha, rfl, _⟩
    · exact .pure .nil
    · exact .loadCells _ ha
theorem Sim.copy {ts : Array TypeId} {t : TypeId} {s x s' x' : Value} (hx0 : ∀ s, x ≠ .string s) (hs : VRel ρ D s s') (hx : VRel ρ D x x') : Sim P ρ D V (Builtin.copy_ ts t #[s, x]) (Builtin.copy_ ts t #[s', x']) VR := by
  unfold Builtin.copy_
  cases h0 : ts[0]? with
  | none => exact .stuck
  | some st =>
    simp only [List.size_toArray, List.length_cons, List.length_nil, Nat.zero_add, Nat.lt_add_one, getElem?_pos, List.getElem_toArray, List.getElem_cons_zero, Nat.reduceAdd, Nat.reduceLT, List.getElem_cons_succ]
    refine .bind .underlying ?_
    rintro ρ1 D1 V1 d _ hag hD ⟨rfl, -⟩
    replace hs := hs.ext hag hD
    replace hx := hx.ext hag hD
    cases d <;> try exact .stuck
    rename_i elem
    cases s <;> try exact .stuck
    rename_i base dLen dCap
    obtain ⟨c', rfl⟩ : ∃ c', s' = .slice (base.map ρ1.addr) dLen c' := by
      rcases hs.sliceInv with ⟨rfl, rfl⟩ | ⟨a, c', rfl, ha, rfl, _⟩ <;> exact ⟨_, rfl⟩
    have hb : ∀ a, base = some a → D1 a.block := by
      intro a ha
      rcases hs.sliceInv with ⟨e, _⟩ | ⟨a', c2, e, h1, _⟩
      · rw [e] at ha; cases ha
      · rw [e] at ha; cases ha; exact h1
    (try dsimp only)
    refine .bind (.lenOf hx) ?_
    rintro ρ2 D2 V2 n _ hag2 hD2 rfl
    have hx := hx.ext hag2 hD2
    refine .bind .sizeOf ?_
    rintro ρ3 D3 V3 size _ hag3 hD3 ⟨rfl, -⟩
    have hx := hx.ext hag3 hD3
    refine .bind (.firstCells hx0 hx) ?_
    intro ρ4 D4 V4 cs cs' hag4 hD4 hcs
    (try dsimp only)
    cases base with
    | none => exact .pure (.flat rfl)
    | some a =>
      simp only [Option.map_some]
      have ha := hb a rfl
      have hag' : ρ4.addr a = ρ1.addr a := by rw [hag4.addr (hD3 _ (hD2 _ ha)), hag3.addr (hD2 _ ha), hag2.addr ha]
      rw [← hag']
      refine .bind (.storeCells 0 (hD4 _ (hD3 _ (hD2 _ ha))) hcs.list) ?_
      intro _ _ _ _ _ _ _ _
      exact .pure (.flat rfl)

/-- 'yield', over lists -/
def yieldL (l : Nat) (args : Array Value) : Sem Next := do
  match ← Go.getObj l with
  | .loop r => if args.size ≠ r.params.size then Go.stuck "" else
    pure (.round l r.fn ((r.params.toList.zip args.toList).foldl (fun tmps (p : Tmp × Value) => tmps.setIfInBounds p.1 p.2) r.tmps) r.assign r.body)
  | _ => Go.stuck ""
theorem zip_rel : ∀ (ps : List Tmp) {xs ys : List Value}, LRel (VRel ρ D) xs ys → ∀ {ts ts' : Array Value}, ARel ρ D ts ts' →
    ARel ρ D ((ps.zip xs).foldl (fun tmps (p : Tmp × Value) => tmps.setIfInBounds p.1 p.2) ts) ((ps.zip ys).foldl (fun tmps (p : Tmp × Value) => tmps.setIfInBounds p.1 p.2) ts')
  | [], _, _, _, _, _, h => by simpa using h
  | p :: ps, _, _, .nil, _, _, h => by simpa using h
  | p :: ps, _, _, .cons hv ht, _, _, h => by
    simp only [List.zip_cons_cons, List.foldl_cons]
    exact zip_rel ps ht (h.set _ hv)
theorem Sim.yield {l : Nat} {xs ys : Array Value} (hl : D l) (hx : ARel ρ D xs ys) : Sim P ρ D V (yieldL l xs) (Instr.yield (ρ.b l) ys) NRel := by
  unfold yieldL Instr.yield Instr.getLoop
  simp only [bind_assoc]
  refine .bind .getObj ?_
  rintro ρ1 D1 V1 o o' hag hD ⟨_, ho, -⟩
  cases ho with
  | loop hr =>
    rename_i r r'
    (try dsimp only)
    simp only [pure_bind]
    rw [← hx.1, ← hr.params]
    split
    · exact .stuck
    · rw [← hag.b _ hl, ← hr.assign, ← hr.body]
      refine .pure (.round (hD _ hl) ?_)
      rw [← Array.foldl_toList, Array.toList_zip]
      exact zip_rel _ (hx.ext hag hD).list hr.tmps
  | _ => exact .stuck

def callOk (P : Program) (f : FuncId) : Bool := match P.funcs[f]? with
  | some fn => fn.name != "runtime.NumGoroutine" && fn.body.isSome
  | none => false
theorem callOk_run {f : FuncId} (h : callOk P f = true) (args : Array Value) (w : World) : (callFunc f args).run P w = .ok (.enter f args) w := by
  unfold callOk at h
  split at h
  · rename_i fn hf
    simp only [Bool.and_eq_true, bne_iff_ne, ne_eq] at h
    unfold callFunc
    rw [Sem.run_bind]
    simp [Go.program, Sem.run, Result.andThen, hf, h.1, Option.isSome_iff_ne_none.1 h.2]
  · cases h

def okConst : Operand → Bool
  | .const v => flatN 3 v
  | .global _ => false
  | _ => true
def val (r : Option (Value × View)) : Option (Next × View) := match r with
  | some (v, V) => some (.value v, V)
  | none => none
def valc (r : Option (Value × View)) : Option (Next × View) := match r with
  | some (.slice (some a) n c, V) => match Nat.blt c big with
    | true => some (.value (.slice (some a) n c), V)
    | false => none
  | some (v, V) => some (.value v, V)
  | none => none
/-- an operation over values without addresses -/
def pureV (P : Program) (s : Sem Value) (V : View) : Option (Next × View) := match pureRun P s with
  | some v => match flatN 3 v with
    | true => some (.value v, V)
    | false => none
  | none => none
def flatO (o : Option Value) : Bool := match o with
  | some v => flat v
  | none => true


/-! maps whose keys are numbers, strings or bools -/
def simpleKey : TypeDesc → Bool
  | .int _ | .string | .bool => true
  | _ => false
def keyKind (P : Program) (t : TypeId) : Option (TypeDesc × TypeId) := match P.underlying t with
  | some (.map kt elem) => match P.underlying kt with
    | some d => match simpleKey d with
      | true => some (d, elem)
      | false => none
    | none => none
  | _ => none
def zeroOf (P : Program) (t : TypeId) : Option Value := match P.info? t with
  | some i => i.zero
  | none => none
def lookupV (P : Program) (t : TypeId) (m k : Value) (ok : Bool) (V : View) : Option Value := match keyKind P t with
  | some (d, elem) => match (match m with
      | .map none => some []
      | .map (some r) => (match find V.objs r with
        | some (.map es _) => some es.toList
        | _ => none)
      | _ => none) with
    | some es => match Instr.findNow d k es 0 with
      | some (some (_, v)) => some (match ok with | true => .tuple #[v, .bool true] | false => v)
      | some none => match zeroOf P elem with
        | some z => some (match ok with | true => .tuple #[z, .bool false] | false => z)
        | none => none
      | none => none
    | none => none
  | none => none
def setMap (V : View) (r : Nat) (es : List MapEntry) (clock : Nat) : View := ⟨V.next, put V.objs r (.map es.toArray clock)⟩
def mapEntryV (P : Program) (t : TypeId) (m k : Value) (V : View) : Option (Value × View) := match keyKind P t with
  | some (d, elem) => match m with
    | .map (some r) => match find V.objs r with
      | some (.map es clock) => match flat k with
        | true => match Instr.findNow d k es.toList 0 with
          | some (some (i, _)) => match es.toList[i]? with
            | some e => match flat e.key && Instr.sameBits 10000 e.key k with
              | true => some (.tuple #[e.val, goInt e.born], setMap V r (es.toList.set i { e with key := k }) clock)
              | false => none
            | none => none
          | some none => match zeroOf P elem with
            | some z => some (.tuple #[z, goInt clock], setMap V r (es.toList ++ [{ key := k, val := z, born := clock }]) (clock + 1))
            | none => none
          | none => none
        | false => none
      | _ => none
    | _ => none
  | none => none
def bornAt (born : Int) : List MapEntry → Nat → Option Nat
  | [], _ => none
  | e :: es, i => match decide ((e.born : Int) = born) with
    | true => some i
    | false => bornAt born es (i + 1)
def entryStoreV (m stamp x : Value) (V : View) : Option View := match m, stamp with
  | .map (some r), .int _ born => match find V.objs r with
    | some (.map es clock) => match bornAt born es.toList 0 with
      | some i => match es.toList[i]? with
        | some e => some (setMap V r (es.toList.set i { e with val := x }) clock)
        | none => none
      | none => none
    | _ => none
  | _, _ => none
def deleteV (P : Program) (t : TypeId) (m k : Value) (V : View) : Option View := match keyKind P t with
  | some (d, _) => match m with
    | .map none => some V
    | .map (some r) => match find V.objs r with
      | some (.map es clock) => match Instr.findNow d k es.toList 0 with
        | some (some (i, _)) => some (setMap V r (es.toList.eraseIdx i) clock)
        | some none => some (setMap V r es.toList clock)
        | none => none
      | _ => none
    | _ => none
  | none => none

def clearMapV (P : Program) (t : TypeId) (r : Nat) (V : View) : Option View := match P.underlying t with
  | some _ => match find V.objs r with
    | some (.map _ clock) => some (setMap V r [] clock)
    | _ => none
  | none => none
theorem zero_rel {z : Value} {k : Nat} (hz : ∀ (i : Nat) (x : Value), z.cells[i]? = some x → flatN 3 x = true) : LRel (VRel ρ D) (Builtin.zeroCells z.cells k).toList (Builtin.zeroCells z.cells k).toList := by
  refine LRel.of_get rfl fun i x y h1 h2 => ?_
  rw [h1] at h2; cases h2
  have hm : x ∈ Builtin.zeroCells z.cells k := Array.mem_toList_iff.1 (List.mem_of_getElem? h1)
  have hx : x ∈ z.cells := by
    unfold Builtin.zeroCells at hm
    simp at hm
    obtain ⟨j, hj, rfl⟩ := hm
    have h0 : 0 < z.cells.size := by
      rcases Nat.eq_zero_or_pos z.cells.size with h | h
      · rw [h] at hj; omega
      · exact h
    have hlt := Nat.mod_lt j h0
    rw [getElem!_pos z.cells _ hlt]
    exact Array.getElem_mem hlt
  obtain ⟨j, hj⟩ := Array.mem_iff_getElem?.1 hx
  exact VRel.of_flatN 3 x (hz j x hj)
theorem Sim.clearSlice (hP : Good P) {ts : Array TypeId} {t : TypeId} {a : Addr} {n c c' : Nat} (ha : D a.block) : Sim P ρ D V (Builtin.clear_ ts t #[.slice (some a) n c]) (Builtin.clear_ ts t #[.slice (some (ρ.addr a)) n c']) VR := by
  unfold Builtin.clear_
  cases h0 : ts[0]? with
  | none => exact .stuck
  | some st =>
    refine .bind .underlying ?_
    rintro ρ1 D1 V1 d _ hag hD ⟨rfl, -⟩
    have hag' := hag.addr ha
    rw [← hag']
    have unit : ∀ {ρ : Ren} {D : Nat → Prop} {V : View}, Sim P ρ D V (Pure.pure (Value.tuple #[])) (Pure.pure (Value.tuple #[])) VR := fun {ρ D V} => .pure (VRel.of_flatN 3 _ rfl)
    have stk : ∀ {ρ : Ren} {D : Nat → Prop} {V : View} {why : String}, Sim P ρ D V (do Go.stuck (α := Unit) why; Pure.pure (Value.tuple #[])) (do Go.stuck (α := Unit) why; Pure.pure (Value.tuple #[])) VR := fun {ρ D V why} =>
      .bind (Φ := Any2 Unit Unit) .stuck fun _ _ _ _ _ _ _ _ => .pure (VRel.of_flatN 3 _ rfl)
    cases n with
    | zero => exact unit
    | succ n =>
      cases d <;> try exact stk
      rename_i elem
      refine .bind (.zeroValue hP) ?_
      rintro ρ2 D2 V2 z _ hag2 hD2 ⟨rfl, hz⟩
      dsimp only
      rw [← hag2.addr (hD _ ha)]
      exact .bind (.storeCells 0 (hD2 _ (hD _ ha)) (zero_rel (flatN_cells hz))) fun _ _ _ _ _ _ _ _ => unit

def runCall (P : Program) (e : Operand → Value) (c : Call) (type : TypeId) (V : View) : Option (Next × View) :=
  let args := (c.args.toList.map e).toArray
  match c.callee with
  | .value f => match e f with
    | .func (.func g) first captured => match callOk P g with
      | true => some (.enter g ((first ++ args) ++ captured), V)
      | false => none
    | .func (.yield l) first _ => runV P (yieldL l (first ++ args)) V
    | _ => none
  | .builtin .len => val (runV P (Builtin.len_ c.argTypes type args) V)
  | .builtin .append => match args.toList with
    | [s, x] => val (appendV P c.argTypes s x V)
    | _ => none
  | .builtin .copy => match args.toList with
    | [s, .slice a n c2] => val (runV P (Builtin.copy_ c.argTypes type #[s, .slice a n c2]) V)
    | _ => none
  | .builtin .delete => match c.argTypes[0]?, args.toList with
    | some t, [m, k] => match flat k with
      | true => match deleteV P t m k V with
        | some V1 => some (.value (.tuple #[]), V1)
        | none => none
      | false => none
    | _, _ => none
  | .builtin .clear => match c.argTypes[0]?, args.toList with
    | some _, [.slice (some a) n c2] => val (runV P (Builtin.clear_ c.argTypes type #[.slice (some a) n c2]) V)
    | some t, [.map (some r)] => match clearMapV P t r V with
      | some V1 => some (.value (.tuple #[]), V1)
      | none => none
    | _, _ => none
  | .builtin .max => match args.toList.all flat with
    | true => pureV P (Builtin.max_ c.argTypes type args) V
    | false => none
  | .builtin .min => match args.toList.all flat with
    | true => pureV P (Builtin.min_ c.argTypes type args) V
    | false => none
  | _ => none

def runOp (P : Program) (e : Operand → Value) (o : Oper) (V : View) : Option (Next × View) :=
  match o.op with
  | .move x | .assign x => some (.value (e x), V)
  | .pick c a b => match e c with
    | .bool true => some (.value (e a), V)
    | .bool false => some (.value (e b), V)
    | _ => none
  | .alloc t => val (runV P (Instr.alloc t true (.tuple #[])) V)
  | .box t x => val (runV P (Instr.box t (e x)) V)
  | .build t ps => val (runV P (buildL t (ps.toList.map fun p => (p.1, e p.2))) V)
  | .buildSlice t n ps => match Nat.blt n big with
    | true => val (runV P (buildSliceL t n (ps.toList.map fun p => (p.1, e p.2))) V)
    | false => none
  | .load t a => val (runV P (Instr.loadAt t (e a)) V)
  | .store t a x => match runV P (Instr.storeAt t (e a) (e x)) V with
    | some (_, V1) => some (.skip, V1)
    | none => none
  | .nilCheck x => match e x with
    | .pointer (some a) => some (.value (.pointer (some a)), V)
    | .func (.func g) a b => some (.value (.func (.func g) a b), V)
    | .func (.yield g) a b => some (.value (.func (.yield g) a b), V)
    | _ => none
  | .binOp op t x y _ => match flatN 3 (e x) && flatN 3 (e y) with
    | true => pureV P (do eqGuard op t x y (e x) (e y); binOp op t (e x) (e y)) V
    | false => none
  | .unOp op _ x => match flat (e x) with
    | true => pureV P (Op.unary op (e x)) V
    | false => none
  | .convert s d x => match flat (e x) with
    | true => pureV P (convert s d (e x)) V
    | false => none
  | .makeFunc fn first captured => match fn with
    | .func g => some (.value (.func (.func g) (first.toList.map e).toArray (captured.toList.map e).toArray), V)
    | _ => none
  | .makeSlice t n c => match e n, e c with
    | .int _ (.ofNat n), .int _ (.ofNat c) => val (runV P (makeSliceL t n c) V)
    | _, _ => none
  | .slice t x lo hi mx => match flatO (lo.map e) && flatO (hi.map e) && flatO (mx.map e) with
    | true => match e x with
      | .slice (some a) n c => match Nat.beq c big with
        | true => none
        | false => valc (runV P (Instr.sliceAt t (.slice (some a) n c) (lo.map e) (hi.map e) (mx.map e)) V)
      | v => valc (runV P (Instr.sliceAt t v (lo.map e) (hi.map e) (mx.map e)) V)
    | false => none
  | .fieldAddr t x k => val (runV P (Instr.fieldAt t (e x) k) V)
  | .field t x k => val (runV P (Instr.field t (e x) k) V)
  | .indexAddr t x i => val (runV P (Instr.indexAt t (e x) (e i)) V)
  | .index t x i => val (runV P (Instr.index t (e x) (e i)) V)
  | .extract x k => val (runV P (Instr.extract (e x) k) V)
  | .makeMap t r => match r with
    | none => val (runV P (Instr.makeMap t none) V)
    | some _ => none
  | .lookup t m k ok => match flat (e k) with
    | true => match lookupV P t (e m) (e k) ok V with
      | some v => some (.value v, V)
      | none => none
    | false => none
  | .mapEntry t m k => val (mapEntryV P t (e m) (e k) V)
  | .entryStore _ m s x => match entryStoreV (e m) (e s) (e x) V with
    | some V1 => some (.skip, V1)
    | none => none
  | .call c => runCall P e c o.type V
  | _ => none
end Go.Vm
