/- The small machine over values that are not known: what stands in the way is told, and is to be proved; calls are gone into, loops have what holds in each round. -/
import Derived.Test.YtomokhdkagedpaaVjG2
set_option linter.unusedVariables false
namespace Go.Vm
variable {memo : Job → Option Out}

/-! what is to be proved of an operation whose result is told -/
structure OBin (op : BinOp) (t : TypeId) (x y : Operand) (a b v : Value) : Prop where
  flat : (flatN 3 a && flatN 3 b && flatN 3 v) = true
  run : pureRun TP (do eqGuard op t x y a b; binOp op t a b) = some v
structure OUn (op : UnOp) (a v : Value) : Prop where
  flat : (flat a && flatN 3 v) = true
  run : pureRun TP (Op.unary op a) = some v
structure OCv (s d : TypeId) (a v : Value) : Prop where
  flat : (flat a && flatN 3 v) = true
  run : pureRun TP (convert s d a) = some v
structure OMax (ts : Array TypeId) (ty : TypeId) (l : List Value) (v : Value) : Prop where
  flat : (l.all flat && flatN 3 v) = true
  run : pureRun TP (Builtin.max_ ts ty l.toArray) = some v
structure OMin (ts : Array TypeId) (ty : TypeId) (l : List Value) (v : Value) : Prop where
  flat : (l.all flat && flatN 3 v) = true
  run : pureRun TP (Builtin.min_ ts ty l.toArray) = some v
structure OCall (memo : Job → Option Out) (g : FuncId) (l : List Value) (V : View) (v : Value) : Prop where
  ok : callOk TP g = true
  run : memo (.call g l V) = some (.value v V)
inductive OPick (c a b v : Value) : Prop
  | yes (h : c = .bool true) (h2 : a = v)
  | no (h : c = .bool false) (h2 : b = v)
/-- a load out of a block whose cells are not known one by one -/
noncomputable def loadO (t : TypeId) (a : Value) (ob : Option Obj) : Option Value := match a with
  | .pointer (some a) => match ob with
    | some (.cells c _ _) => match a.spot with
      | none => fLoadA TP t a c
      | some _ => none
    | _ => none
  | _ => none
structure OLoad (t : TypeId) (a : Value) (ob : Option Obj) (v : Value) : Prop where
  run : loadO t a ob = some v
structure OIx (t : TypeId) (x i v : Value) : Prop where
  run : ∀ V, runV TP (Instr.indexAt t x i) V = some (v, V)
structure OSl (t : TypeId) (x : Value) (lo hi mx : Option Value) (v : Value) : Prop where
  flat : (flatO lo && flatO hi && flatO mx) = true
  from_ : ∃ a n c, x = .slice (some a) n c ∧ Nat.beq c big = false
  to_ : ∃ a n c, v = .slice (some a) n c ∧ Nat.blt c big = true
  run : ∀ V, runV TP (Instr.sliceAt t x lo hi mx) V = some (v, V)
def blkOf (a : Value) : Nat := match a with
  | .pointer (some a) => a.block
  | _ => 0
def Obl (memo : Job → Option Out) (e : Operand → Value) (o : Oper) (V : View) (v : Value) : Prop := match o.op with
  | .load t a => OLoad t (e a) (find V.objs (blkOf (e a))) v
  | .indexAddr t x i => OIx t (e x) (e i) v
  | .slice t x lo hi mx => OSl t (e x) (lo.map e) (hi.map e) (mx.map e) v
  | .binOp op t x y _ => OBin op t x y (e x) (e y) v
  | .unOp op _ x => OUn op (e x) v
  | .convert s d x => OCv s d (e x) v
  | .pick c a b => OPick (e c) (e a) (e b) v
  | .call c => match c.callee with
    | .value f => match e f with
      | .func (.func g) first captured => OCall memo g (first.toList ++ c.args.toList.map e ++ captured.toList) V v
      | _ => False
    | .builtin .max => OMax c.argTypes o.type (c.args.toList.map e) v
    | .builtin .min => OMin c.argTypes o.type (c.args.toList.map e) v
    | _ => False
  | _ => False
theorem pureV_obl {s : Sem Value} {v : Value} {V : View} (hv : flatN 3 v = true) (h : pureRun TP s = some v) : pureV TP s V = some (.value v, V) := by simp only [pureV, h, hv]
theorem obl_ok {memo sf : Job → Option Out} (hm : ∀ j r, memo j = some r → sf j = some r) {e : Operand → Value} {o : Oper} {v : Value} {V : View} (h : Obl memo e o V v) : after sf (runOp TP e o V) = some (v, V) := by
  unfold Obl at h
  unfold runOp
  split at h
  · rename_i t a ho
    obtain ⟨h1⟩ := h
    have h2 : fLoad TP t (e a) V = some v := by
      revert h1
      generalize e a = x
      intro h1
      unfold loadO at h1
      split at h1
      · rename_i a1
        have hb : blkOf (Value.pointer (some a1)) = a1.block := rfl
        rw [hb] at h1
        unfold fLoad cellAt
        split at h1
        · rename_i c x y hf
          simp only [hf]
          split at h1
          · rename_i hs
            simp only [hs]
            exact h1
          · cases h1
        · cases h1
      · cases h1
    simp only [ho]
    rw [fLoad_run h2]
    rfl
  · rename_i t x i ho
    obtain ⟨h1⟩ := h
    simp only [ho, h1 V, val, after]
  · rename_i t x lo hi mx ho
    obtain ⟨h1, ⟨a, n, c, h2, h3⟩, ⟨a', n', c', h4, h5⟩, h6⟩ := h
    have h7 := h6 V
    rw [h2, h4] at h7
    simp only [ho, h1, h2, h3, h7, valc, h4, h5, after]
  · rename_i op t x y yt ho
    obtain ⟨h1, h2⟩ := h
    simp only [Bool.and_eq_true] at h1
    simp only [ho, h1.1.1, h1.1.2, Bool.and_self, pureV_obl h1.2 h2, after]
  · rename_i op t x ho
    obtain ⟨h1, h2⟩ := h
    simp only [Bool.and_eq_true] at h1
    simp only [ho, h1.1, pureV_obl h1.2 h2, after]
  · rename_i s d x ho
    obtain ⟨h1, h2⟩ := h
    simp only [Bool.and_eq_true] at h1
    simp only [ho, h1.1, pureV_obl h1.2 h2, after]
  · rename_i c a b ho
    rcases h with ⟨h1, h2⟩ | ⟨h1, h2⟩
    · simp only [ho, h1, h2, after]
    · simp only [ho, h1, h2, after]
  · rename_i c ho
    simp only [ho]
    unfold runCall
    split at h
    · rename_i f hf
      simp only [hf]
      split at h
      · rename_i g first captured hef
        obtain ⟨h1, h2⟩ := h
        simp only [hef, h1, after]
        have e1 : ((first ++ (c.args.toList.map e).toArray) ++ captured).toList = first.toList ++ c.args.toList.map e ++ captured.toList := by simp
        rw [e1, hm _ _ h2]
      · cases h
    · rename_i hf
      obtain ⟨h1, h2⟩ := h
      simp only [Bool.and_eq_true] at h1
      simp only [hf, h1.1, pureV_obl h1.2 h2, after]
    · rename_i hf
      obtain ⟨h1, h2⟩ := h
      simp only [Bool.and_eq_true] at h1
      simp only [hf, h1.1, pureV_obl h1.2 h2, after]
    · cases h
  · cases h
theorem rmS_memo {memo : Job → Option Out} {N : Nat} : ∀ j r, memo j = some r → rmS memo (N + 1) j = some r := fun j r h => by rw [rmS, orF, h]

set_option maxRecDepth 100000
/-- what is told of a loop's end: states, and what holds of them -/
structure LoopEnd where
  α : Type
  ex : α → Ex
  ts : α → List Value
  df : List Nat
  V : α → View
  P : α → Prop
/-- what is told of a call: results of its operations, by their slots; what is told of the calls that are gone into; the ends of its loop -/
inductive Adv : Type 1
  | mk (vals : List (Nat × Value)) (inls : List (Nat × Adv)) (ends : List LoopEnd)
def getV : List (Nat × Value) → Nat → Option Value
  | [], _ => none
  | (k, v) :: r, d => match Nat.beq k d with
    | true => some v
    | false => getV r d
def getA : List (Nat × Adv) → Nat → Option Adv
  | [], _ => none
  | (k, v) :: r, d => match Nat.beq k d with
    | true => some v
    | false => getA r d
def Adv.val (a : Adv) (d : Option Nat) : Option Value := match a, d with
  | .mk v _ _, some d => getV v d
  | _, none => none
def Adv.inl (a : Adv) (d : Option Nat) : Option Adv := match a, d with
  | .mk _ v _, some d => getA v d
  | _, none => none
def Adv.ends : Adv → List LoopEnd
  | .mk _ _ e => e
/-- a loop that comes to one of these ends -/
structure LoopR (memo : Job → Option Out) (M : Nat) (ar : Option Nat) (c : Code) (ts : List Value) (df : List Nat) (V : View) (l : List LoopEnd) : Prop where
  run : ∃ e ts1 df1 V1, rmS memo M (.code ar c ts df V) = some (.code e ts1 df1 V1) ∧ ∃ L, L ∈ l ∧ ∃ a : L.α, L.P a ∧ e = L.ex a ∧ ts1 = L.ts a ∧ df1 = L.df ∧ V1 = L.V a
def endsW (l : List LoopEnd) (k : Ex → List Value → List Nat → View → Prop) : Prop := match l with
  | [] => True
  | L :: r => (∀ a : L.α, L.P a → k (L.ex a) (L.ts a) L.df (L.V a)) ∧ endsW r k
theorem endsW_ok {k : Ex → List Value → List Nat → View → Prop} : ∀ {l : List LoopEnd}, endsW l k → ∀ L, L ∈ l → ∀ a : L.α, L.P a → k (L.ex a) (L.ts a) L.df (L.V a)
  | [], _, L, hL, _, _ => by cases hL
  | L0 :: r, h, L, hL, a, ha => by
    rcases List.mem_cons.1 hL with e | e
    · subst e; exact h.1 a ha
    · exact endsW_ok h.2 L e a ha

abbrev Cw := Adv → Code → List Value → List Nat → View → (Ex → List Value → List Nat → View → Prop) → Prop
/-- a call that is gone into -/
def callK (memo : Job → Option Out) (cw : Cw) (adv : Adv) (g : FuncId) (args : List Value) (V : View) (k : Value → View → Prop) : Prop := match memo (.call g args V) with
  | some _ => False
  | none => match TP.funcs[g]? with
    | some fn => match fn.body with
      | some c => cw adv c (args ++ List.replicate (fn.ntmps - args.length) undef) [] V fun e ts df V1 => match finish (hasYield args) V.next fn.results.toList e ⟨ts, df, V1⟩ with
        | some (.value v V2) => k v V2
        | _ => False
      | none => False
    | none => False
def inK (memo : Job → Option Out) (cw : Cw) (adv : Adv) (r : Option (Next × View)) (k : Value → View → Prop) : Prop := match r with
  | some (.enter g args, V1) => callK memo cw adv g args.toList V1 k
  | _ => False
def CwOK (memo : Job → Option Out) (M : Nat) (cw : Cw) : Prop := ∀ adv c ts df V k, cw adv c ts df V k → ∃ e ts1 df1 V1, rmS memo M (.code none c ts df V) = some (.code e ts1 df1 V1) ∧ k e ts1 df1 V1
theorem inK_ok {cw : Cw} {M : Nat} (hc : CwOK memo M cw) {adv : Adv} {r : Option (Next × View)} {k : Value → View → Prop} (h : inK memo cw adv r k) : ∃ v V1, after (rmS memo (M + 1)) r = some (v, V1) ∧ k v V1 := by
  unfold inK at h
  split at h
  · rename_i g args V1
    unfold callK at h
    split at h
    · cases h
    · rename_i hm
      split at h
      · rename_i fn hf
        split at h
        · rename_i c hb
          obtain ⟨e, ts1, df1, V2, h1, h2⟩ := hc _ _ _ _ _ _ h
          split at h2
          · rename_i v V3 hv
            have h3 : rmS memo (M + 1) (.call g args.toList V1) = some (.value v V3) := by
              rw [ends_call (s1 := ⟨ts1, df1, V2⟩) (e := e) hm hf hb h1]
              exact hv
            exact ⟨v, V3, by simp only [after, h3], h2⟩
          · cases h2
        · cases h
      · cases h
  · cases h

/-- operations one after another -/
def opsW (memo self : Job → Option Out) (cw : Cw) (adv : Adv) (ops : Array Oper) : List Oper → List Value → View → (List Value → View → Prop) → Prop
  | [], ts, V, k => k ts V
  | o :: rest, ts, V, k => match okOps o with
    | true => match wantedL ops ts o with
      | some true => match adv.val o.dst with
        | some v => Obl memo (ev ts) o V v ∧ opsW memo self cw adv ops rest (lput ts o.dst v) V k
        | none => match adv.inl o.dst with
          | some a => inK memo cw a (runOp TP (ev ts) o V) fun v V1 => opsW memo self cw adv ops rest (lput ts o.dst v) V1 k
          | none => match after self (runOp TP (ev ts) o V) with
            | some (v, V1) => opsW memo self cw adv ops rest (lput ts o.dst v) V1 k
            | none => False
      | some false => opsW memo self cw adv ops rest (lput ts o.dst undef) V k
      | none => False
    | false => False
theorem opsW_ok {cw : Cw} {M : Nat} (hc : CwOK memo M cw) {adv : Adv} {ops : Array Oper} : ∀ (l : List Oper) (ts : List Value) (V : View) (k : List Value → View → Prop), opsW memo (rmS memo (M + 1)) cw adv ops l ts V k →
    ∃ ts1 V1, runOps TP (rmS memo (M + 1)) ops l ts V = some (ts1, V1) ∧ k ts1 V1
  | [], ts, V, k, h => ⟨ts, V, rfl, h⟩
  | o :: rest, ts, V, k, h => by
    unfold opsW at h
    unfold runOps
    split at h
    case h_2 => cases h
    rename_i hok
    simp only [hok]
    split at h
    · rename_i hwa
      simp only [hwa]
      split at h
      · obtain ⟨h1, h2⟩ := h
        have h1 := obl_ok (rmS_memo (N := M)) h1
        simp only [h1]
        exact opsW_ok hc _ _ _ _ h2
      · split at h
        · obtain ⟨v, V1, h1, h2⟩ := inK_ok hc h
          simp only [h1]
          exact opsW_ok hc _ _ _ _ h2
        · split at h
          · rename_i h1
            simp only [h1]
            exact opsW_ok hc _ _ _ _ h
          · cases h
    · rename_i hwa
      simp only [hwa]
      exact opsW_ok hc _ _ _ _ h
    · cases h

/-- the same of a region that draws its order -/
def drawW (memo self : Job → Option Out) (cw : Cw) (adv : Adv) (ops : Array Oper) (anc : Array Nat) : List Oper → List Rec → List Value → View → (List Value → View → Prop) → Prop
  | [], _, ts, V, k => k ts V
  | o :: rest, recs, ts, V, k => match okOps o with
    | true => match wantedL ops ts o with
      | some true => match isAll (footOf (ev ts) o) && totalAt anc recs.length with
        | true => match adv.inl o.dst with
          | some a => inK memo cw a (runOp TP (ev ts) o V) fun v V1 => match inb V1.next V1.objs with
            | true => drawW memo self cw adv ops anc rest (dummies ops (lput ts o.dst v) V1 (recs.length + 1)) (lput ts o.dst v) V1 k
            | false => False
          | none => match adv.val o.dst with
            | some v => Obl memo (ev ts) o V v ∧ (match inb V.next V.objs with
              | true => drawW memo self cw adv ops anc rest (dummies ops (lput ts o.dst v) V (recs.length + 1)) (lput ts o.dst v) V k
              | false => False)
            | none => match after self (runOp TP (ev ts) o V) with
              | some (v, V1) => match inb V1.next V1.objs with
                | true => drawW memo self cw adv ops anc rest (dummies ops (lput ts o.dst v) V1 (recs.length + 1)) (lput ts o.dst v) V1 k
                | false => False
              | none => False
        | false => match viewFor (anc.getD recs.length 0) recs V (footOf (ev ts) o) with
          | some (Vi, wr) => match adv.val o.dst with
            | some v => Obl memo (ev ts) o Vi v ∧ (match goodOut V.next wr Vi.next Vi.objs && inb V.next V.objs with
              | true => drawW memo self cw adv ops anc rest (⟨Vi, v, Vi, wr⟩ :: recs) (lput ts o.dst v) ⟨Vi.next, newer V.next Vi.objs (turned wr Vi V.objs)⟩ k
              | false => False)
            | none => match adv.inl o.dst with
              | some a => inK memo cw a (runOp TP (ev ts) o Vi) fun v Vo => match goodOut V.next wr Vo.next Vo.objs && inb V.next V.objs with
                | true => drawW memo self cw adv ops anc rest (⟨Vi, v, Vo, wr⟩ :: recs) (lput ts o.dst v) ⟨Vo.next, newer V.next Vo.objs (turned wr Vo V.objs)⟩ k
                | false => False
              | none => match after self (runOp TP (ev ts) o Vi) with
                | some (v, Vo) => match goodOut V.next wr Vo.next Vo.objs && inb V.next V.objs with
                  | true => drawW memo self cw adv ops anc rest (⟨Vi, v, Vo, wr⟩ :: recs) (lput ts o.dst v) ⟨Vo.next, newer V.next Vo.objs (turned wr Vo V.objs)⟩ k
                  | false => False
                | none => False
          | none => False
      | some false => drawW memo self cw adv ops anc rest (⟨⟨V.next, []⟩, undef, ⟨V.next, []⟩, none⟩ :: recs) (lput ts o.dst undef) V k
      | none => False
    | false => False
theorem drawW_ok {cw : Cw} {M : Nat} (hc : CwOK memo M cw) {adv : Adv} {ops : Array Oper} {anc : Array Nat} : ∀ (l : List Oper) (recs : List Rec) (ts : List Value) (V : View) (k : List Value → View → Prop), drawW memo (rmS memo (M + 1)) cw adv ops anc l recs ts V k →
    ∃ ts1 V1, drawGo TP (rmS memo (M + 1)) ops anc l recs ts V = some (ts1, V1) ∧ k ts1 V1
  | [], recs, ts, V, k, h => ⟨ts, V, rfl, h⟩
  | o :: rest, recs, ts, V, k, h => by
    unfold drawW at h
    unfold drawGo
    split at h
    case h_2 => cases h
    rename_i hok
    simp only [hok]
    split at h
    · rename_i hwa
      simp only [hwa]
      split at h
      · rename_i hal
        simp only [hal]
        split at h
        · obtain ⟨v, V1, h1, h⟩ := inK_ok hc h
          split at h
          · rename_i h2
            simp only [h1, h2]
            exact drawW_ok hc _ _ _ _ _ h
          · cases h
        · split at h
          · obtain ⟨h1, h⟩ := h
            have h1 := obl_ok (rmS_memo (N := M)) h1
            split at h
            · rename_i h2
              simp only [h1, h2]
              exact drawW_ok hc _ _ _ _ _ h
            · cases h
          · split at h
            · rename_i h1
              split at h
              · rename_i h2
                simp only [h1, h2]
                exact drawW_ok hc _ _ _ _ _ h
              · cases h
            · cases h
      · rename_i hal
        simp only [hal]
        split at h
        · rename_i Vi wr hv
          simp only [hv]
          split at h
          · obtain ⟨h1, h⟩ := h
            have h1 := obl_ok (rmS_memo (N := M)) h1
            split at h
            · rename_i h2
              simp only [h1, h2]
              exact drawW_ok hc _ _ _ _ _ h
            · cases h
          · split at h
            · obtain ⟨v, Vo, h1, h⟩ := inK_ok hc h
              split at h
              · rename_i h2
                simp only [h1, h2]
                exact drawW_ok hc _ _ _ _ _ h
              · cases h
            · split at h
              · rename_i h1
                split at h
                · rename_i h2
                  simp only [h1, h2]
                  exact drawW_ok hc _ _ _ _ _ h
                · cases h
              · cases h
        · cases h
    · rename_i hwa
      simp only [hwa]
      exact drawW_ok hc _ _ _ _ _ h
    · cases h

/-- some code -/
def codeW (memo : Job → Option Out) : Nat → Adv → Option Nat → Code → List Value → List Nat → View → (Ex → List Value → List Nat → View → Prop) → Prop
  | 0, _, _, _, _, _, _, _ => False
  | 1, _, _, _, _, _, _, _ => False
  | N + 2, adv, ar, c, ts, df, V, k => match c with
    | .skip | .label _ => k .normal ts df V
    | .exit id => k (.exit id) ts df V
    | .ret => k .ret ts df V
    | .region _ ops draw => match draw with
      | false => opsW memo (rmS memo (N + 1)) (fun a c => codeW memo N a none c) adv ops ops.toList ts V fun ts V => k .normal ts df V
      | true => match drawOk ops && inb V.next V.objs with
        | true => drawW memo (rmS memo (N + 1)) (fun a c => codeW memo N a none c) adv ops (Region.before ops) ops.toList [] ts V fun ts V => k .normal ts df V
        | false => False
    | .seq a b => codeW memo (N + 1) adv ar a ts df V fun e ts df V => match e with
      | .normal => codeW memo (N + 1) adv ar b ts df V k
      | e => k e ts df V
    | .cond c a b => match okConst c with
      | true => match ev ts c with
        | .bool true => codeW memo (N + 1) adv ar a ts df V k
        | .bool false => codeW memo (N + 1) adv ar b ts df V k
        | _ => False
      | false => False
    | .block id body => codeW memo (N + 1) adv ar body ts df V fun e ts df V => match e with
      | .exit j => match Nat.beq j id with
        | true => k .normal ts df V
        | false => k (.exit j) ts df V
      | e => k e ts df V
    | .loop body => match adv.ends with
      | [] => codeW memo (N + 1) adv ar body ts df V fun e ts df V => match e with
        | .normal => codeW memo (N + 1) adv ar (.loop body) ts df V k
        | e => k e ts df V
      | L :: r => LoopR memo (N + 2) ar (.loop body) ts df V (L :: r) ∧ endsW (L :: r) k
    | _ => False
theorem codeW_ok (hm : ∀ ar c ts df V, memo (.code ar c ts df V) = none) : ∀ (N : Nat) (adv : Adv) (ar : Option Nat) (c : Code) (ts : List Value) (df : List Nat) (V : View) (k : Ex → List Value → List Nat → View → Prop),
    codeW memo N adv ar c ts df V k → ∃ e ts1 df1 V1, rmS memo N (.code ar c ts df V) = some (.code e ts1 df1 V1) ∧ k e ts1 df1 V1
  | 0, adv, ar, c, ts, df, V, k, h => by unfold codeW at h; exact h.elim
  | 1, adv, ar, c, ts, df, V, k, h => by unfold codeW at h; exact h.elim
  | N + 2, adv, ar, c, ts, df, V, k, h => by
    have e1 : rmS memo (N + 2) (.code ar c ts df V) = step TP (rmS memo (N + 1)) (.code ar c ts df V) := by rw [rmS, orF, hm]
    have hc : CwOK memo N (fun a c => codeW memo N a none c) := fun a c ts df V k h => codeW_ok hm N a none c ts df V k h
    unfold codeW at h
    split at h
    · exact ⟨_, _, _, _, by rw [e1]; rfl, h⟩
    · exact ⟨_, _, _, _, by rw [e1]; rfl, h⟩
    · exact ⟨_, _, _, _, by rw [e1]; rfl, h⟩
    · exact ⟨_, _, _, _, by rw [e1]; rfl, h⟩
    · split at h
      · obtain ⟨ts1, V1, h1, h2⟩ := opsW_ok hc _ _ _ _ h
        exact ⟨_, _, _, _, by rw [e1]; simp only [step, h1], h2⟩
      · split at h
        · rename_i hd
          obtain ⟨ts1, V1, h1, h2⟩ := drawW_ok hc _ _ _ _ _ h
          exact ⟨_, _, _, _, by rw [e1]; simp only [step, hd, h1], h2⟩
        · cases h
    · obtain ⟨e, ts1, df1, V1, h1, h2⟩ := codeW_ok hm (N + 1) _ ar _ ts df V _ h
      split at h2
      · obtain ⟨e', ts2, df2, V2, h3, h4⟩ := codeW_ok hm (N + 1) _ ar _ _ _ _ _ h2
        exact ⟨_, _, _, _, by rw [e1]; simp only [step, h1, h3], h4⟩
      · rename_i hne
        refine ⟨_, _, _, _, ?_, h2⟩
        rw [e1]
        simp only [step, h1]
        cases e with
        | normal => exact absurd rfl hne
        | exit id => rfl
        | ret => rfl
    · split at h
      · rename_i hc
        split at h
        · rename_i hv
          obtain ⟨e, ts1, df1, V1, h1, h2⟩ := codeW_ok hm (N + 1) _ ar _ ts df V _ h
          exact ⟨_, _, _, _, by rw [e1]; simp only [step, hc, hv, h1], h2⟩
        · rename_i hv
          obtain ⟨e, ts1, df1, V1, h1, h2⟩ := codeW_ok hm (N + 1) _ ar _ ts df V _ h
          exact ⟨_, _, _, _, by rw [e1]; simp only [step, hc, hv, h1], h2⟩
        · cases h
      · cases h
    · obtain ⟨e, ts1, df1, V1, h1, h2⟩ := codeW_ok hm (N + 1) _ ar _ ts df V _ h
      split at h2
      · split at h2
        · rename_i hq
          exact ⟨_, _, _, _, by rw [e1]; simp only [step, h1, hq], h2⟩
        · rename_i hq
          exact ⟨_, _, _, _, by rw [e1]; simp only [step, h1, hq], h2⟩
      · rename_i hne
        refine ⟨_, _, _, _, ?_, h2⟩
        rw [e1]
        simp only [step, h1]
        cases e with
        | normal => rfl
        | exit id => exact absurd rfl (hne id)
        | ret => rfl
    · split at h
      · obtain ⟨e, ts1, df1, V1, h1, h2⟩ := codeW_ok hm (N + 1) _ ar _ ts df V _ h
        split at h2
        · obtain ⟨e', ts2, df2, V2, h3, h4⟩ := codeW_ok hm (N + 1) _ ar _ _ _ _ _ h2
          exact ⟨_, _, _, _, by rw [e1]; simp only [step, h1, h3], h4⟩
        · rename_i hne
          refine ⟨_, _, _, _, ?_, h2⟩
          rw [e1]
          simp only [step, h1]
          cases e with
          | normal => exact absurd rfl hne
          | exit id => rfl
          | ret => rfl
      · rename_i L r _
        obtain ⟨⟨e, ts1, df1, V1, h1, L', hL, a, hP, rfl, rfl, rfl, rfl⟩, h2⟩ := h
        exact ⟨_, _, _, _, h1, endsW_ok h2 L' hL a hP⟩
    · cases h

/-- a loop with what holds in each round -/
structure LInv where
  β : Type
  ts : β → List Value
  df : List Nat
  V : β → View
  P : β → Prop
  μ : β → Nat
/-- how a round ends -/
inductive RoundEnd (I : LInv) (b : I.β) (l : List LoopEnd) : Ex → List Value → List Nat → View → Prop
  | again {e ts df V} (he : e = .normal) (b' : I.β) (h : I.P b') (hm : I.μ b' < I.μ b) (h1 : ts = I.ts b') (h2 : df = I.df) (h3 : V = I.V b') : RoundEnd I b l e ts df V
  | out {e ts df V} (he : e ≠ .normal) (L : LoopEnd) (hL : L ∈ l) (a : L.α) (h : L.P a) (h0 : e = L.ex a) (h1 : ts = L.ts a) (h2 : df = L.df) (h3 : V = L.V a) : RoundEnd I b l e ts df V
theorem RoundEnd.againL {I : LInv} {b : I.β} {l : List LoopEnd} {ts : List Value} {df : List Nat} {V : View} (mkb : List Value → I.β) (h : I.P (mkb ts)) (hm : I.μ (mkb ts) < I.μ b) (h1 : ts = I.ts (mkb ts)) (h2 : df = I.df) (h3 : V = I.V (mkb ts)) : RoundEnd I b l .normal ts df V := .again rfl (mkb ts) h hm h1 h2 h3
theorem RoundEnd.outL {I : LInv} {b : I.β} {l : List LoopEnd} {e : Ex} {ts : List Value} {df : List Nat} {V : View} (he : e ≠ .normal) (L : LoopEnd) (hL : L ∈ l) (mka : List Value → L.α) (h : L.P (mka ts)) (h0 : e = L.ex (mka ts)) (h1 : ts = L.ts (mka ts)) (h2 : df = L.df) (h3 : V = L.V (mka ts)) : RoundEnd I b l e ts df V := .out he L hL (mka ts) h h0 h1 h2 h3
theorem loop_rule (hm : ∀ ar c ts df V, memo (.code ar c ts df V) = none) (I : LInv) (l : List LoopEnd) {ar : Option Nat} {body : Code} {N0 : Nat}
    (hstep : ∀ M b, I.P b → ∃ adv, codeW memo (M + N0) adv ar body (I.ts b) I.df (I.V b) (RoundEnd I b l)) :
    ∀ (M : Nat) (b : I.β), I.P b → I.μ b + N0 < M → LoopR memo M ar (.loop body) (I.ts b) I.df (I.V b) l := by
  intro M
  induction M with
  | zero => intro b hb h; omega
  | succ M ih =>
    intro b hb h
    obtain ⟨adv, hs⟩ := hstep (M - N0) b hb
    rw [show M - N0 + N0 = M by omega] at hs
    obtain ⟨e, ts1, df1, V1, h1, h2⟩ := codeW_ok hm _ _ _ _ _ _ _ _ hs
    have e1 : rmS memo (M + 1) (.code ar (.loop body) (I.ts b) I.df (I.V b)) = step TP (rmS memo M) (.code ar (.loop body) (I.ts b) I.df (I.V b)) := by rw [rmS, orF, hm]
    cases h2 with
    | again he b' hP hmu h3 h4 h5 =>
      subst he h3 h4 h5
      obtain ⟨e, ts2, df2, V2, h6, h7⟩ := ih b' hP (by omega)
      exact ⟨e, ts2, df2, V2, by rw [e1]; simp only [step, h1, h6], h7⟩
    | out he L hL a hP h0 h3 h4 h5 =>
      refine ⟨e, ts1, df1, V1, ?_, L, hL, a, hP, h0, h3, h4, h5⟩
      rw [e1]
      simp only [step, h1]
      cases e with
      | normal => exact absurd rfl he
      | exit id => rfl
      | ret => rfl

/-- a call, with its body -/
def callW (memo : Job → Option Out) (adv : Adv) (N : Nat) (f : FuncId) (args : List Value) (V : View) (k : Value → Prop) : Prop := match TP.funcs[f]? with
  | some fn => match fn.body with
    | some c => codeW memo N adv none c (args ++ List.replicate (fn.ntmps - args.length) undef) [] V fun e ts df V1 => match finish (hasYield args) V.next fn.results.toList e ⟨ts, df, V1⟩ with
      | some (.value v _) => k v
      | _ => False
    | none => False
  | none => False
/-- old memory that is only read -/
def rowV (c : List Value) (e : TypeId) : View := ⟨1, [(0, .cells ⟨c⟩ e (0, 1))]⟩
theorem call_run {adv : Adv} (hm : ∀ ar c ts df V, memo (.code ar c ts df V) = none) {N : Nat} {f : FuncId} {args : List Value} {V : View} {k : Value → Prop} (hf : memo (.call f args V) = none)
    (h : callW memo adv N f args V k) : ∃ v V1, rmS memo (N + 1) (.call f args V) = some (.value v V1) ∧ k v := by
  unfold callW at h
  split at h
  case h_2 => cases h
  rename_i fn hfn
  split at h
  case h_2 => cases h
  rename_i c hc
  obtain ⟨e, ts1, df1, V1, h1, h2⟩ := codeW_ok hm _ _ _ _ _ _ _ _ h
  split at h2
  case h_2 => cases h2
  rename_i v V2 hv
  have h3 : rmS memo (N + 1) (.call f args V) = some (.value v V2) := by
    rw [ends_call (s1 := ⟨ts1, df1, V1⟩) (e := e) hf hfn hc h1]
    exact hv
  exact ⟨v, V2, h3, h2⟩
/-- what is shown of a call with plain arguments holds in every world -/
theorem call_sym {adv : Adv} (hs : SelfOK TP memo) (hm : ∀ ar c ts df V, memo (.code ar c ts df V) = none) {N : Nat} {f : FuncId} {args : List Value} {k : Value → Prop} (hf : memo (.call f args ⟨0, []⟩) = none)
    (ha : args.all (flatN 3) = true) (hk : ∀ v, k v → flatN 3 v = true) (h : callW memo adv N f args ⟨0, []⟩ k) (w : World) : Calls TP f args.toArray w fun e w' => (∃ v, e = .returned v ∧ k v) ∧ RowKit.Below w.heap.size w w' := by
  obtain ⟨v, V2, h3, h2⟩ := call_run hm hf h
  have hkv := hk v h2
  obtain ⟨_, ok⟩ := (rmS_ok hs (N + 1)).call _ _ _ _ _ h3
  have hl : LRel (VRel ⟨id, fun _ => 0, fun _ => 0, fun _ => 0⟩ (fun _ => False)) args args := LRel.of_get rfl fun i x y hx hy => by
    rw [hx] at hy; cases hy
    exact VRel.of_flatN 3 x (List.all_eq_true.1 ha x (List.mem_of_getElem? hx))
  have := ok ⟨id, fun _ => 0, fun _ => 0, fun _ => 0⟩ (fun _ => False) w args.toArray 5 ⟨fun b o h => (by cases h), fun b o h => (by cases h), fun b o h => (by cases h), fun b cs e fz h => (by cases h), fun b es c h => (by cases h), fun b c x y h => (by cases h)⟩ hl (fun b _ _ h => h)
  refine (callsIn_wide.1 this).mono ?_
  rintro e w' ⟨ρ1, v', rfl, st, hr⟩
  have hv' := hr.flatN_eq 3 hkv
  subst hv'
  exact ⟨⟨_, rfl, h2⟩, st.os, st.tape, st.output, st.size, fun k hk => st.frame k hk fun b o hb => by cases hb⟩
/-- a list of cells in some world's memory -/
def RowsAt (w : World) (b off : Nat) (c : List Value) : Prop := b < w.heap.size ∧ ∀ (i : Nat) (v : Value), c[i]? = some v → w.cell? ⟨b, off + i, none⟩ = some v
/-- where a value that names block 0 lies -/
def shift (b off : Nat) : Value → Value
  | .slice (some a) n c => .slice (some ⟨b, off + a.off, a.spot⟩) n c
  | v => v
def okArg : Value → Bool
  | .slice (some a) _ c => Nat.beq a.block 0 && Nat.blt c big
  | v => flatN 3 v
/-- the same with slices of one block, which is only read -/
theorem call_rows {adv : Adv} (hs : SelfOK TP memo) (hm : ∀ ar c ts df V, memo (.code ar c ts df V) = none) {N : Nat} {f : FuncId} {args : List Value} {k : Value → Prop} {c : List Value} {e : TypeId} (hc : c.all (flatN 3) = true)
    (hf : memo (.call f args (rowV c e)) = none) (ha : args.all okArg = true) (hk : ∀ v, k v → flatN 3 v = true) (h : callW memo adv N f args (rowV c e) k) (w : World) (b off : Nat) (hr : RowsAt w b off c) :
    Calls TP f (args.map (shift b off)).toArray w fun e w' => (∃ v, e = .returned v ∧ k v) ∧ RowKit.Below w.heap.size w w' := by
  obtain ⟨v, V2, h3, h2⟩ := call_run hm hf h
  have hkv := hk v h2
  obtain ⟨_, ok⟩ := (rmS_ok hs (N + 1)).call _ _ _ _ _ h3
  have hV : ∀ x o, (rowV c e).get x = some o → x = 0 ∧ o = .cells ⟨c⟩ e (0, 1) := fun x o hx => by
    have hx : find [(0, Obj.cells ⟨c⟩ e (0, 1))] x = some o := hx
    simp only [find] at hx
    split at hx
    · rename_i h0; cases hx; exact ⟨(Nat.eq_of_beq_eq_true h0).symm, rfl⟩
    · cases hx
  have hl : LRel (VRel ⟨fun _ => b, fun _ => off, fun _ => 0, fun _ => 0⟩ (fun x => x = 0)) args (args.map (shift b off)) := LRel.of_get (by simp) fun i x y hx hy => by
    rw [List.getElem?_map, hx] at hy
    simp only [Option.map_some, Option.some.injEq] at hy
    subst hy
    have hax := List.all_eq_true.1 ha x (List.mem_of_getElem? hx)
    unfold okArg at hax
    split at hax
    · rename_i a n c'
      simp only [Bool.and_eq_true, Nat.blt_eq] at hax
      have h0 := Nat.eq_of_beq_eq_true hax.1
      exact .slice (ρ := ⟨fun _ => b, fun _ => off, fun _ => 0, fun _ => 0⟩) h0 hax.2
    · rename_i hne
      have : shift b off x = x := by
        unfold shift
        split
        · rename_i a n c'; exact absurd rfl (hne a n c')
        · rfl
      rw [this]
      exact VRel.of_flatN 3 x hax
  have hw : WRel TP ⟨fun _ => b, fun _ => off, fun _ => 0, fun _ => 0⟩ (fun x => x = 0) (rowV c e).get w := by
    refine ⟨fun x o hx => (hV x o hx).1, fun x o hx => hr.1, fun x o hx ho => ?_, fun x cs e' fz hx hz i v hi => ?_, fun x es c' hx => ?_, fun x y o o' hx hy ho => ?_⟩
    · rw [(hV x o hx).2] at ho; cases ho
    · have := (hV x _ hx).2
      cases this
      exact ⟨v, hr.2 i v (by simpa using hi), VRel.of_flatN 3 v (List.all_eq_true.1 hc v (List.mem_of_getElem? (by simpa using hi)))⟩
    · have := (hV x _ hx).2; cases this
    · rw [(hV x o hx).2] at ho; cases ho
  have := ok _ _ w (args.map (shift b off)).toArray 5 hw hl (fun x h1 _ h => by
    have h : x = 0 := h
    have h1 : 1 ≤ x := h1
    omega)
  refine (callsIn_wide.1 this).mono ?_
  rintro e w' ⟨ρ1, v', rfl, st, hrel⟩
  have hv' := hrel.flatN_eq 3 hkv
  subst hv'
  exact ⟨⟨_, rfl, h2⟩, st.os, st.tape, st.output, st.size, fun k hk => st.frame k hk fun x o hx ho => by rw [(hV x o hx).2] at ho; cases ho⟩
end Go.Vm
