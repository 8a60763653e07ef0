/- The machine over values that are not known, whose loops free their block numbers; conditions that are not known are parted; operations that turn memory in a way that is told. -/
import Derived.Test.YtomokhdkagedpaaVjT1
import Derived.Test.YtomokhdkagedpaaVjS2
set_option linter.unusedVariables false
namespace Go.Vm
set_option maxRecDepth 100000
variable {memo : Job → Option Out} {K : List Nat} {W : Nat}

/-! what is to be proved of an operation that turns memory -/
structure OSt (t : TypeId) (a x : Value) (V : View) (v : Value) (V1 : View) : Prop where
  val : v = undef
  run : runV TP (Instr.storeAt t a x) V = some ((), V1)
structure OApp (ts : Array TypeId) (s x : Value) (V : View) (v : Value) (V1 : View) : Prop where
  run : appendV TP ts s x V = some (v, V1)
structure OCpy (ts : Array TypeId) (ty : TypeId) (s x : Value) (V : View) (v : Value) (V1 : View) : Prop where
  sl : ∃ a n c, x = .slice a n c
  run : runV TP (Builtin.copy_ ts ty #[s, x]) V = some (v, V1)
structure ODel (t : TypeId) (m k : Value) (V : View) (v : Value) (V1 : View) : Prop where
  val : v = .tuple #[]
  flat : flatN 3 k = true
  run : deleteV TP t m k V = some V1
structure OUpd (t : TypeId) (m k x : Value) (V : View) (v : Value) (V1 : View) : Prop where
  val : v = undef
  run : mapUpdateV TP t m k x V = some V1
structure OMk (t : TypeId) (n c : Value) (V : View) (v : Value) (V1 : View) : Prop where
  run : ∃ k k' n0 c0, n = .int k (.ofNat n0) ∧ c = .int k' (.ofNat c0) ∧ runV TP (makeSliceL t n0 c0) V = some (v, V1)
structure OCm (memo : Job → Option Out) (g : FuncId) (l : List Value) (V : View) (v : Value) (V1 : View) : Prop where
  ok : callOk TP g = true
  run : memo (.call g l V) = some (.value v V1)
structure OLk (t : TypeId) (m k : Value) (ok : Bool) (V : View) (v : Value) : Prop where
  flat : flatN 3 k = true
  run : lookupV TP t m k ok V = some v
def OM (memo : Job → Option Out) (e : Operand → Value) (o : Oper) (V : View) (v : Value) (V1 : View) : Prop := match o.op with
  | .store t a x => OSt t (e a) (e x) V v V1
  | .mapUpdate t m k x => OUpd t (e m) (e k) (e x) V v V1
  | .makeSlice t n c => OMk t (e n) (e c) V v V1
  | .call c => match c.callee with
    | .value f => match e f with
      | .func (.func g) first captured => OCm memo g (first.toList ++ c.args.toList.map e ++ captured.toList) V v V1
      | _ => False
    | .builtin .append => match c.args.toList.map e with
      | [s, x] => OApp c.argTypes s x V v V1
      | _ => False
    | .builtin .copy => match c.args.toList.map e with
      | [s, x] => OCpy c.argTypes o.type s x V v V1
      | _ => False
    | .builtin .delete => match c.argTypes[0]? with
      | some t => match c.args.toList.map e with
        | [m, k] => ODel t m k V v V1
        | _ => False
      | none => False
    | _ => False
  | _ => False
theorem om_ok {memo sf : Job → Option Out} (hm : ∀ j r, memo j = some r → sf j = some r) {e : Operand → Value} {o : Oper} {v : Value} {V V1 : View} (h : OM memo e o V v V1) : after sf (runOp TP e o V) = some (v, V1) := by
  unfold OM at h
  unfold runOp
  split at h
  · rename_i t a x ho
    obtain ⟨rfl, h2⟩ := h
    simp only [ho, h2, after]
  · rename_i t m k x ho
    obtain ⟨rfl, h2⟩ := h
    simp only [ho, h2, after]
  · rename_i t n c ho
    obtain ⟨k, k', n0, c0, h1, h2, h3⟩ := h.run
    simp only [ho, h1, h2, h3, val, after]
  · rename_i c ho
    simp only [ho]
    unfold runCall
    split at h
    · rename_i f hf
      simp only [hf]
      split at h
      · rename_i g first captured hef
        obtain ⟨h1, h2⟩ := h
        simp only [hef, h1, after]
        have e1 : ((first ++ (c.args.toList.map e).toArray) ++ captured).toList = first.toList ++ c.args.toList.map e ++ captured.toList := by simp
        rw [e1, hm _ _ h2]
      · cases h
    · rename_i hf
      split at h
      · rename_i s x hl
        obtain ⟨h1⟩ := h
        simp only [hf, hl, h1, val, after]
      · cases h
    · rename_i hf
      split at h
      · rename_i s x hl
        obtain ⟨⟨a, n, c2, rfl⟩, h1⟩ := h
        simp only [hf, hl, h1, val, after]
      · cases h
    · rename_i hf
      split at h
      · rename_i t ht
        split at h
        · rename_i m k hl
          obtain ⟨rfl, h1, h2⟩ := h
          simp only [hf, ht, hl, h1, h2, after]
        · cases h
      · cases h
    · cases h
  · cases h
structure OLen (ts : Array TypeId) (ty : TypeId) (l : List Value) (v : Value) : Prop where
  run : ∀ V, runV TP (Builtin.len_ ts ty l.toArray) V = some (v, V)
def OblT (memo : Job → Option Out) (e : Operand → Value) (o : Oper) (V : View) (v : Value) : Prop := match o.op with
  | .lookup t m k ok => OLk t (e m) (e k) ok V v
  | .call c => match c.callee with
    | .builtin .len => OLen c.argTypes o.type (c.args.toList.map e) v
    | _ => Obl memo e o V v
  | _ => Obl memo e o V v
theorem oblT_ok {memo sf : Job → Option Out} (hm : ∀ j r, memo j = some r → sf j = some r) {e : Operand → Value} {o : Oper} {v : Value} {V : View} (h : OblT memo e o V v) : after sf (runOp TP e o V) = some (v, V) := by
  unfold OblT at h
  split at h
  · rename_i t m k ok ho
    obtain ⟨h1, h2⟩ := h
    unfold runOp
    simp only [ho, h1, h2, after]
  · rename_i c ho
    split at h
    · rename_i hc
      unfold runOp
      simp only [ho]
      unfold runCall
      simp only [hc, h.run V, val, after]
    · exact obl_ok hm h
  · exact obl_ok hm h

/-- comparisons, as they are told -/
def ltZ (a b : Int) : Bool := decide (a < b)
def leZ (a b : Int) : Bool := decide (a ≤ b)
def eqZ (a b : Int) : Bool := a == b
def neZ (a b : Int) : Bool := a != b
/-- in place of a result: a comparison that is parted -/
abbrev autoV : Value := .iface 0 (.chan (some 1))
def isAuto : Value → Bool
  | .iface 0 (.chan (some 1)) => true
  | _ => false
def cmpZ (op : BinOp) (x y : Value) : Option Bool := match x with
  | .int .i64 a => match y with
    | .int .i64 b => match op with
      | .lss => some (ltZ a b)
      | .leq => some (leZ a b)
      | .gtr => some (ltZ b a)
      | .geq => some (leZ b a)
      | .eql => some (eqZ a b)
      | .neq => some (neZ a b)
      | _ => none
    | _ => none
  | _ => none
theorem cmpZ_ob {op : BinOp} {t : TypeId} {X Y : Operand} {x y : Value} {c : Bool} (h : cmpZ op x y = some c) : OBin op t X Y x y (.bool c) := by
  unfold cmpZ at h
  split at h
  · split at h
    · split at h
      · cases h; exact ob_lss rfl
      · cases h; exact ob_leq rfl
      · cases h; exact ob_gtr rfl
      · cases h; exact ob_geq rfl
      · cases h; exact ob_eql rfl
      · cases h; exact ob_neq rfl
      · cases h
    · cases h
  · cases h
def autK (e : Operand → Value) (o : Oper) (V : View) (k : Value → View → Prop) : Prop := match o.op with
  | .binOp op _ x y _ => match cmpZ op (e x) (e y) with
    | some c => (c = true → k (.bool true) V) ∧ (c = false → k (.bool false) V)
    | none => False
  | _ => False
theorem autK_ok {memo sf : Job → Option Out} (hm : ∀ j r, memo j = some r → sf j = some r) {e : Operand → Value} {o : Oper} {V : View} {k : Value → View → Prop} (h : autK e o V k) : ∃ v V1, after sf (runOp TP e o V) = some (v, V1) ∧ k v V1 := by
  unfold autK at h
  split at h
  · rename_i op t x y yt ho
    split at h
    · rename_i c hc
      have hob : Obl memo e o V (.bool c) := by
        unfold Obl
        rw [ho]
        exact cmpZ_ob hc
      have h1 := obl_ok hm hob
      cases c with
      | true => exact ⟨_, _, h1, h.1 rfl⟩
      | false => exact ⟨_, _, h1, h.2 rfl⟩
    · cases h
  · cases h

/-- what is told of a call: results by slot; conditions that are parted; memory that is turned; calls that are gone into; ends of loops -/
inductive AdvT : Type 1
  | mk (vals : List (Nat × Value)) (spl : List (Nat × Bool)) (mems : List (Nat × (View → Value × View))) (inls : List (Nat × AdvT)) (ends : List LoopEnd)
def getN {α : Type _} : List (Nat × α) → Nat → Option α
  | [], _ => none
  | (k, v) :: r, d => match Nat.beq k d with
    | true => some v
    | false => getN r d
def AdvT.vals : AdvT → List (Nat × Value) | .mk a _ _ _ _ => a
def AdvT.spl : AdvT → List (Nat × Bool) | .mk _ a _ _ _ => a
def AdvT.mems : AdvT → List (Nat × (View → Value × View)) | .mk _ _ a _ _ => a
def AdvT.inls : AdvT → List (Nat × AdvT) | .mk _ _ _ a _ => a
def AdvT.ends : AdvT → List LoopEnd | .mk _ _ _ _ a => a
def keyM (o : Oper) : Nat := match o.dst with
  | some d => d
  | none => match o.op with
    | .store _ (.tmp a) _ => 200000 + a
    | .mapUpdate _ (.tmp a) _ _ => 200000 + a
    | .call c => match c.args.toList with
      | .tmp a :: _ => 200000 + a
      | _ => 200000
    | _ => 200000
def headSlot : Code → Nat
  | .seq a _ => headSlot a
  | .region _ ops _ => match ops.toList with
    | o :: _ => o.dst.getD 0
    | [] => 0
  | .block _ b => headSlot b
  | .loop b => headSlot b
  | _ => 0
/-- what is told of the ends of this loop -/
def endsOfT (adv : AdvT) (body : Code) : List LoopEnd := match getN adv.inls (100000 + headSlot body) with
  | some a => a.ends
  | none => adv.ends
abbrev CwT := AdvT → Code → List Value → List Nat → View → (Ex → List Value → List Nat → View → Prop) → Prop
/-- a call that is gone into is not among what is known -/
structure OIn (memo : Job → Option Out) (g : FuncId) (args : List Value) (V : View) : Prop where
  run : memo (.call g args V) = none
def callKT (memo : Job → Option Out) (cw : CwT) (adv : AdvT) (g : FuncId) (args : List Value) (V : View) (k : Value → View → Prop) : Prop := OIn memo g args V ∧ match TP.funcs[g]? with
    | some fn => match fn.body with
      | some c => cw adv c (args ++ List.replicate (fn.ntmps - args.length) undef) [] V fun e ts df V1 => match finish (hasYield args) V.next fn.results.toList e ⟨ts, df, V1⟩ with
        | some (.value v V2) => k v V2
        | _ => False
      | none => False
    | none => False
def inKT (memo : Job → Option Out) (cw : CwT) (adv : AdvT) (r : Option (Next × View)) (k : Value → View → Prop) : Prop := match r with
  | some (.enter g args, V1) => callKT memo cw adv g args.toList V1 k
  | _ => False
def CwOKT (memo : Job → Option Out) (K : List Nat) (W : Nat) (M : Nat) (cw : CwT) : Prop := ∀ adv c ts df V k, cw adv c ts df V k → ∃ e ts1 df1 V1, rmQ memo K W M (.code none c ts df V) = some (.code e ts1 df1 V1) ∧ k e ts1 df1 V1
theorem ends_callT {f : FuncId} {args : List Value} {V : View} {fn : Func} {c : Code} {N : Nat} {s1 : Sta} {e : Ex} (hn : memo (.call f args V) = none) (hf : TP.funcs[f]? = some fn) (hc : fn.body = some c)
    (h : rmQ memo K W N (.code none c (args ++ List.replicate (fn.ntmps - args.length) undef) [] V) = some (.code e s1.ts s1.df s1.V)) : rmQ memo K W (N + 1) (.call f args V) = finish (hasYield args) V.next fn.results.toList e s1 := by
  rw [rmQ, orF, hn]
  simp only [stepQ, step, hf, hc, h]
  cases e <;> rfl
theorem inK_okT {cw : CwT} {M : Nat} (hc : CwOKT memo K W M cw) {adv : AdvT} {r : Option (Next × View)} {k : Value → View → Prop} (h : inKT memo cw adv r k) : ∃ v V1, after (rmQ memo K W (M + 1)) r = some (v, V1) ∧ k v V1 := by
  unfold inKT at h
  split at h
  · rename_i g args V1
    unfold callKT at h
    obtain ⟨⟨hm⟩, h⟩ := h
    split at h
    · rename_i fn hf
      split at h
      · rename_i c hb
        obtain ⟨e, ts1, df1, V2, h1, h2⟩ := hc _ _ _ _ _ _ h
        split at h2
        · rename_i v V3 hv
          have h3 : rmQ memo K W (M + 1) (.call g args.toList V1) = some (.value v V3) := by
            rw [ends_callT (s1 := ⟨ts1, df1, V2⟩) (e := e) hm hf hb h1]
            exact hv
          exact ⟨v, V3, by simp only [after, h3], h2⟩
        · cases h2
      · cases h
    · cases h
  · cases h
/-- one operation -/
def opT (memo self : Job → Option Out) (cw : CwT) (adv : AdvT) (e : Operand → Value) (o : Oper) (V : View) (k : Value → View → Prop) : Prop := match getN adv.mems (keyM o) with
  | some f => OM memo e o V (f V).1 (f V).2 ∧ k (f V).1 (f V).2
  | none => match getN adv.spl (keyM o) with
    | some c => OblT memo e o V (.bool c) ∧ (c = true → k (.bool true) V) ∧ (c = false → k (.bool false) V)
    | none => match getN adv.vals (keyM o) with
      | some v => match isAuto v with
        | true => autK e o V k
        | false => OblT memo e o V v ∧ k v V
      | none => match getN adv.inls (keyM o) with
        | some a => inKT memo cw a (runOp TP e o V) k
        | none => match after self (runOp TP e o V) with
          | some (v, V1) => k v V1
          | none => False
theorem opT_ok {cw : CwT} {M : Nat} (hc : CwOKT memo K W M cw) {adv : AdvT} {e : Operand → Value} {o : Oper} {V : View} {k : Value → View → Prop} (h : opT memo (rmQ memo K W (M + 1)) cw adv e o V k) :
    ∃ v V1, after (rmQ memo K W (M + 1)) (runOp TP e o V) = some (v, V1) ∧ k v V1 := by
  unfold opT at h
  split at h
  · exact ⟨_, _, om_ok (rmQ_memo (K := K) (W := W) (N := M)) h.1, h.2⟩
  · split at h
    · rename_i c _
      obtain ⟨h1, h2, h3⟩ := h
      cases c with
      | true => exact ⟨_, _, oblT_ok (rmQ_memo (K := K) (W := W) (N := M)) h1, h2 rfl⟩
      | false => exact ⟨_, _, oblT_ok (rmQ_memo (K := K) (W := W) (N := M)) h1, h3 rfl⟩
    · split at h
      · split at h
        · exact autK_ok (rmQ_memo (K := K) (W := W) (N := M)) h
        · exact ⟨_, _, oblT_ok (rmQ_memo (K := K) (W := W) (N := M)) h.1, h.2⟩
      · split at h
        · exact inK_okT hc h
        · split at h
          · rename_i h1; exact ⟨_, _, h1, h⟩
          · cases h
def opsT (memo self : Job → Option Out) (cw : CwT) (adv : AdvT) (ops : Array Oper) : List Oper → List Value → View → (List Value → View → Prop) → Prop
  | [], ts, V, k => k ts V
  | o :: rest, ts, V, k => match okOps o with
    | true => match wantedL ops ts o with
      | some true => opT memo self cw adv (ev ts) o V fun v V1 => opsT memo self cw adv ops rest (lput ts o.dst v) V1 k
      | some false => opsT memo self cw adv ops rest (lput ts o.dst undef) V k
      | none => False
    | false => False
theorem opsT_ok {cw : CwT} {M : Nat} (hc : CwOKT memo K W M cw) {adv : AdvT} {ops : Array Oper} : ∀ (l : List Oper) (ts : List Value) (V : View) (k : List Value → View → Prop), opsT memo (rmQ memo K W (M + 1)) cw adv ops l ts V k →
    ∃ ts1 V1, runOps TP (rmQ memo K W (M + 1)) ops l ts V = some (ts1, V1) ∧ k ts1 V1
  | [], ts, V, k, h => ⟨ts, V, rfl, h⟩
  | o :: rest, ts, V, k, h => by
    unfold opsT at h
    unfold runOps
    split at h
    case h_2 => cases h
    rename_i hok
    simp only [hok]
    split at h
    · rename_i hwa
      simp only [hwa]
      obtain ⟨v, V1, h1, h2⟩ := opT_ok hc h
      simp only [h1]
      exact opsT_ok hc _ _ _ _ h2
    · rename_i hwa
      simp only [hwa]
      exact opsT_ok hc _ _ _ _ h
    · cases h
def drawT (memo self : Job → Option Out) (cw : CwT) (adv : AdvT) (ops : Array Oper) (anc : Array Nat) : List Oper → List Rec → List Value → View → (List Value → View → Prop) → Prop
  | [], _, ts, V, k => k ts V
  | o :: rest, recs, ts, V, k => match okOps o with
    | true => match wantedL ops ts o with
      | some true => match isAll (footOf (ev ts) o) && totalAt anc recs.length with
        | true => opT memo self cw adv (ev ts) o V fun v V1 => match inb V1.next V1.objs with
          | true => drawT memo self cw adv ops anc rest (dummies ops (lput ts o.dst v) V1 (recs.length + 1)) (lput ts o.dst v) V1 k
          | false => False
        | false => match viewFor (anc.getD recs.length 0) recs V (footOf (ev ts) o) with
          | some (Vi, wr) => opT memo self cw adv (ev ts) o Vi fun v Vo => match goodOut V.next wr Vo.next Vo.objs && inb V.next V.objs with
            | true => drawT memo self cw adv ops anc rest (⟨Vi, v, Vo, wr⟩ :: recs) (lput ts o.dst v) ⟨Vo.next, newer V.next Vo.objs (turned wr Vo V.objs)⟩ k
            | false => False
          | none => False
      | some false => drawT memo self cw adv ops anc rest (⟨⟨V.next, []⟩, undef, ⟨V.next, []⟩, none⟩ :: recs) (lput ts o.dst undef) V k
      | none => False
    | false => False
theorem drawT_ok {cw : CwT} {M : Nat} (hc : CwOKT memo K W M cw) {adv : AdvT} {ops : Array Oper} {anc : Array Nat} : ∀ (l : List Oper) (recs : List Rec) (ts : List Value) (V : View) (k : List Value → View → Prop), drawT memo (rmQ memo K W (M + 1)) cw adv ops anc l recs ts V k →
    ∃ ts1 V1, drawGo TP (rmQ memo K W (M + 1)) ops anc l recs ts V = some (ts1, V1) ∧ k ts1 V1
  | [], recs, ts, V, k, h => ⟨ts, V, rfl, h⟩
  | o :: rest, recs, ts, V, k, h => by
    unfold drawT at h
    unfold drawGo
    split at h
    case h_2 => cases h
    rename_i hok
    simp only [hok]
    split at h
    · rename_i hwa
      simp only [hwa]
      split at h
      · rename_i hal
        simp only [hal]
        obtain ⟨v, V1, h1, h⟩ := opT_ok hc h
        split at h
        · rename_i h2
          simp only [h1, h2]
          exact drawT_ok hc _ _ _ _ _ h
        · cases h
      · rename_i hal
        simp only [hal]
        split at h
        · rename_i Vi wr hv
          simp only [hv]
          obtain ⟨v, Vo, h1, h⟩ := opT_ok hc h
          split at h
          · rename_i h2
            simp only [h1, h2]
            exact drawT_ok hc _ _ _ _ _ h
          · cases h
        · cases h
    · rename_i hwa
      simp only [hwa]
      exact drawT_ok hc _ _ _ _ _ h
    · cases h
/-- a loop that comes to one of these ends -/
structure LoopRT (memo : Job → Option Out) (K : List Nat) (W : Nat) (M : Nat) (ar : Option Nat) (c : Code) (ts : List Value) (df : List Nat) (V : View) (l : List LoopEnd) : Prop where
  run : ∃ e ts1 df1 V1, rmQ memo K W M (.code ar c ts df V) = some (.code e ts1 df1 V1) ∧ ∃ L, L ∈ l ∧ ∃ a : L.α, L.P a ∧ e = L.ex a ∧ ts1 = L.ts a ∧ df1 = L.df ∧ V1 = L.V a
/-- some code -/
def codeT (memo : Job → Option Out) (K : List Nat) (W : Nat) : Nat → AdvT → Option Nat → Code → List Value → List Nat → View → (Ex → List Value → List Nat → View → Prop) → Prop
  | 0, _, _, _, _, _, _, _ => False
  | 1, _, _, _, _, _, _, _ => False
  | N + 2, adv, ar, c, ts, df, V, k => match c with
    | .skip | .label _ => k .normal ts df V
    | .exit id => k (.exit id) ts df V
    | .ret => k .ret ts df V
    | .region _ ops draw => match draw with
      | false => opsT memo (rmQ memo K W (N + 1)) (fun a c => codeT memo K W N a none c) adv ops ops.toList ts V fun ts V => k .normal ts df V
      | true => match drawOk ops && inb V.next V.objs with
        | true => drawT memo (rmQ memo K W (N + 1)) (fun a c => codeT memo K W N a none c) adv ops (Region.before ops) ops.toList [] ts V fun ts V => k .normal ts df V
        | false => False
    | .seq a b => codeT memo K W (N + 1) adv ar a ts df V fun e ts df V => match e with
      | .normal => codeT memo K W (N + 1) adv ar b ts df V k
      | e => k e ts df V
    | .cond c a b => match okConst c with
      | true => match ev ts c with
        | .bool true => codeT memo K W (N + 1) adv ar a ts df V k
        | .bool false => codeT memo K W (N + 1) adv ar b ts df V k
        | _ => False
      | false => False
    | .block id body => codeT memo K W (N + 1) adv ar body ts df V fun e ts df V => match e with
      | .exit j => match Nat.beq j id with
        | true => k .normal ts df V
        | false => k (.exit j) ts df V
      | e => k e ts df V
    | .loop body => match endsOfT adv body with
      | [] => match isLp body with
        | true => False
        | false => codeT memo K W (N + 1) adv ar body ts df V fun e ts df V1 => match e with
          | .normal => False
          | e => match Nat.ble V1.next (V.next + wOf W (.loop body)) with
            | true => k e ts df ⟨V.next + wOf W (.loop body), V1.objs⟩
            | false => False
      | L :: r => LoopRT memo K W (N + 2) ar (.loop body) ts df V (L :: r) ∧ endsW (L :: r) k
    | _ => False
theorem codeT_ok (hm : ∀ ar c ts df V, memo (.code ar c ts df V) = none) : ∀ (N : Nat) (adv : AdvT) (ar : Option Nat) (c : Code) (ts : List Value) (df : List Nat) (V : View) (k : Ex → List Value → List Nat → View → Prop),
    codeT memo K W N adv ar c ts df V k → ∃ e ts1 df1 V1, rmQ memo K W N (.code ar c ts df V) = some (.code e ts1 df1 V1) ∧ k e ts1 df1 V1
  | 0, adv, ar, c, ts, df, V, k, h => by unfold codeT at h; exact h.elim
  | 1, adv, ar, c, ts, df, V, k, h => by unfold codeT at h; exact h.elim
  | N + 2, adv, ar, c, ts, df, V, k, h => by
    have e1 : rmQ memo K W (N + 2) (.code ar c ts df V) = stepQ K W (rmQ memo K W (N + 1)) (.code ar c ts df V) := by rw [rmQ, orF, hm]
    have hc : CwOKT memo K W N (fun a c => codeT memo K W N a none c) := fun a c ts df V k h => codeT_ok hm N a none c ts df V k h
    unfold codeT at h
    split at h
    · exact ⟨_, _, _, _, by rw [e1]; rfl, h⟩
    · exact ⟨_, _, _, _, by rw [e1]; rfl, h⟩
    · exact ⟨_, _, _, _, by rw [e1]; rfl, h⟩
    · exact ⟨_, _, _, _, by rw [e1]; rfl, h⟩
    · split at h
      · obtain ⟨ts1, V1, h1, h2⟩ := opsT_ok hc _ _ _ _ h
        exact ⟨_, _, _, _, by rw [e1]; simp only [stepQ, step, h1], h2⟩
      · split at h
        · rename_i hd
          obtain ⟨ts1, V1, h1, h2⟩ := drawT_ok hc _ _ _ _ _ h
          exact ⟨_, _, _, _, by rw [e1]; simp only [stepQ, step, hd, h1], h2⟩
        · cases h
    · obtain ⟨e, ts1, df1, V1, h1, h2⟩ := codeT_ok hm (N + 1) _ ar _ ts df V _ h
      split at h2
      · obtain ⟨e', ts2, df2, V2, h3, h4⟩ := codeT_ok hm (N + 1) _ ar _ _ _ _ _ h2
        exact ⟨_, _, _, _, by rw [e1]; simp only [stepQ, step, h1, h3], h4⟩
      · rename_i hne
        refine ⟨_, _, _, _, ?_, h2⟩
        rw [e1]
        simp only [stepQ, step, h1]
        cases e with
        | normal => exact absurd rfl hne
        | exit id => rfl
        | ret => rfl
    · split at h
      · rename_i hc
        split at h
        · rename_i hv
          obtain ⟨e, ts1, df1, V1, h1, h2⟩ := codeT_ok hm (N + 1) _ ar _ ts df V _ h
          exact ⟨_, _, _, _, by rw [e1]; simp only [stepQ, step, hc, hv, h1], h2⟩
        · rename_i hv
          obtain ⟨e, ts1, df1, V1, h1, h2⟩ := codeT_ok hm (N + 1) _ ar _ ts df V _ h
          exact ⟨_, _, _, _, by rw [e1]; simp only [stepQ, step, hc, hv, h1], h2⟩
        · cases h
      · cases h
    · obtain ⟨e, ts1, df1, V1, h1, h2⟩ := codeT_ok hm (N + 1) _ ar _ ts df V _ h
      split at h2
      · split at h2
        · rename_i hq
          exact ⟨_, _, _, _, by rw [e1]; simp only [stepQ, step, h1, hq], h2⟩
        · rename_i hq
          exact ⟨_, _, _, _, by rw [e1]; simp only [stepQ, step, h1, hq], h2⟩
      · rename_i hne
        refine ⟨_, _, _, _, ?_, h2⟩
        rw [e1]
        simp only [stepQ, step, h1]
        cases e with
        | normal => rfl
        | exit id => exact absurd rfl (hne id)
        | ret => rfl
    · split at h
      · split at h
        · cases h
        rename_i hlp
        obtain ⟨e, ts1, df1, V1, h1, h2⟩ := codeT_ok hm (N + 1) _ ar _ ts df V _ h
        split at h2
        · cases h2
        · rename_i hne
          split at h2
          · rename_i hle
            refine ⟨_, _, _, _, ?_, h2⟩
            rw [e1]
            simp only [stepQ, loopQ, hlp, h1]
            have hle := Nat.le_of_ble_eq_true hle
            cases e with
            | normal => exact absurd rfl hne
            | exit id => simp only [if_pos hle]
            | ret => simp only [if_pos hle]
          · cases h2
      · rename_i L r _
        obtain ⟨⟨e, ts1, df1, V1, h1, L', hL, a, hP, rfl, rfl, rfl, rfl⟩, h2⟩ := h
        exact ⟨_, _, _, _, h1, endsW_ok h2 L' hL a hP⟩
    · cases h
/-- how a round comes to its end: what is new is forgotten -/
def roundK (I : LInv) (K : List Nat) (n w : Nat) (b : I.β) (l : List LoopEnd) (e : Ex) (ts : List Value) (df : List Nat) (V : View) : Prop := match Nat.ble V.next (n + w) with
  | true => match e with
    | .normal => RoundEnd I b l .normal (ts.map (scrubV n)) df (keepV K n V)
    | e => RoundEnd I b l e ts df ⟨n + w, V.objs⟩
  | false => False
theorem loop_ruleT (hm : ∀ ar c ts df V, memo (.code ar c ts df V) = none) (I : LInv) (l : List LoopEnd) {ar : Option Nat} {body : Code} {N0 n w : Nat} (hlp : isLp body = false) (hw : wOf W (.loop body) = w)
    (hn : ∀ b, I.P b → (I.V b).next = n ∧ Clean n (I.V b).objs)
    (hstep : ∀ M b, I.P b → ∃ adv, codeT memo K W (M + N0) adv ar body (I.ts b) I.df (I.V b) (roundK I K n w b l)) :
    ∀ (M : Nat) (b : I.β), I.P b → I.μ b + N0 < M → LoopRT memo K W M ar (.loop body) (I.ts b) I.df (I.V b) l := by
  subst hw
  intro M
  induction M with
  | zero => intro b hb h; omega
  | succ M ih =>
    intro b hb h
    obtain ⟨adv, hs⟩ := hstep (M - N0) b hb
    rw [show M - N0 + N0 = M by omega] at hs
    obtain ⟨e, ts1, df1, V1, h1, h2⟩ := codeT_ok hm _ _ _ _ _ _ _ _ hs
    obtain ⟨hnb, -⟩ := hn b hb
    have e1 : rmQ memo K W (M + 1) (.code ar (.loop body) (I.ts b) I.df (I.V b)) = loopQ K W (rmQ memo K W M) ar body (I.ts b) I.df (I.V b) := by rw [rmQ, orF, hm]; rfl
    unfold roundK at h2
    split at h2
    case h_2 => cases h2
    rename_i hle
    have hle := Nat.le_of_ble_eq_true hle
    split at h2
    · cases h2 with
      | again he b' hP hmu h3 h4 h5 =>
        obtain ⟨e, ts2, df2, V2, h6, h7⟩ := ih b' hP (by omega)
        refine ⟨e, ts2, df2, V2, ?_, h7⟩
        rw [e1]
        unfold loopQ
        rw [hlp]
        simp only [h1]
        have hcl : Clean n (keepQ K n V1.objs) := by
          have := (hn b' hP).2
          rw [← h5] at this
          exact this
        rw [hnb, if_pos ⟨hle, h4, hcl⟩, h3, h5]
        exact h6
      | out he => exact absurd rfl he
    · rename_i hne
      cases h2 with
      | again he => exact absurd he hne
      | out he L hL a hP h0 h3 h4 h5 =>
        refine ⟨e, ts1, df1, ⟨n + wOf W (.loop body), V1.objs⟩, ?_, L, hL, a, hP, h0, h3, h4, h5⟩
        rw [e1]
        unfold loopQ
        rw [hlp]
        simp only [h1]
        rw [hnb]
        cases e with
        | normal => exact absurd rfl hne
        | exit id => simp only [if_pos hle]
        | ret => simp only [if_pos hle]
/-- a call, with its body -/
def callT (memo : Job → Option Out) (K : List Nat) (W : Nat) (adv : AdvT) (N : Nat) (f : FuncId) (args : List Value) (V : View) (k : Value → Prop) : Prop := match TP.funcs[f]? with
  | some fn => match fn.body with
    | some c => codeT memo K W N adv none c (args ++ List.replicate (fn.ntmps - args.length) undef) [] V fun e ts df V1 => match finish (hasYield args) V.next fn.results.toList e ⟨ts, df, V1⟩ with
      | some (.value v _) => k v
      | _ => False
    | none => False
  | none => False
theorem call_runT {adv : AdvT} (hm : ∀ ar c ts df V, memo (.code ar c ts df V) = none) {N : Nat} {f : FuncId} {args : List Value} {V : View} {k : Value → Prop} (hf : memo (.call f args V) = none)
    (h : callT memo K W adv N f args V k) : ∃ v V1, rmQ memo K W (N + 1) (.call f args V) = some (.value v V1) ∧ k v := by
  unfold callT at h
  split at h
  case h_2 => cases h
  rename_i fn hfn
  split at h
  case h_2 => cases h
  rename_i c hc
  obtain ⟨e, ts1, df1, V1, h1, h2⟩ := codeT_ok hm _ _ _ _ _ _ _ _ h
  split at h2
  case h_2 => cases h2
  rename_i v V2 hv
  have h3 : rmQ memo K W (N + 1) (.call f args V) = some (.value v V2) := by
    rw [ends_callT (s1 := ⟨ts1, df1, V1⟩) (e := e) hf hfn hc h1]
    exact hv
  exact ⟨v, V2, h3, h2⟩
end Go.Vm
