/- The small machine over values that are not known: what stands in the way is told, and is to be proved. -/
import Derived.Test.YtcphndfipjifcaaVrG2
set_option linter.unusedVariables false
namespace Go.Vm
variable {memo : Job → Option Out}

/-! what is to be proved of an operation whose result is told -/
structure OBin (op : BinOp) (t : TypeId) (x y : Operand) (a b v : Value) : Prop where
  flat : (flatN 3 a && flatN 3 b && flatN 3 v) = true
  run : pureRun TP (do eqGuard op t x y a b; binOp op t a b) = some v
structure OUn (op : UnOp) (a v : Value) : Prop where
  flat : (flat a && flatN 3 v) = true
  run : pureRun TP (Op.unary op a) = some v
structure OCv (s d : TypeId) (a v : Value) : Prop where
  flat : (flat a && flatN 3 v) = true
  run : pureRun TP (convert s d a) = some v
structure OMax (ts : Array TypeId) (ty : TypeId) (l : List Value) (v : Value) : Prop where
  flat : (l.all flat && flatN 3 v) = true
  run : pureRun TP (Builtin.max_ ts ty l.toArray) = some v
structure OMin (ts : Array TypeId) (ty : TypeId) (l : List Value) (v : Value) : Prop where
  flat : (l.all flat && flatN 3 v) = true
  run : pureRun TP (Builtin.min_ ts ty l.toArray) = some v
structure OCall (memo : Job → Option Out) (g : FuncId) (l : List Value) (v : Value) : Prop where
  ok : callOk TP g = true
  run : ∀ V, memo (.call g l V) = some (.value v V)
inductive OPick (c a b v : Value) : Prop
  | yes (h : c = .bool true) (h2 : a = v)
  | no (h : c = .bool false) (h2 : b = v)
def Obl (memo : Job → Option Out) (e : Operand → Value) (o : Oper) (v : Value) : Prop := match o.op with
  | .binOp op t x y _ => OBin op t x y (e x) (e y) v
  | .unOp op _ x => OUn op (e x) v
  | .convert s d x => OCv s d (e x) v
  | .pick c a b => OPick (e c) (e a) (e b) v
  | .call c => match c.callee with
    | .value f => match e f with
      | .func (.func g) first captured => OCall memo g (first.toList ++ c.args.toList.map e ++ captured.toList) v
      | _ => False
    | .builtin .max => OMax c.argTypes o.type (c.args.toList.map e) v
    | .builtin .min => OMin c.argTypes o.type (c.args.toList.map e) v
    | _ => False
  | _ => False
theorem pureV_obl {s : Sem Value} {v : Value} {V : View} (hv : flatN 3 v = true) (h : pureRun TP s = some v) : pureV TP s V = some (.value v, V) := by simp only [pureV, h, hv]
theorem obl_ok {memo sf : Job → Option Out} (hm : ∀ j r, memo j = some r → sf j = some r) {e : Operand → Value} {o : Oper} {v : Value} (h : Obl memo e o v) (V : View) : after sf (runOp TP e o V) = some (v, V) := by
  unfold Obl at h
  unfold runOp
  split at h
  · rename_i op t x y yt ho
    obtain ⟨h1, h2⟩ := h
    simp only [Bool.and_eq_true] at h1
    simp only [ho, h1.1.1, h1.1.2, Bool.and_self, pureV_obl h1.2 h2, after]
  · rename_i op t x ho
    obtain ⟨h1, h2⟩ := h
    simp only [Bool.and_eq_true] at h1
    simp only [ho, h1.1, pureV_obl h1.2 h2, after]
  · rename_i s d x ho
    obtain ⟨h1, h2⟩ := h
    simp only [Bool.and_eq_true] at h1
    simp only [ho, h1.1, pureV_obl h1.2 h2, after]
  · rename_i c a b ho
    rcases h with ⟨h1, h2⟩ | ⟨h1, h2⟩
    · simp only [ho, h1, h2, after]
    · simp only [ho, h1, h2, after]
  · rename_i c ho
    simp only [ho]
    unfold runCall
    split at h
    · rename_i f hf
      simp only [hf]
      split at h
      · rename_i g first captured hef
        obtain ⟨h1, h2⟩ := h
        simp only [hef, h1, after]
        have e1 : ((first ++ (c.args.toList.map e).toArray) ++ captured).toList = first.toList ++ c.args.toList.map e ++ captured.toList := by simp
        rw [e1, hm _ _ (h2 V)]
      · cases h
    · rename_i hf
      obtain ⟨h1, h2⟩ := h
      simp only [Bool.and_eq_true] at h1
      simp only [hf, h1.1, pureV_obl h1.2 h2, after]
    · rename_i hf
      obtain ⟨h1, h2⟩ := h
      simp only [Bool.and_eq_true] at h1
      simp only [hf, h1.1, pureV_obl h1.2 h2, after]
    · cases h
  · cases h
theorem rmS_memo {memo : Job → Option Out} {N : Nat} : ∀ j r, memo j = some r → rmS memo (N + 1) j = some r := fun j r h => by rw [rmS, orF, h]
/-- what is told, by a list -/
def advOf : List (Nat × Value) → Nat → Option Value
  | [], _ => none
  | (k, v) :: r, d => match Nat.beq k d with
    | true => some v
    | false => advOf r d
/-- operations one after another; what 'adv' names is taken to be as told, and is to be proved -/
def opsW (memo self : Job → Option Out) (adv : Nat → Option Value) (ops : Array Oper) : List Oper → List Value → View → (List Value → View → Prop) → Prop
  | [], ts, V, k => k ts V
  | o :: rest, ts, V, k => match okOps o with
    | true => match wantedL ops ts o with
      | some true => match o.dst.bind adv with
        | some v => Obl memo (ev ts) o v ∧ opsW memo self adv ops rest (lput ts o.dst v) V k
        | none => match after self (runOp TP (ev ts) o V) with
          | some (v, V1) => opsW memo self adv ops rest (lput ts o.dst v) V1 k
          | none => False
      | some false => opsW memo self adv ops rest (lput ts o.dst undef) V k
      | none => False
    | false => False
theorem opsW_ok {memo self : Job → Option Out} (hm : ∀ j r, memo j = some r → self j = some r) {adv : Nat → Option Value} {ops : Array Oper} : ∀ (l : List Oper) (ts : List Value) (V : View) (k : List Value → View → Prop), opsW memo self adv ops l ts V k →
    ∃ ts1 V1, runOps TP self ops l ts V = some (ts1, V1) ∧ k ts1 V1
  | [], ts, V, k, h => ⟨ts, V, rfl, h⟩
  | o :: rest, ts, V, k, h => by
    unfold opsW at h
    unfold runOps
    split at h
    case h_2 => cases h
    rename_i hok
    simp only [hok]
    split at h
    · rename_i hwa
      simp only [hwa]
      split at h
      · obtain ⟨h1, h2⟩ := h
        have h1 := obl_ok hm h1 V
        simp only [h1]
        exact opsW_ok hm _ _ _ _ h2
      · split at h
        · rename_i h1
          simp only [h1]
          exact opsW_ok hm _ _ _ _ h
        · cases h
    · rename_i hwa
      simp only [hwa]
      exact opsW_ok hm _ _ _ _ h
    · cases h

/-- the same of a region that draws its order -/
def drawW (memo self : Job → Option Out) (adv : Nat → Option Value) (ops : Array Oper) (anc : Array Nat) : List Oper → List Rec → List Value → View → (List Value → View → Prop) → Prop
  | [], _, ts, V, k => k ts V
  | o :: rest, recs, ts, V, k => match okOps o with
    | true => match wantedL ops ts o with
      | some true => match isAll (footOf (ev ts) o) && totalAt anc recs.length with
        | true => match after self (runOp TP (ev ts) o V) with
          | some (v, V1) => match inb V1.next V1.objs with
            | true => drawW memo self adv ops anc rest (dummies ops (lput ts o.dst v) V1 (recs.length + 1)) (lput ts o.dst v) V1 k
            | false => False
          | none => False
        | false => match viewFor (anc.getD recs.length 0) recs V (footOf (ev ts) o) with
          | some (Vi, wr) => match o.dst.bind adv with
            | some v => Obl memo (ev ts) o v ∧ (match goodOut V.next wr Vi.next Vi.objs && inb V.next V.objs with
              | true => drawW memo self adv ops anc rest (⟨Vi, v, Vi, wr⟩ :: recs) (lput ts o.dst v) ⟨Vi.next, newer V.next Vi.objs (turned wr Vi V.objs)⟩ k
              | false => False)
            | none => match after self (runOp TP (ev ts) o Vi) with
              | some (v, Vo) => match goodOut V.next wr Vo.next Vo.objs && inb V.next V.objs with
                | true => drawW memo self adv ops anc rest (⟨Vi, v, Vo, wr⟩ :: recs) (lput ts o.dst v) ⟨Vo.next, newer V.next Vo.objs (turned wr Vo V.objs)⟩ k
                | false => False
              | none => False
          | none => False
      | some false => drawW memo self adv ops anc rest (⟨⟨V.next, []⟩, undef, ⟨V.next, []⟩, none⟩ :: recs) (lput ts o.dst undef) V k
      | none => False
    | false => False
theorem drawW_ok {memo self : Job → Option Out} (hm : ∀ j r, memo j = some r → self j = some r) {adv : Nat → Option Value} {ops : Array Oper} {anc : Array Nat} : ∀ (l : List Oper) (recs : List Rec) (ts : List Value) (V : View) (k : List Value → View → Prop), drawW memo self adv ops anc l recs ts V k →
    ∃ ts1 V1, drawGo TP self ops anc l recs ts V = some (ts1, V1) ∧ k ts1 V1
  | [], recs, ts, V, k, h => ⟨ts, V, rfl, h⟩
  | o :: rest, recs, ts, V, k, h => by
    unfold drawW at h
    unfold drawGo
    split at h
    case h_2 => cases h
    rename_i hok
    simp only [hok]
    split at h
    · rename_i hwa
      simp only [hwa]
      split at h
      · rename_i hal
        simp only [hal]
        split at h
        · rename_i h1
          split at h
          · rename_i h2
            simp only [h1, h2]
            exact drawW_ok hm _ _ _ _ _ h
          · cases h
        · cases h
      · rename_i hal
        simp only [hal]
        split at h
        · rename_i Vi wr hv
          simp only [hv]
          split at h
          · obtain ⟨h1, h⟩ := h
            have h1 := obl_ok hm h1 Vi
            split at h
            · rename_i h2
              simp only [h1, h2]
              exact drawW_ok hm _ _ _ _ _ h
            · cases h
          · split at h
            · rename_i h1
              split at h
              · rename_i h2
                simp only [h1, h2]
                exact drawW_ok hm _ _ _ _ _ h
              · cases h
            · cases h
        · cases h
    · rename_i hwa
      simp only [hwa]
      exact drawW_ok hm _ _ _ _ _ h
    · cases h

/-- some code -/
def codeW (memo : Job → Option Out) (adv : Nat → Option Value) : Nat → Option Nat → Code → List Value → List Nat → View → (Ex → List Value → List Nat → View → Prop) → Prop
  | 0, _, _, _, _, _, _ => False
  | 1, _, _, _, _, _, _ => False
  | N + 2, ar, c, ts, df, V, k => match c with
    | .skip | .label _ => k .normal ts df V
    | .exit id => k (.exit id) ts df V
    | .ret => k .ret ts df V
    | .region _ ops draw => match draw with
      | false => opsW memo (rmS memo (N + 1)) adv ops ops.toList ts V fun ts V => k .normal ts df V
      | true => match drawOk ops && inb V.next V.objs with
        | true => drawW memo (rmS memo (N + 1)) adv ops (Region.before ops) ops.toList [] ts V fun ts V => k .normal ts df V
        | false => False
    | .seq a b => codeW memo adv (N + 1) ar a ts df V fun e ts df V => match e with
      | .normal => codeW memo adv (N + 1) ar b ts df V k
      | e => k e ts df V
    | .cond c a b => match okConst c with
      | true => match ev ts c with
        | .bool true => codeW memo adv (N + 1) ar a ts df V k
        | .bool false => codeW memo adv (N + 1) ar b ts df V k
        | _ => False
      | false => False
    | .block id body => codeW memo adv (N + 1) ar body ts df V fun e ts df V => match e with
      | .exit j => match Nat.beq j id with
        | true => k .normal ts df V
        | false => k (.exit j) ts df V
      | e => k e ts df V
    | c => ∃ e ts1 df1 V1, rmS memo (N + 2) (.code ar c ts df V) = some (.code e ts1 df1 V1) ∧ k e ts1 df1 V1
theorem codeW_ok {adv : Nat → Option Value} (hm : ∀ ar c ts df V, memo (.code ar c ts df V) = none) : ∀ (N : Nat) (ar : Option Nat) (c : Code) (ts : List Value) (df : List Nat) (V : View) (k : Ex → List Value → List Nat → View → Prop),
    codeW memo adv N ar c ts df V k → ∃ e ts1 df1 V1, rmS memo N (.code ar c ts df V) = some (.code e ts1 df1 V1) ∧ k e ts1 df1 V1
  | 0, ar, c, ts, df, V, k, h => by unfold codeW at h; exact h.elim
  | 1, ar, c, ts, df, V, k, h => by unfold codeW at h; exact h.elim
  | N + 2, ar, c, ts, df, V, k, h => by
    have e1 : rmS memo (N + 2) (.code ar c ts df V) = step TP (rmS memo (N + 1)) (.code ar c ts df V) := by rw [rmS, orF, hm]
    unfold codeW at h
    split at h
    · exact ⟨_, _, _, _, by rw [e1]; rfl, h⟩
    · exact ⟨_, _, _, _, by rw [e1]; rfl, h⟩
    · exact ⟨_, _, _, _, by rw [e1]; rfl, h⟩
    · exact ⟨_, _, _, _, by rw [e1]; rfl, h⟩
    · split at h
      · obtain ⟨ts1, V1, h1, h2⟩ := opsW_ok rmS_memo _ _ _ _ h
        exact ⟨_, _, _, _, by rw [e1]; simp only [step, h1], h2⟩
      · split at h
        · rename_i hd
          obtain ⟨ts1, V1, h1, h2⟩ := drawW_ok rmS_memo _ _ _ _ _ h
          exact ⟨_, _, _, _, by rw [e1]; simp only [step, hd, h1], h2⟩
        · cases h
    · obtain ⟨e, ts1, df1, V1, h1, h2⟩ := codeW_ok hm (N + 1) ar _ ts df V _ h
      split at h2
      · obtain ⟨e', ts2, df2, V2, h3, h4⟩ := codeW_ok hm (N + 1) ar _ _ _ _ _ h2
        exact ⟨_, _, _, _, by rw [e1]; simp only [step, h1, h3], h4⟩
      · rename_i hne
        refine ⟨_, _, _, _, ?_, h2⟩
        rw [e1]
        simp only [step, h1]
        cases e with
        | normal => exact absurd rfl hne
        | exit id => rfl
        | ret => rfl
    · split at h
      · rename_i hc
        split at h
        · rename_i hv
          obtain ⟨e, ts1, df1, V1, h1, h2⟩ := codeW_ok hm (N + 1) ar _ ts df V _ h
          exact ⟨_, _, _, _, by rw [e1]; simp only [step, hc, hv, h1], h2⟩
        · rename_i hv
          obtain ⟨e, ts1, df1, V1, h1, h2⟩ := codeW_ok hm (N + 1) ar _ ts df V _ h
          exact ⟨_, _, _, _, by rw [e1]; simp only [step, hc, hv, h1], h2⟩
        · cases h
      · cases h
    · obtain ⟨e, ts1, df1, V1, h1, h2⟩ := codeW_ok hm (N + 1) ar _ ts df V _ h
      split at h2
      · split at h2
        · rename_i hq
          exact ⟨_, _, _, _, by rw [e1]; simp only [step, h1, hq], h2⟩
        · rename_i hq
          exact ⟨_, _, _, _, by rw [e1]; simp only [step, h1, hq], h2⟩
      · rename_i hne
        refine ⟨_, _, _, _, ?_, h2⟩
        rw [e1]
        simp only [step, h1]
        cases e with
        | normal => rfl
        | exit id => exact absurd rfl (hne id)
        | ret => rfl
    · exact h

/-- a call, with its body -/
def callW (memo : Job → Option Out) (adv : Nat → Option Value) (N : Nat) (f : FuncId) (args : List Value) (k : Value → Prop) : Prop := match TP.funcs[f]? with
  | some fn => match fn.body with
    | some c => codeW memo adv N none c (args ++ List.replicate (fn.ntmps - args.length) undef) [] ⟨0, []⟩ fun e ts df V => match finish (hasYield args) 0 fn.results.toList e ⟨ts, df, V⟩ with
      | some (.value v _) => k v
      | _ => False
    | none => False
  | none => False
set_option maxRecDepth 100000 in
/-- what is shown of a call with plain arguments holds in every world -/
theorem call_sym {adv : Nat → Option Value} (hs : SelfOK TP memo) (hm : ∀ ar c ts df V, memo (.code ar c ts df V) = none) {N : Nat} {f : FuncId} {args : List Value} {k : Value → Prop} (hf : memo (.call f args ⟨0, []⟩) = none)
    (ha : args.all (flatN 3) = true) (hk : ∀ v, k v → flatN 3 v = true) (h : callW memo adv N f args k) (w : World) : Calls TP f args.toArray w fun e w' => (∃ v, e = .returned v ∧ k v) ∧ RowKit.Below w.heap.size w w' := by
  unfold callW at h
  split at h
  case h_2 => cases h
  rename_i fn hfn
  split at h
  case h_2 => cases h
  rename_i c hc
  obtain ⟨e, ts1, df1, V1, h1, h2⟩ := codeW_ok hm _ _ _ _ _ _ _ h
  split at h2
  case h_2 => cases h2
  rename_i v V2 hv
  have h3 : rmS memo (N + 1) (.call f args ⟨0, []⟩) = some (.value v V2) := by
    rw [ends_call (s1 := ⟨ts1, df1, V1⟩) (e := e) hf hfn hc h1]
    exact hv
  have hkv := hk v h2
  obtain ⟨_, ok⟩ := (rmS_ok hs (N + 1)).call _ _ _ _ _ h3
  have hl : LRel (VRel ⟨id, fun _ => 0, fun _ => 0, fun _ => 0⟩ (fun _ => False)) args args := LRel.of_get rfl fun i x y hx hy => by
    rw [hx] at hy; cases hy
    exact VRel.of_flatN 3 x (List.all_eq_true.1 ha x (List.mem_of_getElem? hx))
  have := ok ⟨id, fun _ => 0, fun _ => 0, fun _ => 0⟩ (fun _ => False) w args.toArray 5 ⟨fun b o h => (by cases h), fun b o h => (by cases h), fun b o h => (by cases h), fun b cs e fz h => (by cases h), fun b es c h => (by cases h), fun b c x y h => (by cases h)⟩ hl (fun b _ _ h => h)
  refine (callsIn_wide.1 this).mono ?_
  rintro e w' ⟨ρ1, v', rfl, st, hr⟩
  have hv' := hr.flatN_eq 3 hkv
  subst hv'
  exact ⟨⟨_, rfl, h2⟩, st.os, st.tape, st.output, st.size, fun k hk => st.frame k hk fun b o hb => by cases hb⟩
end Go.Vm
