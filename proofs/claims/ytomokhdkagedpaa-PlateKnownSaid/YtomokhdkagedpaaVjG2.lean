/- The quick machine: regions, code, calls, computations cut into parts. -/
import Derived.Test.YtomokhdkagedpaaVjG1
import Derived.Test.YtomokhdkagedpaaVjV4
set_option linter.unusedVariables false
/- The quick machine: regions in the order of the text; calls. -/
namespace Go.Vm

noncomputable def doK : GK → Oper → Sf → Nat → Env → Nat → Objs → KV → Bool := GK.rec (motive := fun _ => Oper → Sf → Nat → Env → Nat → Objs → KV → Bool)
  (fun x _ _ _ env n m K => fVal (getO x env) fun v => K v n m)
  (fun op x y o _ nt env n m K => pBin op x y env (fun v => K v n m) (slowK nt o env n m K))
  (fun x o _ nt env n m K => pNot x env (fun v => K v n m) (slowK nt o env n m K))
  (fun c a b o _ nt env n m K => pPick c a b env (fun v => K v n m) (slowK nt o env n m K))
  (fun off x o _ nt env n m K => pFa off x env (fun v => K v n m) (slowK nt o env n m K))
  (fun size x i o _ nt env n m K => pIxs size x i env (fun v => K v n m) (slowK nt o env n m K))
  (fun size len x i o _ nt env n m K => pIxa size len x i env (fun v => K v n m) (slowK nt o env n m K))
  (fun j x o _ nt env n m K => pExt j x env (fun v => K v n m) (slowK nt o env n m K))
  (fun x o _ nt env n m K => pNil x env (fun v => K v n m) (slowK nt o env n m K))
  (fun g f c _ _ _ env n m K => mapO f env fun l => mapO c env fun r => K (.func (.func g) (Array.mk l) (Array.mk r)) n m)
  (fun x o _ nt env n m K => pLen x env (fun v => K v n m) (slowK nt o env n m K))
  (fun a o _ nt env n m K => mLd a env m (fun v => K v n m) (slowK nt o env n m K))
  (fun size a o _ nt env n m K => mLdn size a env m (fun v => K v n m) (slowK nt o env n m K))
  (fun size a x o _ nt env n m K => mSt size a x env m (fun m => K undef n m) (slowK nt o env n m K))
  (fun z e _ _ _ _ n m K => fNr (Nat.succ n) fun n1 => K (.pointer (some (Addr.mk n 0 none))) n1 ((n, .cells (Array.mk z) e (0, 0)) :: m))
  (fun e x o _ nt env n m K => cellsK (getO x env) (fun cs => fNr (Nat.succ n) fun n1 => K (.pointer (some (Addr.mk n 0 none))) n1 ((n, .cells (Array.mk cs) e (0, 0)) :: m)) (slowK nt o env n m K))
  (fun f args _ S _ env n m K => callG f args S env n m K)
  (fun o _ nt env n m K => slowK nt o env n m K)
theorem all_arr {nt : Nat} {f : Array Operand} (h : ∀ (i : Nat) (x : i < f.size), okSlot nt f[i] = true) : f.toList.all (okSlot nt) = true := by
  rw [List.all_eq_true]
  intro x hx
  obtain ⟨i, hi, rfl⟩ := Array.mem_iff_getElem.1 (Array.mem_toList_iff.1 hx)
  exact h i hi
section
variable {sf : Job → Option Out} {S : Sf} {nt : Nat} {env : Env} {ts : List Value} {o : Oper} {n : Nat} {m : Objs} {K : KV}
theorem doK_done (h : ERel nt env ts) (hS : GSelf sf S) (hn : inb n m = true) (hok : o.op.operands.toList.all (okSlot nt) = true) (hr : doK (gk TP o.op) o S nt env n m K = true) : Done sf (ev ts) o n m K := by
  have slow : slowK nt o env n m K = true → Done sf (ev ts) o n m K := slow_done h
  have pur : ∀ {x : Prop}, ((∃ v, PureOK TP (ev ts) o v ∧ K v n m = true) ∨ slowK nt o env n m K = true) → Done sf (ev ts) o n m K := fun {x} hx => hx.elim (fun ⟨v, h1, h2⟩ => pure_done h1 hn h2) slow
  have ld : ((∃ v, runOp TP (ev ts) o ⟨n, m⟩ = some (.value v, ⟨n, m⟩) ∧ K v n m = true) ∨ slowK nt o env n m K = true) → Done sf (ev ts) o n m K := fun hx => hx.elim (fun ⟨v, h1, h2⟩ => ⟨v, ⟨n, m⟩, by rw [h1]; rfl, hn, h2⟩) slow
  obtain ⟨d, op, ty, pos, aft, gd⟩ := o
  dsimp only at hok hr
  cases op with
  | move x =>
    simp [Op.operands] at hok
    have hr : fVal (getO (opdD x) env) (fun v => K v n m) = true := hr
    rw [fVal_eq, getO_eq h hok] at hr
    exact ⟨_, ⟨n, m⟩, rfl, hn, hr⟩
  | assign x =>
    simp [Op.operands] at hok
    have hr : fVal (getO (opdD x) env) (fun v => K v n m) = true := hr
    rw [fVal_eq, getO_eq h hok] at hr
    exact ⟨_, ⟨n, m⟩, rfl, hn, hr⟩
  | binOp op t x y t2 =>
    simp [Op.operands] at hok
    exact pur (x := True) (pBin_true h hok.1 hok.2 hr)
  | unOp op t x =>
    simp [Op.operands] at hok
    cases op <;> first | exact pur (x := True) (pNot_true h hok hr) | exact slow hr
  | pick c a b =>
    simp [Op.operands] at hok
    exact pur (x := True) (pPick_true h hok.1 hok.2.1 hok.2.2 hr)
  | fieldAddr t x j =>
    simp [Op.operands] at hok
    simp only [gk] at hr
    split at hr
    · rename_i off ho
      exact pur (x := True) (pFa_true h ho hok hr)
    · exact slow hr
  | indexAddr t x i =>
    simp [Op.operands] at hok
    simp only [gk] at hr
    split at hr
    · rename_i elem hu
      split at hr
      · rename_i info hi
        exact pur (x := True) (pIxs_true h hu hi hok.1 hok.2 hr)
      · exact slow hr
    · rename_i len elem hu
      split at hr
      · rename_i info hi
        exact pur (x := True) (pIxa_true h hu hi hok.1 hok.2 hr)
      · exact slow hr
    · exact slow hr
  | extract x j =>
    simp [Op.operands] at hok
    exact pur (x := True) (pExt_true h hok hr)
  | nilCheck x =>
    simp [Op.operands] at hok
    exact pur (x := True) (pNil_true h hok hr)
  | makeFunc fn f c =>
    simp only [gk] at hr
    split at hr
    · rename_i g
      have hf : f.toList.all (okSlot nt) = true ∧ c.toList.all (okSlot nt) = true := by
        simp [Op.operands] at hok
        exact ⟨all_arr hok.1, all_arr hok.2⟩
      obtain ⟨v, h1, h2⟩ := pMkf_ok (P := TP) (d := d) (ty := ty) (pos := pos) (aft := aft) (gd := gd) h hf.1 hf.2 (K := fun v => K v n m) hr
      exact pure_done h1 hn h2
    · exact slow hr
  | load t a =>
    simp [Op.operands] at hok
    simp only [gk] at hr
    split at hr
    · rename_i ht
      exact ld (mLd_true h ht hok hr)
    · rename_i ht
      split at hr
      · rename_i i hi
        exact ld (mLdn_true h ht hi hok hr)
      · exact slow hr
    · exact slow hr
  | store t a x =>
    simp [Op.operands] at hok
    simp only [gk] at hr
    split at hr
    · rename_i i hi
      split at hr
      · exact slow hr
      · rename_i hz
        rcases mSt_true (P := TP) (d := d) (ty := ty) (pos := pos) (aft := aft) (gd := gd) h hi (fun e => by rw [e] at hz; cases hz) hok.1 hok.2 hn hr with ⟨m1, h1, h2, h3⟩ | hr
        · exact ⟨undef, ⟨n, m1⟩, by rw [h1]; rfl, h2, h3⟩
        · exact slow hr
    · exact slow hr
  | alloc t =>
    simp only [gk] at hr
    split at hr
    · rename_i i hi
      split at hr
      · rename_i z hz
        have hr : fNr (Nat.succ n) (fun n1 => K (.pointer (some (Addr.mk n 0 none))) n1 ((n, .cells (Array.mk z.cells.toList) t (0, 0)) :: m)) = true := hr
        rw [fNr_eq] at hr
        exact ⟨_, _, by rw [alloc_run hi hz]; rfl, inb_new _ hn, hr⟩
      · exact slow hr
    · exact slow hr
  | box t x =>
    simp [Op.operands] at hok
    have hr : cellsK (getO (opdD x) env) (fun cs => fNr (Nat.succ n) fun n1 => K (.pointer (some (Addr.mk n 0 none))) n1 ((n, .cells (Array.mk cs) t (0, 0)) :: m)) (slowK nt ⟨d, .box t x, ty, pos, aft, gd⟩ env n m K) = true := hr
    rw [getO_eq h hok] at hr
    rcases cellsK_true hr with hr | hr
    · rw [fNr_eq] at hr
      exact ⟨_, _, by rw [box_run]; rfl, inb_new _ hn, hr⟩
    · exact slow hr
  | call c =>
    have ha : c.args.toList.all (okSlot nt) = true := by
      cases hcc : c.callee <;> simp [Op.operands, Call.operands, hcc] at hok <;> first | exact all_arr hok | exact all_arr hok.2
    simp only [gk] at hr
    split at hr
    · rename_i f hc
      have hf : okSlot nt f = true := by
        simp [Op.operands, Call.operands, hc] at hok
        first | exact hok.1 | exact hok f (.inl rfl) | exact hok
      exact call_done h hS hc hf ha hn hr
    · rename_i hc
      split at hr
      · rename_i t ht
        split at hr
        · rename_i elem hu
          split at hr
          · rename_i x hx
            refine pur (x := True) (pLen_true h hc hx ht hu ?_ hr)
            rw [hx] at ha
            simpa using ha
          · exact slow hr
        · exact slow hr
      · exact slow hr
    · exact slow hr
  | _ => exact slow hr
end

inductive GG
  | no
  | yes (p : P3) (want : Bool)
  | bad
inductive GD
  | no
  | put (p : P3)
  | bad
inductive GOp
  | pl (o : Oper) (k : GK) (p : P3)
  | gu (o : Oper) (g : GG) (k : GK) (d : GD)
def gg (nt : Nat) (ops : Array Oper) (o : Oper) : GG := match o.guard with
  | none => .no
  | some (j, want) => match (ops[j]?).bind (·.dst) with
    | some d => match Nat.blt d nt with
      | true => .yes (path d) want
      | false => .bad
    | none => .bad
def gdst (nt : Nat) (d : Option Tmp) : GD := match d with
  | none => .no
  | some d => match Nat.blt d nt with
    | true => .put (path d)
    | false => .bad
noncomputable def gop (nt : Nat) (ops : Array Oper) (o : Oper) : GOp := match o.op.operands.toList.all (okSlot nt) with
  | true => match gg nt ops o with
    | .no => match gdst nt o.dst with
      | .put p => .pl o (gk TP o.op) p
      | d => .gu o .no (gk TP o.op) d
    | g => .gu o g (gk TP o.op) (gdst nt o.dst)
  | false => .gu o .bad .slow .bad
noncomputable def putD (d : GD) (env : Env) (v : Value) (k : Env → Bool) : Bool := GD.rec (motive := fun _ => Env → Value → (Env → Bool) → Bool) (fun env _ k => k env) (fun p env v k => setE p env v k) (fun _ _ _ => false) d env v k
theorem putD_true {nt : Nat} {env : Env} {ts : List Value} (h : ERel nt env ts) {d : Option Tmp} {v : Value} {k : Env → Bool} (hr : putD (gdst nt d) env v k = true) : ∃ env1, ERel nt env1 (lput ts d v) ∧ k env1 = true := by
  cases d with
  | none => exact ⟨env, h, hr⟩
  | some d =>
    simp only [gdst] at hr
    split at hr
    · rename_i hd
      rw [Nat.blt_eq] at hd
      have hr : setE (path d) env v k = true := hr
      rw [setE_eq] at hr
      exact ⟨_, h.set hd v, hr⟩
    · cases hr
noncomputable def eqb (a b : Bool) : Bool := Bool.rec (motive := fun _ => Bool) (notB b) b a
theorem eqb_eq (a b : Bool) : eqb a b = (a == b) := by cases a <;> cases b <;> rfl
noncomputable def wantK (v : Value) (want : Bool) (x y : Bool) : Bool := asB v (fun b => ifB (eqb b want) x y) (asTup v (fun l => List.rec (motive := fun _ => Bool → Bool) (fun y => y) (fun _ _ _ _ => false) l y) false)
theorem wantK_true {v : Value} {want x y : Bool} (h : wantK v want x y = true) : (v = .bool want ∧ x = true) ∨ ((∃ b, v = .bool b ∧ (b == want) = false) ∧ y = true) ∨ (v = undef ∧ y = true) := by
  unfold wantK at h
  rcases asB_true h with ⟨b, hb, h⟩ | h
  · rcases ifB_true h with ⟨h1, h2⟩ | ⟨h1, h2⟩
    · rw [eqb_eq, beq_iff_eq] at h1; subst h1; exact .inl ⟨hb, h2⟩
    · rw [eqb_eq] at h1; exact .inr (.inl ⟨⟨b, hb, h1⟩, h2⟩)
  · rcases asTup_true h with ⟨l, hl, h⟩ | h
    · cases l with
      | nil => exact .inr (.inr ⟨hl, h⟩)
      | cons a l => cases h
    · cases h
/-- an operation, if it is wanted, or none -/
noncomputable def guardG (g : GG) (env : Env) (x y : Bool) : Bool := GG.rec (motive := fun _ => Env → Bool → Bool → Bool) (fun _ x _ => x) (fun p want env x y => wantK (getE p env) want x y) (fun _ _ _ => false) g env x y
theorem guardG_true {nt : Nat} {env : Env} {ts : List Value} (h : ERel nt env ts) {ops : Array Oper} {o : Oper} {x y : Bool} (hr : guardG (gg nt ops o) env x y = true) :
    (wantedL ops ts o = some true ∧ x = true) ∨ (wantedL ops ts o = some false ∧ y = true) := by
  unfold gg at hr
  unfold wantedL
  split at hr
  · rename_i hg; rw [hg]; exact .inl ⟨rfl, hr⟩
  · rename_i j want hg
    rw [hg]
    dsimp only
    split at hr
    · rename_i d hd
      rw [hd]
      split at hr
      · rename_i hlt
        rw [Nat.blt_eq] at hlt
        have hr : wantK (getE (path d) env) want x y = true := hr
        rw [h.get d hlt] at hr
        dsimp only
        rcases wantK_true hr with ⟨h1, h2⟩ | ⟨⟨b, h1, h3⟩, h2⟩ | ⟨h1, h2⟩
        · rw [h1]; exact .inl ⟨by simp, h2⟩
        · rw [h1]; exact .inr ⟨by simp [h3], h2⟩
        · rw [h1]; exact .inr ⟨rfl, h2⟩
      · cases hr
    · cases hr
abbrev KE := Env → Nat → Objs → Bool
noncomputable def opG : GOp → Sf → Nat → Env → Nat → Objs → KE → Bool := GOp.rec (motive := fun _ => Sf → Nat → Env → Nat → Objs → KE → Bool)
  (fun o kk p S nt env n m k => doK kk o S nt env n m fun v n m => setE p env v fun env => k env n m)
  (fun o g kk d S nt env n m k => guardG g env (doK kk o S nt env n m fun v n m => putD d env v fun env => k env n m) (putD d env undef fun env => k env n m))
theorem opG_gop {nt : Nat} {ops : Array Oper} {o : Oper} {S : Sf} {env : Env} {n : Nat} {m : Objs} {k : KE} (hr : opG (gop nt ops o) S nt env n m k = true) :
    o.op.operands.toList.all (okSlot nt) = true ∧ guardG (gg nt ops o) env (doK (gk TP o.op) o S nt env n m fun v n m => putD (gdst nt o.dst) env v fun env => k env n m) (putD (gdst nt o.dst) env undef fun env => k env n m) = true := by
  unfold gop at hr
  split at hr
  · rename_i hok
    refine ⟨hok, ?_⟩
    split at hr
    · rename_i hg
      split at hr
      · rename_i p hd
        rw [hg, hd]; exact hr
      · rw [hg]; exact hr
    · exact hr
  · cases hr
noncomputable def runSeq : List GOp → Sf → Nat → Env → Nat → Objs → KE → Bool := List.rec (motive := fun _ => Sf → Nat → Env → Nat → Objs → KE → Bool)
  (fun _ _ env n m k => k env n m) (fun op _ ih S nt env n m k => opG op S nt env n m fun env n m => ih S nt env n m k)
theorem okSlot_const {nt : Nat} {x : Operand} (h : okSlot nt x = true) : okConst x = true := by
  cases x with
  | tmp t => rfl
  | const v => exact h
  | global g => cases h
  | func f => rfl
theorem ok_ops {nt : Nat} {o : Oper} (h : o.op.operands.toList.all (okSlot nt) = true) : okOps o = true := by
  unfold okOps
  rw [List.all_eq_true] at h ⊢
  exact fun x hx => okSlot_const (h x hx)
theorem runSeq_true {sf : Job → Option Out} {S : Sf} (hS : GSelf sf S) {nt : Nat} (ops : Array Oper) {k : KE} : ∀ (l : List Oper) {env : Env} {ts : List Value} {n : Nat} {m : Objs}, ERel nt env ts → inb n m = true → runSeq (l.map (gop nt ops)) S nt env n m k = true →
    ∃ ts1 V1 env1, runOps TP sf ops l ts ⟨n, m⟩ = some (ts1, V1) ∧ ERel nt env1 ts1 ∧ inb V1.next V1.objs = true ∧ k env1 V1.next V1.objs = true
  | [], env, ts, n, m, h, hn, hr => ⟨ts, ⟨n, m⟩, env, rfl, h, hn, hr⟩
  | o :: l, env, ts, n, m, h, hn, hr => by
    have hr : opG (gop nt ops o) S nt env n m (fun env n m => runSeq (l.map (gop nt ops)) S nt env n m k) = true := hr
    obtain ⟨hok, hr⟩ := opG_gop hr
    simp only [runOps, ok_ops hok]
    rcases guardG_true h hr with ⟨hw, hr⟩ | ⟨hw, hr⟩
    · obtain ⟨v, V1, h1, h2, h3⟩ := doK_done h hS hn hok hr
      obtain ⟨env1, h4, h5⟩ := putD_true h h3
      rw [hw, h1]
      exact runSeq_true hS ops l (n := V1.next) (m := V1.objs) h4 h2 h5
    · obtain ⟨env1, h4, h5⟩ := putD_true h hr
      rw [hw]
      exact runSeq_true hS ops l h4 hn h5
end Go.Vm
/- The quick machine: regions that draw their order. -/
namespace Go.Vm
abbrev Wrs := List (Nat × Rec)
/-- a record without its value -/
def strip (r : Rec) : Rec := ⟨r.vi, undef, r.vo, r.wr⟩
theorem hid_strip (A : Nat) (b : Nat) : ∀ (recs : List Rec), hid A (recs.map strip) b = hid A recs b
  | [] => rfl
  | r :: l => by simp only [List.map_cons, hid, List.length_map, hid_strip A b l]; rfl
theorem clash_strip (A : Nat) (b : Nat) : ∀ (recs : List Rec), clash A (recs.map strip) b = clash A recs b
  | [] => rfl
  | r :: l => by simp only [List.map_cons, clash, List.length_map, clash_strip A b l]; rfl
theorem visible_strip (A : Nat) (recs : List Rec) : ∀ (l : Objs), visible A (recs.map strip) l = visible A recs l
  | [] => rfl
  | (k, o) :: l => by simp only [visible, hid_strip, visible_strip A recs l]
theorem anyHid_strip (A : Nat) (recs : List Rec) : ∀ (l : List Nat), anyHid A (recs.map strip) l = anyHid A recs l
  | [] => rfl
  | b :: l => by simp only [anyHid, hid_strip, anyHid_strip A recs l]
theorem view_strip (A : Nat) (recs : List Rec) (V : View) (f : Foot) : viewFor A (recs.map strip) V f = viewFor A recs V f := by
  cases f with
  | none => rfl
  | all => simp only [viewFor, visible_strip]
  | some l wr => simp only [viewFor, anyHid_strip, clash_strip]
def dl (n : Nat) : Rec := ⟨⟨n, []⟩, undef, ⟨n, []⟩, none⟩
noncomputable def repD (n : Nat) : Nat → List Rec := Nat.rec (motive := fun _ => List Rec) [] (fun _ ih => dl n :: ih)
theorem strip_dummies (ops : Array Oper) (ts : List Value) (V : View) : ∀ k, (dummies ops ts V k).map strip = repD V.next k
  | 0 => rfl
  | k + 1 => by simp only [dummies, List.map_cons, strip_dummies ops ts V k]; rfl
theorem keep_rep (n : Nat) : ∀ k, keep (repD n k) = []
  | 0 => rfl
  | k + 1 => by
    have : dull (dl n) = true := Nat.ble_eq_true_of_le (Nat.le_refl _)
    show keep (dl n :: repD n k) = []
    simp only [keep, this, keep_rep n k]
noncomputable def hidG : Wrs → Nat → Nat → Bool := List.rec (motive := fun _ => Nat → Nat → Bool) (fun _ _ => false) (fun p _ ih A b => ifB (!(A.testBit p.1) && touch p.2 b) true (ih A b))
theorem hidG_eq (A b : Nat) : ∀ (recs : List Rec), hidG (keep recs) A b = hid A recs b := by
  intro recs
  rw [← hidS_eq]
  generalize keep recs = w
  induction w with
  | nil => rfl
  | cons p w ih =>
    obtain ⟨k, r⟩ := p
    show ifB (!(A.testBit k) && touch r b) true (hidG w A b) = _
    rw [ih, hidS]
    cases (!(A.testBit k) && touch r b) <;> rfl
noncomputable def frzO (o : Obj) (k : List Value → TypeId → Bool) (km : Array MapEntry → Bool) (s : Bool) : Bool := Obj.rec (motive := fun _ => (List Value → TypeId → Bool) → (Array MapEntry → Bool) → Bool → Bool)
  (fun c e _ k _ _ => k c.toList e) (fun _ _ _ _ s => s) (fun _ _ _ _ s => s) (fun _ _ _ _ s => s) (fun es _ _ km _ => km es) (fun _ _ _ _ _ _ _ _ s => s) (fun _ _ _ _ s => s) (fun _ _ _ _ _ _ s => s) (fun _ _ _ s => s) (fun _ _ _ s => s) (fun _ _ _ s => s) (fun _ _ _ _ s => s) o k km s
/-- what is frozen of it -/
noncomputable def frzK : Objs → Wrs → Nat → (Objs → Bool) → Bool := List.rec (motive := fun _ => Wrs → Nat → (Objs → Bool) → Bool) (fun _ _ k => k [])
  (fun p _ ih w A k => Prod.rec (motive := fun _ => (Wrs → Nat → (Objs → Bool) → Bool) → Wrs → Nat → (Objs → Bool) → Bool) (fun key o ih w A k => ifB (hidG w A key) (ih w A k) (frzO o (fun l e => ih w A fun r => k ((key, .cells (Array.mk l) e (0, 1)) :: r)) (fun es => ih w A fun r => k ((key, .map es big) :: r)) (ih w A k))) p ih w A k)
theorem frzO_eq (o : Obj) (k : List Value → TypeId → Bool) (km : Array MapEntry → Bool) (s : Bool) : frzO o k km s = (match o with | .cells c e _ => k c.toList e | .map es _ => km es | _ => s) := by cases o <;> rfl
theorem frzK_eq (A : Nat) (recs : List Rec) : ∀ (l : Objs) (k : Objs → Bool), frzK l (keep recs) A k = k (freezeAll (visible A recs l))
  | [], k => rfl
  | (key, o) :: l, k => by
    show ifB (hidG (keep recs) A key) (frzK l (keep recs) A k) (frzO o (fun c e => frzK l (keep recs) A fun r => k ((key, .cells (Array.mk c) e (0, 1)) :: r)) (fun es => frzK l (keep recs) A fun r => k ((key, .map es big) :: r)) (frzK l (keep recs) A k)) = _
    rw [hidG_eq, frzK_eq A recs l]
    simp only [visible]
    cases hid A recs key with
    | true => rfl
    | false =>
      show frzO o _ _ _ = _
      rw [frzO_eq]
      cases o with
      | cells c e fz => exact frzK_eq A recs l _
      | map es c => exact frzK_eq A recs l fun r => k ((key, .map es big) :: r)
      | _ => rfl
theorem inb_visible (A : Nat) (recs : List Rec) : ∀ (l : Objs) (m : Nat), inb m l = true → inb m (visible A recs l) = true
  | [], m, _ => rfl
  | (key, o) :: r, m, h => by
    simp only [inb, Bool.and_eq_true, Nat.blt_eq] at h
    simp only [visible]
    split
    · exact inb_up _ (Nat.le_of_lt h.1) (inb_visible A recs r key h.2)
    · simp only [inb, Bool.and_eq_true, Nat.blt_eq]; exact ⟨h.1, inb_visible A recs r key h.2⟩
theorem inb_freeze : ∀ (l : Objs) (m : Nat), inb m l = true → inb m (freezeAll l) = true
  | [], m, _ => rfl
  | (key, o) :: r, m, h => by
    simp only [inb, Bool.and_eq_true, Nat.blt_eq] at h
    cases o with
    | cells c e fz => simp only [freezeAll, inb, Bool.and_eq_true, Nat.blt_eq]; exact ⟨h.1, inb_freeze r key h.2⟩
    | map es c => simp only [freezeAll, inb, Bool.and_eq_true, Nat.blt_eq]; exact ⟨h.1, inb_freeze r key h.2⟩
    | _ => exact inb_up _ (Nat.le_of_lt h.1) (inb_freeze r key h.2)
/-- new blocks are one's own -/
noncomputable def goodG : Objs → Nat → Bool := List.rec (motive := fun _ => Nat → Bool) (fun _ => true) (fun p _ ih n => ifB (Nat.ble (Nat.succ p.1) n) true (ifB (owned p.2) (ih n) false))
theorem good_old (n m : Nat) (hm : n ≤ m) : ∀ (l : Objs) (j : Nat), j ≤ n → inb j l = true → goodOut n none m l = true
  | [], _, _, _ => rfl
  | (key, o) :: r, j, hj, h => by
    simp only [inb, Bool.and_eq_true, Nat.blt_eq] at h
    have h1 : Nat.blt key m = true := by rw [Nat.blt_eq]; omega
    have h2 : Nat.ble n key = false := by
      cases hq : Nat.ble n key with
      | false => rfl
      | true => have := Nat.le_of_ble_eq_true hq; omega
    simp only [goodOut, h1, h2, isWr, Bool.or_self, Bool.not_false, Bool.or_true, Bool.true_and]
    exact good_old n m hm r key (by omega) h.2
theorem goodG_true (n m : Nat) (hm : n ≤ m) : ∀ (l : Objs) (j : Nat), j ≤ m → inb j l = true → goodG l n = true → goodOut n none m l = true
  | [], _, _, _, _ => rfl
  | (key, o) :: r, j, hj, h, hg => by
    have h' := h
    simp only [inb, Bool.and_eq_true, Nat.blt_eq] at h
    have hg : ifB (Nat.blt key n) true (ifB (owned o) (goodG r n) false) = true := hg
    rcases ifB_true hg with ⟨h1, _⟩ | ⟨h1, h2⟩
    · rw [Nat.blt_eq] at h1
      refine good_old n m hm ((key, o) :: r) (key + 1) (by omega) ?_
      simp only [inb, Bool.and_eq_true, Nat.blt_eq]
      exact ⟨by omega, h.2⟩
    · rcases ifB_true h2 with ⟨h3, h4⟩ | ⟨_, h4⟩
      · have h5 : Nat.blt key m = true := by rw [Nat.blt_eq]; omega
        simp only [goodOut, h5, h3, Bool.true_or, Bool.true_and]
        exact goodG_true n m hm r key (by omega) h.2 h4
      · cases h4
/-- new blocks, ahead of the others -/
noncomputable def newG : Objs → Nat → Objs → (Objs → Bool) → Bool := List.rec (motive := fun _ => Nat → Objs → (Objs → Bool) → Bool) (fun _ b k => k b)
  (fun p _ ih n b k => ifB (Nat.ble (Nat.succ p.1) n) (k b) (ih n b fun r => k (p :: r)))
theorem newer_old (n : Nat) (b : Objs) : ∀ (l : Objs) (j : Nat), j ≤ n → inb j l = true → newer n l b = b
  | [], _, _, _ => rfl
  | (key, o) :: r, j, hj, h => by
    simp only [inb, Bool.and_eq_true, Nat.blt_eq] at h
    have h2 : Nat.ble n key = false := by
      cases hq : Nat.ble n key with
      | false => rfl
      | true => have := Nat.le_of_ble_eq_true hq; omega
    simp only [newer, h2]
    exact newer_old n b r key (by omega) h.2
theorem newG_eq (n : Nat) (b : Objs) : ∀ (l : Objs) (j : Nat) (k : Objs → Bool), inb j l = true → newG l n b k = k (newer n l b)
  | [], _, k, _ => rfl
  | (key, o) :: r, j, k, h => by
    simp only [inb, Bool.and_eq_true, Nat.blt_eq] at h
    show ifB (Nat.blt key n) (k b) (newG r n b fun r => k ((key, o) :: r)) = _
    rw [newG_eq n b r key _ h.2]
    simp only [newer]
    cases hq : Nat.blt key n with
    | true =>
      rw [Nat.blt_eq] at hq
      have h2 : Nat.ble n key = false := by
        cases hq2 : Nat.ble n key with
        | false => rfl
        | true => have := Nat.le_of_ble_eq_true hq2; omega
      simp only [h2]
      rw [newer_old n b r key (by omega) h.2]; rfl
    | false =>
      have : n ≤ key := by
        rcases Nat.lt_or_ge key n with h1 | h1
        · rw [← Nat.blt_eq, hq] at h1; cases h1
        · exact h1
      simp only [Nat.ble_eq_true_of_le this]; rfl
theorem inb_newer (n : Nat) (b : Objs) (hb : inb n b = true) : ∀ (l : Objs) (m : Nat), n ≤ m → inb m l = true → inb m (newer n l b) = true
  | [], m, hm, _ => inb_up _ hm hb
  | (key, o) :: r, m, hm, h => by
    simp only [inb, Bool.and_eq_true, Nat.blt_eq] at h
    simp only [newer]
    split
    · rename_i hk
      simp only [inb, Bool.and_eq_true, Nat.blt_eq]
      exact ⟨h.1, inb_newer n b hb r key (Nat.le_of_ble_eq_true hk) h.2⟩
    · rename_i hk
      have hk : key < n := by
        rcases Nat.lt_or_ge key n with h1 | h1
        · exact h1
        · rw [Nat.ble_eq_true_of_le h1] at hk; cases hk
      rw [newer_old n b r key (by omega) h.2]
      exact inb_up _ hm hb

abbrev KD := List Rec → Wrs → Value → Nat → Objs → Bool
/-- an operation whose way is not made short, among others that come in any order -/
noncomputable def slowD (nt : Nat) (o : Oper) (A i : Nat) (recs : List Rec) (w : Wrs) (env : Env) (n : Nat) (m : Objs) (K : KD) : Bool := match isAll (footOf (evE nt env) o) with
  | true => false
  | false => match viewFor A recs ⟨n, m⟩ (footOf (evE nt env) o) with
    | some (Vi, wr) => match after (fun _ => none) (runOp TP (evE nt env) o Vi) with
      | some (v, Vo) => ifB (goodOut n wr Vo.next Vo.objs) (fV v fun v => fN Vo.next fun n1 => ifB (inbG (newer n Vo.objs (turned wr Vo m)) n1) (K (⟨Vi, undef, Vo, wr⟩ :: recs) (keepIf ⟨Vi, undef, Vo, wr⟩ recs w) v n1 (newer n Vo.objs (turned wr Vo m))) false) false
      | none => false
    | none => false
/-- a load of what others leave alone -/
noncomputable def ldD (a : Opd) (A : Nat) (recs : List Rec) (w : Wrs) (env : Env) (n : Nat) (m : Objs) (rd : Nat → List Value → (Value → Bool) → Bool) (K : KD) (s : Bool) : Bool :=
  asPtr (getO a env) (fun b o => ifB (hidG w A b) s (findK m b fun ob => asCells ob fun l e _ _ => rd o l fun v => K (⟨⟨n, [(b, .cells (Array.mk l) e (0, 1))]⟩, undef, ⟨n, [(b, .cells (Array.mk l) e (0, 1))]⟩, none⟩ :: recs) w v n m)) s
/-- a new block -/
def newRec (n : Nat) (o : Obj) : Rec := ⟨⟨n, []⟩, undef, ⟨n + 1, [(n, o)]⟩, none⟩
noncomputable def alD (o : Obj) (i : Nat) (recs : List Rec) (w : Wrs) (n : Nat) (m : Objs) (K : KD) : Bool :=
  fNr (Nat.succ n) fun n1 => K (newRec n o :: recs) ((i, newRec n o) :: w) (.pointer (some (Addr.mk n 0 none))) n1 ((n, o) :: m)
noncomputable def callD (f : Opd) (args : List Opd) (S : Sf) (A i : Nat) (tot : Bool) (recs : List Rec) (w : Wrs) (env : Env) (n : Nat) (m : Objs) (K : KD) : Bool :=
  ifB tot (callG f args S env n m fun v n1 m1 => K (repD n1 (Nat.succ i)) [] v n1 m1)
    (frzK m w A fun mi => callG f args S env n mi fun v n1 m1 => ifB (Nat.ble n n1) (ifB (goodG m1 n) (ifB (Nat.ble n1 n) (K (⟨⟨n, mi⟩, undef, ⟨n1, m1⟩, none⟩ :: recs) w v n1 m) (newG m1 n m fun m2 => K (⟨⟨n, mi⟩, undef, ⟨n1, m1⟩, none⟩ :: recs) ((i, ⟨⟨n, mi⟩, undef, ⟨n1, m1⟩, none⟩) :: w) v n1 m2)) false) false)
noncomputable def doD : GK → Oper → Sf → Nat → Nat → Nat → Bool → List Rec → Wrs → Env → Nat → Objs → KD → Bool := GK.rec (motive := fun _ => Oper → Sf → Nat → Nat → Nat → Bool → List Rec → Wrs → Env → Nat → Objs → KD → Bool)
  (fun x _ _ _ _ _ _ recs w env n m K => fVal (getO x env) fun v => K (dl n :: recs) w v n m)
  (fun op x y o _ nt A i _ recs w env n m K => pBin op x y env (fun v => K (dl n :: recs) w v n m) (slowD nt o A i recs w env n m K))
  (fun x o _ nt A i _ recs w env n m K => pNot x env (fun v => K (dl n :: recs) w v n m) (slowD nt o A i recs w env n m K))
  (fun c a b o _ nt A i _ recs w env n m K => pPick c a b env (fun v => K (dl n :: recs) w v n m) (slowD nt o A i recs w env n m K))
  (fun off x o _ nt A i _ recs w env n m K => pFa off x env (fun v => K (dl n :: recs) w v n m) (slowD nt o A i recs w env n m K))
  (fun size x j o _ nt A i _ recs w env n m K => pIxs size x j env (fun v => K (dl n :: recs) w v n m) (slowD nt o A i recs w env n m K))
  (fun size len x j o _ nt A i _ recs w env n m K => pIxa size len x j env (fun v => K (dl n :: recs) w v n m) (slowD nt o A i recs w env n m K))
  (fun j x o _ nt A i _ recs w env n m K => pExt j x env (fun v => K (dl n :: recs) w v n m) (slowD nt o A i recs w env n m K))
  (fun x o _ nt A i _ recs w env n m K => pNil x env (fun v => K (dl n :: recs) w v n m) (slowD nt o A i recs w env n m K))
  (fun g f c _ _ _ _ _ _ recs w env n m K => mapO f env fun l => mapO c env fun r => K (dl n :: recs) w (.func (.func g) (Array.mk l) (Array.mk r)) n m)
  (fun x o _ nt A i _ recs w env n m K => pLen x env (fun v => K (dl n :: recs) w v n m) (slowD nt o A i recs w env n m K))
  (fun a o _ nt A i _ recs w env n m K => ldD a A recs w env n m (fun off l k => nthK l off fun v => fVal v k) K (slowD nt o A i recs w env n m K))
  (fun size a o _ nt A i _ recs w env n m K => ldD a A recs w env n m (fun off l k => dropK off l fun l => cutK size l fun l => k (.agg (Array.mk l))) K (slowD nt o A i recs w env n m K))
  (fun _ _ _ o _ nt A i _ recs w env n m K => slowD nt o A i recs w env n m K)
  (fun z e _ _ _ _ i _ recs w _ n m K => alD (.cells (Array.mk z) e (0, 0)) i recs w n m K)
  (fun e x o _ nt A i _ recs w env n m K => cellsK (getO x env) (fun cs => alD (.cells (Array.mk cs) e (0, 0)) i recs w n m K) (slowD nt o A i recs w env n m K))
  (fun f args _ S _ A i tot recs w env n m K => callD f args S A i tot recs w env n m K)
  (fun o _ nt A i _ recs w env n m K => slowD nt o A i recs w env n m K)
end Go.Vm
/- The quick machine: a region that draws its order is what the machine tells. -/
namespace Go.Vm
theorem after_none {sf : Job → Option Out} {r : Option (Next × View)} {x : Value × View} (h : after (fun _ => none) r = some x) : after sf r = some x := by
  unfold after at h ⊢
  split at h
  · exact h
  · exact h
  · cases h
  · cases h
  · cases h
theorem fLoad_at {P : Program} {t : TypeId} {b o n : Nat} {objs : Objs} {l : List Value} {e : TypeId} {fz : Nat × Nat} {v : Value} (hf : find objs b = some (.cells ⟨l⟩ e fz))
    (h : (aggB P t = some false ∧ l[o]? = some v) ∨ (aggB P t = some true ∧ ∃ i c, P.info? t = some i ∧ cut i.size (l.drop o) = some c ∧ v = .agg ⟨c⟩)) : fLoad P t (.pointer (some ⟨b, o, none⟩)) ⟨n, objs⟩ = some v := by
  have h3 : cellAt ⟨n, objs⟩ ⟨b, o, none⟩ = some (⟨l⟩ : Array Value) := by simp only [cellAt, hf]
  rcases h with ⟨ht, h2⟩ | ⟨ht, i, c, hi, h2, rfl⟩
  · simp only [fLoad, h3, fLoadA, ht]; simpa using h2
  · simp only [fLoad, h3, fLoadA, ht, hi, fLoadN, h2]
/-- what an operation does among others that come in any order -/
def DoneD (sf : Job → Option Out) (e : Operand → Value) (o : Oper) (A : Nat) (tot : Bool) (recs : List Rec) (n : Nat) (m : Objs) (K : KD) : Prop :=
  ((isAll (footOf e o) && tot) = true ∧ ∃ v V1, after sf (runOp TP e o ⟨n, m⟩) = some (v, V1) ∧ inb V1.next V1.objs = true ∧ K (repD V1.next (recs.length + 1)) [] v V1.next V1.objs = true) ∨
  ((isAll (footOf e o) && tot) = false ∧ ∃ Vi wr v Vo, viewFor A recs ⟨n, m⟩ (footOf e o) = some (Vi, wr) ∧ after sf (runOp TP e o Vi) = some (v, Vo) ∧ goodOut n wr Vo.next Vo.objs = true ∧ inb Vo.next (newer n Vo.objs (turned wr Vo m)) = true ∧
    K (⟨Vi, undef, Vo, wr⟩ :: recs.map strip) (keep (⟨Vi, undef, Vo, wr⟩ :: recs.map strip)) v Vo.next (newer n Vo.objs (turned wr Vo m)) = true)
section
variable {sf : Job → Option Out} {S : Sf} {nt : Nat} {env : Env} {ts : List Value} {o : Oper} {n A : Nat} {m : Objs} {K : KD} {recs : List Rec} {tot : Bool}
theorem dull_dl (n : Nat) : dull (dl n) = true := Nat.ble_eq_true_of_le (Nat.le_refl _)
theorem keep_dl (n : Nat) (l : List Rec) : keep (dl n :: l) = keep l := by simp only [keep, dull_dl]
theorem pureD {v : Value} (hp : PureOK TP (ev ts) o v) (hn : inb n m = true) (hk : K (dl n :: recs.map strip) (keep (recs.map strip)) v n m = true) : DoneD sf (ev ts) o A tot recs n m K := by
  refine .inr ⟨by rw [hp.foot]; rfl, ⟨n, []⟩, none, v, ⟨n, []⟩, by rw [hp.foot]; rfl, by rw [hp.run]; rfl, rfl, hn, ?_⟩
  show K (dl n :: recs.map strip) (keep (dl n :: recs.map strip)) v n m = true
  rw [keep_dl]; exact hk
theorem slowD_done (h : ERel nt env ts) {i : Nat} (hr : slowD nt o A i (recs.map strip) (keep (recs.map strip)) env n m K = true) : DoneD sf (ev ts) o A tot recs n m K := by
  unfold slowD at hr
  rw [evE_eq h] at hr
  split at hr
  · cases hr
  · rename_i hall
    rw [view_strip] at hr
    split at hr
    case h_2 => cases hr
    rename_i Vi wr hv
    split at hr
    case h_2 => cases hr
    rename_i v Vo ha
    rcases ifB_true hr with ⟨hg, hr⟩ | ⟨_, hr⟩
    case inr => cases hr
    rw [fV_eq, fN_eq] at hr
    rcases ifB_true hr with ⟨hi, hr⟩ | ⟨_, hr⟩
    case inr => cases hr
    rw [inbG_eq] at hi
    exact .inr ⟨by rw [hall]; rfl, Vi, wr, v, Vo, hv, after_none ha, hg, hi, hr⟩
theorem ldD_done (h : ERel nt env ts) {t : TypeId} {a : Operand} {d : Option Tmp} {ty : TypeId} {pos : String} {aft : Array Edge} {gd : Option (Nat × Bool)} {rd : Nat → List Value → (Value → Bool) → Bool} {s : Bool}
    (hrd : ∀ o l k, rd o l k = true → ∃ v, k v = true ∧ ((aggB TP t = some false ∧ l[o]? = some v) ∨ (aggB TP t = some true ∧ ∃ i c, TP.info? t = some i ∧ cut i.size (l.drop o) = some c ∧ v = .agg ⟨c⟩)))
    (ha : okSlot nt a = true) (hn : inb n m = true) (hr : ldD (opdD a) A (recs.map strip) (keep (recs.map strip)) env n m rd K s = true) : DoneD sf (ev ts) ⟨d, .load t a, ty, pos, aft, gd⟩ A tot recs n m K ∨ s = true := by
  unfold ldD at hr
  rw [getO_eq h ha] at hr
  rcases asPtr_true hr with ⟨b, o, hb, hr⟩ | hr
  case inr => exact .inr hr
  rcases ifB_true hr with ⟨_, hr⟩ | ⟨hh, hr⟩
  · exact .inr hr
  rw [hidG_eq, hid_strip] at hh
  obtain ⟨ob, hf, hr⟩ := findK_true hr
  obtain ⟨l, e, x, y, hob, hr2⟩ := asCells_true hr
  subst hob
  obtain ⟨v, hk, hv⟩ := hrd _ _ _ hr2
  refine .inl (.inr ⟨rfl, ⟨n, [(b, .cells ⟨l⟩ e (0, 1))]⟩, none, v, ⟨n, [(b, .cells ⟨l⟩ e (0, 1))]⟩, ?_, ?_, ?_, ?_, ?_⟩)
  · have hf' : find (View.objs ⟨n, m⟩) b = some (.cells ⟨l⟩ e (x, y)) := hf
    simp only [footOf, hb, blockOf, viewFor, anyHid, hh, Bool.or_false, pick1, hf', isWr, freezeAll, List.append_nil]
  · have : fLoad TP t (ev ts a) ⟨n, [(b, .cells ⟨l⟩ e (0, 1))]⟩ = some v := by
      rw [hb]
      exact fLoad_at (e := e) (fz := (0, 1)) (by simp [find]) hv
    simp only [runOp, fLoad_run this]; rfl
  all_goals have hlt := inb_find hn hf
  · have h1 : Nat.blt b n = true := by rw [Nat.blt_eq]; exact hlt
    have h2 : Nat.ble n b = false := by
      cases hq : Nat.ble n b with
      | false => rfl
      | true => have := Nat.le_of_ble_eq_true hq; omega
    simp only [goodOut, h1, h2, isWr, Bool.or_self, Bool.not_false, Bool.or_true, Bool.and_self]
  · have h2 : Nat.ble n b = false := by
      cases hq : Nat.ble n b with
      | false => rfl
      | true => have := Nat.le_of_ble_eq_true hq; omega
    simp only [newer, h2, turned]; exact hn
  · have h2 : Nat.ble n b = false := by
      cases hq : Nat.ble n b with
      | false => rfl
      | true => have := Nat.le_of_ble_eq_true hq; omega
    simp only [newer, h2, turned]
    have : keep (⟨⟨n, [(b, .cells ⟨l⟩ e (0, 1))]⟩, undef, ⟨n, [(b, .cells ⟨l⟩ e (0, 1))]⟩, none⟩ :: recs.map strip) = keep (recs.map strip) := by
      have hd : dull ⟨⟨n, [(b, .cells ⟨l⟩ e (0, 1))]⟩, undef, ⟨n, [(b, .cells ⟨l⟩ e (0, 1))]⟩, none⟩ = true := Nat.ble_eq_true_of_le (Nat.le_refl _)
      simp only [keep, hd]
    rw [this]; exact hk
theorem alD_done {ob : Obj} (hr : alD ob recs.length (recs.map strip) (keep (recs.map strip)) n m K = true) (hf : footOf (ev ts) o = .none) (ho : owned ob = true) (hn : inb n m = true)
    (hrun : runOp TP (ev ts) o ⟨n, []⟩ = some (.value (.pointer (some ⟨n, 0, none⟩)), ⟨n + 1, [(n, ob)]⟩)) : DoneD sf (ev ts) o A tot recs n m K := by
  unfold alD at hr
  rw [fNr_eq] at hr
  refine .inr ⟨by rw [hf]; rfl, ⟨n, []⟩, none, _, ⟨n + 1, [(n, ob)]⟩, by rw [hf]; rfl, by rw [hrun]; rfl, ?_, ?_, ?_⟩
  · have : Nat.blt n (n + 1) = true := by rw [Nat.blt_eq]; omega
    simp only [goodOut, this, ho, Bool.true_or, Bool.and_self]
  · simp only [newer, Nat.ble_eq_true_of_le (Nat.le_refl n), turned]
    exact inb_new _ hn
  · simp only [newer, Nat.ble_eq_true_of_le (Nat.le_refl n), turned]
    have hd : dull (newRec n ob) = false := by
      have : Nat.ble (n + 1) n = false := by
        cases hq : Nat.ble (n + 1) n with
        | false => rfl
        | true => have := Nat.le_of_ble_eq_true hq; omega
      simpa [dull, newRec] using this
    have : keep (newRec n ob :: recs.map strip) = (recs.length, newRec n ob) :: keep (recs.map strip) := by
      simp only [keep, hd, List.length_map]
    show K (newRec n ob :: recs.map strip) (keep (newRec n ob :: recs.map strip)) _ _ _ = true
    rw [this]; exact hr
theorem callD_done (h : ERel nt env ts) (hS : GSelf sf S) {d : Option Tmp} {ty : TypeId} {pos : String} {aft : Array Edge} {gd : Option (Nat × Bool)} {c : Call} {f : Operand} (hc : c.callee = .value f) (hf : okSlot nt f = true) (ha : c.args.toList.all (okSlot nt) = true) (hn : inb n m = true)
    (hr : callD (opdD f) (opds c.args) S A recs.length tot (recs.map strip) (keep (recs.map strip)) env n m K = true) : DoneD sf (ev ts) ⟨d, .call c, ty, pos, aft, gd⟩ A tot recs n m K := by
  have hfoot : footOf (ev ts) ⟨d, .call c, ty, pos, aft, gd⟩ = .all := by simp only [footOf, hc]
  unfold callD at hr
  rcases ifB_true hr with ⟨ht, hr⟩ | ⟨ht, hr⟩
  · obtain ⟨v, V1, h1, h2, h3⟩ := call_done (d := d) (ty := ty) (pos := pos) (aft := aft) (gd := gd) h hS hc hf ha hn hr
    exact .inl ⟨by rw [hfoot, ht]; rfl, v, V1, h1, h2, h3⟩
  · rw [frzK_eq, visible_strip] at hr
    obtain ⟨v, V1, h1, h2, h3⟩ := call_done (d := d) (ty := ty) (pos := pos) (aft := aft) (gd := gd) h hS hc hf ha (inb_freeze _ _ (inb_visible _ _ _ _ hn)) hr
    rcases ifB_true h3 with ⟨h4, h3⟩ | ⟨_, h3⟩
    case inr => cases h3
    have h4 := Nat.le_of_ble_eq_true h4
    rcases ifB_true h3 with ⟨h5, h3⟩ | ⟨_, h3⟩
    case inr => cases h3
    have hgo := goodG_true n V1.next h4 V1.objs V1.next (Nat.le_refl _) h2 h5
    refine .inr ⟨by rw [hfoot, ht]; rfl, ⟨n, freezeAll (visible A recs m)⟩, none, v, V1, by rw [hfoot]; rfl, h1, hgo, inb_newer n m hn _ _ h4 h2, ?_⟩
    show K _ _ v V1.next (newer n V1.objs m) = true
    rcases ifB_true h3 with ⟨h6, h3⟩ | ⟨h6, h3⟩
    · have h6' := Nat.le_of_ble_eq_true h6
      rw [newer_old n m V1.objs V1.next h6' h2]
      have hd : dull ⟨⟨n, freezeAll (visible A recs m)⟩, undef, V1, none⟩ = true := h6
      have : keep (⟨⟨n, freezeAll (visible A recs m)⟩, undef, V1, none⟩ :: recs.map strip) = keep (recs.map strip) := by simp only [keep, hd]
      rw [this]; exact h3
    · rw [newG_eq n m V1.objs V1.next _ h2] at h3
      have hd : dull ⟨⟨n, freezeAll (visible A recs m)⟩, undef, V1, none⟩ = false := h6
      have : keep (⟨⟨n, freezeAll (visible A recs m)⟩, undef, V1, none⟩ :: recs.map strip) = (recs.length, ⟨⟨n, freezeAll (visible A recs m)⟩, undef, V1, none⟩) :: keep (recs.map strip) := by simp only [keep, hd, List.length_map]
      rw [this]; exact h3
theorem doD_done (h : ERel nt env ts) (hS : GSelf sf S) (hn : inb n m = true) (hok : o.op.operands.toList.all (okSlot nt) = true)
    (hr : doD (gk TP o.op) o S nt A recs.length tot (recs.map strip) (keep (recs.map strip)) env n m K = true) : DoneD sf (ev ts) o A tot recs n m K := by
  have slow : slowD nt o A recs.length (recs.map strip) (keep (recs.map strip)) env n m K = true → DoneD sf (ev ts) o A tot recs n m K := slowD_done h
  have pur : ∀ {x : Prop}, ((∃ v, PureOK TP (ev ts) o v ∧ K (dl n :: recs.map strip) (keep (recs.map strip)) v n m = true) ∨ slowD nt o A recs.length (recs.map strip) (keep (recs.map strip)) env n m K = true) → DoneD sf (ev ts) o A tot recs n m K :=
    fun {x} hx => hx.elim (fun ⟨v, h1, h2⟩ => pureD h1 hn h2) slow
  obtain ⟨d, op, ty, pos, aft, gd⟩ := o
  dsimp only at hok hr
  cases op with
  | move x =>
    simp [Op.operands] at hok
    have hr : fVal (getO (opdD x) env) (fun v => K (dl n :: recs.map strip) (keep (recs.map strip)) v n m) = true := hr
    rw [fVal_eq, getO_eq h hok] at hr
    exact pureD ⟨fun V => rfl, rfl⟩ hn hr
  | assign x =>
    simp [Op.operands] at hok
    have hr : fVal (getO (opdD x) env) (fun v => K (dl n :: recs.map strip) (keep (recs.map strip)) v n m) = true := hr
    rw [fVal_eq, getO_eq h hok] at hr
    exact pureD ⟨fun V => rfl, rfl⟩ hn hr
  | binOp op t x y t2 =>
    simp [Op.operands] at hok
    exact pur (x := True) (pBin_true (K := fun v => K (dl n :: recs.map strip) (keep (recs.map strip)) v n m) h hok.1 hok.2 hr)
  | unOp op t x =>
    simp [Op.operands] at hok
    cases op <;> first | exact pur (x := True) (pNot_true (K := fun v => K (dl n :: recs.map strip) (keep (recs.map strip)) v n m) h hok hr) | exact slow hr
  | pick c a b =>
    simp [Op.operands] at hok
    exact pur (x := True) (pPick_true (K := fun v => K (dl n :: recs.map strip) (keep (recs.map strip)) v n m) h hok.1 hok.2.1 hok.2.2 hr)
  | fieldAddr t x j =>
    simp [Op.operands] at hok
    simp only [gk] at hr
    split at hr
    · rename_i off ho
      exact pur (x := True) (pFa_true (K := fun v => K (dl n :: recs.map strip) (keep (recs.map strip)) v n m) h ho hok hr)
    · exact slow hr
  | indexAddr t x i =>
    simp [Op.operands] at hok
    simp only [gk] at hr
    split at hr
    · rename_i elem hu
      split at hr
      · rename_i info hi
        exact pur (x := True) (pIxs_true (K := fun v => K (dl n :: recs.map strip) (keep (recs.map strip)) v n m) h hu hi hok.1 hok.2 hr)
      · exact slow hr
    · rename_i len elem hu
      split at hr
      · rename_i info hi
        exact pur (x := True) (pIxa_true (K := fun v => K (dl n :: recs.map strip) (keep (recs.map strip)) v n m) h hu hi hok.1 hok.2 hr)
      · exact slow hr
    · exact slow hr
  | extract x j =>
    simp [Op.operands] at hok
    exact pur (x := True) (pExt_true (K := fun v => K (dl n :: recs.map strip) (keep (recs.map strip)) v n m) h hok hr)
  | nilCheck x =>
    simp [Op.operands] at hok
    exact pur (x := True) (pNil_true (K := fun v => K (dl n :: recs.map strip) (keep (recs.map strip)) v n m) h hok hr)
  | makeFunc fn f c =>
    simp only [gk] at hr
    split at hr
    · rename_i g
      have hf : f.toList.all (okSlot nt) = true ∧ c.toList.all (okSlot nt) = true := by
        simp [Op.operands] at hok
        exact ⟨all_arr hok.1, all_arr hok.2⟩
      obtain ⟨v, h1, h2⟩ := pMkf_ok (P := TP) (d := d) (ty := ty) (pos := pos) (aft := aft) (gd := gd) h hf.1 hf.2 (K := fun v => K (dl n :: recs.map strip) (keep (recs.map strip)) v n m) hr
      exact pureD h1 hn h2
    · exact slow hr
  | load t a =>
    simp [Op.operands] at hok
    simp only [gk] at hr
    split at hr
    · rename_i ht
      have hr : ldD (opdD a) A (recs.map strip) (keep (recs.map strip)) env n m (fun off l k => nthK l off fun v => fVal v k) K (slowD nt ⟨d, .load t a, ty, pos, aft, gd⟩ A recs.length (recs.map strip) (keep (recs.map strip)) env n m K) = true := hr
      refine (ldD_done h (fun o l k hk => ?_) hok hn hr).elim id slow
      obtain ⟨v, h1, h2⟩ := nthK_true hk
      rw [fVal_eq] at h2
      exact ⟨v, h2, .inl ⟨ht, h1⟩⟩
    · rename_i ht
      split at hr
      · rename_i i hi
        have hr : ldD (opdD a) A (recs.map strip) (keep (recs.map strip)) env n m (fun off l k => dropK off l fun l => cutK i.size l fun l => k (.agg (Array.mk l))) K (slowD nt ⟨d, .load t a, ty, pos, aft, gd⟩ A recs.length (recs.map strip) (keep (recs.map strip)) env n m K) = true := hr
        refine (ldD_done h (fun o l k hk => ?_) hok hn hr).elim id slow
        rw [dropK_eq] at hk
        obtain ⟨c, h1, h2⟩ := cutK_true hk
        exact ⟨_, h2, .inr ⟨ht, i, c, hi, h1, rfl⟩⟩
      · exact slow hr
    · exact slow hr
  | store t a x =>
    simp only [gk] at hr
    split at hr
    · split at hr
      · exact slow hr
      · exact slow hr
    · exact slow hr
  | alloc t =>
    simp only [gk] at hr
    split at hr
    · rename_i i hi
      split at hr
      · rename_i z hz
        exact alD_done (ob := .cells ⟨z.cells.toList⟩ t (0, 0)) hr rfl rfl hn (alloc_run hi hz ⟨n, []⟩)
      · exact slow hr
    · exact slow hr
  | box t x =>
    simp [Op.operands] at hok
    have hr : cellsK (getO (opdD x) env) (fun cs => alD (.cells (Array.mk cs) t (0, 0)) recs.length (recs.map strip) (keep (recs.map strip)) n m K) (slowD nt ⟨d, .box t x, ty, pos, aft, gd⟩ A recs.length (recs.map strip) (keep (recs.map strip)) env n m K) = true := hr
    rw [getO_eq h hok] at hr
    rcases cellsK_true hr with hr | hr
    · exact alD_done (ob := .cells ⟨(ev ts x).cells.toList⟩ t (0, 0)) hr rfl rfl hn (box_run ⟨n, []⟩)
    · exact slow hr
  | call c =>
    have ha : c.args.toList.all (okSlot nt) = true := by
      cases hcc : c.callee <;> simp [Op.operands, Call.operands, hcc] at hok <;> first | exact all_arr hok | exact all_arr hok.2
    simp only [gk] at hr
    split at hr
    · rename_i f hc
      have hf : okSlot nt f = true := by
        simp [Op.operands, Call.operands, hc] at hok
        first | exact hok.1 | exact hok f (.inl rfl) | exact hok
      exact callD_done h hS hc hf ha hn hr
    · rename_i hc
      split at hr
      · rename_i t ht
        split at hr
        · rename_i elem hu
          split at hr
          · rename_i x hx
            refine pur (x := True) (pLen_true (K := fun v => K (dl n :: recs.map strip) (keep (recs.map strip)) v n m) h hc hx ht hu ?_ hr)
            rw [hx] at ha
            simpa using ha
          · exact slow hr
        · exact slow hr
      · exact slow hr
    · exact slow hr
  | _ => exact slow hr
end

inductive DOp
  | pl (o : Oper) (k : GK) (p : P3) (A i : Nat) (tot : Bool)
  | gu (o : Oper) (g : GG) (k : GK) (d : GD) (A i : Nat) (tot : Bool)
noncomputable def dop (nt : Nat) (ops : Array Oper) (anc : Array Nat) (o : Oper) (i : Nat) : DOp := match o.op.operands.toList.all (okSlot nt) with
  | true => match gg nt ops o with
    | .no => match gdst nt o.dst with
      | .put p => .pl o (gk TP o.op) p (anc.getD i 0) i (totalAt anc i)
      | d => .gu o .no (gk TP o.op) d (anc.getD i 0) i (totalAt anc i)
    | g => .gu o g (gk TP o.op) (gdst nt o.dst) (anc.getD i 0) i (totalAt anc i)
  | false => .gu o .bad .slow .bad 0 0 false
noncomputable def decD (nt : Nat) (ops : Array Oper) (anc : Array Nat) : List Oper → Nat → List DOp
  | [], _ => []
  | o :: l, i => dop nt ops anc o i :: decD nt ops anc l (i + 1)
abbrev KR := List Rec → Wrs → Env → Nat → Objs → Bool
noncomputable def oneD (d : DOp) (S : Sf) (nt : Nat) (recs : List Rec) (w : Wrs) (env : Env) (n : Nat) (m : Objs) (k : KR) : Bool := DOp.rec (motive := fun _ => Sf → Nat → List Rec → Wrs → Env → Nat → Objs → KR → Bool)
  (fun o kk p A i tot S nt recs w env n m k => doD kk o S nt A i tot recs w env n m fun recs w v n m => setE p env v fun env => k recs w env n m)
  (fun o g kk d A i tot S nt recs w env n m k => guardG g env (doD kk o S nt A i tot recs w env n m fun recs w v n m => putD d env v fun env => k recs w env n m) (putD d env undef fun env => k (dl n :: recs) w env n m)) d S nt recs w env n m k
noncomputable def drawG : List DOp → Sf → Nat → List Rec → Wrs → Env → Nat → Objs → KE → Bool := List.rec (motive := fun _ => Sf → Nat → List Rec → Wrs → Env → Nat → Objs → KE → Bool)
  (fun _ _ _ _ env n m k => k env n m)
  (fun d _ ih S nt recs w env n m k => oneD d S nt recs w env n m fun recs w env n m => ih S nt recs w env n m k)
theorem oneD_dop {nt : Nat} {ops : Array Oper} {anc : Array Nat} {o : Oper} {i : Nat} {S : Sf} {recs : List Rec} {w : Wrs} {env : Env} {n : Nat} {m : Objs} {k : KR} (hr : oneD (dop nt ops anc o i) S nt recs w env n m k = true) :
    o.op.operands.toList.all (okSlot nt) = true ∧ guardG (gg nt ops o) env (doD (gk TP o.op) o S nt (anc.getD i 0) i (totalAt anc i) recs w env n m fun recs w v n m => putD (gdst nt o.dst) env v fun env => k recs w env n m) (putD (gdst nt o.dst) env undef fun env => k (dl n :: recs) w env n m) = true := by
  unfold dop at hr
  split at hr
  · rename_i hok
    refine ⟨hok, ?_⟩
    split at hr
    · rename_i hg
      split at hr
      · rename_i p hd
        rw [hg, hd]; exact hr
      · rw [hg]; exact hr
    · exact hr
  · cases hr
theorem drawG_true {sf : Job → Option Out} {S : Sf} (hS : GSelf sf S) {nt : Nat} (ops : Array Oper) {k : KE} : ∀ (l : List Oper) (recs : List Rec) {env : Env} {ts : List Value} {n : Nat} {m : Objs}, ERel nt env ts → inb n m = true →
    drawG (decD nt ops (Region.before ops) l recs.length) S nt (recs.map strip) (keep (recs.map strip)) env n m k = true →
    ∃ ts1 V1 env1, drawGo TP sf ops (Region.before ops) l recs ts ⟨n, m⟩ = some (ts1, V1) ∧ ERel nt env1 ts1 ∧ inb V1.next V1.objs = true ∧ k env1 V1.next V1.objs = true
  | [], recs, env, ts, n, m, h, hn, hr => ⟨ts, ⟨n, m⟩, env, rfl, h, hn, hr⟩
  | o :: l, recs, env, ts, n, m, h, hn, hr => by
    have ih := drawG_true hS (nt := nt) ops (k := k) l
    rw [decD] at hr
    have hr : oneD (dop nt ops (Region.before ops) o recs.length) S nt (recs.map strip) (keep (recs.map strip)) env n m (fun recs' w env n m => drawG (decD nt ops (Region.before ops) l (recs.length + 1)) S nt recs' w env n m k) = true := hr
    obtain ⟨hok, hr⟩ := oneD_dop hr
    simp only [drawGo, ok_ops hok]
    rcases guardG_true h hr with ⟨hw, hr⟩ | ⟨hw, hr⟩
    · rw [hw]
      dsimp only
      rcases doD_done h hS hn hok hr with ⟨h1, v, V1, h2, h3, h4⟩ | ⟨h1, Vi, wr, v, Vo, h2, h3, h4, h5, h6⟩
      · obtain ⟨env1, h7, h8⟩ := putD_true h h4
        rw [h1, h2]
        dsimp only
        rw [h3]
        have hl := dummies_len ops (lput ts o.dst v) V1 (recs.length + 1)
        have hs := strip_dummies ops (lput ts o.dst v) V1 (recs.length + 1)
        exact ih (dummies ops (lput ts o.dst v) V1 (recs.length + 1)) (n := V1.next) (m := V1.objs) h7 h3 (by rw [hl, hs, keep_rep]; exact h8)
      · obtain ⟨env1, h7, h8⟩ := putD_true h h6
        rw [h1, h2]
        dsimp only
        rw [h3]
        dsimp only
        have hn' : inb (View.next ⟨n, m⟩) (View.objs ⟨n, m⟩) = true := hn
        rw [hn', h4]
        exact ih (⟨Vi, v, Vo, wr⟩ :: recs) h7 h5 h8
    · obtain ⟨env1, h7, h8⟩ := putD_true h hr
      rw [hw]
      dsimp only
      refine ih (⟨⟨n, []⟩, undef, ⟨n, []⟩, none⟩ :: recs) h7 hn ?_
      have e : (⟨⟨n, []⟩, undef, ⟨n, []⟩, none⟩ :: recs).map strip = dl n :: recs.map strip := rfl
      rw [e, keep_dl]
      exact h8
end Go.Vm
/- What is asked of a region that draws its order, asked quickly. -/
namespace Go.Vm
noncomputable def nthN : List Nat → Nat → Nat := List.rec (motive := fun _ => Nat → Nat) (fun _ => 0) (fun x _ ih i => Nat.rec (motive := fun _ => Nat → (Nat → Nat) → Nat) (fun x _ => x) (fun j _ _ ih => ih j) i x ih)
theorem nthN_eq : ∀ (l : List Nat) (i : Nat), nthN l i = (l[i]?).getD 0
  | [], i => rfl
  | x :: l, 0 => rfl
  | x :: l, i + 1 => by show nthN l i = _; rw [nthN_eq l i]; simp
/-- of some edges, with what is known of the operations ahead, the newest first -/
noncomputable def edgeG : List Edge → List Nat → Nat → Nat → Nat := List.rec (motive := fun _ => List Nat → Nat → Nat → Nat) (fun _ _ s => s)
  (fun e _ ih r i s => Bool.rec (motive := fun _ => Nat) (ih r i s) (ih r i (Nat.lor (Nat.lor s (Nat.pow 2 e.on)) (Bool.rec (motive := fun _ => Nat) 0 (nthN r (Nat.sub (Nat.sub i 1) e.on)) (Nat.ble (Nat.succ e.on) i)))) (Region.binds .any e))
noncomputable def ancR : List Oper → List Nat → Nat → List Nat := List.rec (motive := fun _ => List Nat → Nat → List Nat) (fun r _ => r) (fun o _ ih r i => ih (edgeG o.after.toList r i 0 :: r) (Nat.succ i))
noncomputable def revG : List Nat → List Nat → List Nat := List.rec (motive := fun _ => List Nat → List Nat) (fun r => r) (fun x _ ih r => ih (x :: r))
noncomputable def ancG (ops : Array Oper) : List Nat := revG (ancR ops.toList [] 0) []
theorem revG_eq : ∀ (l r : List Nat), revG l r = l.reverse ++ r
  | [], r => rfl
  | x :: l, r => by show revG l (x :: r) = _; rw [revG_eq l]; simp
theorem edgeG_eq (acc : Array Nat) : ∀ (l : List Edge) (s : Nat), edgeG l acc.toList.reverse acc.size s = l.foldl (fun s e => if Region.binds .any e then s ||| 2 ^ e.on ||| acc.getD e.on 0 else s) s
  | [], s => rfl
  | e :: l, s => by
    have hget : (Bool.rec (motive := fun _ => Nat) 0 (nthN acc.toList.reverse (Nat.sub (Nat.sub acc.size 1) e.on)) (Nat.ble (Nat.succ e.on) acc.size)) = acc.getD e.on 0 := by
      rw [Array.getD_eq_getD_getElem?]
      cases hq : Nat.ble (Nat.succ e.on) acc.size with
      | true =>
        have hlt : e.on < acc.size := Nat.le_of_ble_eq_true hq
        show nthN acc.toList.reverse (acc.size - 1 - e.on) = _
        rw [nthN_eq, List.getElem?_reverse (by simp; omega)]
        simp only [Array.length_toList]
        rw [show acc.size - 1 - (acc.size - 1 - e.on) = e.on by omega]
        simp
      | false =>
        have : ¬ e.on < acc.size := fun h => by
          have := Nat.ble_eq_true_of_le (show Nat.succ e.on ≤ acc.size from h)
          rw [hq] at this; cases this
        rw [Array.getElem?_eq_none_iff.2 (by omega)]; rfl
    simp only [List.foldl_cons]
    rw [← edgeG_eq acc l]
    show Bool.rec (motive := fun _ => Nat) (edgeG l acc.toList.reverse acc.size s) (edgeG l acc.toList.reverse acc.size (Nat.lor (Nat.lor s (Nat.pow 2 e.on)) (Bool.rec (motive := fun _ => Nat) 0 (nthN acc.toList.reverse (Nat.sub (Nat.sub acc.size 1) e.on)) (Nat.ble (Nat.succ e.on) acc.size)))) (Region.binds .any e) = _
    rw [hget]
    cases Region.binds .any e <;> rfl
theorem ancR_eq : ∀ (l : List Oper) (acc : Array Nat), ancR l acc.toList.reverse acc.size = (l.foldl (fun acc o => acc.push (ancF acc o)) acc).toList.reverse
  | [], acc => rfl
  | o :: l, acc => by
    simp only [List.foldl_cons]
    rw [← ancR_eq l]
    show ancR l (edgeG o.after.toList acc.toList.reverse acc.size 0 :: acc.toList.reverse) (Nat.succ acc.size) = _
    rw [edgeG_eq]
    have : (acc.push (ancF acc o)).toList.reverse = ancF acc o :: acc.toList.reverse := by simp
    rw [this]
    unfold ancF
    rw [← Array.foldl_toList]
    simp
theorem before_anc (ops : Array Oper) : Region.before ops = Array.mk (ancG ops) := by
  rw [before_eq]
  have := ancR_eq ops.toList #[]
  unfold ancG
  rw [revG_eq, show ancR ops.toList [] 0 = ancR ops.toList (#[] : Array Nat).toList.reverse (#[] : Array Nat).size from rfl, this]
  simp

/-! the shape -/
noncomputable def bitG (A j : Nat) : Bool := Nat.beq (Nat.land (Nat.shiftRight A j) 1) 1
theorem bitG_eq (A j : Nat) : bitG A j = A.testBit j := by
  show Nat.beq (A >>> j &&& 1) 1 = _
  rw [Nat.testBit, Nat.and_comm]
  have : 1 &&& A >>> j = 0 ∨ 1 &&& A >>> j = 1 := by rw [Nat.one_and_eq_mod_two]; omega
  rcases this with h | h <;> rw [h] <;> rfl
noncomputable def entsG : List Oper → Nat → List (Nat × Nat) := List.rec (motive := fun _ => Nat → List (Nat × Nat)) (fun _ => [])
  (fun o _ ih i => Option.rec (motive := fun _ => List (Nat × Nat)) (ih (Nat.succ i)) (fun d => (d, i) :: ih (Nat.succ i)) o.dst)
noncomputable def lookG : List (Nat × Nat) → Nat → (Nat → Bool) → Bool := List.rec (motive := fun _ => Nat → (Nat → Bool) → Bool) (fun _ _ => true)
  (fun p _ ih t k => Prod.rec (motive := fun _ => (Nat → (Nat → Bool) → Bool) → Nat → (Nat → Bool) → Bool) (fun d j ih t k => Bool.rec (motive := fun _ => Bool) (ih t k) (k j) (Nat.beq d t)) p ih t k)
noncomputable def tmpsG : List Operand → (Nat → Bool) → Bool := List.rec (motive := fun _ => (Nat → Bool) → Bool) (fun _ => true)
  (fun x _ ih k => Operand.rec (motive := fun _ => ((Nat → Bool) → Bool) → (Nat → Bool) → Bool) (fun t ih k => ifB (k t) (ih k) false) (fun _ ih k => ih k) (fun _ ih k => ih k) (fun _ ih k => ih k) x ih k)
noncomputable def edgesLt : List Edge → Nat → Bool := List.rec (motive := fun _ => Nat → Bool) (fun _ => true) (fun e _ ih i => ifB (Region.binds .any e) (ifB (Nat.ble (Nat.succ e.on) i) (ih i) false) (ih i))
noncomputable def okOne (ops : Array Oper) (anc : List Nat) (E : List (Nat × Nat)) (A i : Nat) (t : Nat) : Bool := lookG E t fun j => ifB (Nat.beq i j) true (ifB (bitG A j) true (bitG (nthN anc j) i))
noncomputable def shapeG (ops : Array Oper) (anc : List Nat) (E : List (Nat × Nat)) : List Oper → Nat → Bool := List.rec (motive := fun _ => Nat → Bool) (fun _ => true)
  (fun o _ ih i => ifB (edgesLt o.after.toList i) (ifB (Option.rec (motive := fun _ => Bool) true (fun d => lookG E d fun j => Nat.beq j i) o.dst)
    (ifB (tmpsG o.op.operands.toList fun t => okOne ops anc E (nthN anc i) i t) (ifB (Option.rec (motive := fun _ => Bool) true (fun p => Option.rec (motive := fun _ => Bool) true (fun d => okOne ops anc E (nthN anc i) i d) ((ops[p.1]?).bind (·.dst))) o.guard) (ih (Nat.succ i)) false) false) false) false)
noncomputable def drawOkG (ops : Array Oper) : Bool := shapeG ops (ancG ops) (entsG ops.toList 0) ops.toList 0

theorem ifB_and {x y : Bool} (h : ifB x y false = true) : x = true ∧ y = true := by
  rcases ifB_true h with h | ⟨_, h⟩
  · exact h
  · cases h
theorem lookG_of {k : Nat → Bool} {t : Nat} : ∀ (l : List Oper) (s : Nat), lookG (entsG l s) t k = true → (∀ j o, l[j]? = some o → o.dst = some t → (∃ j' o', j' ≤ j ∧ l[j']? = some o' ∧ o'.dst = some t ∧ k (s + j') = true))
  | [], s, _, j, o, ho, _ => by simp at ho
  | p :: l, s, h, j, o, ho, hd => by
    have rec' : lookG (entsG l (s + 1)) t k = true → (∀ j, j + 1 ≤ 0 → False) → j ≠ 0 → ∃ j' o', j' ≤ j ∧ (p :: l)[j']? = some o' ∧ o'.dst = some t ∧ k (s + j') = true := by
      intro h _ hj
      obtain ⟨i, rfl⟩ : ∃ i, j = i + 1 := ⟨j - 1, by omega⟩
      obtain ⟨j', o', h1, h2, h3, h4⟩ := lookG_of l (s + 1) h i o (by simpa using ho) hd
      exact ⟨j' + 1, o', by omega, by simpa using h2, h3, by rw [show s + (j' + 1) = s + 1 + j' by omega]; exact h4⟩
    cases hp : p.dst with
    | none =>
      have e : entsG (p :: l) s = entsG l (s + 1) := by
        show Option.rec (motive := fun _ => List (Nat × Nat)) (entsG l (Nat.succ s)) (fun d => (d, s) :: entsG l (Nat.succ s)) p.dst = _
        rw [hp]
      rw [e] at h
      refine rec' h (fun j hj => by omega) ?_
      rintro rfl
      simp at ho; subst ho; rw [hp] at hd; cases hd
    | some d =>
      have e : entsG (p :: l) s = (d, s) :: entsG l (s + 1) := by
        show Option.rec (motive := fun _ => List (Nat × Nat)) (entsG l (Nat.succ s)) (fun d => (d, s) :: entsG l (Nat.succ s)) p.dst = _
        rw [hp]
      rw [e] at h
      have h : Bool.rec (motive := fun _ => Bool) (lookG (entsG l (s + 1)) t k) (k s) (Nat.beq d t) = true := h
      cases hq : Nat.beq d t with
      | true =>
        rw [hq] at h
        have := Nat.eq_of_beq_eq_true hq
        subst this
        exact ⟨0, p, Nat.zero_le _, rfl, hp, by simpa using h⟩
      | false =>
        rw [hq] at h
        refine rec' h (fun j hj => by omega) ?_
        rintro rfl
        simp at ho; subst ho; rw [hp] at hd; cases hd
        rw [Nat.beq_refl] at hq; cases hq
theorem tmpsG_of {k : Nat → Bool} : ∀ (l : List Operand), tmpsG l k = true → ∀ t, Operand.tmp t ∈ l → k t = true
  | [], _, t, ht => by cases ht
  | x :: l, h, t, ht => by
    cases x with
    | tmp u =>
      have h : ifB (k u) (tmpsG l k) false = true := h
      obtain ⟨h1, h2⟩ := ifB_and h
      rcases List.mem_cons.1 ht with e | e
      · cases e; exact h1
      · exact tmpsG_of l h2 t e
    | const v => rcases List.mem_cons.1 ht with e | e
                 · cases e
                 · exact tmpsG_of l h t e
    | global g => rcases List.mem_cons.1 ht with e | e
                  · cases e
                  · exact tmpsG_of l h t e
    | func f => rcases List.mem_cons.1 ht with e | e
                · cases e
                · exact tmpsG_of l h t e
theorem edgesLt_of : ∀ (l : List Edge) (i : Nat), edgesLt l i = true → ∀ e, e ∈ l → Region.binds .any e = true → Nat.blt e.on i = true
  | [], i, _, e, he, _ => by cases he
  | x :: l, i, h, e, he, hb => by
    have h : ifB (Region.binds .any x) (ifB (Nat.ble (Nat.succ x.on) i) (edgesLt l i) false) (edgesLt l i) = true := h
    rcases ifB_true h with ⟨h1, h2⟩ | ⟨h1, h2⟩
    · obtain ⟨h3, h4⟩ := ifB_and h2
      rcases List.mem_cons.1 he with rfl | he
      · exact h3
      · exact edgesLt_of l i h4 e he hb
    · rcases List.mem_cons.1 he with rfl | he
      · rw [h1] at hb; cases hb
      · exact edgesLt_of l i h2 e he hb
theorem shapeG_of {ops : Array Oper} {anc : List Nat} {E : List (Nat × Nat)} : ∀ (l : List Oper) (s : Nat), shapeG ops anc E l s = true → ∀ j o, l[j]? = some o →
    edgesLt o.after.toList (s + j) = true ∧ (∀ d, o.dst = some d → lookG E d (fun i => Nat.beq i (s + j)) = true) ∧ ∀ t, t ∈ tmpsOf ops o → okOne ops anc E (nthN anc (s + j)) (s + j) t = true
  | [], s, _, j, o, ho => by simp at ho
  | p :: l, s, h, j, o, ho => by
    have h : ifB (edgesLt p.after.toList s) (ifB (Option.rec (motive := fun _ => Bool) true (fun d => lookG E d fun j => Nat.beq j s) p.dst)
      (ifB (tmpsG p.op.operands.toList fun t => okOne ops anc E (nthN anc s) s t) (ifB (Option.rec (motive := fun _ => Bool) true (fun q => Option.rec (motive := fun _ => Bool) true (fun d => okOne ops anc E (nthN anc s) s d) ((ops[q.1]?).bind (·.dst))) p.guard) (shapeG ops anc E l (s + 1)) false) false) false) false = true := h
    obtain ⟨h1, h⟩ := ifB_and h
    obtain ⟨h2, h⟩ := ifB_and h
    obtain ⟨h3, h⟩ := ifB_and h
    obtain ⟨h4, h⟩ := ifB_and h
    cases j with
    | zero =>
      simp at ho
      subst ho
      refine ⟨h1, fun d hd => by rw [hd] at h2; exact h2, fun t ht => ?_⟩
      unfold tmpsOf at ht
      rw [List.mem_append] at ht
      rcases ht with ht | ht
      · rw [List.mem_filterMap] at ht
        obtain ⟨x, hx, hxt⟩ := ht
        cases x <;> simp at hxt
        subst hxt
        exact tmpsG_of _ h3 _ hx
      · cases hg : p.guard with
        | none => rw [hg] at ht; cases ht
        | some q =>
          rw [hg] at ht h4
          dsimp only at ht h4
          cases hd : (ops[q.1]?).bind (·.dst) with
          | none => rw [hd] at ht; cases ht
          | some d =>
            rw [hd] at ht h4
            simp at ht
            subst ht
            exact h4
    | succ j =>
      have := shapeG_of l (s + 1) h j o (by simpa using ho)
      rw [show s + (j + 1) = s + 1 + j by omega]
      exact this
theorem drawOkG_true {ops : Array Oper} (h : drawOkG ops = true) : drawOk ops = true := by
  have hs := shapeG_of ops.toList 0 h
  simp only [Nat.zero_add] at hs
  have uniq : ∀ (i j : Nat) (p q : Oper) (t : Nat), ops.toList[i]? = some p → ops.toList[j]? = some q → p.dst = some t → q.dst = some t → i = j := by
    intro i j p q t hp hq h1 h2
    have key : ∀ (i : Nat) (p : Oper), ops.toList[i]? = some p → p.dst = some t → ∃ f, (∀ k, lookG (entsG ops.toList 0) t k = true → k f = true) ∧ f = i := by
      intro i p hp h1
      have hl := (hs i p hp).2.1 t h1
      obtain ⟨j', o', h3, h4, h5, h6⟩ := lookG_of ops.toList 0 hl i p hp h1
      rw [Nat.zero_add] at h6
      have := Nat.eq_of_beq_eq_true h6
      subst this
      refine ⟨j', fun k hk => ?_, rfl⟩
      obtain ⟨j2, o2, h7, h8, h9, h10⟩ := lookG_of ops.toList 0 hk j' p hp h1
      obtain ⟨j3, o3, h11, h12, h13, h14⟩ := lookG_of ops.toList 0 ((hs j2 o2 h8).2.1 t h9) j2 o2 h8 h9
      rw [Nat.zero_add] at h14 h10
      have e1 := Nat.eq_of_beq_eq_true h14
      subst e1
      obtain ⟨j4, o4, h15, h16, h17, h18⟩ := lookG_of ops.toList 0 hl j3 o3 h12 h13
      rw [Nat.zero_add] at h18
      have e2 := Nat.eq_of_beq_eq_true h18
      have : j3 = j' := by omega
      rw [this] at h10
      exact h10
    obtain ⟨f, hf, rfl⟩ := key i p hp h1
    have := hf _ ((hs j q hq).2.1 t h2)
    exact Nat.eq_of_beq_eq_true this
  have hanc : ∀ i, nthN (ancG ops) i = (Region.before ops).getD i 0 := by
    intro i
    rw [nthN_eq, before_anc, Array.getD_eq_getD_getElem?]
    simp
  unfold drawOk
  simp only [List.all_eq_true]
  rintro ⟨p, i⟩ hp
  rw [List.mem_zipIdx_iff_getElem?] at hp
  dsimp only at hp
  have hpi := hs i p hp
  rw [Bool.and_eq_true]
  refine ⟨?_, ?_⟩
  · rw [List.all_eq_true]
    intro e he
    cases hb : Region.binds .any e with
    | false => rfl
    | true => exact edgesLt_of _ _ hpi.1 e he hb
  · rw [List.all_eq_true]
    rintro ⟨q, j⟩ hq
    rw [List.mem_zipIdx_iff_getElem?] at hq
    dsimp only at hq ⊢
    rw [Bool.and_eq_true]
    refine ⟨?_, ?_⟩
    · cases h1 : p.dst with
      | none => rfl
      | some a =>
        cases h2 : q.dst with
        | none => rfl
        | some b =>
          dsimp only
          cases hab : Nat.beq a b with
          | false => rfl
          | true =>
            have := Nat.eq_of_beq_eq_true hab
            subst this
            have := uniq i j p q a hp hq h1 h2
            subst this
            simp
    · cases h2 : q.dst with
      | none => rfl
      | some d =>
        dsimp only
        cases hc : (tmpsOf ops p).contains d with
        | false => rfl
        | true =>
          have hm := List.contains_iff_mem.1 hc
          have hl := hpi.2.2 d hm
          unfold okOne at hl
          obtain ⟨j', o', h3, h4, h5, h6⟩ := lookG_of ops.toList 0 hl j q hq h2
          rw [Nat.zero_add] at h6
          have := uniq j' j o' q d h4 hq h5 h2
          subst this
          rcases ifB_true h6 with ⟨h7, _⟩ | ⟨_, h6⟩
          · rw [h7]; simp
          · rcases ifB_true h6 with ⟨h7, _⟩ | ⟨_, h6⟩
            · rw [bitG_eq, hanc] at h7; rw [h7]; simp
            · rw [bitG_eq, hanc] at h6; rw [h6]; simp
end Go.Vm
/- The quick machine: code and calls. -/
namespace Go.Vm
inductive CV
  | skip
  | exit (id : Nat)
  | ret
  | region (l : List GOp)
  | draw (l : List DOp)
  | seq (a b : Code)
  | cond (c : Opd) (a b : Code)
  | block (id : Nat) (b : Code)
  | loop (b : Code)
  | scope (b : Code)
  | range (f : Opd) (ps : Array Tmp) (a b : Code)
  | bad
noncomputable def view (nt : Nat) (c : Code) : CV := match c with
  | .skip => .skip
  | .label _ => .skip
  | .exit id => .exit id
  | .ret => .ret
  | .region _ ops draw => match draw with
    | false => .region (ops.toList.map (gop nt ops))
    | true => match drawOkG ops with
      | true => .draw (decD nt ops (Array.mk (ancG ops)) ops.toList 0)
      | false => .bad
  | .seq a b => .seq a b
  | .cond c a b => match okSlot nt c with
    | true => .cond (opdD c) a b
    | false => .bad
  | .block id b => .block id b
  | .loop b => .loop b
  | .scope b => .scope b
  | .rangeFunc f ps a b => match okSlot nt f with
    | true => .range (opdD f) ps a b
    | false => .bad
  | _ => .bad
/-- on if it ended as it should, else out -/
noncomputable def onG (e : Ex) (kn : KE) (k : KC) (env : Env) (df : List Nat) (n : Nat) (m : Objs) (kd : List Nat → KE) : Bool := Ex.rec (motive := fun _ => KC → Env → List Nat → Nat → Objs → (List Nat → KE) → Bool)
  (fun _ env df n m kd => kd df env n m) (fun id k env df n m _ => k (.exit id) env df n m) (fun k env df n m _ => k .ret env df n m) e k env df n m kd
noncomputable def seqG (b : Code) (S : Sf) (nt : Nat) (ar : Option Nat) (k : KC) (e : Ex) (env : Env) (df : List Nat) (n : Nat) (m : Objs) : Bool := Ex.rec (motive := fun _ => Code → Sf → Nat → Option Nat → KC → Env → List Nat → Nat → Objs → Bool)
  (fun b S nt ar k env df n m => S.c nt b ar env df n m k) (fun id _ _ _ _ k env df n m => k (.exit id) env df n m) (fun _ _ _ _ k env df n m => k .ret env df n m) e b S nt ar k env df n m
noncomputable def blkG (id : Nat) (k : KC) (e : Ex) (env : Env) (df : List Nat) (n : Nat) (m : Objs) : Bool := Ex.rec (motive := fun _ => Nat → KC → Env → List Nat → Nat → Objs → Bool)
  (fun _ k env df n m => k .normal env df n m) (fun j id k env df n m => ifB (Nat.beq j id) (k .normal env df n m) (k (.exit j) env df n m)) (fun _ k env df n m => k .ret env df n m) e id k env df n m
noncomputable def rangeGo (g : Nat) (first cap : List Value) (ps : Array Tmp) (a b : Code) (D : Nat) (S : Sf) (nt : Nat) (ar : Option Nat) (env : Env) (df : List Nat) (n : Nat) (m : Objs) (k : KC) : Bool :=
  fNr (Nat.succ n) fun n1 => S.f g (appL (appL first [.func (.yield n) #[] #[]]) cap) n1 ((n, .loop { state := .ready, pending := none, fn := 0, tmps := Array.mk (toLR nt 0 env), params := ps, assign := a, body := b, defers := D }) :: m) fun _ n2 m2 =>
    findK m2 n fun ob => asLoop ob fun r => ifB (isBusy r.state) false (putK m2 n (.loop { r with state := .exhausted }) fun m3 =>
      Option.rec (motive := fun _ => Sf → Nat → Option Nat → Env → List Nat → Nat → Objs → KC → Bool) (fun _ _ _ env df n m k => k .normal env df n m) (fun c S nt ar env df n m k => S.c nt c ar env df n m k) r.pending S nt ar env df n2 m3 k)
noncomputable def rangeG (f : Opd) (ps : Array Tmp) (a b : Code) (S : Sf) (nt : Nat) (ar : Option Nat) (env : Env) (df : List Nat) (n : Nat) (m : Objs) (k : KC) : Bool :=
  asFn (getO f env) (fun g first cap => ifB (callOk TP g) (Option.rec (motive := fun _ => Bool)
    (fNr (Nat.succ n) fun n1 => rangeGo g first cap ps a b n S nt none env (n :: df) n1 ((n, .deferred (some [])) :: m) k)
    (fun l => findK m l fun ob => asLoop ob fun r => rangeGo g first cap ps a b r.defers S nt (some l) env df n m k) ar) false) (fun _ _ => false) false
noncomputable def codeG : CV → Sf → Nat → Option Nat → Env → List Nat → Nat → Objs → KC → Bool := CV.rec (motive := fun _ => Sf → Nat → Option Nat → Env → List Nat → Nat → Objs → KC → Bool)
  (fun _ _ _ env df n m k => k .normal env df n m)
  (fun id _ _ _ env df n m k => k (.exit id) env df n m)
  (fun _ _ _ env df n m k => k .ret env df n m)
  (fun l S nt _ env df n m k => runSeq l S nt env n m fun env n m => k .normal env df n m)
  (fun l S nt _ env df n m k => drawG l S nt [] [] env n m fun env n m => k .normal env df n m)
  (fun a b S nt ar env df n m k => S.c nt a ar env df n m (seqG b S nt ar k))
  (fun c a b S nt ar env df n m k => asB (getO c env) (fun t => Bool.rec (motive := fun _ => Code → Code → Sf → Nat → Option Nat → Env → List Nat → Nat → Objs → KC → Bool) (fun _ b S nt ar env df n m k => S.c nt b ar env df n m k) (fun a _ S nt ar env df n m k => S.c nt a ar env df n m k) t a b S nt ar env df n m k) false)
  (fun id b S nt ar env df n m k => S.c nt b ar env df n m (blkG id k))
  (fun b S nt ar env df n m k => S.c nt b ar env df n m (seqG (.loop b) S nt ar k))
  (fun b S nt ar env df n m k => Option.rec (motive := fun _ => Bool) (S.c nt b none env df n m k) (fun _ => false) ar)
  (fun f ps a b S nt ar env df n m k => rangeG f ps a b S nt ar env df n m k)
  (fun _ _ _ _ _ _ _ _ => false)
section
variable {sf : Job → Option Out} {S : Sf} {nt : Nat} {env : Env} {ts : List Value} {n : Nat} {m : Objs} {k : KC}
theorem appL2 (a b : List Value) (x : Value) : appL (appL a [x]) b = (a ++ [x]) ++ b := by rw [appL_eq, appL_eq]
theorem range_true (h : ERel nt env ts) (hS : GSelf sf S) (hn : inb n m = true) {f : Operand} (hf : okSlot nt f = true) {ps : Array Tmp} {a b : Code} {ar : Option Nat} {df : List Nat} (hr : rangeG (opdD f) ps a b S nt ar env df n m k = true) :
    ∃ e ts1 df1 V1 env1, step TP sf (.code ar (.rangeFunc f ps a b) ts df ⟨n, m⟩) = some (.code e ts1 df1 V1) ∧ ERel nt env1 ts1 ∧ inb V1.next V1.objs = true ∧ k e env1 df1 V1.next V1.objs = true := by
  unfold rangeG at hr
  rw [getO_eq h hf] at hr
  rcases asFn_true hr with ⟨g, first, cap, hv, hr⟩ | ⟨_, _, _, _, hr⟩ | hr
  case inr.inl => cases hr
  case inr.inr => cases hr
  rcases ifB_true hr with ⟨hok, hr⟩ | ⟨_, hr⟩
  case inr => cases hr
  -- from the new loop on
  have go : ∀ {D : Nat} {df1 : List Nat} {n1 : Nat} {m1 : Objs}, inb n1 m1 = true → rangeGo g first cap ps a b D S nt ar env df1 n1 m1 k = true →
      ((ar = none ∧ D = n ∧ n1 = n + 1 ∧ m1 = (n, .deferred (some [])) :: m ∧ df1 = n :: df) ∨ (∃ l r, ar = some l ∧ find m l = some (.loop r) ∧ D = r.defers ∧ n1 = n ∧ m1 = m ∧ df1 = df)) →
      ∃ e ts1 df2 V1 env1, step TP sf (.code ar (.rangeFunc f ps a b) ts df ⟨n, m⟩) = some (.code e ts1 df2 V1) ∧ ERel nt env1 ts1 ∧ inb V1.next V1.objs = true ∧ k e env1 df2 V1.next V1.objs = true := by
    intro D df1 n1 m1 hn1 hr hx
    unfold rangeGo at hr
    rw [fNr_eq] at hr
    obtain ⟨v, V2, h1, h2, hr⟩ := hS.call _ _ _ _ _ (inb_new _ hn1) hr
    obtain ⟨ob, hf2, hr⟩ := findK_true hr
    obtain ⟨r, hob, hr2⟩ := asLoop_true hr
    subst hob
    rcases ifB_true hr2 with ⟨_, hr3⟩ | ⟨hst, hr3⟩
    case inl => cases hr3
    obtain ⟨_, hr4⟩ := putK_true hr3
    rw [appL2, toLR_eq h] at h1
    have hi3 : inb V2.next (put V2.objs n1 (.loop { r with state := .exhausted })) = true := by rw [inb_put]; exact h2
    have hf2' : find V2.objs n1 = some (.loop r) := hf2
    have hst' : r.state ≠ .busy := by intro e; rw [e] at hst; cases hst
    rw [show (⟨ts⟩ : Array Value) = ts.toArray from rfl] at h1
    rcases hx with ⟨rfl, rfl, rfl, rfl, rfl⟩ | ⟨l, r0, rfl, hl, rfl, rfl, rfl, rfl⟩
    · simp only [step, okSlot_const hf, hv, hok]
      (try dsimp only)
      rw [h1]
      dsimp only
      rw [hf2']
      dsimp only
      split
      · rename_i hb; exact absurd hb hst'
      · cases hp : r.pending with
        | none =>
          rw [hp] at hr4
          exact ⟨_, _, _, _, env, rfl, h, by first | exact hi3 | (rw [← hp]; exact hi3), by first | exact hr4 | (rw [← hp]; rw [← hp] at hr4; exact hr4)⟩
        | some c =>
          rw [hp] at hr4
          obtain ⟨e, ts1, df2, V1, env1, h5, h6, h7, h8⟩ := hS.code _ _ _ _ _ _ _ _ _ h (by first | exact hi3 | (rw [← hp]; exact hi3)) hr4
          exact ⟨e, ts1, df2, V1, env1, h5, h6, h7, h8⟩
    · simp only [step, okSlot_const hf, hv, hok, hl]
      (try dsimp only)
      rw [h1]
      dsimp only
      rw [hf2']
      dsimp only
      split
      · rename_i hb; exact absurd hb hst'
      · cases hp : r.pending with
        | none =>
          rw [hp] at hr4
          exact ⟨_, _, _, _, env, rfl, h, by first | exact hi3 | (rw [← hp]; exact hi3), by first | exact hr4 | (rw [← hp]; rw [← hp] at hr4; exact hr4)⟩
        | some c =>
          rw [hp] at hr4
          obtain ⟨e, ts1, df2, V1, env1, h5, h6, h7, h8⟩ := hS.code _ _ _ _ _ _ _ _ _ h (by first | exact hi3 | (rw [← hp]; exact hi3)) hr4
          exact ⟨e, ts1, df2, V1, env1, h5, h6, h7, h8⟩
  cases ar with
  | none =>
    have hr : fNr (Nat.succ n) (fun n1 => rangeGo g first cap ps a b n S nt none env (n :: df) n1 ((n, .deferred (some [])) :: m) k) = true := hr
    rw [fNr_eq] at hr
    exact go (inb_new _ hn) hr (.inl ⟨rfl, rfl, rfl, rfl, rfl⟩)
  | some l =>
    have hr : findK m l (fun ob => asLoop ob fun r => rangeGo g first cap ps a b r.defers S nt (some l) env df n m k) = true := hr
    obtain ⟨ob, hf2, hr⟩ := findK_true hr
    obtain ⟨r, hob, hr2⟩ := asLoop_true hr
    subst hob
    exact go hn hr2 (.inr ⟨l, r, rfl, hf2, rfl, rfl, rfl, rfl⟩)
theorem code_true (h : ERel nt env ts) (hS : GSelf sf S) (hn : inb n m = true) (c : Code) (ar : Option Nat) (df : List Nat) (hr : codeG (view nt c) S nt ar env df n m k = true) :
    ∃ e ts1 df1 V1 env1, step TP sf (.code ar c ts df ⟨n, m⟩) = some (.code e ts1 df1 V1) ∧ ERel nt env1 ts1 ∧ inb V1.next V1.objs = true ∧ k e env1 df1 V1.next V1.objs = true := by
  cases c with
  | skip => exact ⟨_, _, _, ⟨n, m⟩, env, rfl, h, hn, hr⟩
  | label l => exact ⟨_, _, _, ⟨n, m⟩, env, rfl, h, hn, hr⟩
  | exit id => exact ⟨_, _, _, ⟨n, m⟩, env, rfl, h, hn, hr⟩
  | ret => exact ⟨_, _, _, ⟨n, m⟩, env, rfl, h, hn, hr⟩
  | goto l => cases hr
  | refuse w => cases hr
  | region id ops draw =>
    cases draw with
    | false =>
      have hr : runSeq (ops.toList.map (gop nt ops)) S nt env n m (fun env n m => k .normal env df n m) = true := hr
      obtain ⟨ts1, V1, env1, h1, h2, h3, h4⟩ := runSeq_true hS ops ops.toList h hn hr
      exact ⟨.normal, ts1, df, V1, env1, by simp only [step, h1], h2, h3, h4⟩
    | true =>
      simp only [view] at hr
      split at hr
      · rename_i hok
        have hr : drawG (decD nt ops (Array.mk (ancG ops)) ops.toList 0) S nt [] [] env n m (fun env n m => k .normal env df n m) = true := hr
        rw [← before_anc] at hr
        have hok := drawOkG_true hok
        obtain ⟨ts1, V1, env1, h1, h2, h3, h4⟩ := drawG_true hS ops ops.toList [] h hn hr
        have hn' : inb (View.next ⟨n, m⟩) (View.objs ⟨n, m⟩) = true := hn
        exact ⟨.normal, ts1, df, V1, env1, by simp only [step, hok, hn', Bool.and_self, h1], h2, h3, h4⟩
      · cases hr
  | seq a b =>
    have hr : S.c nt a ar env df n m (seqG b S nt ar k) = true := hr
    obtain ⟨e, ts1, df1, V1, env1, h1, h2, h3, h4⟩ := hS.code _ _ _ _ _ _ _ _ _ h hn hr
    simp only [step, h1]
    cases e with
    | normal =>
      obtain ⟨e2, ts2, df2, V2, env2, h5, h6, h7, h8⟩ := hS.code _ _ _ _ _ _ _ _ _ h2 h3 (show S.c nt b ar env1 df1 V1.next V1.objs k = true from h4)
      exact ⟨e2, ts2, df2, V2, env2, h5, h6, h7, h8⟩
    | exit id => exact ⟨_, _, _, _, env1, rfl, h2, h3, h4⟩
    | ret => exact ⟨_, _, _, _, env1, rfl, h2, h3, h4⟩
  | cond c a b =>
    simp only [view] at hr
    split at hr
    · rename_i hc
      have hr : asB (getO (opdD c) env) (fun t => Bool.rec (motive := fun _ => Code → Code → Sf → Nat → Option Nat → Env → List Nat → Nat → Objs → KC → Bool) (fun _ b S nt ar env df n m k => S.c nt b ar env df n m k) (fun a _ S nt ar env df n m k => S.c nt a ar env df n m k) t a b S nt ar env df n m k) false = true := hr
      rw [getO_eq h hc] at hr
      rcases asB_true hr with ⟨t, ht, hr⟩ | hr
      · simp only [step, okSlot_const hc, ht]
        cases t with
        | true =>
          obtain ⟨e2, ts2, df2, V2, env2, h5, h6, h7, h8⟩ := hS.code _ _ _ _ _ _ _ _ _ h hn (show S.c nt a ar env df n m k = true from hr)
          exact ⟨e2, ts2, df2, V2, env2, h5, h6, h7, h8⟩
        | false =>
          obtain ⟨e2, ts2, df2, V2, env2, h5, h6, h7, h8⟩ := hS.code _ _ _ _ _ _ _ _ _ h hn (show S.c nt b ar env df n m k = true from hr)
          exact ⟨e2, ts2, df2, V2, env2, h5, h6, h7, h8⟩
      · cases hr
    · cases hr
  | block id b =>
    have hr : S.c nt b ar env df n m (blkG id k) = true := hr
    obtain ⟨e, ts1, df1, V1, env1, h1, h2, h3, h4⟩ := hS.code _ _ _ _ _ _ _ _ _ h hn hr
    simp only [step, h1]
    cases e with
    | normal => exact ⟨_, _, _, _, env1, rfl, h2, h3, h4⟩
    | exit j =>
      rcases ifB_true h4 with ⟨hj, h4⟩ | ⟨hj, h4⟩
      · exact ⟨_, _, _, _, env1, by simp only [hj], h2, h3, h4⟩
      · exact ⟨_, _, _, _, env1, by simp only [hj], h2, h3, h4⟩
    | ret => exact ⟨_, _, _, _, env1, rfl, h2, h3, h4⟩
  | loop b =>
    have hr : S.c nt b ar env df n m (seqG (.loop b) S nt ar k) = true := hr
    obtain ⟨e, ts1, df1, V1, env1, h1, h2, h3, h4⟩ := hS.code _ _ _ _ _ _ _ _ _ h hn hr
    simp only [step, h1]
    cases e with
    | normal =>
      obtain ⟨e2, ts2, df2, V2, env2, h5, h6, h7, h8⟩ := hS.code _ _ _ _ _ _ _ _ _ h2 h3 (show S.c nt (.loop b) ar env1 df1 V1.next V1.objs k = true from h4)
      exact ⟨e2, ts2, df2, V2, env2, h5, h6, h7, h8⟩
    | exit id => exact ⟨_, _, _, _, env1, rfl, h2, h3, h4⟩
    | ret => exact ⟨_, _, _, _, env1, rfl, h2, h3, h4⟩
  | scope b =>
    cases ar with
    | none =>
      obtain ⟨e2, ts2, df2, V2, env2, h5, h6, h7, h8⟩ := hS.code _ _ _ _ _ _ _ _ _ h hn (show S.c nt b none env df n m k = true from hr)
      exact ⟨e2, ts2, df2, V2, env2, h5, h6, h7, h8⟩
    | some l => cases hr
  | rangeFunc f ps a b =>
    simp only [view] at hr
    split at hr
    · rename_i hf
      exact range_true h hS hn hf hr
    · cases hr
end
end Go.Vm
/- The quick machine: calls, and the whole. -/
namespace Go.Vm
inductive GRes
  | tmp (p : P3)
  | ld (p : P3)
  | ldn (n : Nat) (p : P3)
  | bad
noncomputable def gres (nt : Nat) (r : ResultVar) : GRes := match r with
  | .tmp t => match Nat.blt t nt with
    | true => .tmp (path t)
    | false => .bad
  | .cell a t => match Nat.blt a nt with
    | true => match aggB TP t with
      | some false => .ld (path a)
      | some true => match TP.info? t with
        | some i => .ldn i.size (path a)
        | none => .bad
      | none => .bad
    | false => .bad
noncomputable def resK : List GRes → Env → Objs → (List Value → Bool) → Bool := List.rec (motive := fun _ => Env → Objs → (List Value → Bool) → Bool) (fun _ _ k => k [])
  (fun g _ ih env m k => GRes.rec (motive := fun _ => (Env → Objs → (List Value → Bool) → Bool) → Env → Objs → (List Value → Bool) → Bool)
    (fun p ih env m k => fVal (getE p env) fun v => ih env m fun r => k (v :: r))
    (fun p ih env m k => mLd (.t p) env m (fun v => ih env m fun r => k (v :: r)) false)
    (fun n p ih env m k => mLdn n (.t p) env m (fun v => ih env m fun r => k (v :: r)) false)
    (fun _ _ _ _ => false) g ih env m k)
inductive FnV
  | no
  | fn (nt : Nat) (body : Code) (rs : List GRes)
noncomputable def fnv (f : FuncId) : FnV := match TP.funcs[f]? with
  | some fn => match fn.body with
    | some c => .fn fn.ntmps c (fn.results.toList.map (gres fn.ntmps))
    | none => .no
  | none => .no
/-- all with that name go -/
noncomputable def delK : Objs → Nat → (Objs → Bool) → Bool := List.rec (motive := fun _ => Nat → (Objs → Bool) → Bool) (fun _ k => k [])
  (fun p _ ih b k => ifB (Nat.beq p.1 b) (ih b k) (ih b fun r => k (p :: r)))
noncomputable def isDef (o : Obj) (x : Bool) : Bool := Obj.rec (motive := fun _ => Bool → Bool) (fun _ _ _ _ => false) (fun _ _ _ => false) (fun _ _ _ => false) (fun _ _ _ => false) (fun _ _ _ => false) (fun _ _ _ _ _ _ _ => false) (fun _ _ _ => false) (fun _ _ _ _ _ => false) (fun _ _ => false)
  (fun c x => Option.rec (motive := fun _ => Bool → Bool) (fun _ => false) (fun l x => List.rec (motive := fun _ => Bool → Bool) (fun x => x) (fun _ _ _ _ => false) l x) c x) (fun _ _ => false) (fun _ _ _ => false) o x
noncomputable def takeK : List Nat → Objs → (Objs → Bool) → Bool := List.rec (motive := fun _ => Objs → (Objs → Bool) → Bool) (fun m k => k m)
  (fun D _ ih m k => findK m D fun o => isDef o (delK m D fun m => ih m k))
noncomputable def shutK (vs : List Value) (k : Value → Bool) : Bool := List.rec (motive := fun _ => (Value → Bool) → Bool) (fun k => k (.tuple (Array.mk [])))
  (fun v r _ k => List.rec (motive := fun _ => Value → (Value → Bool) → Bool) (fun v k => k v) (fun u r _ v k => k (.tuple (Array.mk (v :: u :: r)))) r v k) vs k
noncomputable def fl1 : Value → Bool := Value.rec (motive_1 := fun _ => Bool) (motive_2 := fun _ => Unit) (motive_3 := fun _ => Unit)
  (fun _ => true)
  (fun _ _ => true)
  (fun _ _ => false)
  (fun _ _ _ => false)
  (fun _ => false)
  (fun _ => false)
  (fun _ _ _ => false)
  (fun _ => false)
  (fun _ => false)
  (fun _ _ _ _ _ => false)
  (false)
  (fun _ _ _ => false)
  (false)
  (fun _ _ => false)
  (fun _ _ => false)
  (fun _ _ => ()) () (fun _ _ _ _ => ())

noncomputable def endK (ya : Bool) (n : Nat) (v : Value) (n1 : Nat) (m : Objs) (k : KV) : Bool := ifB ya (keepG m n (rootsOf true n v m) fun m => k v n1 m) (ifB (ifB (fl1 v) true (flatN 3 v)) (dropG m n fun m => k v n1 m) (keepG m n (rootsOf false n v m) fun m => k v n1 m))
noncomputable def leLen : List Value → Nat → Bool := List.rec (motive := fun _ => Nat → Bool) (fun _ => true) (fun _ _ ih n => Nat.rec (motive := fun _ => (Nat → Bool) → Bool) (fun _ => false) (fun j _ ih => ih j) n ih)
noncomputable def endC (e : Ex) (x : Bool) : Bool := Ex.rec (motive := fun _ => Bool → Bool) (fun x => x) (fun _ _ => false) (fun x => x) e x
noncomputable def callF (S : Sf) (f : FuncId) (args : List Value) (n : Nat) (m : Objs) (k : KV) : Bool := FnV.rec (motive := fun _ => Sf → List Value → Nat → Objs → KV → Bool) (fun _ _ _ _ _ => false)
  (fun nt body rs S args n m k => ifB (leLen args nt) (ifB (Nat.ble nt 512) (fromL args fun env => S.c nt body none env [] n m fun e env1 df n1 m1 => endC e (takeK df m1 fun m2 => resK rs env1 m2 fun vs => shutK vs fun v => endK (hasYield args) n v n1 m2 k)) false) false) (fnv f) S args n m k
noncomputable def memoK (memo : Job → Option Out) (f : FuncId) (args : List Value) (n : Nat) (m : Objs) (k : KV) (s : Bool) : Bool := match memo (.call f args ⟨n, m⟩) with
  | some r => match r with
    | .value v V1 => ifB (inbG V1.objs V1.next) (k v V1.next V1.objs) false
    | _ => false
  | none => s
noncomputable def runG (memo : Job → Option Out) : Nat → Sf := Nat.rec (motive := fun _ => Sf) ⟨fun _ _ _ _ _ _ _ _ => false, fun _ _ _ _ _ => false⟩
  (fun _ ih => ⟨fun nt c ar env df n m k => codeG (view nt c) ih nt ar env df n m k, fun f args n m k => memoK memo f args n m k (callF ih f args n m k)⟩)
/-- the machine, by its steps, with what is known -/
noncomputable def rmS (memo : Job → Option Out) : Nat → Job → Option Out
  | 0, _ => none
  | n + 1, j => orF memo (step TP (rmS memo n)) j
theorem good_TP : Good TP := good_prog
theorem rmS_ok {memo : Job → Option Out} (hm : SelfOK TP memo) : ∀ n, SelfOK TP (rmS memo n) := by
  intro n
  induction n with
  | zero => exact SelfOK.nothing
  | succ n ih => exact SelfOK.or hm (step_ok good_TP ih)

section
variable {sf : Job → Option Out} {S : Sf} {nt : Nat} {env : Env} {ts : List Value} {n : Nat} {m : Objs}
theorem inb_drop (b : Nat) : ∀ (l : Objs) (m : Nat), inb m l = true → inb m (drop l b) = true
  | [], _, _ => rfl
  | (key, o) :: r, m, h => by
    simp only [inb, Bool.and_eq_true, Nat.blt_eq] at h
    simp only [drop]
    split
    · exact inb_up _ (Nat.le_of_lt h.1) (inb_drop b r key h.2)
    · simp only [inb, Bool.and_eq_true, Nat.blt_eq]; exact ⟨h.1, inb_drop b r key h.2⟩
theorem delK_eq (b : Nat) : ∀ (l : Objs) (k : Objs → Bool), delK l b k = k (drop l b)
  | [], k => rfl
  | (key, o) :: r, k => by
    show ifB (Nat.beq key b) (delK r b k) (delK r b fun r => k ((key, o) :: r)) = _
    rw [delK_eq b r, delK_eq b r]
    simp only [drop]
    cases Nat.beq key b <;> rfl
theorem isDef_true {o : Obj} {x : Bool} (h : isDef o x = true) : o = .deferred (some []) ∧ x = true := by
  cases o with
  | deferred c =>
    cases c with
    | none => cases h
    | some l => cases l with
      | nil => exact ⟨rfl, h⟩
      | cons a l => cases h
  | _ => cases h
theorem takeK_true : ∀ {df : List Nat} {m : Objs} {k : Objs → Bool}, inb n m = true → takeK df m k = true → ∃ l, takeAll df m = some l ∧ inb n l = true ∧ k l = true
  | [], m, k, hn, h => ⟨m, rfl, hn, h⟩
  | D :: df, m, k, hn, h => by
    have h : findK m D (fun o => isDef o (delK m D fun m => takeK df m k)) = true := h
    obtain ⟨o, hf, h⟩ := findK_true h
    obtain ⟨ho, h⟩ := isDef_true h
    subst ho
    rw [delK_eq] at h
    obtain ⟨l, h1, h2, h3⟩ := takeK_true (inb_drop D m n hn) h
    exact ⟨l, by simp only [takeAll, hf, h1], h2, h3⟩
theorem load_var {t : TypeId} {a : Nat} {v : Value} (h : runOp TP (ev ts) ⟨none, .load t (.tmp a), 0, "", #[], none⟩ ⟨n, m⟩ = some (.value v, ⟨n, m⟩)) : runV TP (do loadVar t (← asAddr (lget ts a))) ⟨n, m⟩ = some (v, ⟨n, m⟩) := by
  have h : val (runV TP (Instr.loadAt t (lget ts a)) ⟨n, m⟩) = some (.value v, ⟨n, m⟩) := h
  have h2 : runV TP (Instr.loadAt t (lget ts a)) ⟨n, m⟩ = some (v, ⟨n, m⟩) := by
    unfold val at h
    split at h
    · rename_i v' V' hq; cases h; exact hq
    · cases h
  revert h2
  cases lget ts a with
  | pointer q =>
    cases q with
    | none => intro h2; cases h2
    | some ad => exact id
  | _ => intro h2; cases h2
theorem resK_true (h : ERel nt env ts) : ∀ {rs : List ResultVar} {k : List Value → Bool}, resK (rs.map (gres nt)) env m k = true → ∃ vs, runV TP (resultsL rs ts) ⟨n, m⟩ = some (vs, ⟨n, m⟩) ∧ k vs = true
  | [], k, hr => ⟨[], rfl, hr⟩
  | r :: rs, k, hr => by
    cases r with
    | tmp t =>
      rw [List.map_cons] at hr
      unfold gres at hr
      dsimp only at hr
      split at hr
      · rename_i hlt
        rw [Nat.blt_eq] at hlt
        have hr : fVal (getE (path t) env) (fun v => resK (rs.map (gres nt)) env m fun r => k (v :: r)) = true := hr
        rw [fVal_eq, h.get t hlt] at hr
        obtain ⟨vs, h1, h2⟩ := resK_true h hr
        refine ⟨_, ?_, h2⟩
        simp only [resultsL]
        rw [runV_bind, h1]
        rfl
      · cases hr
    | cell a t =>
      have fin : ∀ v, runV TP (do loadVar t (← asAddr (lget ts a))) ⟨n, m⟩ = some (v, ⟨n, m⟩) → resK (rs.map (gres nt)) env m (fun r => k (v :: r)) = true → ∃ vs, runV TP (resultsL (.cell a t :: rs) ts) ⟨n, m⟩ = some (vs, ⟨n, m⟩) ∧ k vs = true := by
        intro v h1 h2
        obtain ⟨vs, h3, h4⟩ := resK_true h h2
        refine ⟨_, ?_, h4⟩
        simp only [resultsL]
        have e : (do let v ← loadVar t (← asAddr (lget ts a)); let vs ← resultsL rs ts; pure (v :: vs) : Sem (List Value)) = (do let v ← (do loadVar t (← asAddr (lget ts a))); let vs ← resultsL rs ts; pure (v :: vs)) := by rw [bind_assoc]
        rw [e, runV_bind, h1]
        simp only [Option.bind_some]
        rw [runV_bind, h3]
        rfl
      rw [List.map_cons] at hr
      unfold gres at hr
      dsimp only at hr
      split at hr
      · rename_i hlt
        have hok : okSlot nt (.tmp a) = true := hlt
        split at hr
        · rename_i ht
          have hr : mLd (opdD (.tmp a)) env m (fun v => resK (rs.map (gres nt)) env m fun r => k (v :: r)) false = true := hr
          rcases mLd_true (P := TP) (d := none) (ty := 0) (pos := "") (aft := #[]) (gd := none) (n := n) h ht hok hr with ⟨v, h1, h2⟩ | h2
          · exact fin v (load_var h1) h2
          · cases h2
        · rename_i ht
          split at hr
          · rename_i i hi
            have hr : mLdn i.size (opdD (.tmp a)) env m (fun v => resK (rs.map (gres nt)) env m fun r => k (v :: r)) false = true := hr
            rcases mLdn_true (P := TP) (d := none) (ty := 0) (pos := "") (aft := #[]) (gd := none) (n := n) h ht hi hok hr with ⟨v, h1, h2⟩ | h2
            · exact fin v (load_var h1) h2
            · cases h2
          · cases hr
        · cases hr
      · cases hr
theorem shutK_eq (vs : List Value) (k : Value → Bool) : shutK vs k = k (shut vs) := by
  cases vs with
  | nil => rfl
  | cons v r => cases r <;> rfl
theorem fl1_flat {v : Value} (h : fl1 v = true) : flatN 3 v = true := by cases v <;> first | rfl | cases h
theorem endK_true {ya : Bool} {v : Value} {n1 : Nat} {k : KV} (hn : inb n1 m = true) (h : endK ya n v n1 m k = true) : k v n1 (keepR n (rootsOf ya n v m) m) = true := by
  rcases ifB_true h with ⟨h1, h3⟩ | ⟨h1, h3⟩
  · subst h1
    rw [keepG_eq n _ m n1 _ hn] at h3
    exact h3
  subst h1
  clear h
  rcases ifB_true h3 with ⟨h1, h⟩ | ⟨h1, h⟩
  · have hf : flatN 3 v = true := by
      rcases ifB_true h1 with ⟨h2, _⟩ | ⟨_, h2⟩
      · exact fl1_flat h2
      · exact h2
    rw [dropG_eq n m n1 _ hn] at h
    simp only [rootsOf, hf]
    exact h
  · rw [keepG_eq n _ m n1 _ hn] at h
    exact h
theorem leLen_true : ∀ {l : List Value} {n : Nat}, leLen l n = true → l.length ≤ n
  | [], n, h => Nat.zero_le _
  | x :: l, 0, h => by cases h
  | x :: l, n + 1, h => by have : leLen l n = true := h; have := leLen_true this; simpa using this
theorem ERel.ofArgs {args : List Value} {nt : Nat} (h1 : args.length ≤ nt) (h2 : nt ≤ 512) : ERel nt (e3 (lget args)) (args ++ List.replicate (nt - args.length) undef) := by
  refine ⟨by simp; omega, h2, fun i hi => ?_⟩
  have e : lget (args ++ List.replicate (nt - args.length) undef) i = lget args i := by
    rw [lget_eq, lget_eq, List.getElem?_append]
    split
    · rfl
    · rename_i hlt
      rw [List.getElem?_replicate, List.getElem?_eq_none_iff.2 (by omega)]
      split <;> rfl
  rw [e]
  show g1 (i8 (i % 8)) (g2 (i8 (i / 8 % 8)) (g3 (i8 (i / 64)) (e3 (lget args)))) = _
  rw [g3_e _ _ (by omega), g2_e _ _ _ (by omega), g1_e _ _ _ (by omega)]
  congr 1
  omega
theorem callF_true (hS : GSelf sf S) {f : FuncId} {args : List Value} {k : KV} (hn : inb n m = true) (hr : callF S f args n m k = true) :
    ∃ v V1, step TP sf (.call f args ⟨n, m⟩) = some (.value v V1) ∧ inb V1.next V1.objs = true ∧ k v V1.next V1.objs = true := by
  unfold callF fnv at hr
  split at hr
  case h_2 => cases hr
  rename_i fn hfn
  split at hr
  case h_2 => cases hr
  rename_i c hc
  have hr : ifB (leLen args fn.ntmps) (ifB (Nat.ble fn.ntmps 512) (fromL args fun env => S.c fn.ntmps c none env [] n m fun e env1 df n1 m1 => endC e (takeK df m1 fun m2 => resK (fn.results.toList.map (gres fn.ntmps)) env1 m2 fun vs => shutK vs fun v => endK (hasYield args) n v n1 m2 k)) false) false = true := hr
  rcases ifB_true hr with ⟨h1, hr⟩ | ⟨_, hr⟩
  case inr => cases hr
  rcases ifB_true hr with ⟨h2, hr⟩ | ⟨_, hr⟩
  case inr => cases hr
  rw [fromL_eq] at hr
  obtain ⟨e, ts1, df1, V1, env1, h3, h4, h5, hr⟩ := hS.code _ _ _ _ _ _ _ _ _ (ERel.ofArgs (leLen_true h1) (Nat.le_of_ble_eq_true h2)) hn hr
  have he : (e = .normal ∨ e = .ret) ∧ takeK df1 V1.objs (fun m2 => resK (fn.results.toList.map (gres fn.ntmps)) env1 m2 fun vs => shutK vs fun v => endK (hasYield args) n v V1.next m2 k) = true := by
    cases e with
    | normal => exact ⟨.inl rfl, hr⟩
    | ret => exact ⟨.inr rfl, hr⟩
    | exit id => cases hr
  obtain ⟨he, hr⟩ := he
  obtain ⟨l, h6, h7, hr⟩ := takeK_true h5 hr
  obtain ⟨vs, h8, hr⟩ := resK_true (n := V1.next) h4 hr
  rw [shutK_eq] at hr
  have hr := endK_true h7 hr
  refine ⟨shut vs, ⟨V1.next, keepR n (rootsOf (hasYield args) n (shut vs) l) l⟩, ?_, inb_keepR _ _ _ _ h7, hr⟩
  simp only [step, hfn, hc, h3]
  rcases he with rfl | rfl <;> simp only [h6, h8]
end
theorem runG_ok {memo : Job → Option Out} (hm : ∀ ar c ts df V, memo (.code ar c ts df V) = none) : ∀ n, GSelf (rmS memo n) (runG memo n) := by
  intro n
  induction n with
  | zero => exact ⟨(fun _ _ _ _ _ _ _ _ _ _ _ h => by cases h), (fun _ _ _ _ _ _ h => by cases h)⟩
  | succ n ih =>
    refine ⟨fun nt c ar env ts df nx m k h hn hr => ?_, fun f args nx m k hn hr => ?_⟩
    · obtain ⟨e, ts1, df1, V1, env1, h1, h2, h3, h4⟩ := code_true h ih hn c ar df hr
      exact ⟨e, ts1, df1, V1, env1, by simp only [rmS, orF, hm]; exact h1, h2, h3, h4⟩
    · have hr : memoK memo f args nx m k (callF (runG memo n) f args nx m k) = true := hr
      unfold memoK at hr
      split at hr
      · rename_i r hq
        split at hr
        · rename_i v V1
          rcases ifB_true hr with ⟨h1, h2⟩ | ⟨_, h2⟩
          · rw [inbG_eq] at h1
            exact ⟨v, V1, by simp only [rmS, orF, hq], h1, h2⟩
          · cases h2
        · cases hr
      · rename_i hq
        obtain ⟨v, V1, h1, h2, h3⟩ := callF_true ih hn hr
        exact ⟨v, V1, by simp only [rmS, orF, hq]; exact h1, h2, h3⟩
/-- **A closed call, told by the quick machine.** -/
theorem closedG {memo : Job → Option Out} (hs : SelfOK TP memo) (hm : ∀ ar c ts df V, memo (.code ar c ts df V) = none) {N : Nat} {f : FuncId} {v : Value} (hv : flatN 3 v = true)
    (h : (runG memo N).f f [] 0 [] (fun x _ _ => beqV 4 x v) = true) (w : World) : Calls Go.Proofs.Try.prog f #[] w fun e w' => e = .returned v ∧ RowKit.Below w.heap.size w w' := by
  obtain ⟨x, V1, h1, _, h2⟩ := (runG_ok hm N).call f [] 0 [] _ rfl h
  have hx := beqV_eq _ _ _ h2
  subst hx
  obtain ⟨_, ok⟩ := (rmS_ok hs N).call _ _ _ _ _ h1
  have := ok ⟨id, fun _ => 0, fun _ => 0, fun _ => 0⟩ (fun _ => False) w #[] 5 ⟨fun b o h => (by cases h), fun b o h => (by cases h), fun b o h => (by cases h), fun b cs e fz h => (by cases h), fun b es c h => (by cases h), fun b c x y h => (by cases h)⟩ .nil (fun b _ _ h => h)
  refine (callsIn_wide.1 this).mono ?_
  rintro e w' ⟨ρ1, v', rfl, st, hr⟩
  have e := hr.flatN_eq 3 hv
  exact ⟨by rw [e], st.os, st.tape, st.output, st.size, fun k hk => st.frame k hk fun b o hb => by cases hb⟩
/-- without a table -/
theorem closed_quick {N : Nat} {f : FuncId} {v : Value} (hv : flatN 3 v = true) (h : (runG (fun _ => none) N).f f [] 0 [] (fun x _ _ => beqV 4 x v) = true) (w : World) :
    Calls Go.Proofs.Try.prog f #[] w fun e w' => e = .returned v ∧ RowKit.Below w.heap.size w w' := closedG SelfOK.nothing (fun _ _ _ _ _ => rfl) hv h w
end Go.Vm
/- The quick machine: known calls, and computations cut into parts. -/
namespace Go.Vm
variable {memo : Job → Option Out}
/-- a known call, told by the quick machine, with the blocks named in l alone behind it -/
theorem memo_g {k : Known} {r : List Known} (h1 : SelfOK TP (memoOf r)) (l : List Nat) {N : Nat} (hV : inbG k.V.objs k.V.next = true)
    (h : (runG (memoOf r) N).f k.f k.args k.V.next k.V.objs (fun v n m => beqV 4 v k.v && beqW ⟨n, keepL l m⟩ k.V1) = true) : SelfOK TP (memoOf (k :: r)) := by
  rw [inbG_eq] at hV
  obtain ⟨v, V1, h2, _, h3⟩ := (runG_ok (memoOf_code r) N).call _ _ _ _ _ hV h
  rw [Bool.and_eq_true] at h3
  have hv := beqV_eq _ _ _ h3.1
  have hW := beqW_eq h3.2
  obtain ⟨h4, h5⟩ := (rmS_ok h1 N).call _ _ _ _ _ h2
  have e : memoOf (k :: r) = orF (fun j => match hits k j with | true => some (.value k.v k.V1) | false => none) (memoOf r) := by
    funext j
    simp only [memoOf, orF]
    cases hits k j <;> rfl
  have hn : k.V1.next = V1.next := by rw [← hW]
  have hk : k.V.next ≤ k.V1.next ∧ CallOK TP k.f k.args k.V k.v k.V1 := by
    refine ⟨by rw [hn]; exact h4, ?_⟩
    rw [← hv]
    exact h5.less (fun b o hbo => by rw [← hW] at hbo; exact (find_keepL l _ b o hbo).2) hn
  rw [e]
  refine SelfOK.or ⟨?_, ?_, ?_⟩ h1
  · intro ar c ts df V e ts1 df1 V1 hj
    simp only [hits] at hj; cases hj
  · intro ar c ts df V e ts1 df1 V1 hj
    simp only [hits] at hj; cases hj
  · intro f args V v V1 hj
    split at hj
    · rename_i hh
      have := hits_eq hh
      injection this with ha hb hc
      injection hj with hj
      injection hj with hv hV
      subst ha hb hc
      rw [← hv, ← hV]
      exact hk
    · cases hj

/-! parts -/
/-- a state ahead of some code -/
structure Sta where
  ts : List Value
  df : List Nat
  V : View
def eqNs : List Nat → List Nat → Bool
  | [], l => l.isEmpty
  | x :: r, l => match l with
    | [] => false
    | y :: s => Nat.beq x y && eqNs r s
theorem eqNs_eq : ∀ l m, eqNs l m = true → l = m
  | [], m, h => by cases m with
    | nil => rfl
    | cons y s => cases h
  | x :: r, m, h => by
    cases m with
    | nil => cases h
    | cons y s =>
      simp only [eqNs, Bool.and_eq_true] at h
      rw [beqN_eq h.1, eqNs_eq r s h.2]
/-- the state is this one -/
noncomputable def isSta (s : Sta) (env : Env) (df : List Nat) (n : Nat) (m : Objs) : Bool := beqL (beqV 4) (toLR s.ts.length 0 env) s.ts && (eqNs df s.df && beqW ⟨n, m⟩ s.V)
theorem isSta_eq {s : Sta} {env : Env} {ts : List Value} {df : List Nat} {V : View} (h : ERel s.ts.length env ts) (hs : isSta s env df V.next V.objs = true) : ts = s.ts ∧ df = s.df ∧ V = s.V := by
  unfold isSta at hs
  simp only [Bool.and_eq_true] at hs
  rw [toLR_eq h] at hs
  exact ⟨beqL_eq (beqV_eq 4) _ _ hs.1, eqNs_eq _ _ hs.2.1, beqW_eq hs.2.2⟩
/-- some code ends so -/
def Ends (memo : Job → Option Out) (N : Nat) (ar : Option Nat) (c : Code) (s : Sta) (e : Ex) (s1 : Sta) : Prop := rmS memo N (.code ar c s.ts s.df s.V) = some (.code e s1.ts s1.df s1.V)
noncomputable def startOk (s : Sta) : Bool := Nat.ble s.ts.length 512 && inbG s.V.objs s.V.next
theorem start_spec {s : Sta} (h : startOk s = true) : ERel s.ts.length (e3 (lget s.ts)) s.ts ∧ inb s.V.next s.V.objs = true := by
  unfold startOk at h
  rw [Bool.and_eq_true, inbG_eq] at h
  exact ⟨.ofList (Nat.le_of_ble_eq_true h.1), h.2⟩
def eqEx (a b : Ex) : Bool := match a with
  | .normal => match b with
    | .normal => true
    | _ => false
  | .exit i => match b with
    | .exit j => Nat.beq i j
    | _ => false
  | .ret => match b with
    | .ret => true
    | _ => false
theorem eqEx_eq {a b : Ex} (h : eqEx a b = true) : a = b := by
  cases a <;> cases b <;> first | rfl | (cases h; done) | (rw [Nat.eq_of_beq_eq_true h])
theorem ends_g (hm : ∀ ar c ts df V, memo (.code ar c ts df V) = none) {N : Nat} {ar : Option Nat} {c : Code} {s s1 : Sta} {e : Ex} (hs : startOk s = true) (hl : Nat.beq s.ts.length s1.ts.length = true)
    (h : (runG memo N).c s.ts.length c ar (e3 (lget s.ts)) s.df s.V.next s.V.objs (fun x env df n m => eqEx x e && isSta s1 env df n m) = true) : Ends memo N ar c s e s1 := by
  obtain ⟨h1, h2⟩ := start_spec hs
  obtain ⟨e', ts1, df1, V1, env1, h3, h4, _, h5⟩ := (runG_ok hm N).code _ _ _ _ _ _ _ _ _ h1 h2 h
  rw [Bool.and_eq_true] at h5
  have he := eqEx_eq h5.1
  rw [Nat.eq_of_beq_eq_true hl] at h4
  obtain ⟨ha, hb, hc⟩ := isSta_eq h4 h5.2
  unfold Ends
  rw [← he, ← ha, ← hb, ← hc]
  exact h3
noncomputable def nor (e : Ex) (x : Bool) : Bool := Ex.rec (motive := fun _ => Bool → Bool) (fun x => x) (fun _ _ => false) (fun _ => false) e x
/-- rounds of a loop -/
noncomputable def iterG (memo : Job → Option Out) (ar : Option Nat) (nt : Nat) (b : Code) (N : Nat) : Nat → Env → List Nat → Nat → Objs → (Env → List Nat → Nat → Objs → Bool) → Bool :=
  Nat.rec (motive := fun _ => Env → List Nat → Nat → Objs → (Env → List Nat → Nat → Objs → Bool) → Bool) (fun env df n m k => k env df n m)
    (fun j ih env df n m k => (runG memo (Nat.add N j)).c nt b ar env df n m fun e env df n m => nor e (ih env df n m k))
theorem iterG_true (hm : ∀ ar c ts df V, memo (.code ar c ts df V) = none) {ar : Option Nat} {nt N : Nat} {b : Code} {k : Env → List Nat → Nat → Objs → Bool} : ∀ (j : Nat) {env : Env} {ts : List Value} {df : List Nat} {V : View}, ERel nt env ts → inb V.next V.objs = true →
    iterG memo ar nt b N j env df V.next V.objs k = true → ∃ ts1 df1 V1 env1, rmS memo (N + j) (.code ar (.loop b) ts df V) = rmS memo N (.code ar (.loop b) ts1 df1 V1) ∧ ERel nt env1 ts1 ∧ inb V1.next V1.objs = true ∧ k env1 df1 V1.next V1.objs = true
  | 0, env, ts, df, V, h, hn, hr => ⟨ts, df, V, env, rfl, h, hn, hr⟩
  | j + 1, env, ts, df, V, h, hn, hr => by
    have hr : (runG memo (N + j)).c nt b ar env df V.next V.objs (fun e env df n m => nor e (iterG memo ar nt b N j env df n m k)) = true := hr
    obtain ⟨e, ts1, df1, V1, env1, h1, h2, h3, h4⟩ := (runG_ok hm (N + j)).code _ _ _ _ _ _ _ _ _ h hn hr
    have he : e = .normal ∧ iterG memo ar nt b N j env1 df1 V1.next V1.objs k = true := by
      cases e with
      | normal => exact ⟨rfl, h4⟩
      | _ => cases h4
    obtain ⟨rfl, h4⟩ := he
    obtain ⟨ts2, df2, V2, env2, h5, h6, h7, h8⟩ := iterG_true hm j h2 h3 h4
    refine ⟨ts2, df2, V2, env2, ?_, h6, h7, h8⟩
    rw [← h5]
    show rmS memo (N + j + 1) (.code ar (.loop b) ts df V) = _
    rw [rmS, orF, hm]
    simp only [step, h1]
/-- from one state to a later one -/
theorem loop_g (hm : ∀ ar c ts df V, memo (.code ar c ts df V) = none) {N j : Nat} {ar : Option Nat} {b : Code} {s s1 s2 : Sta} {e : Ex} (hs : startOk s = true) (hl : Nat.beq s.ts.length s1.ts.length = true)
    (h : iterG memo ar s.ts.length b N j (e3 (lget s.ts)) s.df s.V.next s.V.objs (isSta s1) = true) (hk : Ends memo N ar (.loop b) s1 e s2) : Ends memo (N + j) ar (.loop b) s e s2 := by
  obtain ⟨h1, h2⟩ := start_spec hs
  obtain ⟨ts1, df1, V1, env1, h3, h4, _, h5⟩ := iterG_true hm j h1 h2 h
  rw [Nat.eq_of_beq_eq_true hl] at h4
  obtain ⟨ha, hb, hc⟩ := isSta_eq h4 h5
  unfold Ends at hk ⊢
  rw [h3, ha, hb, hc]
  exact hk
theorem ends_seq (hm : ∀ ar c ts df V, memo (.code ar c ts df V) = none) {N : Nat} {ar : Option Nat} {a b : Code} {s s1 s2 : Sta} {e : Ex} (h1 : Ends memo N ar a s .normal s1) (h2 : Ends memo N ar b s1 e s2) : Ends memo (N + 1) ar (.seq a b) s e s2 := by
  unfold Ends at *
  rw [rmS, orF, hm]
  simp only [step, h1]
  exact h2
theorem ends_block (hm : ∀ ar c ts df V, memo (.code ar c ts df V) = none) {N : Nat} {ar : Option Nat} {id : Nat} {b : Code} {s s1 : Sta} (h : Ends memo N ar b s .normal s1 ∨ Ends memo N ar b s (.exit id) s1) : Ends memo (N + 1) ar (.block id b) s .normal s1 := by
  unfold Ends at *
  rw [rmS, orF, hm]
  rcases h with h | h
  · simp only [step, h]
  · simp only [step, h, Nat.beq_refl]
/-- a call whose body ends so -/
noncomputable def finish (ya : Bool) (n : Nat) (rs : List ResultVar) (e : Ex) (s : Sta) : Option Out := match e with
  | .exit _ => none
  | _ => match takeAll s.df s.V.objs with
    | some l => match runV TP (resultsL rs s.ts) ⟨s.V.next, l⟩ with
      | some (vs, V2) => some (.value (shut vs) ⟨V2.next, keepR n (rootsOf ya n (shut vs) V2.objs) V2.objs⟩)
      | none => none
    | none => none
theorem ends_call {f : FuncId} {args : List Value} {V : View} {fn : Func} {c : Code} {N : Nat} {s1 : Sta} {e : Ex} (hn : memo (.call f args V) = none) (hf : TP.funcs[f]? = some fn) (hc : fn.body = some c)
    (h : Ends memo N none c ⟨args ++ List.replicate (fn.ntmps - args.length) undef, [], V⟩ e s1) : rmS memo (N + 1) (.call f args V) = finish (hasYield args) V.next fn.results.toList e s1 := by
  unfold Ends at h
  rw [rmS, orF, hn]
  simp only [step, hf, hc, h]
  cases e <;> rfl
/-- a known call, told in parts -/
theorem memo_parts {k : Known} {r : List Known} (h1 : SelfOK TP (memoOf r)) (l : List Nat) {N : Nat} {x : Option Out} (h : rmS (memoOf r) N (.call k.f k.args k.V) = x)
    (hok : okB (narrow l x) k.v k.V1 = true) : SelfOK TP (memoOf (k :: r)) := by
  have hx := okB_eq hok
  clear hok
  have e : memoOf (k :: r) = orF (fun j => match hits k j with | true => some (.value k.v k.V1) | false => none) (memoOf r) := by
    funext j
    simp only [memoOf, orF]
    cases hits k j <;> rfl
  have hk : k.V.next ≤ k.V1.next ∧ CallOK TP k.f k.args k.V k.v k.V1 := by
    unfold narrow at hx
    split at hx
    · rename_i v W
      rw [fO_eq] at hx
      obtain ⟨h2, h3⟩ := (rmS_ok h1 N).call _ _ _ _ _ h
      injection hx with hx
      injection hx with ha hb
      rw [← ha, ← hb]
      exact ⟨h2, h3.less (fun b o hbo => (find_keepL l _ b o hbo).2) rfl⟩
    · cases hx
  rw [e]
  refine SelfOK.or ⟨?_, ?_, ?_⟩ h1
  · intro ar c ts df V e ts1 df1 V1 hj
    simp only [hits] at hj; cases hj
  · intro ar c ts df V e ts1 df1 V1 hj
    simp only [hits] at hj; cases hj
  · intro f args V v V1 hj
    split at hj
    · rename_i hh
      have := hits_eq hh
      injection this with ha hb hc
      injection hj with hj
      injection hj with hv hV
      subst ha hb hc
      rw [← hv, ← hV]
      exact hk
    · cases hj
/-! where a body is cut -/
def sA (c : Code) : Code := match c with
  | .seq a _ => a
  | c => c
def sB (c : Code) : Code := match c with
  | .seq _ b => b
  | c => c
def isSeq (c : Code) : Bool := match c with
  | .seq _ _ => true
  | _ => false
theorem isSeq_eq {c : Code} (h : isSeq c = true) : c = .seq (sA c) (sB c) := by cases c <;> first | rfl | cases h
def kB (c : Code) : Code := match c with
  | .block _ b => b
  | c => c
def isBlk (id : Nat) (c : Code) : Bool := match c with
  | .block i _ => Nat.beq i id
  | _ => false
theorem isBlk_eq {id : Nat} {c : Code} (h : isBlk id c = true) : c = .block id (kB c) := by
  cases c <;> first | (cases h; done) | (rename_i i b; have := Nat.eq_of_beq_eq_true (show Nat.beq i id = true from h); subst this; rfl)
def lB (c : Code) : Code := match c with
  | .loop b => b
  | c => c
def isLoop (c : Code) : Bool := match c with
  | .loop _ => true
  | _ => false
theorem isLoop_eq {c : Code} (h : isLoop c = true) : c = .loop (lB c) := by cases c <;> first | rfl | cases h
theorem seq_at (hm : ∀ ar c ts df V, memo (.code ar c ts df V) = none) {N : Nat} {ar : Option Nat} {c : Code} {s s1 s2 : Sta} {e : Ex} (hc : isSeq c = true) (h1 : Ends memo N ar (sA c) s .normal s1) (h2 : Ends memo N ar (sB c) s1 e s2) : Ends memo (N + 1) ar c s e s2 := by
  rw [isSeq_eq hc]; exact ends_seq hm h1 h2
theorem block_at (hm : ∀ ar c ts df V, memo (.code ar c ts df V) = none) {N : Nat} {ar : Option Nat} {id : Nat} {c : Code} {s s1 : Sta} (hc : isBlk id c = true) (h : Ends memo N ar (kB c) s .normal s1 ∨ Ends memo N ar (kB c) s (.exit id) s1) : Ends memo (N + 1) ar c s .normal s1 := by
  rw [isBlk_eq hc]; exact ends_block hm h
theorem loop_at (hm : ∀ ar c ts df V, memo (.code ar c ts df V) = none) {N j : Nat} {ar : Option Nat} {c : Code} {s s1 s2 : Sta} {e : Ex} (hc : isLoop c = true) (hs : startOk s = true) (hl : Nat.beq s.ts.length s1.ts.length = true)
    (h : iterG memo ar s.ts.length (lB c) N j (e3 (lget s.ts)) s.df s.V.next s.V.objs (isSta s1) = true) (hk : Ends memo N ar c s1 e s2) : Ends memo (N + j) ar c s e s2 := by
  rw [isLoop_eq hc] at hk ⊢; exact loop_g hm hs hl h hk
noncomputable def fnOf (f : FuncId) : Func := (TP.funcs[f]?).getD default
noncomputable def bodyOf (f : FuncId) : Code := (fnOf f).body.getD .skip
noncomputable def hasBody (f : FuncId) : Bool := match TP.funcs[f]? with
  | some fn => fn.body.isSome
  | none => false
theorem call_at {f : FuncId} {args : List Value} {V : View} {N : Nat} {s1 : Sta} {e : Ex} (hn : memo (.call f args V) = none) (hf : hasBody f = true)
    (h : Ends memo N none (bodyOf f) ⟨args ++ List.replicate ((fnOf f).ntmps - args.length) undef, [], V⟩ e s1) : rmS memo (N + 1) (.call f args V) = finish (hasYield args) V.next (fnOf f).results.toList e s1 := by
  have h1 : TP.funcs[f]? = some (fnOf f) ∧ (fnOf f).body = some (bodyOf f) := by
    unfold hasBody at hf
    unfold bodyOf fnOf
    split at hf
    · rename_i fn hfn
      rw [hfn]
      refine ⟨rfl, ?_⟩
      simp only [Option.getD_some]
      cases hb : fn.body with
      | none => rw [hb] at hf; cases hf
      | some c => rfl
    · cases hf
  exact ends_call hn h1.1 h1.2 h
/-- no such call is known -/
theorem memo_none {r : List Known} {f : FuncId} {args : List Value} {V : View} (h : (memoOf r (.call f args V)).isNone = true) : memoOf r (.call f args V) = none := Option.isNone_iff_eq_none.1 h
end Go.Vm
