/- The quick machine: regions in the order of the text; calls. -/
import Derived.Test.YtcphndfipjifcaaVqGf
import Derived.Test.YtcphndfipjifcaaVqZ
namespace Go.Vm

noncomputable def doK : GK → Oper → Sf → Nat → Env → Nat → Objs → KV → Bool := GK.rec (motive := fun _ => Oper → Sf → Nat → Env → Nat → Objs → KV → Bool)
  (fun x _ _ _ env n m K => fVal (getO x env) fun v => K v n m)
  (fun op x y o _ nt env n m K => pBin op x y env (fun v => K v n m) (slowK nt o env n m K))
  (fun x o _ nt env n m K => pNot x env (fun v => K v n m) (slowK nt o env n m K))
  (fun c a b o _ nt env n m K => pPick c a b env (fun v => K v n m) (slowK nt o env n m K))
  (fun off x o _ nt env n m K => pFa off x env (fun v => K v n m) (slowK nt o env n m K))
  (fun size x i o _ nt env n m K => pIxs size x i env (fun v => K v n m) (slowK nt o env n m K))
  (fun size len x i o _ nt env n m K => pIxa size len x i env (fun v => K v n m) (slowK nt o env n m K))
  (fun j x o _ nt env n m K => pExt j x env (fun v => K v n m) (slowK nt o env n m K))
  (fun x o _ nt env n m K => pNil x env (fun v => K v n m) (slowK nt o env n m K))
  (fun g f c _ _ _ env n m K => mapO f env fun l => mapO c env fun r => K (.func (.func g) (Array.mk l) (Array.mk r)) n m)
  (fun x o _ nt env n m K => pLen x env (fun v => K v n m) (slowK nt o env n m K))
  (fun a o _ nt env n m K => mLd a env m (fun v => K v n m) (slowK nt o env n m K))
  (fun size a o _ nt env n m K => mLdn size a env m (fun v => K v n m) (slowK nt o env n m K))
  (fun size a x o _ nt env n m K => mSt size a x env m (fun m => K undef n m) (slowK nt o env n m K))
  (fun z e _ _ _ _ n m K => fNr (Nat.succ n) fun n1 => K (.pointer (some (Addr.mk n 0 none))) n1 ((n, .cells (Array.mk z) e (0, 0)) :: m))
  (fun e x o _ nt env n m K => cellsK (getO x env) (fun cs => fNr (Nat.succ n) fun n1 => K (.pointer (some (Addr.mk n 0 none))) n1 ((n, .cells (Array.mk cs) e (0, 0)) :: m)) (slowK nt o env n m K))
  (fun f args _ S _ env n m K => callG f args S env n m K)
  (fun o _ nt env n m K => slowK nt o env n m K)
theorem all_arr {nt : Nat} {f : Array Operand} (h : ∀ (i : Nat) (x : i < f.size), okSlot nt f[i] = true) : f.toList.all (okSlot nt) = true := by
  rw [List.all_eq_true]
  intro x hx
  obtain ⟨i, hi, rfl⟩ := Array.mem_iff_getElem.1 (Array.mem_toList_iff.1 hx)
  exact h i hi
section
variable {sf : Job → Option Out} {S : Sf} {nt : Nat} {env : Env} {ts : List Value} {o : Oper} {n : Nat} {m : Objs} {K : KV}
theorem doK_done (h : ERel nt env ts) (hS : GSelf sf S) (hn : inb n m = true) (hok : o.op.operands.toList.all (okSlot nt) = true) (hr : doK (gk TP o.op) o S nt env n m K = true) : Done sf (ev ts) o n m K := by
  have slow : slowK nt o env n m K = true → Done sf (ev ts) o n m K := slow_done h
  have pur : ∀ {x : Prop}, ((∃ v, PureOK TP (ev ts) o v ∧ K v n m = true) ∨ slowK nt o env n m K = true) → Done sf (ev ts) o n m K := fun {x} hx => hx.elim (fun ⟨v, h1, h2⟩ => pure_done h1 hn h2) slow
  have ld : ((∃ v, runOp TP (ev ts) o ⟨n, m⟩ = some (.value v, ⟨n, m⟩) ∧ K v n m = true) ∨ slowK nt o env n m K = true) → Done sf (ev ts) o n m K := fun hx => hx.elim (fun ⟨v, h1, h2⟩ => ⟨v, ⟨n, m⟩, by rw [h1]; rfl, hn, h2⟩) slow
  obtain ⟨d, op, ty, pos, aft, gd⟩ := o
  dsimp only at hok hr
  cases op with
  | move x =>
    simp [Op.operands] at hok
    have hr : fVal (getO (opdD x) env) (fun v => K v n m) = true := hr
    rw [fVal_eq, getO_eq h hok] at hr
    exact ⟨_, ⟨n, m⟩, rfl, hn, hr⟩
  | assign x =>
    simp [Op.operands] at hok
    have hr : fVal (getO (opdD x) env) (fun v => K v n m) = true := hr
    rw [fVal_eq, getO_eq h hok] at hr
    exact ⟨_, ⟨n, m⟩, rfl, hn, hr⟩
  | binOp op t x y t2 =>
    simp [Op.operands] at hok
    exact pur (x := True) (pBin_true h hok.1 hok.2 hr)
  | unOp op t x =>
    simp [Op.operands] at hok
    cases op <;> first | exact pur (x := True) (pNot_true h hok hr) | exact slow hr
  | pick c a b =>
    simp [Op.operands] at hok
    exact pur (x := True) (pPick_true h hok.1 hok.2.1 hok.2.2 hr)
  | fieldAddr t x j =>
    simp [Op.operands] at hok
    simp only [gk] at hr
    split at hr
    · rename_i off ho
      exact pur (x := True) (pFa_true h ho hok hr)
    · exact slow hr
  | indexAddr t x i =>
    simp [Op.operands] at hok
    simp only [gk] at hr
    split at hr
    · rename_i elem hu
      split at hr
      · rename_i info hi
        exact pur (x := True) (pIxs_true h hu hi hok.1 hok.2 hr)
      · exact slow hr
    · rename_i len elem hu
      split at hr
      · rename_i info hi
        exact pur (x := True) (pIxa_true h hu hi hok.1 hok.2 hr)
      · exact slow hr
    · exact slow hr
  | extract x j =>
    simp [Op.operands] at hok
    exact pur (x := True) (pExt_true h hok hr)
  | nilCheck x =>
    simp [Op.operands] at hok
    exact pur (x := True) (pNil_true h hok hr)
  | makeFunc fn f c =>
    simp only [gk] at hr
    split at hr
    · rename_i g
      have hf : f.toList.all (okSlot nt) = true ∧ c.toList.all (okSlot nt) = true := by
        simp [Op.operands] at hok
        exact ⟨all_arr hok.1, all_arr hok.2⟩
      obtain ⟨v, h1, h2⟩ := pMkf_ok (P := TP) (d := d) (ty := ty) (pos := pos) (aft := aft) (gd := gd) h hf.1 hf.2 (K := fun v => K v n m) hr
      exact pure_done h1 hn h2
    · exact slow hr
  | load t a =>
    simp [Op.operands] at hok
    simp only [gk] at hr
    split at hr
    · rename_i ht
      exact ld (mLd_true h ht hok hr)
    · rename_i ht
      split at hr
      · rename_i i hi
        exact ld (mLdn_true h ht hi hok hr)
      · exact slow hr
    · exact slow hr
  | store t a x =>
    simp [Op.operands] at hok
    simp only [gk] at hr
    split at hr
    · rename_i i hi
      split at hr
      · exact slow hr
      · rename_i hz
        rcases mSt_true (P := TP) (d := d) (ty := ty) (pos := pos) (aft := aft) (gd := gd) h hi (fun e => by rw [e] at hz; cases hz) hok.1 hok.2 hn hr with ⟨m1, h1, h2, h3⟩ | hr
        · exact ⟨undef, ⟨n, m1⟩, by rw [h1]; rfl, h2, h3⟩
        · exact slow hr
    · exact slow hr
  | alloc t =>
    simp only [gk] at hr
    split at hr
    · rename_i i hi
      split at hr
      · rename_i z hz
        have hr : fNr (Nat.succ n) (fun n1 => K (.pointer (some (Addr.mk n 0 none))) n1 ((n, .cells (Array.mk z.cells.toList) t (0, 0)) :: m)) = true := hr
        rw [fNr_eq] at hr
        exact ⟨_, _, by rw [alloc_run hi hz]; rfl, inb_new _ hn, hr⟩
      · exact slow hr
    · exact slow hr
  | box t x =>
    simp [Op.operands] at hok
    have hr : cellsK (getO (opdD x) env) (fun cs => fNr (Nat.succ n) fun n1 => K (.pointer (some (Addr.mk n 0 none))) n1 ((n, .cells (Array.mk cs) t (0, 0)) :: m)) (slowK nt ⟨d, .box t x, ty, pos, aft, gd⟩ env n m K) = true := hr
    rw [getO_eq h hok] at hr
    rcases cellsK_true hr with hr | hr
    · rw [fNr_eq] at hr
      exact ⟨_, _, by rw [box_run]; rfl, inb_new _ hn, hr⟩
    · exact slow hr
  | call c =>
    have ha : c.args.toList.all (okSlot nt) = true := by
      cases hcc : c.callee <;> simp [Op.operands, Call.operands, hcc] at hok <;> first | exact all_arr hok | exact all_arr hok.2
    simp only [gk] at hr
    split at hr
    · rename_i f hc
      have hf : okSlot nt f = true := by
        simp [Op.operands, Call.operands, hc] at hok
        first | exact hok.1 | exact hok f (.inl rfl) | exact hok
      exact call_done h hS hc hf ha hn hr
    · rename_i hc
      split at hr
      · rename_i t ht
        split at hr
        · rename_i elem hu
          split at hr
          · rename_i x hx
            refine pur (x := True) (pLen_true h hc hx ht hu ?_ hr)
            rw [hx] at ha
            simpa using ha
          · exact slow hr
        · exact slow hr
      · exact slow hr
    · exact slow hr
  | _ => exact slow hr
end

inductive GG
  | no
  | yes (p : P3) (want : Bool)
  | bad
inductive GD
  | no
  | put (p : P3)
  | bad
inductive GOp
  | pl (o : Oper) (k : GK) (p : P3)
  | gu (o : Oper) (g : GG) (k : GK) (d : GD)
def gg (nt : Nat) (ops : Array Oper) (o : Oper) : GG := match o.guard with
  | none => .no
  | some (j, want) => match (ops[j]?).bind (·.dst) with
    | some d => match Nat.blt d nt with
      | true => .yes (path d) want
      | false => .bad
    | none => .bad
def gdst (nt : Nat) (d : Option Tmp) : GD := match d with
  | none => .no
  | some d => match Nat.blt d nt with
    | true => .put (path d)
    | false => .bad
noncomputable def gop (nt : Nat) (ops : Array Oper) (o : Oper) : GOp := match o.op.operands.toList.all (okSlot nt) with
  | true => match gg nt ops o with
    | .no => match gdst nt o.dst with
      | .put p => .pl o (gk TP o.op) p
      | d => .gu o .no (gk TP o.op) d
    | g => .gu o g (gk TP o.op) (gdst nt o.dst)
  | false => .gu o .bad .slow .bad
noncomputable def putD (d : GD) (env : Env) (v : Value) (k : Env → Bool) : Bool := GD.rec (motive := fun _ => Env → Value → (Env → Bool) → Bool) (fun env _ k => k env) (fun p env v k => setE p env v k) (fun _ _ _ => false) d env v k
theorem putD_true {nt : Nat} {env : Env} {ts : List Value} (h : ERel nt env ts) {d : Option Tmp} {v : Value} {k : Env → Bool} (hr : putD (gdst nt d) env v k = true) : ∃ env1, ERel nt env1 (lput ts d v) ∧ k env1 = true := by
  cases d with
  | none => exact ⟨env, h, hr⟩
  | some d =>
    simp only [gdst] at hr
    split at hr
    · rename_i hd
      rw [Nat.blt_eq] at hd
      have hr : setE (path d) env v k = true := hr
      rw [setE_eq] at hr
      exact ⟨_, h.set hd v, hr⟩
    · cases hr
noncomputable def eqb (a b : Bool) : Bool := Bool.rec (motive := fun _ => Bool) (notB b) b a
theorem eqb_eq (a b : Bool) : eqb a b = (a == b) := by cases a <;> cases b <;> rfl
noncomputable def wantK (v : Value) (want : Bool) (x y : Bool) : Bool := asB v (fun b => ifB (eqb b want) x y) (asTup v (fun l => List.rec (motive := fun _ => Bool → Bool) (fun y => y) (fun _ _ _ _ => false) l y) false)
theorem wantK_true {v : Value} {want x y : Bool} (h : wantK v want x y = true) : (v = .bool want ∧ x = true) ∨ ((∃ b, v = .bool b ∧ (b == want) = false) ∧ y = true) ∨ (v = undef ∧ y = true) := by
  unfold wantK at h
  rcases asB_true h with ⟨b, hb, h⟩ | h
  · rcases ifB_true h with ⟨h1, h2⟩ | ⟨h1, h2⟩
    · rw [eqb_eq, beq_iff_eq] at h1; subst h1; exact .inl ⟨hb, h2⟩
    · rw [eqb_eq] at h1; exact .inr (.inl ⟨⟨b, hb, h1⟩, h2⟩)
  · rcases asTup_true h with ⟨l, hl, h⟩ | h
    · cases l with
      | nil => exact .inr (.inr ⟨hl, h⟩)
      | cons a l => cases h
    · cases h
/-- an operation, if it is wanted, or none -/
noncomputable def guardG (g : GG) (env : Env) (x y : Bool) : Bool := GG.rec (motive := fun _ => Env → Bool → Bool → Bool) (fun _ x _ => x) (fun p want env x y => wantK (getE p env) want x y) (fun _ _ _ => false) g env x y
theorem guardG_true {nt : Nat} {env : Env} {ts : List Value} (h : ERel nt env ts) {ops : Array Oper} {o : Oper} {x y : Bool} (hr : guardG (gg nt ops o) env x y = true) :
    (wantedL ops ts o = some true ∧ x = true) ∨ (wantedL ops ts o = some false ∧ y = true) := by
  unfold gg at hr
  unfold wantedL
  split at hr
  · rename_i hg; rw [hg]; exact .inl ⟨rfl, hr⟩
  · rename_i j want hg
    rw [hg]
    dsimp only
    split at hr
    · rename_i d hd
      rw [hd]
      split at hr
      · rename_i hlt
        rw [Nat.blt_eq] at hlt
        have hr : wantK (getE (path d) env) want x y = true := hr
        rw [h.get d hlt] at hr
        dsimp only
        rcases wantK_true hr with ⟨h1, h2⟩ | ⟨⟨b, h1, h3⟩, h2⟩ | ⟨h1, h2⟩
        · rw [h1]; exact .inl ⟨by simp, h2⟩
        · rw [h1]; exact .inr ⟨by simp [h3], h2⟩
        · rw [h1]; exact .inr ⟨rfl, h2⟩
      · cases hr
    · cases hr
abbrev KE := Env → Nat → Objs → Bool
noncomputable def opG : GOp → Sf → Nat → Env → Nat → Objs → KE → Bool := GOp.rec (motive := fun _ => Sf → Nat → Env → Nat → Objs → KE → Bool)
  (fun o kk p S nt env n m k => doK kk o S nt env n m fun v n m => setE p env v fun env => k env n m)
  (fun o g kk d S nt env n m k => guardG g env (doK kk o S nt env n m fun v n m => putD d env v fun env => k env n m) (putD d env undef fun env => k env n m))
theorem opG_gop {nt : Nat} {ops : Array Oper} {o : Oper} {S : Sf} {env : Env} {n : Nat} {m : Objs} {k : KE} (hr : opG (gop nt ops o) S nt env n m k = true) :
    o.op.operands.toList.all (okSlot nt) = true ∧ guardG (gg nt ops o) env (doK (gk TP o.op) o S nt env n m fun v n m => putD (gdst nt o.dst) env v fun env => k env n m) (putD (gdst nt o.dst) env undef fun env => k env n m) = true := by
  unfold gop at hr
  split at hr
  · rename_i hok
    refine ⟨hok, ?_⟩
    split at hr
    · rename_i hg
      split at hr
      · rename_i p hd
        rw [hg, hd]; exact hr
      · rw [hg]; exact hr
    · exact hr
  · cases hr
noncomputable def runSeq : List GOp → Sf → Nat → Env → Nat → Objs → KE → Bool := List.rec (motive := fun _ => Sf → Nat → Env → Nat → Objs → KE → Bool)
  (fun _ _ env n m k => k env n m) (fun op _ ih S nt env n m k => opG op S nt env n m fun env n m => ih S nt env n m k)
theorem okSlot_const {nt : Nat} {x : Operand} (h : okSlot nt x = true) : okConst x = true := by
  cases x with
  | tmp t => rfl
  | const v => exact h
  | global g => cases h
  | func f => rfl
theorem ok_ops {nt : Nat} {o : Oper} (h : o.op.operands.toList.all (okSlot nt) = true) : okOps o = true := by
  unfold okOps
  rw [List.all_eq_true] at h ⊢
  exact fun x hx => okSlot_const (h x hx)
theorem runSeq_true {sf : Job → Option Out} {S : Sf} (hS : GSelf sf S) {nt : Nat} (ops : Array Oper) {k : KE} : ∀ (l : List Oper) {env : Env} {ts : List Value} {n : Nat} {m : Objs}, ERel nt env ts → inb n m = true → runSeq (l.map (gop nt ops)) S nt env n m k = true →
    ∃ ts1 V1 env1, runOps TP sf ops l ts ⟨n, m⟩ = some (ts1, V1) ∧ ERel nt env1 ts1 ∧ inb V1.next V1.objs = true ∧ k env1 V1.next V1.objs = true
  | [], env, ts, n, m, h, hn, hr => ⟨ts, ⟨n, m⟩, env, rfl, h, hn, hr⟩
  | o :: l, env, ts, n, m, h, hn, hr => by
    have hr : opG (gop nt ops o) S nt env n m (fun env n m => runSeq (l.map (gop nt ops)) S nt env n m k) = true := hr
    obtain ⟨hok, hr⟩ := opG_gop hr
    simp only [runOps, ok_ops hok]
    rcases guardG_true h hr with ⟨hw, hr⟩ | ⟨hw, hr⟩
    · obtain ⟨v, V1, h1, h2, h3⟩ := doK_done h hS hn hok hr
      obtain ⟨env1, h4, h5⟩ := putD_true h h3
      rw [hw, h1]
      exact runSeq_true hS ops l (n := V1.next) (m := V1.objs) h4 h2 h5
    · obtain ⟨env1, h4, h5⟩ := putD_true h hr
      rw [hw]
      exact runSeq_true hS ops l h4 hn h5
end Go.Vm
