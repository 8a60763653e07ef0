/- The quick machine: operations, made ready once; regions in the order of the text. -/
import Derived.Test.YtcphndfipjifcaaVqGe
import Derived.Test.YtcphndfipjifcaaVqPg
namespace Go.Vm
/-- the program -/
noncomputable def TP : Program := Go.Proofs.Try.prog
abbrev KC := Ex → Env → List Nat → Nat → Objs → Bool
abbrev KV := Value → Nat → Objs → Bool
structure Sf where
  c : Nat → Code → Option Nat → Env → List Nat → Nat → Objs → KC → Bool
  f : FuncId → List Value → Nat → Objs → KV → Bool
/-- what the quick machine tells, the machine tells -/
structure GSelf (sf : Job → Option Out) (S : Sf) : Prop where
  code : ∀ nt c ar env ts df n m k, ERel nt env ts → inb n m = true → S.c nt c ar env df n m k = true →
    ∃ e ts1 df1 V1 env1, sf (.code ar c ts df ⟨n, m⟩) = some (.code e ts1 df1 V1) ∧ ERel nt env1 ts1 ∧ inb V1.next V1.objs = true ∧ k e env1 df1 V1.next V1.objs = true
  call : ∀ f args n m k, inb n m = true → S.f f args n m k = true → ∃ v V1, sf (.call f args ⟨n, m⟩) = some (.value v V1) ∧ inb V1.next V1.objs = true ∧ k v V1.next V1.objs = true

inductive GK
  | mv (x : Opd)
  | bin (op : BinOp) (x y : Opd)
  | not (x : Opd)
  | pick (c a b : Opd)
  | fa (off : Nat) (x : Opd)
  | ixs (size : Nat) (x i : Opd)
  | ixa (size len : Nat) (x i : Opd)
  | ext (j : Nat) (x : Opd)
  | nilc (x : Opd)
  | mkf (g : Nat) (first captured : List Opd)
  | lens (x : Opd)
  | ld (a : Opd)
  | ldn (n : Nat) (a : Opd)
  | st (n : Nat) (a x : Opd)
  | al (z : List Value) (e : TypeId)
  | bx (e : TypeId) (x : Opd)
  | call (f : Opd) (args : List Opd)
  | slow
def opds (l : Array Operand) : List Opd := l.toList.map opdD
def gk (P : Program) (o : Op) : GK := match o with
  | .move x => .mv (opdD x)
  | .assign x => .mv (opdD x)
  | .binOp op _ x y _ => .bin op (opdD x) (opdD y)
  | .unOp op _ x => match op with
    | .not => .not (opdD x)
    | _ => .slow
  | .pick c a b => .pick (opdD c) (opdD a) (opdD b)
  | .fieldAddr t x k => match fieldOff P t k with
    | some off => .fa off (opdD x)
    | none => .slow
  | .indexAddr t x i => match P.underlying t with
    | some (.slice elem) => match P.info? elem with
      | some info => .ixs info.size (opdD x) (opdD i)
      | none => .slow
    | some (.array len elem) => match P.info? elem with
      | some info => .ixa info.size len (opdD x) (opdD i)
      | none => .slow
    | _ => .slow
  | .extract x k => .ext k (opdD x)
  | .nilCheck x => .nilc (opdD x)
  | .makeFunc fn f c => match fn with
    | .func g => .mkf g (opds f) (opds c)
    | _ => .slow
  | .load t a => match aggB P t with
    | some false => .ld (opdD a)
    | some true => match P.info? t with
      | some i => .ldn i.size (opdD a)
      | none => .slow
    | none => .slow
  | .store t a x => match P.info? t with
    | some i => match Nat.beq i.size 0 with
      | true => .slow
      | false => .st i.size (opdD a) (opdD x)
    | none => .slow
  | .alloc t => match P.info? t with
    | some i => match i.zero with
      | some z => .al z.cells.toList t
      | none => .slow
    | none => .slow
  | .box t x => .bx t (opdD x)
  | .call c => match c.callee with
    | .value f => .call (opdD f) (opds c.args)
    | .builtin .len => match c.argTypes[0]? with
      | some t => match P.underlying t with
        | some (.slice _) => match c.args.toList with
          | [x] => .lens (opdD x)
          | _ => .slow
        | _ => .slow
      | none => .slow
    | _ => .slow
  | _ => .slow

/-! operations whose way is not made short -/
noncomputable def slowK (nt : Nat) (o : Oper) (env : Env) (n : Nat) (m : Objs) (K : KV) : Bool := match runOp TP (evE nt env) o ⟨n, m⟩ with
  | some (.value v, V1) => fV v fun v => fN V1.next fun n1 => ifB (inbG V1.objs n1) (K v n1 V1.objs) false
  | some (.skip, V1) => fN V1.next fun n1 => ifB (inbG V1.objs n1) (K undef n1 V1.objs) false
  | _ => false
def Done (sf : Job → Option Out) (e : Operand → Value) (o : Oper) (n : Nat) (m : Objs) (K : KV) : Prop :=
  ∃ v V1, after sf (runOp TP e o ⟨n, m⟩) = some (v, V1) ∧ inb V1.next V1.objs = true ∧ K v V1.next V1.objs = true
section
variable {sf : Job → Option Out} {S : Sf} {nt : Nat} {env : Env} {ts : List Value} {o : Oper} {n : Nat} {m : Objs} {K : KV}
theorem slow_done (h : ERel nt env ts) (hr : slowK nt o env n m K = true) : Done sf (ev ts) o n m K := by
  unfold slowK at hr
  rw [evE_eq h] at hr
  split at hr
  · rename_i v V1 hv
    rw [fV_eq, fN_eq] at hr
    rcases ifB_true hr with ⟨h1, h2⟩ | ⟨_, h2⟩
    · rw [inbG_eq] at h1
      exact ⟨v, V1, by rw [hv]; rfl, h1, h2⟩
    · cases h2
  · rename_i V1 hv
    rw [fN_eq] at hr
    rcases ifB_true hr with ⟨h1, h2⟩ | ⟨_, h2⟩
    · rw [inbG_eq] at h1
      exact ⟨undef, V1, by rw [hv]; rfl, h1, h2⟩
    · cases h2
  · cases hr
theorem pure_done {v : Value} (hp : PureOK TP (ev ts) o v) (hn : inb n m = true) (hk : K v n m = true) : Done sf (ev ts) o n m K := ⟨v, ⟨n, m⟩, by rw [hp.run]; rfl, hn, hk⟩

/-! calls and rounds -/
noncomputable def appL (a b : List Value) : List Value := List.rec (motive := fun _ => List Value → List Value) (fun b => b) (fun x _ ih b => x :: ih b) a b
theorem appL_eq (a b : List Value) : appL a b = a ++ b := by
  induction a with
  | nil => rfl
  | cons x a ih => show x :: appL a b = _; rw [ih]; rfl
noncomputable def setPs : List Tmp → List Value → List Value → (List Value → Bool) → Bool := List.rec (motive := fun _ => List Value → List Value → (List Value → Bool) → Bool)
  (fun us l k => List.rec (motive := fun _ => List Value → (List Value → Bool) → Bool) (fun l k => k l) (fun _ _ _ _ _ => false) us l k)
  (fun p _ ih us l k => List.rec (motive := fun _ => Tmp → (List Value → List Value → (List Value → Bool) → Bool) → List Value → (List Value → Bool) → Bool) (fun _ _ _ _ => false) (fun a r _ p ih l k => setK l p a fun l => ih r l k) us p ih l k)
theorem setPs_true : ∀ {ps : List Tmp} {us l : List Value} {k : List Value → Bool}, setPs ps us l k = true → ps.length = us.length ∧
    ∃ l', (ps.zip us).foldl (fun (tmps : Array Value) (p : Tmp × Value) => tmps.setIfInBounds p.1 p.2) ⟨l⟩ = ⟨l'⟩ ∧ k l' = true
  | [], [], l, k, h => ⟨rfl, l, rfl, h⟩
  | [], _ :: _, l, k, h => by cases h
  | _ :: _, [], l, k, h => by cases h
  | p :: ps, a :: us, l, k, h => by
    have h : setK l p a (fun l => setPs ps us l k) = true := h
    obtain ⟨h1, h2⟩ := setK_true h
    obtain ⟨h3, l', h4, h5⟩ := setPs_true h2
    refine ⟨by simp [h3], l', ?_, h5⟩
    simp only [List.zip_cons_cons, List.foldl_cons]
    rw [← h4]
    congr 1
    simp [Array.setIfInBounds, h1]
noncomputable def lenK (l : List Value) (k : Nat → Bool) : Bool := List.rec (motive := fun _ => Nat → (Nat → Bool) → Bool) (fun n k => k n) (fun _ _ ih n k => ih (Nat.succ n) k) l 0 k
theorem lenK_eq (l : List Value) (k : Nat → Bool) : lenK l k = k l.length := by
  have : ∀ (l : List Value) (n : Nat), List.rec (motive := fun _ => Nat → (Nat → Bool) → Bool) (fun n k => k n) (fun _ _ ih n k => ih (Nat.succ n) k) l n k = k (n + l.length) := by
    intro l
    induction l with
    | nil => intro n; rfl
    | cons x l ih => intro n; show List.rec (motive := fun _ => Nat → (Nat → Bool) → Bool) (fun n k => k n) (fun _ _ ih n k => ih (Nat.succ n) k) l (Nat.succ n) k = _; rw [ih]; congr 1; simp; omega
  have h := this l 0
  rw [Nat.zero_add] at h
  exact h
noncomputable def isReady (s : LoopState) : Bool := LoopState.rec (motive := fun _ => Bool) true false false false s
noncomputable def isBusy (s : LoopState) : Bool := LoopState.rec (motive := fun _ => Bool) false true false false s
noncomputable def plain (e : Ex) (df : List Nat) (x : Bool) : Bool := Ex.rec (motive := fun _ => List Nat → Bool → Bool) (fun df x => List.rec (motive := fun _ => Bool → Bool) (fun x => x) (fun _ _ _ _ => false) df x) (fun _ _ _ => false) (fun _ _ => false) e df x
theorem plain_true {e : Ex} {df : List Nat} {x : Bool} (h : plain e df x = true) : e = .normal ∧ df = [] ∧ x = true := by
  cases e with
  | normal => cases df with
    | nil => exact ⟨rfl, rfl, h⟩
    | cons a l => cases h
  | _ => cases h
noncomputable def endRound (e : Ex) (r : Loop) (l n : Nat) (m : Objs) (K : KV) : Bool := Ex.rec (motive := fun _ => Loop → Nat → Nat → Objs → KV → Bool)
  (fun r l n m K => putK m l (.loop { r with state := .ready, pending := none }) fun m => K (.bool true) n m)
  (fun id r l n m K => putK m l (.loop { r with state := .done, pending := some (.exit id) }) fun m => K (.bool false) n m)
  (fun r l n m K => putK m l (.loop { r with state := .done, pending := some .ret }) fun m => K (.bool false) n m) e r l n m K
noncomputable def roundG (l : Nat) (us : List Value) (S : Sf) (n : Nat) (m : Objs) (K : KV) : Bool :=
  findK m l fun ob => asLoop ob fun r => setPs r.params.toList us r.tmps.toList fun tm => lenK tm fun nt => ifB (Nat.ble nt 512) (fromL tm fun env => S.c nt r.assign (some l) env [] n m fun e env1 df1 n1 m1 =>
    plain e df1 (findK m1 l fun ob1 => asLoop ob1 fun r1 => ifB (isReady r1.state) (putK m1 l (.loop { r1 with state := .busy }) fun m2 => S.c nt r.body (some l) env1 [] n1 m2 fun e2 _ _ n2 m3 =>
      findK m3 l fun ob2 => asLoop ob2 fun r2 => endRound e2 r2 l n2 m3 K) false)) false
noncomputable def callG (f : Opd) (args : List Opd) (S : Sf) (env : Env) (n : Nat) (m : Objs) (K : KV) : Bool :=
  asFn (getO f env) (fun g first cap => ifB (callOk TP g) (mapO args env fun us => S.f g (appL (appL first us) cap) n m K) false) (fun l first => mapO args env fun us => roundG l (appL first us) S n m K) false
theorem round_done (hS : GSelf sf S) {l : Nat} {us : List Value} (hn : inb n m = true) (hr : roundG l us S n m K = true) :
    ∃ r, runV TP (yieldL l ⟨us⟩) ⟨n, m⟩ = some (r, ⟨n, m⟩) ∧ ∃ v V1, after sf (some (r, ⟨n, m⟩)) = some (v, V1) ∧ inb V1.next V1.objs = true ∧ K v V1.next V1.objs = true := by
  unfold roundG at hr
  obtain ⟨ob, hf, hr⟩ := findK_true hr
  obtain ⟨r, hob, hr1⟩ := asLoop_true hr
  subst hob
  obtain ⟨hlen, tm, htm, hr2⟩ := setPs_true hr1
  rw [lenK_eq] at hr2
  rcases ifB_true hr2 with ⟨hle, hr3⟩ | ⟨_, hr3⟩
  case inr => cases hr3
  rw [fromL_eq] at hr3
  have hER := ERel.ofList (l := tm) (Nat.le_of_ble_eq_true hle)
  obtain ⟨e, ts1, df1, V1, env1, h1, h2, h3, hr4⟩ := hS.code _ _ _ _ _ _ _ _ _ hER hn hr3
  obtain ⟨rfl, rfl, hr5⟩ := plain_true hr4
  obtain ⟨ob1, hf1, hr6⟩ := findK_true hr5
  obtain ⟨r1, hob1, hr7⟩ := asLoop_true hr6
  subst hob1
  rcases ifB_true hr7 with ⟨hst, hr8⟩ | ⟨_, hr8⟩
  case inr => cases hr8
  have hst : r1.state = .ready := by cases h : r1.state <;> rw [h] at hst <;> first | rfl | cases hst
  obtain ⟨hs1, hr9⟩ := putK_true hr8
  obtain ⟨e2, ts2, df2, V2, env2, h4, _, h5, hr10⟩ := hS.code _ _ _ _ _ _ _ _ _ h2 (by rw [inb_put]; exact h3) hr9
  obtain ⟨ob2, hf2, hr11⟩ := findK_true hr10
  obtain ⟨r2, hob2, hr12⟩ := asLoop_true hr11
  subst hob2
  have hy : runV TP (yieldL l ⟨us⟩) ⟨n, m⟩ = some (.round l r.fn ((r.params.toList.zip us).foldl (fun tmps (p : Tmp × Value) => tmps.setIfInBounds p.1 p.2) r.tmps) r.assign r.body, ⟨n, m⟩) := by
    unfold yieldL
    rw [runV_bind]
    have hg : runV TP (Go.getObj l) ⟨n, m⟩ = some (.loop r, ⟨n, m⟩) := by simp only [Go.getObj, runV, hf, isRow]
    rw [hg]
    simp only [Option.bind_some]
    have hsz : ¬ ((⟨us⟩ : Array Value).size ≠ r.params.size) := by
      have : r.params.toList.length = us.length := hlen
      simp only [Array.length_toList] at this
      simp [this]
    rw [if_neg hsz]
    rfl
  refine ⟨_, hy, ?_⟩
  have htm' : ((r.params.toList.zip us).foldl (fun tmps (p : Tmp × Value) => tmps.setIfInBounds p.1 p.2) r.tmps).toList = tm := by
    have : r.tmps = ⟨r.tmps.toList⟩ := by cases r.tmps; rfl
    rw [this, htm]
  have hf1' : find V1.objs l = some (.loop r1) := hf1
  have hf2' : find V2.objs l = some (.loop r2) := hf2
  simp only [after, htm', h1, hf1', hst, h4, hf2']
  cases e2 with
  | normal =>
    obtain ⟨_, hk⟩ := putK_true hr12
    exact ⟨_, _, rfl, by rw [inb_put]; exact h5, hk⟩
  | exit id =>
    obtain ⟨_, hk⟩ := putK_true hr12
    exact ⟨_, _, rfl, by rw [inb_put]; exact h5, hk⟩
  | ret =>
    obtain ⟨_, hk⟩ := putK_true hr12
    exact ⟨_, _, rfl, by rw [inb_put]; exact h5, hk⟩
theorem opds_eq (h : ERel nt env ts) (l : Array Operand) (hl : l.toList.all (okSlot nt) = true) (k : List Value → Bool) : mapO (opds l) env k = k (l.toList.map (ev ts)) := mapO_eq h l.toList k hl
theorem call_done (h : ERel nt env ts) (hS : GSelf sf S) {d : Option Tmp} {ty : TypeId} {pos : String} {aft : Array Edge} {gd : Option (Nat × Bool)} {c : Call} {f : Operand} (hc : c.callee = .value f) (hf : okSlot nt f = true) (ha : c.args.toList.all (okSlot nt) = true) (hn : inb n m = true)
    (hr : callG (opdD f) (opds c.args) S env n m K = true) : Done sf (ev ts) ⟨d, .call c, ty, pos, aft, gd⟩ n m K := by
  unfold callG at hr
  rw [getO_eq h hf] at hr
  rcases asFn_true hr with ⟨g, a, b, hv, hr⟩ | ⟨l, a, b, hv, hr⟩ | hr
  · rcases ifB_true hr with ⟨hok, hr1⟩ | ⟨_, hr1⟩
    case inr => cases hr1
    rw [opds_eq h _ ha] at hr1
    obtain ⟨v, V1, h1, h2, h3⟩ := hS.call _ _ _ _ _ hn hr1
    refine ⟨v, V1, ?_, h2, h3⟩
    simp only [runOp, runCall, hc, hv, hok, after]
    rw [appL_eq, appL_eq] at h1
    have : ((⟨a⟩ ++ (c.args.toList.map (ev ts)).toArray) ++ ⟨b⟩ : Array Value).toList = a ++ c.args.toList.map (ev ts) ++ b := by simp
    rw [this, h1]
  · rw [opds_eq h _ ha] at hr
    obtain ⟨r, h1, v, V1, h2, h3, h4⟩ := round_done hS hn hr
    refine ⟨v, V1, ?_, h3, h4⟩
    simp only [runOp, runCall, hc, hv]
    rw [appL_eq] at h1
    have : (⟨a⟩ ++ (c.args.toList.map (ev ts)).toArray : Array Value) = ⟨a ++ c.args.toList.map (ev ts)⟩ := by simp
    rw [this, h1]
    exact h2
  · cases hr
end
end Go.Vm
