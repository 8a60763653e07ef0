/- The quick machine: code and calls. -/
import Derived.Test.YtcphndfipjifcaaVqGm
import Derived.Test.YtcphndfipjifcaaVqZd
namespace Go.Vm
inductive CV
  | skip
  | exit (id : Nat)
  | ret
  | region (l : List GOp)
  | draw (l : List DOp)
  | seq (a b : Code)
  | cond (c : Opd) (a b : Code)
  | block (id : Nat) (b : Code)
  | loop (b : Code)
  | scope (b : Code)
  | range (f : Opd) (ps : Array Tmp) (a b : Code)
  | bad
noncomputable def view (nt : Nat) (c : Code) : CV := match c with
  | .skip => .skip
  | .label _ => .skip
  | .exit id => .exit id
  | .ret => .ret
  | .region _ ops draw => match draw with
    | false => .region (ops.toList.map (gop nt ops))
    | true => match drawOkG ops with
      | true => .draw (decD nt ops (Array.mk (ancG ops)) ops.toList 0)
      | false => .bad
  | .seq a b => .seq a b
  | .cond c a b => match okSlot nt c with
    | true => .cond (opdD c) a b
    | false => .bad
  | .block id b => .block id b
  | .loop b => .loop b
  | .scope b => .scope b
  | .rangeFunc f ps a b => match okSlot nt f with
    | true => .range (opdD f) ps a b
    | false => .bad
  | _ => .bad
/-- on if it ended as it should, else out -/
noncomputable def onG (e : Ex) (kn : KE) (k : KC) (env : Env) (df : List Nat) (n : Nat) (m : Objs) (kd : List Nat → KE) : Bool := Ex.rec (motive := fun _ => KC → Env → List Nat → Nat → Objs → (List Nat → KE) → Bool)
  (fun _ env df n m kd => kd df env n m) (fun id k env df n m _ => k (.exit id) env df n m) (fun k env df n m _ => k .ret env df n m) e k env df n m kd
noncomputable def seqG (b : Code) (S : Sf) (nt : Nat) (ar : Option Nat) (k : KC) (e : Ex) (env : Env) (df : List Nat) (n : Nat) (m : Objs) : Bool := Ex.rec (motive := fun _ => Code → Sf → Nat → Option Nat → KC → Env → List Nat → Nat → Objs → Bool)
  (fun b S nt ar k env df n m => S.c nt b ar env df n m k) (fun id _ _ _ _ k env df n m => k (.exit id) env df n m) (fun _ _ _ _ k env df n m => k .ret env df n m) e b S nt ar k env df n m
noncomputable def blkG (id : Nat) (k : KC) (e : Ex) (env : Env) (df : List Nat) (n : Nat) (m : Objs) : Bool := Ex.rec (motive := fun _ => Nat → KC → Env → List Nat → Nat → Objs → Bool)
  (fun _ k env df n m => k .normal env df n m) (fun j id k env df n m => ifB (Nat.beq j id) (k .normal env df n m) (k (.exit j) env df n m)) (fun _ k env df n m => k .ret env df n m) e id k env df n m
noncomputable def rangeGo (g : Nat) (first cap : List Value) (ps : Array Tmp) (a b : Code) (D : Nat) (S : Sf) (nt : Nat) (ar : Option Nat) (env : Env) (df : List Nat) (n : Nat) (m : Objs) (k : KC) : Bool :=
  fNr (Nat.succ n) fun n1 => S.f g (appL (appL first [.func (.yield n) #[] #[]]) cap) n1 ((n, .loop { state := .ready, pending := none, fn := 0, tmps := Array.mk (toLR nt 0 env), params := ps, assign := a, body := b, defers := D }) :: m) fun _ n2 m2 =>
    findK m2 n fun ob => asLoop ob fun r => ifB (isBusy r.state) false (putK m2 n (.loop { r with state := .exhausted }) fun m3 =>
      Option.rec (motive := fun _ => Sf → Nat → Option Nat → Env → List Nat → Nat → Objs → KC → Bool) (fun _ _ _ env df n m k => k .normal env df n m) (fun c S nt ar env df n m k => S.c nt c ar env df n m k) r.pending S nt ar env df n2 m3 k)
noncomputable def rangeG (f : Opd) (ps : Array Tmp) (a b : Code) (S : Sf) (nt : Nat) (ar : Option Nat) (env : Env) (df : List Nat) (n : Nat) (m : Objs) (k : KC) : Bool :=
  asFn (getO f env) (fun g first cap => ifB (callOk TP g) (Option.rec (motive := fun _ => Bool)
    (fNr (Nat.succ n) fun n1 => rangeGo g first cap ps a b n S nt none env (n :: df) n1 ((n, .deferred (some [])) :: m) k)
    (fun l => findK m l fun ob => asLoop ob fun r => rangeGo g first cap ps a b r.defers S nt (some l) env df n m k) ar) false) (fun _ _ => false) false
noncomputable def codeG : CV → Sf → Nat → Option Nat → Env → List Nat → Nat → Objs → KC → Bool := CV.rec (motive := fun _ => Sf → Nat → Option Nat → Env → List Nat → Nat → Objs → KC → Bool)
  (fun _ _ _ env df n m k => k .normal env df n m)
  (fun id _ _ _ env df n m k => k (.exit id) env df n m)
  (fun _ _ _ env df n m k => k .ret env df n m)
  (fun l S nt _ env df n m k => runSeq l S nt env n m fun env n m => k .normal env df n m)
  (fun l S nt _ env df n m k => drawG l S nt [] [] env n m fun env n m => k .normal env df n m)
  (fun a b S nt ar env df n m k => S.c nt a ar env df n m (seqG b S nt ar k))
  (fun c a b S nt ar env df n m k => asB (getO c env) (fun t => Bool.rec (motive := fun _ => Code → Code → Sf → Nat → Option Nat → Env → List Nat → Nat → Objs → KC → Bool) (fun _ b S nt ar env df n m k => S.c nt b ar env df n m k) (fun a _ S nt ar env df n m k => S.c nt a ar env df n m k) t a b S nt ar env df n m k) false)
  (fun id b S nt ar env df n m k => S.c nt b ar env df n m (blkG id k))
  (fun b S nt ar env df n m k => S.c nt b ar env df n m (seqG (.loop b) S nt ar k))
  (fun b S nt ar env df n m k => Option.rec (motive := fun _ => Bool) (S.c nt b none env df n m k) (fun _ => false) ar)
  (fun f ps a b S nt ar env df n m k => rangeG f ps a b S nt ar env df n m k)
  (fun _ _ _ _ _ _ _ _ => false)
section
variable {sf : Job → Option Out} {S : Sf} {nt : Nat} {env : Env} {ts : List Value} {n : Nat} {m : Objs} {k : KC}
theorem appL2 (a b : List Value) (x : Value) : appL (appL a [x]) b = (a ++ [x]) ++ b := by rw [appL_eq, appL_eq]
theorem range_true (h : ERel nt env ts) (hS : GSelf sf S) (hn : inb n m = true) {f : Operand} (hf : okSlot nt f = true) {ps : Array Tmp} {a b : Code} {ar : Option Nat} {df : List Nat} (hr : rangeG (opdD f) ps a b S nt ar env df n m k = true) :
    ∃ e ts1 df1 V1 env1, step TP sf (.code ar (.rangeFunc f ps a b) ts df ⟨n, m⟩) = some (.code e ts1 df1 V1) ∧ ERel nt env1 ts1 ∧ inb V1.next V1.objs = true ∧ k e env1 df1 V1.next V1.objs = true := by
  unfold rangeG at hr
  rw [getO_eq h hf] at hr
  rcases asFn_true hr with ⟨g, first, cap, hv, hr⟩ | ⟨_, _, _, _, hr⟩ | hr
  case inr.inl => cases hr
  case inr.inr => cases hr
  rcases ifB_true hr with ⟨hok, hr⟩ | ⟨_, hr⟩
  case inr => cases hr
  -- from the new loop on
  have go : ∀ {D : Nat} {df1 : List Nat} {n1 : Nat} {m1 : Objs}, inb n1 m1 = true → rangeGo g first cap ps a b D S nt ar env df1 n1 m1 k = true →
      ((ar = none ∧ D = n ∧ n1 = n + 1 ∧ m1 = (n, .deferred (some [])) :: m ∧ df1 = n :: df) ∨ (∃ l r, ar = some l ∧ find m l = some (.loop r) ∧ D = r.defers ∧ n1 = n ∧ m1 = m ∧ df1 = df)) →
      ∃ e ts1 df2 V1 env1, step TP sf (.code ar (.rangeFunc f ps a b) ts df ⟨n, m⟩) = some (.code e ts1 df2 V1) ∧ ERel nt env1 ts1 ∧ inb V1.next V1.objs = true ∧ k e env1 df2 V1.next V1.objs = true := by
    intro D df1 n1 m1 hn1 hr hx
    unfold rangeGo at hr
    rw [fNr_eq] at hr
    obtain ⟨v, V2, h1, h2, hr⟩ := hS.call _ _ _ _ _ (inb_new _ hn1) hr
    obtain ⟨ob, hf2, hr⟩ := findK_true hr
    obtain ⟨r, hob, hr2⟩ := asLoop_true hr
    subst hob
    rcases ifB_true hr2 with ⟨_, hr3⟩ | ⟨hst, hr3⟩
    case inl => cases hr3
    obtain ⟨_, hr4⟩ := putK_true hr3
    rw [appL2, toLR_eq h] at h1
    have hi3 : inb V2.next (put V2.objs n1 (.loop { r with state := .exhausted })) = true := by rw [inb_put]; exact h2
    have hf2' : find V2.objs n1 = some (.loop r) := hf2
    have hst' : r.state ≠ .busy := by intro e; rw [e] at hst; cases hst
    rw [show (⟨ts⟩ : Array Value) = ts.toArray from rfl] at h1
    rcases hx with ⟨rfl, rfl, rfl, rfl, rfl⟩ | ⟨l, r0, rfl, hl, rfl, rfl, rfl, rfl⟩
    · simp only [step, okSlot_const hf, hv, hok]
      (try dsimp only)
      rw [h1]
      dsimp only
      rw [hf2']
      dsimp only
      split
      · rename_i hb; exact absurd hb hst'
      · cases hp : r.pending with
        | none =>
          rw [hp] at hr4
          exact ⟨_, _, _, _, env, rfl, h, by first | exact hi3 | (rw [← hp]; exact hi3), by first | exact hr4 | (rw [← hp]; rw [← hp] at hr4; exact hr4)⟩
        | some c =>
          rw [hp] at hr4
          obtain ⟨e, ts1, df2, V1, env1, h5, h6, h7, h8⟩ := hS.code _ _ _ _ _ _ _ _ _ h (by first | exact hi3 | (rw [← hp]; exact hi3)) hr4
          exact ⟨e, ts1, df2, V1, env1, h5, h6, h7, h8⟩
    · simp only [step, okSlot_const hf, hv, hok, hl]
      (try dsimp only)
      rw [h1]
      dsimp only
      rw [hf2']
      dsimp only
      split
      · rename_i hb; exact absurd hb hst'
      · cases hp : r.pending with
        | none =>
          rw [hp] at hr4
          exact ⟨_, _, _, _, env, rfl, h, by first | exact hi3 | (rw [← hp]; exact hi3), by first | exact hr4 | (rw [← hp]; rw [← hp] at hr4; exact hr4)⟩
        | some c =>
          rw [hp] at hr4
          obtain ⟨e, ts1, df2, V1, env1, h5, h6, h7, h8⟩ := hS.code _ _ _ _ _ _ _ _ _ h (by first | exact hi3 | (rw [← hp]; exact hi3)) hr4
          exact ⟨e, ts1, df2, V1, env1, h5, h6, h7, h8⟩
  cases ar with
  | none =>
    have hr : fNr (Nat.succ n) (fun n1 => rangeGo g first cap ps a b n S nt none env (n :: df) n1 ((n, .deferred (some [])) :: m) k) = true := hr
    rw [fNr_eq] at hr
    exact go (inb_new _ hn) hr (.inl ⟨rfl, rfl, rfl, rfl, rfl⟩)
  | some l =>
    have hr : findK m l (fun ob => asLoop ob fun r => rangeGo g first cap ps a b r.defers S nt (some l) env df n m k) = true := hr
    obtain ⟨ob, hf2, hr⟩ := findK_true hr
    obtain ⟨r, hob, hr2⟩ := asLoop_true hr
    subst hob
    exact go hn hr2 (.inr ⟨l, r, rfl, hf2, rfl, rfl, rfl, rfl⟩)
theorem code_true (h : ERel nt env ts) (hS : GSelf sf S) (hn : inb n m = true) (c : Code) (ar : Option Nat) (df : List Nat) (hr : codeG (view nt c) S nt ar env df n m k = true) :
    ∃ e ts1 df1 V1 env1, step TP sf (.code ar c ts df ⟨n, m⟩) = some (.code e ts1 df1 V1) ∧ ERel nt env1 ts1 ∧ inb V1.next V1.objs = true ∧ k e env1 df1 V1.next V1.objs = true := by
  cases c with
  | skip => exact ⟨_, _, _, ⟨n, m⟩, env, rfl, h, hn, hr⟩
  | label l => exact ⟨_, _, _, ⟨n, m⟩, env, rfl, h, hn, hr⟩
  | exit id => exact ⟨_, _, _, ⟨n, m⟩, env, rfl, h, hn, hr⟩
  | ret => exact ⟨_, _, _, ⟨n, m⟩, env, rfl, h, hn, hr⟩
  | goto l => cases hr
  | refuse w => cases hr
  | region id ops draw =>
    cases draw with
    | false =>
      have hr : runSeq (ops.toList.map (gop nt ops)) S nt env n m (fun env n m => k .normal env df n m) = true := hr
      obtain ⟨ts1, V1, env1, h1, h2, h3, h4⟩ := runSeq_true hS ops ops.toList h hn hr
      exact ⟨.normal, ts1, df, V1, env1, by simp only [step, h1], h2, h3, h4⟩
    | true =>
      simp only [view] at hr
      split at hr
      · rename_i hok
        have hr : drawG (decD nt ops (Array.mk (ancG ops)) ops.toList 0) S nt [] [] env n m (fun env n m => k .normal env df n m) = true := hr
        rw [← before_anc] at hr
        have hok := drawOkG_true hok
        obtain ⟨ts1, V1, env1, h1, h2, h3, h4⟩ := drawG_true hS ops ops.toList [] h hn hr
        have hn' : inb (View.next ⟨n, m⟩) (View.objs ⟨n, m⟩) = true := hn
        exact ⟨.normal, ts1, df, V1, env1, by simp only [step, hok, hn', Bool.and_self, h1], h2, h3, h4⟩
      · cases hr
  | seq a b =>
    have hr : S.c nt a ar env df n m (seqG b S nt ar k) = true := hr
    obtain ⟨e, ts1, df1, V1, env1, h1, h2, h3, h4⟩ := hS.code _ _ _ _ _ _ _ _ _ h hn hr
    simp only [step, h1]
    cases e with
    | normal =>
      obtain ⟨e2, ts2, df2, V2, env2, h5, h6, h7, h8⟩ := hS.code _ _ _ _ _ _ _ _ _ h2 h3 (show S.c nt b ar env1 df1 V1.next V1.objs k = true from h4)
      exact ⟨e2, ts2, df2, V2, env2, h5, h6, h7, h8⟩
    | exit id => exact ⟨_, _, _, _, env1, rfl, h2, h3, h4⟩
    | ret => exact ⟨_, _, _, _, env1, rfl, h2, h3, h4⟩
  | cond c a b =>
    simp only [view] at hr
    split at hr
    · rename_i hc
      have hr : asB (getO (opdD c) env) (fun t => Bool.rec (motive := fun _ => Code → Code → Sf → Nat → Option Nat → Env → List Nat → Nat → Objs → KC → Bool) (fun _ b S nt ar env df n m k => S.c nt b ar env df n m k) (fun a _ S nt ar env df n m k => S.c nt a ar env df n m k) t a b S nt ar env df n m k) false = true := hr
      rw [getO_eq h hc] at hr
      rcases asB_true hr with ⟨t, ht, hr⟩ | hr
      · simp only [step, okSlot_const hc, ht]
        cases t with
        | true =>
          obtain ⟨e2, ts2, df2, V2, env2, h5, h6, h7, h8⟩ := hS.code _ _ _ _ _ _ _ _ _ h hn (show S.c nt a ar env df n m k = true from hr)
          exact ⟨e2, ts2, df2, V2, env2, h5, h6, h7, h8⟩
        | false =>
          obtain ⟨e2, ts2, df2, V2, env2, h5, h6, h7, h8⟩ := hS.code _ _ _ _ _ _ _ _ _ h hn (show S.c nt b ar env df n m k = true from hr)
          exact ⟨e2, ts2, df2, V2, env2, h5, h6, h7, h8⟩
      · cases hr
    · cases hr
  | block id b =>
    have hr : S.c nt b ar env df n m (blkG id k) = true := hr
    obtain ⟨e, ts1, df1, V1, env1, h1, h2, h3, h4⟩ := hS.code _ _ _ _ _ _ _ _ _ h hn hr
    simp only [step, h1]
    cases e with
    | normal => exact ⟨_, _, _, _, env1, rfl, h2, h3, h4⟩
    | exit j =>
      rcases ifB_true h4 with ⟨hj, h4⟩ | ⟨hj, h4⟩
      · exact ⟨_, _, _, _, env1, by simp only [hj], h2, h3, h4⟩
      · exact ⟨_, _, _, _, env1, by simp only [hj], h2, h3, h4⟩
    | ret => exact ⟨_, _, _, _, env1, rfl, h2, h3, h4⟩
  | loop b =>
    have hr : S.c nt b ar env df n m (seqG (.loop b) S nt ar k) = true := hr
    obtain ⟨e, ts1, df1, V1, env1, h1, h2, h3, h4⟩ := hS.code _ _ _ _ _ _ _ _ _ h hn hr
    simp only [step, h1]
    cases e with
    | normal =>
      obtain ⟨e2, ts2, df2, V2, env2, h5, h6, h7, h8⟩ := hS.code _ _ _ _ _ _ _ _ _ h2 h3 (show S.c nt (.loop b) ar env1 df1 V1.next V1.objs k = true from h4)
      exact ⟨e2, ts2, df2, V2, env2, h5, h6, h7, h8⟩
    | exit id => exact ⟨_, _, _, _, env1, rfl, h2, h3, h4⟩
    | ret => exact ⟨_, _, _, _, env1, rfl, h2, h3, h4⟩
  | scope b =>
    cases ar with
    | none =>
      obtain ⟨e2, ts2, df2, V2, env2, h5, h6, h7, h8⟩ := hS.code _ _ _ _ _ _ _ _ _ h hn (show S.c nt b none env df n m k = true from hr)
      exact ⟨e2, ts2, df2, V2, env2, h5, h6, h7, h8⟩
    | some l => cases hr
  | rangeFunc f ps a b =>
    simp only [view] at hr
    split at hr
    · rename_i hf
      exact range_true h hS hn hf hr
    · cases hr
end
end Go.Vm
