/- The quick machine: known calls, and computations cut into parts. -/
import Derived.Test.YtcphndfipjifcaaVqGk
import Derived.Test.YtcphndfipjifcaaVqZb
namespace Go.Vm
variable {memo : Job → Option Out}
/-- a known call, told by the quick machine, with the blocks named in l alone behind it -/
theorem memo_g {k : Known} {r : List Known} (h1 : SelfOK TP (memoOf r)) (l : List Nat) {N : Nat} (hV : inbG k.V.objs k.V.next = true)
    (h : (runG (memoOf r) N).f k.f k.args k.V.next k.V.objs (fun v n m => beqV 4 v k.v && beqW ⟨n, keepL l m⟩ k.V1) = true) : SelfOK TP (memoOf (k :: r)) := by
  rw [inbG_eq] at hV
  obtain ⟨v, V1, h2, _, h3⟩ := (runG_ok (memoOf_code r) N).call _ _ _ _ _ hV h
  rw [Bool.and_eq_true] at h3
  have hv := beqV_eq _ _ _ h3.1
  have hW := beqW_eq h3.2
  obtain ⟨h4, h5⟩ := (rmS_ok h1 N).call _ _ _ _ _ h2
  have e : memoOf (k :: r) = orF (fun j => match hits k j with | true => some (.value k.v k.V1) | false => none) (memoOf r) := by
    funext j
    simp only [memoOf, orF]
    cases hits k j <;> rfl
  have hn : k.V1.next = V1.next := by rw [← hW]
  have hk : k.V.next ≤ k.V1.next ∧ CallOK TP k.f k.args k.V k.v k.V1 := by
    refine ⟨by rw [hn]; exact h4, ?_⟩
    rw [← hv]
    exact h5.less (fun b o hbo => by rw [← hW] at hbo; exact (find_keepL l _ b o hbo).2) hn
  rw [e]
  refine SelfOK.or ⟨?_, ?_, ?_⟩ h1
  · intro ar c ts df V e ts1 df1 V1 hj
    simp only [hits] at hj; cases hj
  · intro ar c ts df V e ts1 df1 V1 hj
    simp only [hits] at hj; cases hj
  · intro f args V v V1 hj
    split at hj
    · rename_i hh
      have := hits_eq hh
      injection this with ha hb hc
      injection hj with hj
      injection hj with hv hV
      subst ha hb hc
      rw [← hv, ← hV]
      exact hk
    · cases hj

/-! parts -/
/-- a state ahead of some code -/
structure Sta where
  ts : List Value
  df : List Nat
  V : View
def eqNs : List Nat → List Nat → Bool
  | [], l => l.isEmpty
  | x :: r, l => match l with
    | [] => false
    | y :: s => Nat.beq x y && eqNs r s
theorem eqNs_eq : ∀ l m, eqNs l m = true → l = m
  | [], m, h => by cases m with
    | nil => rfl
    | cons y s => cases h
  | x :: r, m, h => by
    cases m with
    | nil => cases h
    | cons y s =>
      simp only [eqNs, Bool.and_eq_true] at h
      rw [beqN_eq h.1, eqNs_eq r s h.2]
/-- the state is this one -/
noncomputable def isSta (s : Sta) (env : Env) (df : List Nat) (n : Nat) (m : Objs) : Bool := beqL (beqV 4) (toLR s.ts.length 0 env) s.ts && (eqNs df s.df && beqW ⟨n, m⟩ s.V)
theorem isSta_eq {s : Sta} {env : Env} {ts : List Value} {df : List Nat} {V : View} (h : ERel s.ts.length env ts) (hs : isSta s env df V.next V.objs = true) : ts = s.ts ∧ df = s.df ∧ V = s.V := by
  unfold isSta at hs
  simp only [Bool.and_eq_true] at hs
  rw [toLR_eq h] at hs
  exact ⟨beqL_eq (beqV_eq 4) _ _ hs.1, eqNs_eq _ _ hs.2.1, beqW_eq hs.2.2⟩
/-- some code ends so -/
def Ends (memo : Job → Option Out) (N : Nat) (ar : Option Nat) (c : Code) (s : Sta) (e : Ex) (s1 : Sta) : Prop := rmS memo N (.code ar c s.ts s.df s.V) = some (.code e s1.ts s1.df s1.V)
noncomputable def startOk (s : Sta) : Bool := Nat.ble s.ts.length 512 && inbG s.V.objs s.V.next
theorem start_spec {s : Sta} (h : startOk s = true) : ERel s.ts.length (e3 (lget s.ts)) s.ts ∧ inb s.V.next s.V.objs = true := by
  unfold startOk at h
  rw [Bool.and_eq_true, inbG_eq] at h
  exact ⟨.ofList (Nat.le_of_ble_eq_true h.1), h.2⟩
def eqEx (a b : Ex) : Bool := match a with
  | .normal => match b with
    | .normal => true
    | _ => false
  | .exit i => match b with
    | .exit j => Nat.beq i j
    | _ => false
  | .ret => match b with
    | .ret => true
    | _ => false
theorem eqEx_eq {a b : Ex} (h : eqEx a b = true) : a = b := by
  cases a <;> cases b <;> first | rfl | (cases h; done) | (rw [Nat.eq_of_beq_eq_true h])
theorem ends_g (hm : ∀ ar c ts df V, memo (.code ar c ts df V) = none) {N : Nat} {ar : Option Nat} {c : Code} {s s1 : Sta} {e : Ex} (hs : startOk s = true) (hl : Nat.beq s.ts.length s1.ts.length = true)
    (h : (runG memo N).c s.ts.length c ar (e3 (lget s.ts)) s.df s.V.next s.V.objs (fun x env df n m => eqEx x e && isSta s1 env df n m) = true) : Ends memo N ar c s e s1 := by
  obtain ⟨h1, h2⟩ := start_spec hs
  obtain ⟨e', ts1, df1, V1, env1, h3, h4, _, h5⟩ := (runG_ok hm N).code _ _ _ _ _ _ _ _ _ h1 h2 h
  rw [Bool.and_eq_true] at h5
  have he := eqEx_eq h5.1
  rw [Nat.eq_of_beq_eq_true hl] at h4
  obtain ⟨ha, hb, hc⟩ := isSta_eq h4 h5.2
  unfold Ends
  rw [← he, ← ha, ← hb, ← hc]
  exact h3
noncomputable def nor (e : Ex) (x : Bool) : Bool := Ex.rec (motive := fun _ => Bool → Bool) (fun x => x) (fun _ _ => false) (fun _ => false) e x
/-- rounds of a loop -/
noncomputable def iterG (memo : Job → Option Out) (ar : Option Nat) (nt : Nat) (b : Code) (N : Nat) : Nat → Env → List Nat → Nat → Objs → (Env → List Nat → Nat → Objs → Bool) → Bool :=
  Nat.rec (motive := fun _ => Env → List Nat → Nat → Objs → (Env → List Nat → Nat → Objs → Bool) → Bool) (fun env df n m k => k env df n m)
    (fun j ih env df n m k => (runG memo (Nat.add N j)).c nt b ar env df n m fun e env df n m => nor e (ih env df n m k))
theorem iterG_true (hm : ∀ ar c ts df V, memo (.code ar c ts df V) = none) {ar : Option Nat} {nt N : Nat} {b : Code} {k : Env → List Nat → Nat → Objs → Bool} : ∀ (j : Nat) {env : Env} {ts : List Value} {df : List Nat} {V : View}, ERel nt env ts → inb V.next V.objs = true →
    iterG memo ar nt b N j env df V.next V.objs k = true → ∃ ts1 df1 V1 env1, rmS memo (N + j) (.code ar (.loop b) ts df V) = rmS memo N (.code ar (.loop b) ts1 df1 V1) ∧ ERel nt env1 ts1 ∧ inb V1.next V1.objs = true ∧ k env1 df1 V1.next V1.objs = true
  | 0, env, ts, df, V, h, hn, hr => ⟨ts, df, V, env, rfl, h, hn, hr⟩
  | j + 1, env, ts, df, V, h, hn, hr => by
    have hr : (runG memo (N + j)).c nt b ar env df V.next V.objs (fun e env df n m => nor e (iterG memo ar nt b N j env df n m k)) = true := hr
    obtain ⟨e, ts1, df1, V1, env1, h1, h2, h3, h4⟩ := (runG_ok hm (N + j)).code _ _ _ _ _ _ _ _ _ h hn hr
    have he : e = .normal ∧ iterG memo ar nt b N j env1 df1 V1.next V1.objs k = true := by
      cases e with
      | normal => exact ⟨rfl, h4⟩
      | _ => cases h4
    obtain ⟨rfl, h4⟩ := he
    obtain ⟨ts2, df2, V2, env2, h5, h6, h7, h8⟩ := iterG_true hm j h2 h3 h4
    refine ⟨ts2, df2, V2, env2, ?_, h6, h7, h8⟩
    rw [← h5]
    show rmS memo (N + j + 1) (.code ar (.loop b) ts df V) = _
    rw [rmS, orF, hm]
    simp only [step, h1]
/-- from one state to a later one -/
theorem loop_g (hm : ∀ ar c ts df V, memo (.code ar c ts df V) = none) {N j : Nat} {ar : Option Nat} {b : Code} {s s1 s2 : Sta} {e : Ex} (hs : startOk s = true) (hl : Nat.beq s.ts.length s1.ts.length = true)
    (h : iterG memo ar s.ts.length b N j (e3 (lget s.ts)) s.df s.V.next s.V.objs (isSta s1) = true) (hk : Ends memo N ar (.loop b) s1 e s2) : Ends memo (N + j) ar (.loop b) s e s2 := by
  obtain ⟨h1, h2⟩ := start_spec hs
  obtain ⟨ts1, df1, V1, env1, h3, h4, _, h5⟩ := iterG_true hm j h1 h2 h
  rw [Nat.eq_of_beq_eq_true hl] at h4
  obtain ⟨ha, hb, hc⟩ := isSta_eq h4 h5
  unfold Ends at hk ⊢
  rw [h3, ha, hb, hc]
  exact hk
theorem ends_seq (hm : ∀ ar c ts df V, memo (.code ar c ts df V) = none) {N : Nat} {ar : Option Nat} {a b : Code} {s s1 s2 : Sta} {e : Ex} (h1 : Ends memo N ar a s .normal s1) (h2 : Ends memo N ar b s1 e s2) : Ends memo (N + 1) ar (.seq a b) s e s2 := by
  unfold Ends at *
  rw [rmS, orF, hm]
  simp only [step, h1]
  exact h2
theorem ends_block (hm : ∀ ar c ts df V, memo (.code ar c ts df V) = none) {N : Nat} {ar : Option Nat} {id : Nat} {b : Code} {s s1 : Sta} (h : Ends memo N ar b s .normal s1 ∨ Ends memo N ar b s (.exit id) s1) : Ends memo (N + 1) ar (.block id b) s .normal s1 := by
  unfold Ends at *
  rw [rmS, orF, hm]
  rcases h with h | h
  · simp only [step, h]
  · simp only [step, h, Nat.beq_refl]
/-- a call whose body ends so -/
noncomputable def finish (n : Nat) (rs : List ResultVar) (e : Ex) (s : Sta) : Option Out := match e with
  | .exit _ => none
  | _ => match takeAll s.df s.V.objs with
    | some l => match runV TP (resultsL rs s.ts) ⟨s.V.next, l⟩ with
      | some (vs, V2) => some (.value (shut vs) ⟨V2.next, keepR n (rootsOf n (shut vs) V2.objs) V2.objs⟩)
      | none => none
    | none => none
theorem ends_call {f : FuncId} {args : List Value} {V : View} {fn : Func} {c : Code} {N : Nat} {s1 : Sta} {e : Ex} (hn : memo (.call f args V) = none) (hf : TP.funcs[f]? = some fn) (hc : fn.body = some c)
    (h : Ends memo N none c ⟨args ++ List.replicate (fn.ntmps - args.length) undef, [], V⟩ e s1) : rmS memo (N + 1) (.call f args V) = finish V.next fn.results.toList e s1 := by
  unfold Ends at h
  rw [rmS, orF, hn]
  simp only [step, hf, hc, h]
  cases e <;> rfl
/-- a known call, told in parts -/
theorem memo_parts {k : Known} {r : List Known} (h1 : SelfOK TP (memoOf r)) (l : List Nat) {N : Nat} {x : Option Out} (h : rmS (memoOf r) N (.call k.f k.args k.V) = x)
    (hok : okB (narrow l x) k.v k.V1 = true) : SelfOK TP (memoOf (k :: r)) := by
  have hx := okB_eq hok
  clear hok
  have e : memoOf (k :: r) = orF (fun j => match hits k j with | true => some (.value k.v k.V1) | false => none) (memoOf r) := by
    funext j
    simp only [memoOf, orF]
    cases hits k j <;> rfl
  have hk : k.V.next ≤ k.V1.next ∧ CallOK TP k.f k.args k.V k.v k.V1 := by
    unfold narrow at hx
    split at hx
    · rename_i v W
      rw [fO_eq] at hx
      obtain ⟨h2, h3⟩ := (rmS_ok h1 N).call _ _ _ _ _ h
      injection hx with hx
      injection hx with ha hb
      rw [← ha, ← hb]
      exact ⟨h2, h3.less (fun b o hbo => (find_keepL l _ b o hbo).2) rfl⟩
    · cases hx
  rw [e]
  refine SelfOK.or ⟨?_, ?_, ?_⟩ h1
  · intro ar c ts df V e ts1 df1 V1 hj
    simp only [hits] at hj; cases hj
  · intro ar c ts df V e ts1 df1 V1 hj
    simp only [hits] at hj; cases hj
  · intro f args V v V1 hj
    split at hj
    · rename_i hh
      have := hits_eq hh
      injection this with ha hb hc
      injection hj with hj
      injection hj with hv hV
      subst ha hb hc
      rw [← hv, ← hV]
      exact hk
    · cases hj
/-! where a body is cut -/
def sA (c : Code) : Code := match c with
  | .seq a _ => a
  | c => c
def sB (c : Code) : Code := match c with
  | .seq _ b => b
  | c => c
def isSeq (c : Code) : Bool := match c with
  | .seq _ _ => true
  | _ => false
theorem isSeq_eq {c : Code} (h : isSeq c = true) : c = .seq (sA c) (sB c) := by cases c <;> first | rfl | cases h
def kB (c : Code) : Code := match c with
  | .block _ b => b
  | c => c
def isBlk (id : Nat) (c : Code) : Bool := match c with
  | .block i _ => Nat.beq i id
  | _ => false
theorem isBlk_eq {id : Nat} {c : Code} (h : isBlk id c = true) : c = .block id (kB c) := by
  cases c <;> first | (cases h; done) | (rename_i i b; have := Nat.eq_of_beq_eq_true (show Nat.beq i id = true from h); subst this; rfl)
def lB (c : Code) : Code := match c with
  | .loop b => b
  | c => c
def isLoop (c : Code) : Bool := match c with
  | .loop _ => true
  | _ => false
theorem isLoop_eq {c : Code} (h : isLoop c = true) : c = .loop (lB c) := by cases c <;> first | rfl | cases h
theorem seq_at (hm : ∀ ar c ts df V, memo (.code ar c ts df V) = none) {N : Nat} {ar : Option Nat} {c : Code} {s s1 s2 : Sta} {e : Ex} (hc : isSeq c = true) (h1 : Ends memo N ar (sA c) s .normal s1) (h2 : Ends memo N ar (sB c) s1 e s2) : Ends memo (N + 1) ar c s e s2 := by
  rw [isSeq_eq hc]; exact ends_seq hm h1 h2
theorem block_at (hm : ∀ ar c ts df V, memo (.code ar c ts df V) = none) {N : Nat} {ar : Option Nat} {id : Nat} {c : Code} {s s1 : Sta} (hc : isBlk id c = true) (h : Ends memo N ar (kB c) s .normal s1 ∨ Ends memo N ar (kB c) s (.exit id) s1) : Ends memo (N + 1) ar c s .normal s1 := by
  rw [isBlk_eq hc]; exact ends_block hm h
theorem loop_at (hm : ∀ ar c ts df V, memo (.code ar c ts df V) = none) {N j : Nat} {ar : Option Nat} {c : Code} {s s1 s2 : Sta} {e : Ex} (hc : isLoop c = true) (hs : startOk s = true) (hl : Nat.beq s.ts.length s1.ts.length = true)
    (h : iterG memo ar s.ts.length (lB c) N j (e3 (lget s.ts)) s.df s.V.next s.V.objs (isSta s1) = true) (hk : Ends memo N ar c s1 e s2) : Ends memo (N + j) ar c s e s2 := by
  rw [isLoop_eq hc] at hk ⊢; exact loop_g hm hs hl h hk
noncomputable def fnOf (f : FuncId) : Func := (TP.funcs[f]?).getD default
noncomputable def bodyOf (f : FuncId) : Code := (fnOf f).body.getD .skip
noncomputable def hasBody (f : FuncId) : Bool := match TP.funcs[f]? with
  | some fn => fn.body.isSome
  | none => false
theorem call_at {f : FuncId} {args : List Value} {V : View} {N : Nat} {s1 : Sta} {e : Ex} (hn : memo (.call f args V) = none) (hf : hasBody f = true)
    (h : Ends memo N none (bodyOf f) ⟨args ++ List.replicate ((fnOf f).ntmps - args.length) undef, [], V⟩ e s1) : rmS memo (N + 1) (.call f args V) = finish V.next (fnOf f).results.toList e s1 := by
  have h1 : TP.funcs[f]? = some (fnOf f) ∧ (fnOf f).body = some (bodyOf f) := by
    unfold hasBody at hf
    unfold bodyOf fnOf
    split at hf
    · rename_i fn hfn
      rw [hfn]
      refine ⟨rfl, ?_⟩
      simp only [Option.getD_some]
      cases hb : fn.body with
      | none => rw [hb] at hf; cases hf
      | some c => rfl
    · cases hf
  exact ends_call hn h1.1 h1.2 h
/-- no such call is known -/
theorem memo_none {r : List Known} {f : FuncId} {args : List Value} {V : View} (h : (memoOf r (.call f args V)).isNone = true) : memoOf r (.call f args V) = none := Option.isNone_iff_eq_none.1 h
end Go.Vm
