/- The quick machine: calls, and the whole. -/
import Derived.Test.YtcphndfipjifcaaVqGj
namespace Go.Vm
inductive GRes
  | tmp (p : P3)
  | ld (p : P3)
  | ldn (n : Nat) (p : P3)
  | bad
noncomputable def gres (nt : Nat) (r : ResultVar) : GRes := match r with
  | .tmp t => match Nat.blt t nt with
    | true => .tmp (path t)
    | false => .bad
  | .cell a t => match Nat.blt a nt with
    | true => match aggB TP t with
      | some false => .ld (path a)
      | some true => match TP.info? t with
        | some i => .ldn i.size (path a)
        | none => .bad
      | none => .bad
    | false => .bad
noncomputable def resK : List GRes → Env → Objs → (List Value → Bool) → Bool := List.rec (motive := fun _ => Env → Objs → (List Value → Bool) → Bool) (fun _ _ k => k [])
  (fun g _ ih env m k => GRes.rec (motive := fun _ => (Env → Objs → (List Value → Bool) → Bool) → Env → Objs → (List Value → Bool) → Bool)
    (fun p ih env m k => fVal (getE p env) fun v => ih env m fun r => k (v :: r))
    (fun p ih env m k => mLd (.t p) env m (fun v => ih env m fun r => k (v :: r)) false)
    (fun n p ih env m k => mLdn n (.t p) env m (fun v => ih env m fun r => k (v :: r)) false)
    (fun _ _ _ _ => false) g ih env m k)
inductive FnV
  | no
  | fn (nt : Nat) (body : Code) (rs : List GRes)
noncomputable def fnv (f : FuncId) : FnV := match TP.funcs[f]? with
  | some fn => match fn.body with
    | some c => .fn fn.ntmps c (fn.results.toList.map (gres fn.ntmps))
    | none => .no
  | none => .no
/-- all with that name go -/
noncomputable def delK : Objs → Nat → (Objs → Bool) → Bool := List.rec (motive := fun _ => Nat → (Objs → Bool) → Bool) (fun _ k => k [])
  (fun p _ ih b k => ifB (Nat.beq p.1 b) (ih b k) (ih b fun r => k (p :: r)))
noncomputable def isDef (o : Obj) (x : Bool) : Bool := Obj.rec (motive := fun _ => Bool → Bool) (fun _ _ _ _ => false) (fun _ _ _ => false) (fun _ _ _ => false) (fun _ _ _ => false) (fun _ _ _ => false) (fun _ _ _ _ _ _ _ => false) (fun _ _ _ => false) (fun _ _ _ _ _ => false) (fun _ _ => false)
  (fun c x => Option.rec (motive := fun _ => Bool → Bool) (fun _ => false) (fun l x => List.rec (motive := fun _ => Bool → Bool) (fun x => x) (fun _ _ _ _ => false) l x) c x) (fun _ _ => false) (fun _ _ _ => false) o x
noncomputable def takeK : List Nat → Objs → (Objs → Bool) → Bool := List.rec (motive := fun _ => Objs → (Objs → Bool) → Bool) (fun m k => k m)
  (fun D _ ih m k => findK m D fun o => isDef o (delK m D fun m => ih m k))
noncomputable def shutK (vs : List Value) (k : Value → Bool) : Bool := List.rec (motive := fun _ => (Value → Bool) → Bool) (fun k => k (.tuple (Array.mk [])))
  (fun v r _ k => List.rec (motive := fun _ => Value → (Value → Bool) → Bool) (fun v k => k v) (fun u r _ v k => k (.tuple (Array.mk (v :: u :: r)))) r v k) vs k
noncomputable def fl1 : Value → Bool := Value.rec (motive_1 := fun _ => Bool) (motive_2 := fun _ => Unit) (motive_3 := fun _ => Unit)
  (fun _ => true)
  (fun _ _ => true)
  (fun _ _ => false)
  (fun _ _ _ => false)
  (fun _ => false)
  (fun _ => false)
  (fun _ _ _ => false)
  (fun _ => false)
  (fun _ => false)
  (fun _ _ _ _ _ => false)
  (false)
  (fun _ _ _ => false)
  (false)
  (fun _ _ => false)
  (fun _ _ => false)
  (fun _ _ => ()) () (fun _ _ _ _ => ())

noncomputable def endK (n : Nat) (v : Value) (n1 : Nat) (m : Objs) (k : KV) : Bool := ifB (ifB (fl1 v) true (flatN 3 v)) (dropG m n fun m => k v n1 m) (keepG m n (rootsOf n v m) fun m => k v n1 m)
noncomputable def leLen : List Value → Nat → Bool := List.rec (motive := fun _ => Nat → Bool) (fun _ => true) (fun _ _ ih n => Nat.rec (motive := fun _ => (Nat → Bool) → Bool) (fun _ => false) (fun j _ ih => ih j) n ih)
noncomputable def endC (e : Ex) (x : Bool) : Bool := Ex.rec (motive := fun _ => Bool → Bool) (fun x => x) (fun _ _ => false) (fun x => x) e x
noncomputable def callF (S : Sf) (f : FuncId) (args : List Value) (n : Nat) (m : Objs) (k : KV) : Bool := FnV.rec (motive := fun _ => Sf → List Value → Nat → Objs → KV → Bool) (fun _ _ _ _ _ => false)
  (fun nt body rs S args n m k => ifB (leLen args nt) (ifB (Nat.ble nt 512) (fromL args fun env => S.c nt body none env [] n m fun e env1 df n1 m1 => endC e (takeK df m1 fun m2 => resK rs env1 m2 fun vs => shutK vs fun v => endK n v n1 m2 k)) false) false) (fnv f) S args n m k
noncomputable def memoK (memo : Job → Option Out) (f : FuncId) (args : List Value) (n : Nat) (m : Objs) (k : KV) (s : Bool) : Bool := match memo (.call f args ⟨n, m⟩) with
  | some r => match r with
    | .value v V1 => ifB (inbG V1.objs V1.next) (k v V1.next V1.objs) false
    | _ => false
  | none => s
noncomputable def runG (memo : Job → Option Out) : Nat → Sf := Nat.rec (motive := fun _ => Sf) ⟨fun _ _ _ _ _ _ _ _ => false, fun _ _ _ _ _ => false⟩
  (fun _ ih => ⟨fun nt c ar env df n m k => codeG (view nt c) ih nt ar env df n m k, fun f args n m k => memoK memo f args n m k (callF ih f args n m k)⟩)
/-- the machine, by its steps, with what is known -/
noncomputable def rmS (memo : Job → Option Out) : Nat → Job → Option Out
  | 0, _ => none
  | n + 1, j => orF memo (step TP (rmS memo n)) j
theorem good_TP : Good TP := good_prog
theorem rmS_ok {memo : Job → Option Out} (hm : SelfOK TP memo) : ∀ n, SelfOK TP (rmS memo n) := by
  intro n
  induction n with
  | zero => exact SelfOK.nothing
  | succ n ih => exact SelfOK.or hm (step_ok good_TP ih)

section
variable {sf : Job → Option Out} {S : Sf} {nt : Nat} {env : Env} {ts : List Value} {n : Nat} {m : Objs}
theorem inb_drop (b : Nat) : ∀ (l : Objs) (m : Nat), inb m l = true → inb m (drop l b) = true
  | [], _, _ => rfl
  | (key, o) :: r, m, h => by
    simp only [inb, Bool.and_eq_true, Nat.blt_eq] at h
    simp only [drop]
    split
    · exact inb_up _ (Nat.le_of_lt h.1) (inb_drop b r key h.2)
    · simp only [inb, Bool.and_eq_true, Nat.blt_eq]; exact ⟨h.1, inb_drop b r key h.2⟩
theorem delK_eq (b : Nat) : ∀ (l : Objs) (k : Objs → Bool), delK l b k = k (drop l b)
  | [], k => rfl
  | (key, o) :: r, k => by
    show ifB (Nat.beq key b) (delK r b k) (delK r b fun r => k ((key, o) :: r)) = _
    rw [delK_eq b r, delK_eq b r]
    simp only [drop]
    cases Nat.beq key b <;> rfl
theorem isDef_true {o : Obj} {x : Bool} (h : isDef o x = true) : o = .deferred (some []) ∧ x = true := by
  cases o with
  | deferred c =>
    cases c with
    | none => cases h
    | some l => cases l with
      | nil => exact ⟨rfl, h⟩
      | cons a l => cases h
  | _ => cases h
theorem takeK_true : ∀ {df : List Nat} {m : Objs} {k : Objs → Bool}, inb n m = true → takeK df m k = true → ∃ l, takeAll df m = some l ∧ inb n l = true ∧ k l = true
  | [], m, k, hn, h => ⟨m, rfl, hn, h⟩
  | D :: df, m, k, hn, h => by
    have h : findK m D (fun o => isDef o (delK m D fun m => takeK df m k)) = true := h
    obtain ⟨o, hf, h⟩ := findK_true h
    obtain ⟨ho, h⟩ := isDef_true h
    subst ho
    rw [delK_eq] at h
    obtain ⟨l, h1, h2, h3⟩ := takeK_true (inb_drop D m n hn) h
    exact ⟨l, by simp only [takeAll, hf, h1], h2, h3⟩
theorem load_var {t : TypeId} {a : Nat} {v : Value} (h : runOp TP (ev ts) ⟨none, .load t (.tmp a), 0, "", #[], none⟩ ⟨n, m⟩ = some (.value v, ⟨n, m⟩)) : runV TP (do loadVar t (← asAddr (lget ts a))) ⟨n, m⟩ = some (v, ⟨n, m⟩) := by
  have h : val (runV TP (Instr.loadAt t (lget ts a)) ⟨n, m⟩) = some (.value v, ⟨n, m⟩) := h
  have h2 : runV TP (Instr.loadAt t (lget ts a)) ⟨n, m⟩ = some (v, ⟨n, m⟩) := by
    unfold val at h
    split at h
    · rename_i v' V' hq; cases h; exact hq
    · cases h
  revert h2
  cases lget ts a with
  | pointer q =>
    cases q with
    | none => intro h2; cases h2
    | some ad => exact id
  | _ => intro h2; cases h2
theorem resK_true (h : ERel nt env ts) : ∀ {rs : List ResultVar} {k : List Value → Bool}, resK (rs.map (gres nt)) env m k = true → ∃ vs, runV TP (resultsL rs ts) ⟨n, m⟩ = some (vs, ⟨n, m⟩) ∧ k vs = true
  | [], k, hr => ⟨[], rfl, hr⟩
  | r :: rs, k, hr => by
    cases r with
    | tmp t =>
      rw [List.map_cons] at hr
      unfold gres at hr
      dsimp only at hr
      split at hr
      · rename_i hlt
        rw [Nat.blt_eq] at hlt
        have hr : fVal (getE (path t) env) (fun v => resK (rs.map (gres nt)) env m fun r => k (v :: r)) = true := hr
        rw [fVal_eq, h.get t hlt] at hr
        obtain ⟨vs, h1, h2⟩ := resK_true h hr
        refine ⟨_, ?_, h2⟩
        simp only [resultsL]
        rw [runV_bind, h1]
        rfl
      · cases hr
    | cell a t =>
      have fin : ∀ v, runV TP (do loadVar t (← asAddr (lget ts a))) ⟨n, m⟩ = some (v, ⟨n, m⟩) → resK (rs.map (gres nt)) env m (fun r => k (v :: r)) = true → ∃ vs, runV TP (resultsL (.cell a t :: rs) ts) ⟨n, m⟩ = some (vs, ⟨n, m⟩) ∧ k vs = true := by
        intro v h1 h2
        obtain ⟨vs, h3, h4⟩ := resK_true h h2
        refine ⟨_, ?_, h4⟩
        simp only [resultsL]
        have e : (do let v ← loadVar t (← asAddr (lget ts a)); let vs ← resultsL rs ts; pure (v :: vs) : Sem (List Value)) = (do let v ← (do loadVar t (← asAddr (lget ts a))); let vs ← resultsL rs ts; pure (v :: vs)) := by rw [bind_assoc]
        rw [e, runV_bind, h1]
        simp only [Option.bind_some]
        rw [runV_bind, h3]
        rfl
      rw [List.map_cons] at hr
      unfold gres at hr
      dsimp only at hr
      split at hr
      · rename_i hlt
        have hok : okSlot nt (.tmp a) = true := hlt
        split at hr
        · rename_i ht
          have hr : mLd (opdD (.tmp a)) env m (fun v => resK (rs.map (gres nt)) env m fun r => k (v :: r)) false = true := hr
          rcases mLd_true (P := TP) (d := none) (ty := 0) (pos := "") (aft := #[]) (gd := none) (n := n) h ht hok hr with ⟨v, h1, h2⟩ | h2
          · exact fin v (load_var h1) h2
          · cases h2
        · rename_i ht
          split at hr
          · rename_i i hi
            have hr : mLdn i.size (opdD (.tmp a)) env m (fun v => resK (rs.map (gres nt)) env m fun r => k (v :: r)) false = true := hr
            rcases mLdn_true (P := TP) (d := none) (ty := 0) (pos := "") (aft := #[]) (gd := none) (n := n) h ht hi hok hr with ⟨v, h1, h2⟩ | h2
            · exact fin v (load_var h1) h2
            · cases h2
          · cases hr
        · cases hr
      · cases hr
theorem shutK_eq (vs : List Value) (k : Value → Bool) : shutK vs k = k (shut vs) := by
  cases vs with
  | nil => rfl
  | cons v r => cases r <;> rfl
theorem fl1_flat {v : Value} (h : fl1 v = true) : flatN 3 v = true := by cases v <;> first | rfl | cases h
theorem endK_true {v : Value} {n1 : Nat} {k : KV} (hn : inb n1 m = true) (h : endK n v n1 m k = true) : k v n1 (keepR n (rootsOf n v m) m) = true := by
  rcases ifB_true h with ⟨h1, h⟩ | ⟨h1, h⟩
  · have hf : flatN 3 v = true := by
      rcases ifB_true h1 with ⟨h2, _⟩ | ⟨_, h2⟩
      · exact fl1_flat h2
      · exact h2
    rw [dropG_eq n m n1 _ hn] at h
    simp only [rootsOf, hf]
    exact h
  · rw [keepG_eq n _ m n1 _ hn] at h
    exact h
theorem leLen_true : ∀ {l : List Value} {n : Nat}, leLen l n = true → l.length ≤ n
  | [], n, h => Nat.zero_le _
  | x :: l, 0, h => by cases h
  | x :: l, n + 1, h => by have : leLen l n = true := h; have := leLen_true this; simpa using this
theorem ERel.ofArgs {args : List Value} {nt : Nat} (h1 : args.length ≤ nt) (h2 : nt ≤ 512) : ERel nt (e3 (lget args)) (args ++ List.replicate (nt - args.length) undef) := by
  refine ⟨by simp; omega, h2, fun i hi => ?_⟩
  have e : lget (args ++ List.replicate (nt - args.length) undef) i = lget args i := by
    rw [lget_eq, lget_eq, List.getElem?_append]
    split
    · rfl
    · rename_i hlt
      rw [List.getElem?_replicate, List.getElem?_eq_none_iff.2 (by omega)]
      split <;> rfl
  rw [e]
  show g1 (i8 (i % 8)) (g2 (i8 (i / 8 % 8)) (g3 (i8 (i / 64)) (e3 (lget args)))) = _
  rw [g3_e _ _ (by omega), g2_e _ _ _ (by omega), g1_e _ _ _ (by omega)]
  congr 1
  omega
theorem callF_true (hS : GSelf sf S) {f : FuncId} {args : List Value} {k : KV} (hn : inb n m = true) (hr : callF S f args n m k = true) :
    ∃ v V1, step TP sf (.call f args ⟨n, m⟩) = some (.value v V1) ∧ inb V1.next V1.objs = true ∧ k v V1.next V1.objs = true := by
  unfold callF fnv at hr
  split at hr
  case h_2 => cases hr
  rename_i fn hfn
  split at hr
  case h_2 => cases hr
  rename_i c hc
  have hr : ifB (leLen args fn.ntmps) (ifB (Nat.ble fn.ntmps 512) (fromL args fun env => S.c fn.ntmps c none env [] n m fun e env1 df n1 m1 => endC e (takeK df m1 fun m2 => resK (fn.results.toList.map (gres fn.ntmps)) env1 m2 fun vs => shutK vs fun v => endK n v n1 m2 k)) false) false = true := hr
  rcases ifB_true hr with ⟨h1, hr⟩ | ⟨_, hr⟩
  case inr => cases hr
  rcases ifB_true hr with ⟨h2, hr⟩ | ⟨_, hr⟩
  case inr => cases hr
  rw [fromL_eq] at hr
  obtain ⟨e, ts1, df1, V1, env1, h3, h4, h5, hr⟩ := hS.code _ _ _ _ _ _ _ _ _ (ERel.ofArgs (leLen_true h1) (Nat.le_of_ble_eq_true h2)) hn hr
  have he : (e = .normal ∨ e = .ret) ∧ takeK df1 V1.objs (fun m2 => resK (fn.results.toList.map (gres fn.ntmps)) env1 m2 fun vs => shutK vs fun v => endK n v V1.next m2 k) = true := by
    cases e with
    | normal => exact ⟨.inl rfl, hr⟩
    | ret => exact ⟨.inr rfl, hr⟩
    | exit id => cases hr
  obtain ⟨he, hr⟩ := he
  obtain ⟨l, h6, h7, hr⟩ := takeK_true h5 hr
  obtain ⟨vs, h8, hr⟩ := resK_true (n := V1.next) h4 hr
  rw [shutK_eq] at hr
  have hr := endK_true h7 hr
  refine ⟨shut vs, ⟨V1.next, keepR n (rootsOf n (shut vs) l) l⟩, ?_, inb_keepR _ _ _ _ h7, hr⟩
  simp only [step, hfn, hc, h3]
  rcases he with rfl | rfl <;> simp only [h6, h8]
end
theorem runG_ok {memo : Job → Option Out} (hm : ∀ ar c ts df V, memo (.code ar c ts df V) = none) : ∀ n, GSelf (rmS memo n) (runG memo n) := by
  intro n
  induction n with
  | zero => exact ⟨(fun _ _ _ _ _ _ _ _ _ _ _ h => by cases h), (fun _ _ _ _ _ _ h => by cases h)⟩
  | succ n ih =>
    refine ⟨fun nt c ar env ts df nx m k h hn hr => ?_, fun f args nx m k hn hr => ?_⟩
    · obtain ⟨e, ts1, df1, V1, env1, h1, h2, h3, h4⟩ := code_true h ih hn c ar df hr
      exact ⟨e, ts1, df1, V1, env1, by simp only [rmS, orF, hm]; exact h1, h2, h3, h4⟩
    · have hr : memoK memo f args nx m k (callF (runG memo n) f args nx m k) = true := hr
      unfold memoK at hr
      split at hr
      · rename_i r hq
        split at hr
        · rename_i v V1
          rcases ifB_true hr with ⟨h1, h2⟩ | ⟨_, h2⟩
          · rw [inbG_eq] at h1
            exact ⟨v, V1, by simp only [rmS, orF, hq], h1, h2⟩
          · cases h2
        · cases hr
      · rename_i hq
        obtain ⟨v, V1, h1, h2, h3⟩ := callF_true ih hn hr
        exact ⟨v, V1, by simp only [rmS, orF, hq]; exact h1, h2, h3⟩
/-- **A closed call, told by the quick machine.** -/
theorem closedG {memo : Job → Option Out} (hs : SelfOK TP memo) (hm : ∀ ar c ts df V, memo (.code ar c ts df V) = none) {N : Nat} {f : FuncId} {v : Value} (hv : flatN 3 v = true)
    (h : (runG memo N).f f [] 0 [] (fun x _ _ => beqV 4 x v) = true) (w : World) : Calls Go.Proofs.Try.prog f #[] w fun e w' => e = .returned v ∧ RowKit.Below w.heap.size w w' := by
  obtain ⟨x, V1, h1, _, h2⟩ := (runG_ok hm N).call f [] 0 [] _ rfl h
  have hx := beqV_eq _ _ _ h2
  subst hx
  obtain ⟨_, ok⟩ := (rmS_ok hs N).call _ _ _ _ _ h1
  have := ok ⟨id, fun _ => 0, fun _ => 0, fun _ => 0⟩ (fun _ => False) w #[] 5 ⟨fun b o h => (by cases h), fun b o h => (by cases h), fun b o h => (by cases h), fun b cs e fz h => (by cases h), fun b c x y h => (by cases h)⟩ .nil (fun b _ _ h => h)
  refine (callsIn_wide.1 this).mono ?_
  rintro e w' ⟨ρ1, v', rfl, st, hr⟩
  have e := hr.flatN_eq 3 hv
  exact ⟨by rw [e], st.os, st.tape, st.output, st.size, fun k hk => st.frame k hk fun b o hb => by cases hb⟩
/-- without a table -/
theorem closed_quick {N : Nat} {f : FuncId} {v : Value} (hv : flatN 3 v = true) (h : (runG (fun _ => none) N).f f [] 0 [] (fun x _ _ => beqV 4 x v) = true) (w : World) :
    Calls Go.Proofs.Try.prog f #[] w fun e w' => e = .returned v ∧ RowKit.Below w.heap.size w w' := closedG SelfOK.nothing (fun _ _ _ _ _ => rfl) hv h w
end Go.Vm
