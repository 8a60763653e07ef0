/- The machine of the small memory is sound: an operation with what it calls. -/
import Derived.Test.YtcphndfipjifcaaVqM
import Derived.RangeFuncLeaves
namespace Go.Vm
variable {P : Program} {ρ ρ1 ρ2 : Ren} {D D1 : Nat → Prop} {V V1 V2 : View} {w w1 w2 : World}

def fence (ro : Option Nat) : Fence := { Fence.wide with round := ro }

def TRel (ρ : Ren) (D : Nat → Prop) (ts : List Value) (a : Array Value) : Prop := LRel (VRel ρ D) ts a.toList
def DRel (ρ : Ren) (D : Nat → Prop) (df : List Nat) (ds : List Deferred) : Prop := LRel (fun x d => D x ∧ d = { target := .collected (ρ.b x), args := #[] }) df ds

theorem TRel.ext (hag : Agree ρ ρ1 D) (hD : ∀ b, D b → D1 b) {ts : List Value} {a : Array Value} (h : TRel ρ D ts a) : TRel ρ1 D1 ts a := h.mono fun _ _ r => r.ext hag hD
theorem DRel.ext (hag : Agree ρ ρ1 D) (hD : ∀ b, D b → D1 b) {df : List Nat} {ds : List Deferred} (h : DRel ρ D df ds) : DRel ρ1 D1 df ds :=
  h.mono fun x d r => ⟨hD _ r.1, by rw [hag.b _ r.1]; exact r.2⟩

theorem undef_rel : VRel ρ D undef undef := VRel.of_flatN 3 undef rfl
theorem lget_eq : ∀ (ts : List Value) (i : Nat), lget ts i = (ts[i]?).getD undef
  | [], i => by simp [lget]
  | x :: r, 0 => by simp [lget]
  | x :: r, i + 1 => by simp [lget, lget_eq r i]
theorem lset_eq : ∀ (ts : List Value) (i : Nat) (v : Value), lset ts i v = ts.set i v
  | [], i, v => by simp [lset]
  | x :: r, 0, v => by simp [lset]
  | x :: r, i + 1, v => by simp [lset, lset_eq r i v]
theorem lget_rel {ts : List Value} {a : Array Value} (h : TRel ρ D ts a) (i : Nat) : VRel ρ D (lget ts i) (a.getD i undef) := by
  rw [lget_eq, Array.getD_eq_getD_getElem?]
  cases hx : ts[i]? with
  | none =>
    have : a[i]? = none := by
      have := h.length
      rw [List.getElem?_eq_none_iff] at hx
      rw [Array.getElem?_eq_none_iff]; simpa [this] using hx
    rw [this]; exact undef_rel
  | some x =>
    obtain ⟨y, hy, hr⟩ := h.get i x hx
    have : a[i]? = some y := by simpa using hy
    rw [this]; exact hr
theorem LRel.set {R : Value → Value → Prop} {xs ys : List Value} (h : LRel R xs ys) {v v' : Value} (hv : R v v') : ∀ (i : Nat), LRel R (xs.set i v) (ys.set i v') := by
  induction h with
  | nil => intro i; exact .nil
  | cons hx ht ih =>
    intro i
    cases i with
    | zero => exact .cons hv ht
    | succ i => exact .cons hx (ih i)
theorem lput_rel {ts : List Value} {a : Act} (h : TRel ρ D ts a.tmps) (d : Option Tmp) {v v' : Value} (hv : VRel ρ D v v') : TRel ρ D (lput ts d v) (a.put d v').tmps := by
  cases d with
  | none => exact h
  | some d =>
    simp only [lput, Act.put, lset_eq, TRel, Array.toList_setIfInBounds]
    exact LRel.set h hv d
theorem put_defers (a : Act) (d : Option Tmp) (v : Value) : (a.put d v).defers = a.defers := by cases d <;> rfl
theorem ev_rel {ts : List Value} {a : Act} (h : TRel ρ D ts a.tmps) {x : Operand} (hx : okConst x = true) : VRel ρ D (ev ts x) (a.eval x) := by
  cases x with
  | tmp t => exact lget_rel h t
  | const v => exact VRel.of_flatN 3 v hx
  | global g => cases hx
  | func f => exact .func (.same fun l => by simp) rfl (fun i v v' h => by simp at h) rfl (fun i v v' h => by simp at h)
theorem ops_rel {ts : List Value} {a : Act} (h : TRel ρ D ts a.tmps) {o : Oper} (ho : okOps o = true) : ∀ x, x ∈ o.op.operands → VRel ρ D (ev ts x) (a.eval x) :=
  fun x hx => ev_rel h (List.all_eq_true.1 ho x (by simpa using hx))

def exOf : Ex → Exit
  | .normal => .normal
  | .exit id => .exit id
  | .ret => .ret
def CodeOK (P : Program) (ar : Option Nat) (c : Code) (ts : List Value) (df : List Nat) (V : View) (e : Ex) (ts1 : List Value) (df1 : List Nat) (V1 : View) : Prop :=
  ∀ (ρ : Ren) (D : Nat → Prop) (w : World) (a : Act) (n : Nat) (Q : Exit → Act → World → Prop), WRel P ρ D V.get w → TRel ρ D ts a.tmps → DRel ρ D df a.defers → (∀ l, ar = some l → D l) → (∀ b, V.next ≤ b → b < V1.next → ¬ D b) →
    (∀ ρ1 a1 w1, Stepped P ρ D V.get V.next w ρ1 V1.get V1.next w1 → TRel ρ1 (grow D V.next V1.next) ts1 a1.tmps → DRel ρ1 (grow D V.next V1.next) df1 a1.defers → Q (exOf e) a1 w1) →
    c.wpIn (fence (ar.map ρ.b)) n P Q a w
def CallOK (P : Program) (f : FuncId) (args : List Value) (V : View) (v : Value) (V1 : View) : Prop :=
  ∀ (ρ : Ren) (D : Nat → Prop) (w : World) (args' : Array Value) (n : Nat), WRel P ρ D V.get w → LRel (VRel ρ D) args args'.toList → (∀ b, V.next ≤ b → b < V1.next → ¬ D b) →
    CallsIn Fence.wide n P f args' w fun e w' => ∃ ρ1 v', e = .returned v' ∧ Stepped P ρ D V.get V.next w ρ1 V1.get V1.next w' ∧ VRel ρ1 (grow D V.next V1.next) v v'
/-- a loop whose first step is behind it -/
def loopAt (F : Fence) (n : Nat) (P : Program) (c : Code) (Q : Exit → Act → World → Prop) (a : Act) (w : World) : Prop :=
  ∀ (b : Frame) (k : List Item) (cs : List Frame), b.roundOf = F.round → F.fn b.fn → F.room (cs.length + 1 + n) →
    ∃ e a' w', Q e a' w' ∧ ArrivesIn (Machine.fenced P F) P (lone (b.atR a (.code c :: .inLoop c :: k)) cs w) b k cs e a' w'
theorem loop_of_at {F : Fence} {n : Nat} {c : Code} {Q : Exit → Act → World → Prop} {a : Act} {w : World} (h : loopAt F n P c Q a w) : (Code.loop c).wpIn F n P Q a w :=
  fun b k cs hro hb hr => let ⟨e, a', w', q, harr⟩ := h b k cs hro hb hr; ⟨e, a', w', q, .of_steps (.one (fenced_calm hb hr rfl) stepR_loop) harr⟩
theorem at_unfold {F : Fence} {n : Nat} {c : Code} {Q : Exit → Act → World → Prop} {a : Act} {w : World} (h : c.wpIn F n P (Exit.then (loopAt F n P c Q) Q) a w) : loopAt F n P c Q a w := by
  intro b k cs hro hb hr
  obtain ⟨e, a₁, w₁, hq, harr⟩ := h b (.inLoop c :: k) cs hro hb hr
  cases e with
  | normal =>
    obtain ⟨e₂, a₂, w₂, hq₂, harr₂⟩ := hq b k cs hro hb hr
    exact ⟨e₂, a₂, w₂, hq₂, .of_steps (StepsIn.trans harr (.one (fenced_calm hb hr rfl) stepR_inLoop)) harr₂⟩
  | exit id => exact ⟨_, a₁, w₁, hq, .pass (x := .inLoop c) rfl (fun _ _ => .inl (by simp)) harr⟩
  | goto l => exact ⟨_, a₁, w₁, hq, .pass (x := .inLoop c) rfl (fun _ _ => .inl (by simp)) harr⟩
  | ret => exact ⟨_, a₁, w₁, hq, .pass (x := .inLoop c) rfl (fun _ _ => .inl (by simp)) harr⟩
  | panic ch => exact ⟨_, a₁, w₁, hq, .pass (x := .inLoop c) rfl (fun _ _ => .inl (by simp)) harr⟩
  | outgrown => exact ⟨_, a₁, w₁, hq, .pass (x := .inLoop c) rfl (fun _ _ => .inl (by simp)) harr⟩
def LoopOK (P : Program) (ar : Option Nat) (c : Code) (ts : List Value) (df : List Nat) (V : View) (e : Ex) (ts1 : List Value) (df1 : List Nat) (V1 : View) : Prop :=
  ∀ (ρ : Ren) (D : Nat → Prop) (w : World) (a : Act) (n : Nat) (Q : Exit → Act → World → Prop), WRel P ρ D V.get w → TRel ρ D ts a.tmps → DRel ρ D df a.defers → (∀ l, ar = some l → D l) → (∀ b, V.next ≤ b → b < V1.next → ¬ D b) →
    (∀ ρ1 a1 w1, Stepped P ρ D V.get V.next w ρ1 V1.get V1.next w1 → TRel ρ1 (grow D V.next V1.next) ts1 a1.tmps → DRel ρ1 (grow D V.next V1.next) df1 a1.defers → Q (exOf e) a1 w1) →
    loopAt (fence (ar.map ρ.b)) n P c Q a w
structure SelfOK (P : Program) (sf : Job → Option Out) : Prop where
  code : ∀ ar c ts df V e ts1 df1 V1, sf (.code ar c ts df V) = some (.code e ts1 df1 V1) → V.next ≤ V1.next ∧ CodeOK P ar c ts df V e ts1 df1 V1
  loop : ∀ ar c ts df V e ts1 df1 V1, sf (.code ar (.loop c) ts df V) = some (.code e ts1 df1 V1) → LoopOK P ar c ts df V e ts1 df1 V1
  call : ∀ f args V v V1, sf (.call f args V) = some (.value v V1) → V.next ≤ V1.next ∧ CallOK P f args V v V1

theorem loop_set (hw : WRel P ρ D V.get w) {l : Nat} {r : Loop} (hf : find V.objs l = some (.loop r)) : ∃ r', w.heap[ρ.b l]? = some (.loop r') ∧ LoopRel ρ D r r' ∧
    ∀ x x', LoopRel ρ D x x' → Stepped P ρ D V.get V.next w ρ (View.get ⟨V.next, put V.objs l (.loop x)⟩) V.next { w with heap := w.heap.setIfInBounds (ρ.b l) (.loop x') } := by
  obtain ⟨h1, o', h2, h3⟩ := hw.own l _ hf rfl
  cases h3 with
  | @loop _ r' hr =>
    refine ⟨r', h2, hr, fun x x' hx => ?_⟩
    have hlt := (Array.getElem?_eq_some_iff.1 h2).1
    have := Stepped.update (n := V.next) (w1 := { w with heap := w.heap.setIfInBounds (ρ.b l) (.loop x') }) hw hf rfl (.loop hx) rfl (by simp) (by simp [hlt]) (fun k hk => by simp [Array.getElem?_setIfInBounds, Ne.symm hk]) rfl rfl rfl
    refine (funext fun k => ?_ : (View.get ⟨V.next, put V.objs l (.loop x)⟩) = _) ▸ this
    show find (put V.objs l _) k = _
    rw [find_put, hf]
    rfl

theorem begin_run {l : Nat} {r : Loop} (h : w.heap[l]? = some (.loop r)) (hr : r.state = .ready) : (Instr.beginRound l).run P w = .ok () { w with heap := w.heap.setIfInBounds l (.loop { r with state := .busy }) } := by
  unfold Instr.beginRound Instr.getLoop
  simp [Sem.run_bind, Go.getObj, Go.setObj, Sem.run, h, Result.andThen, hr]
theorem end_run {l : Nat} {r : Loop} (h : w.heap[l]? = some (.loop r)) (j : Option Code) : (Instr.endRound l j).run P w = .ok (.bool j.isNone) { w with heap := w.heap.setIfInBounds l (.loop { r with state := if j.isNone then .ready else .done, pending := j }) } := by
  unfold Instr.endRound Instr.getLoop
  simp [Sem.run_bind, Go.getObj, Go.setObj, Sem.run, h, Result.andThen]
theorem endLoop_run {l : Nat} {r : Loop} (h : w.heap[l]? = some (.loop r)) (hr : r.state ≠ .busy) : (Instr.endLoop l).run P w = .ok r.pending { w with heap := w.heap.setIfInBounds l (.loop { r with state := .exhausted }) } := by
  unfold Instr.endLoop Instr.getLoop
  have : (r.state == .busy) = false := by cases h : r.state <;> simp_all
  simp [Sem.run_bind, Go.getObj, Go.setObj, Sem.run, h, Result.andThen, hr]

theorem val_next {s : Sem Value} {r : Next} (h : val (runV P s V) = some (r, V1)) : V.next ≤ V1.next := by
  unfold val at h
  split at h
  · rename_i v V2 hv; cases h; exact runV_next _ _ _ _ hv
  · cases h
theorem valc_next {s : Sem Value} {r : Next} (h : valc (runV P s V) = some (r, V1)) : V.next ≤ V1.next := by
  unfold valc at h
  split at h
  · rename_i hv; split at h
    · cases h; exact runV_next _ _ _ _ hv
    · cases h
  · rename_i hv; cases h; exact runV_next _ _ _ _ hv
  · cases h
theorem pureV_next {s : Sem Value} {r : Next} (h : pureV P s V = some (r, V1)) : V.next ≤ V1.next := by
  unfold pureV at h
  split at h
  · split at h
    · cases h; exact Nat.le_refl _
    · cases h
  · cases h
theorem appendV_next {ts : Array TypeId} {s x v : Value} (h : appendV P ts s x V = some (v, V1)) : V.next ≤ V1.next := by
  unfold appendV at h
  repeat' split at h
  all_goals first
    | (cases h; done)
    | (cases h; exact Nat.le_refl _)
    | (cases h; exact Nat.le_succ _)
    | (cases h; rename_i hst; exact runV_next _ _ _ _ hst)
theorem setMap_next {r c : Nat} {es : List MapEntry} : (setMap V r es c).next = V.next := rfl
theorem mapEntryV_next {t : TypeId} {m k v : Value} (h : mapEntryV P t m k V = some (v, V1)) : V.next ≤ V1.next := by
  unfold mapEntryV at h
  repeat' split at h
  all_goals first
    | (cases h; done)
    | (cases h; exact Nat.le_refl _)
theorem entryStoreV_next {m s x : Value} (h : entryStoreV m s x V = some V1) : V.next ≤ V1.next := by
  unfold entryStoreV at h
  repeat' split at h
  all_goals first
    | (cases h; done)
    | (cases h; exact Nat.le_refl _)
theorem deleteV_next {t : TypeId} {m k : Value} (h : deleteV P t m k V = some V1) : V.next ≤ V1.next := by
  unfold deleteV at h
  repeat' split at h
  all_goals first
    | (cases h; done)
    | (cases h; exact Nat.le_refl _)
theorem runCall_next {e : Operand → Value} {c : Call} {t : TypeId} {r : Next} (h : runCall P e c t V = some (r, V1)) : V.next ≤ V1.next := by
  unfold runCall at h
  dsimp only at h
  repeat' split at h
  all_goals first
    | (cases h; done)
    | (cases h; exact Nat.le_refl _)
    | exact val_next h
    | exact pureV_next h
    | exact runV_next _ _ _ _ h
    | (unfold val at h; split at h
       · rename_i hv; cases h; exact appendV_next hv
       · cases h)
    | (rename_i hdel; cases h; exact deleteV_next hdel)
    | (rename_i hcl; cases h; unfold clearMapV at hcl; repeat' split at hcl
       all_goals first | (cases hcl; done) | (cases hcl; exact Nat.le_refl _))
theorem runOp_next {e : Operand → Value} {o : Oper} {r : Next} (h : runOp P e o V = some (r, V1)) : V.next ≤ V1.next := by
  unfold runOp at h
  repeat' split at h
  all_goals first
    | (cases h; done)
    | (cases h; exact Nat.le_refl _)
    | exact val_next h
    | exact valc_next h
    | exact pureV_next h
    | exact runCall_next h
    | (cases h; rename_i hst; exact runV_next _ _ _ _ hst)
    | (unfold val at h; split at h
       · rename_i hv; cases h; exact mapEntryV_next hv
       · cases h)
    | (rename_i hst; cases h; exact entryStoreV_next hst)
theorem after_next {sf : Job → Option Out} (hs : SelfOK P sf) {r : Next} {v : Value} (h : after sf (some (r, V1)) = some (v, V2)) : V1.next ≤ V2.next := by
  unfold after at h
  split at h
  · rename_i hq; cases hq; cases h; exact Nat.le_refl _
  · rename_i hq; cases hq; cases h; exact Nat.le_refl _
  · rename_i hq; cases hq
    split at h
    · rename_i hc; cases h; exact (hs.call _ _ _ _ _ hc).1
    · cases h
  · rename_i hq; cases hq
    split at h
    · rename_i ts1 Va ha
      split at h
      · split at h
        · split at h
          · rename_i Vb hb
            have h1 := (hs.code _ _ _ _ _ _ _ _ _ ha).1
            have h2 := (hs.code _ _ _ _ _ _ _ _ _ hb).1
            split at h
            · split at h <;> (cases h; exact Nat.le_trans h1 h2)
            · cases h
          · cases h
        · cases h
      · cases h
    · cases h
  · cases h

theorem callsIn_fence {ro : Option Nat} {n : Nat} {f : FuncId} {args : Array Value} {R : Ending → World → Prop} (h : CallsIn Fence.wide n P f args w R) : CallsIn (fence ro) n P f args w R := h
theorem op_wp (hP : Good P) {sf : Job → Option Out} (hs : SelfOK P sf) {o : Oper} {e : Operand → Value} {a : Act} {v : Value} {ro : Option Nat} {n : Nat} {next : Act → World → Prop} {Q : Exit → Act → World → Prop}
    (hr : after sf (runOp P e o V) = some (v, V2)) (hops : ∀ x, x ∈ o.op.operands → VRel ρ D (e x) (a.eval x)) (hw : WRel P ρ D V.get w) (hd : ∀ b, V.next ≤ b → b < V2.next → ¬ D b)
    (hk : ∀ ρ2 v' w2, Stepped P ρ D V.get V.next w ρ2 V2.get V2.next w2 → VRel ρ2 (grow D V.next V2.next) v v' → next (a.put o.dst v') w2) :
    o.wpIn (fence ro) n P a w next Q := by
  cases h1 : runOp P e o V with
  | none => rw [h1] at hr; cases hr
  | some p =>
    obtain ⟨nx, V1⟩ := p
    rw [h1] at hr
    have n1 := runOp_next h1
    have n2 := after_next hs hr
    obtain ⟨ρ1, r', w1, e1, st1, hn⟩ := runOp_sound hP hops h1 hw (fun b hb hb' => hd b hb (by omega))
    have hd2 : ∀ b, V1.next ≤ b → b < V2.next → ¬ grow D V.next V1.next b := fun b hb hb' hD => by
      rcases hD with hD | hD
      · exact hd b (by omega) hb' hD
      · omega
    have hnd : ∀ c, o.op ≠ .defer c := by
      intro c hc
      unfold runOp at h1
      rw [hc] at h1
      cases h1
    unfold Oper.wpIn
    refine ⟨fun f _ => trivial, ?_⟩
    rw [Oper.semAt_eq _ _ _ hnd, e1]
    have hk' : ∀ ρ2 v' w2, Stepped P ρ1 (grow D V.next V1.next) V1.get V1.next w1 ρ2 V2.get V2.next w2 → VRel ρ2 (grow (grow D V.next V1.next) V1.next V2.next) v v' → next (a.put o.dst v') w2 :=
      fun ρ2 v' w2 st hv => hk ρ2 v' w2 (st1.trans st hw) (by rwa [grow_grow n1 n2] at hv)
    unfold after at hr
    split at hr
    · rename_i hq; cases hq; cases hr
      cases hn with
      | value hv =>
        exact hk' ρ1 _ w1 (.refl st1.rel) (by rw [grow_nil]; exact hv)
    · rename_i hq; cases hq; cases hr
      cases hn
      exact hk' ρ1 _ w1 (.refl st1.rel) undef_rel
    · rename_i hq; cases hq
      cases hn with
      | enter hargs =>
        rename_i f xs ys
        split at hr
        · rename_i hc
          cases hr
          refine ⟨fun h => (by cases h), callsIn_fence (((hs.call _ _ _ _ _ hc).2 ρ1 _ w1 ys _ st1.rel hargs.list hd2).mono ?_)⟩
          rintro ed w2 ⟨ρ2, v', rfl, st2, hv⟩
          exact hk' ρ2 v' w2 st2 hv
        · cases hr
    · rename_i hq; cases hq
      cases hn with
      | round hl hts =>
        rename_i l fn ts ca cb fn' ys
        split at hr
        case h_2 => cases hr
        rename_i ts1 Va ha
        split at hr
        case h_2 => cases hr
        rename_i r hfr
        split at hr
        case h_2 => cases hr
        rename_i hready
        split at hr
        case h_2 => cases hr
        rename_i ex ts2 df2 Vb hb
        split at hr
        case h_2 => cases hr
        rename_i r2 hfr2
        obtain ⟨na, oka⟩ := hs.code _ _ _ _ _ _ _ _ _ ha
        obtain ⟨nb, okb⟩ := hs.code _ _ _ _ _ _ _ _ _ hb
        have nb : Va.next ≤ Vb.next := nb
        have hV2 : V2.next = Vb.next := by split at hr <;> (cases hr; rfl)
        refine ⟨fun h => (by cases h), ?_⟩
        refine roundIn_of_wpIn trivial ?_
        refine oka ρ1 _ w1 { tmps := ys, defers := [] } _ _ st1.rel hts.list .nil (fun l' hl' => by cases hl'; exact hl) (fun b hb hb' => hd2 b hb (by omega)) ?_
        intro ρa aa wa sta htsa hdfa
        have hag := sta.agree (fun b hb hb' => hd2 b hb (by omega))
        have hla : ρa.b l = ρ1.b l := hag.b _ hl
        obtain ⟨r', hheap, hlr, hset⟩ := loop_set sta.rel hfr
        refine ⟨_, begin_run (by rw [← hla]; exact hheap) (by rw [← hlr.state]; exact hready), ?_⟩
        have stb := hset { r with state := .busy } { r' with state := .busy } ⟨rfl, hlr.pending, hlr.tmps, hlr.params, hlr.assign, hlr.body, hlr.defers⟩
        have hlD : grow (grow D V.next V1.next) V1.next Va.next l := .inl hl
        rw [← hla]
        refine okb ρa _ _ aa _ _ (by have := stb.rel; rwa [grow_nil] at this) htsa hdfa (fun l' hl' => by cases hl'; exact hlD) ?_ ?_
        · intro b hb hb' hD
          rcases hD with hD | hD
          · exact hd2 b (by have : Va.next ≤ b := hb; omega) (by omega) hD
          · have : Va.next ≤ b := hb; omega
        · intro ρb ab wb stbb htsb hdfb
          have hd3 : ∀ b, Va.next ≤ b → b < Vb.next → ¬ grow (grow D V.next V1.next) V1.next Va.next b := by
            intro b hb hb' hD
            rcases hD with hD | hD
            · exact hd2 b (by omega) (by omega) hD
            · omega
          have hlb : ρb.b l = ρa.b l := (stbb.agree (fun b hb hb' => hd3 b hb hb')).b _ hlD
          have stab := (sta.trans stb st1.rel).trans stbb st1.rel
          obtain ⟨r2', hheap2, hlr2, hset2⟩ := loop_set stab.rel hfr2
          rw [← hlb]
          cases ex with
          | normal =>
            cases hr
            have := hset2 { r2 with state := .ready, pending := none } { r2' with state := .ready, pending := none } ⟨rfl, rfl, hlr2.tmps, hlr2.params, hlr2.assign, hlr2.body, hlr2.defers⟩
            exact ⟨_, _, end_run hheap2 none, hk' ρb _ _ (stab.trans this st1.rel) (.flat rfl)⟩
          | ret =>
            cases hr
            have := hset2 { r2 with state := .done, pending := some .ret } { r2' with state := .done, pending := some .ret } ⟨rfl, rfl, hlr2.tmps, hlr2.params, hlr2.assign, hlr2.body, hlr2.defers⟩
            exact ⟨_, _, end_run hheap2 (some .ret), hk' ρb _ _ (stab.trans this st1.rel) (.flat rfl)⟩
          | exit id =>
            cases hr
            have := hset2 { r2 with state := .done, pending := some (.exit id) } { r2' with state := .done, pending := some (.exit id) } ⟨rfl, rfl, hlr2.tmps, hlr2.params, hlr2.assign, hlr2.body, hlr2.defers⟩
            exact ⟨_, _, end_run hheap2 (some (.exit id)), hk' ρb _ _ (stab.trans this st1.rel) (.flat rfl)⟩
    · cases hr
end Go.Vm
