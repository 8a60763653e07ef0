/- One operation is what the small memory has it be. -/
import Derived.Test.YtcphndfipjifcaaVqKb
namespace Go.Vm
variable {P : Program} {ρ ρ1 ρ2 : Ren} {D D1 : Nat → Prop} {V V1 : View} {w w1 : World}

def Outcome (P : Program) (ρ : Ren) (D : Nat → Prop) (V : View) (w : World) (s : Sem Next) (r : Next) (V1 : View) : Prop :=
  ∃ ρ1 r' w1, s.run P w = .ok r' w1 ∧ Stepped P ρ D V.get V.next w ρ1 V1.get V1.next w1 ∧ NRel ρ1 (grow D V.next V1.next) r r'

theorem val_sound {s s' : Sem Value} {r : Next} (h : Sim P ρ D V s s' VR) (hr : val (runV P s V) = some (r, V1)) (hw : WRel P ρ D V.get w) (hd : ∀ b, V.next ≤ b → b < V1.next → ¬ D b) :
    Outcome P ρ D V w (do pure (.value (← s'))) r V1 := by
  unfold val at hr
  split at hr
  · rename_i v V2 hv
    cases hr
    obtain ⟨ρ1, v', w1, h1, h2, h3⟩ := h w hw v V1 hv hd
    exact ⟨ρ1, _, w1, by rw [Sem.run_bind]; simp [h1, Result.andThen], h2, .value h3⟩
  · cases hr
theorem valc_sound {s s' : Sem Value} {r : Next} (h : Sim P ρ D V s s' VRc) (hr : valc (runV P s V) = some (r, V1)) (hw : WRel P ρ D V.get w) (hd : ∀ b, V.next ≤ b → b < V1.next → ¬ D b) :
    Outcome P ρ D V w (do pure (.value (← s'))) r V1 := by
  unfold valc at hr
  split at hr
  · rename_i a n c V2 hv
    split at hr
    · rename_i hc
      cases hr
      obtain ⟨ρ1, v', w1, h1, h2, h3⟩ := h w hw _ V1 hv hd
      exact ⟨ρ1, _, w1, by rw [Sem.run_bind]; simp [h1, Result.andThen], h2, .value (h3 hc)⟩
    · cases hr
  · rename_i v V2 hne hv
    cases hr
    obtain ⟨ρ1, v', w1, h1, h2, h3⟩ := h w hw _ V1 hv hd
    refine ⟨ρ1, _, w1, by rw [Sem.run_bind]; simp [h1, Result.andThen], h2, .value (h3 ?_)⟩
    split
    · rename_i a n c
      first | exact (hne _ _ _ _ rfl).elim | exact (hne _ _ _ rfl).elim | exact absurd hv (hne _ _ _ _)
    · rfl
  · cases hr
theorem pure_sound {s : Sem Value} {r : Next} (hr : pureV P s V = some (r, V1)) (hw : WRel P ρ D V.get w) :
    Outcome P ρ D V w (do pure (.value (← s))) r V1 := by
  unfold pureV at hr
  split at hr
  · rename_i v hv
    split at hr
    · rename_i hf
      cases hr
      refine ⟨ρ, .value v, w, by rw [Sem.run_bind]; simp [pureRun_run hv w, Result.andThen], .refl hw, .value ?_⟩
      exact VRel.of_flatN 3 v hf
    · cases hr
  · cases hr
theorem here {v v' : Value} (h : VRel ρ D v v') (hw : WRel P ρ D V.get w) : Outcome P ρ D V w (pure (.value v')) (.value v) V :=
  ⟨ρ, _, w, rfl, .refl hw, .value (by rw [grow_nil]; exact h)⟩
theorem args_rel {e e' : Operand → Value} {xs : Array Operand} (h : ∀ x, x ∈ xs → VRel ρ D (e x) (e' x)) : ARel ρ D (xs.toList.map e).toArray (xs.map e') := by
  refine ⟨by simp, fun i v v' h1 h2 => ?_⟩
  simp only [List.getElem?_toArray, List.getElem?_map, Option.map_eq_some_iff, Array.getElem?_toList] at h1
  simp only [Array.getElem?_map, Option.map_eq_some_iff] at h2
  obtain ⟨x, hx, rfl⟩ := h1
  obtain ⟨y, hy, rfl⟩ := h2
  rw [hx] at hy; cases hy
  exact h x (Array.mem_of_getElem? hx)
theorem parts_rel {e e' : Operand → Value} {ps : Array (Nat × Operand)} (h : ∀ p, p ∈ ps → VRel ρ D (e p.2) (e' p.2)) : LRel (PRel ρ D) (ps.toList.map fun p => (p.1, e p.2)) (ps.map fun (i, x) => (i, e' x)).toList := by
  refine LRel.of_get (by simp) fun i x y h1 h2 => ?_
  simp only [List.getElem?_map, Option.map_eq_some_iff, Array.getElem?_toList] at h1
  simp only [Array.getElem?_toList, Array.getElem?_map, Option.map_eq_some_iff] at h2
  obtain ⟨p, hp, rfl⟩ := h1
  obtain ⟨q, hq, rfl⟩ := h2
  rw [hp] at hq; cases hq
  exact ⟨rfl, h p (Array.mem_of_getElem? hp)⟩
theorem opt_flat {e e' : Operand → Value} {o : Option Operand} (h : ∀ x, o = some x → VRel ρ D (e x) (e' x)) (hf : flatO (o.map e) = true) : o.map e' = o.map e := by
  cases o with
  | none => rfl
  | some x => simp only [Option.map_some]; rw [(h x rfl).flatEq hf]

theorem Sim.loadAt {t : TypeId} {v v' : Value} (hv : VRel ρ D v v') : Sim P ρ D V (Instr.loadAt t v) (Instr.loadAt t v') VR := by
  unfold Instr.loadAt
  refine .bind (.sureAddr hv) ?_
  rintro ρ1 D1 V1 a _ hag hD ⟨ha, rfl⟩
  exact .loadVar ha
theorem Sim.storeAt {t : TypeId} {v v' x x' : Value} (hv : VRel ρ D v v') (hx : VRel ρ D x x') : Sim P ρ D V (Instr.storeAt t v x) (Instr.storeAt t v' x') (Any2 Unit Unit) := by
  unfold Instr.storeAt
  refine .bind (.sureAddr hv) ?_
  rintro ρ1 D1 V1 a _ hag hD ⟨ha, rfl⟩
  exact .storeVar ha (hx.ext hag hD)

theorem flat_all {xs ys : Array Value} (h : ARel ρ D xs ys) (hf : xs.toList.all flat = true) : ys = xs := by
  refine (Array.ext h.1 fun i h1 h2 => ?_).symm
  exact ((h.2 i _ _ (Array.getElem?_eq_getElem h1) (Array.getElem?_eq_getElem h2)).flatEq (List.all_eq_true.1 hf _ (by simp))).symm

theorem call_sound (hP : Good P) {o : Oper} {c : Call} (ho : o.op = .call c) {e e' : Operand → Value} {r : Next} (hops : ∀ x, x ∈ o.op.operands → VRel ρ D (e x) (e' x)) (hr : runCall P e c o.type V = some (r, V1)) (hw : WRel P ρ D V.get w) (hd : ∀ b, V.next ≤ b → b < V1.next → ¬ D b) :
    Outcome P ρ D V w (execOp e' o) r V1 := by
  have hargs := args_rel (ρ := ρ) (D := D) (e := e) (e' := e') (xs := c.args) fun x hx => hops x (by rw [ho]; simp [Op.operands, Call.operands, hx])
  unfold runCall at hr
  unfold execOp
  rw [ho]
  dsimp only at hr ⊢
  have hargl : LRel (VRel ρ D) (c.args.toList.map e) (c.args.map e').toList := by simpa using hargs.list
  unfold resolve
  cases hc : c.callee with
  | value f =>
    have hf := hops f (by rw [ho]; simp [Op.operands, Call.operands, hc])
    rw [hc] at hr
    dsimp only at hr ⊢
    generalize (c.args.toList.map e).toArray = xs at hr hargs
    generalize e f = v at hr hf
    generalize e' f = v' at hf ⊢
    split at hr
    · rename_i g first captured
      split at hr
      · rename_i hok
        cases hr
        cases hf with
        | flat h => simp [Vm.flat] at h
        | func hfn h1 h2 h3 h4 =>
          cases hfn
          rename_i xs' ys' _
          refine ⟨ρ, _, w, ?_, .refl hw, .enter (by rw [grow_nil]; exact ((ARel.append ⟨h1, h2⟩ hargs).append ⟨h3, h4⟩))⟩
          simp only [Deferred.ofValue, pure_bind, invoke]
          exact callOk_run hok _ w
      · cases hr
    · rename_i l first captured
      cases hf with
      | flat h => simp [Vm.flat] at h
      | func hfn h1 h2 h3 h4 =>
        cases hfn with
        | same hn => exact absurd rfl (hn _)
        | yield hl =>
          simp only [Deferred.ofValue, pure_bind, invoke]
          exact Sim.yield hl (ARel.append ⟨h1, h2⟩ hargs) w hw r V1 hr hd
    · cases hr
  | invoke a m => rw [hc] at hr; cases hr
  | builtin b =>
    rw [hc] at hr
    simp only [pure_bind, invoke]
    cases b <;> try (cases hr; done)
    case append =>
      dsimp only at hr
      split at hr
      · rename_i s x hsx
        have hl := hargl
        rw [hsx] at hl
        generalize c.args.map e' = ys at hl
        obtain ⟨ys⟩ := ys
        cases hl with
        | cons hs ht => cases ht with
          | cons hx ht => cases ht with
            | nil =>
              unfold val at hr
              split at hr
              · rename_i v V2 hv
                cases hr
                obtain ⟨ρ1, v', w1, h1, h2, h3⟩ := append_sound hP (t := o.type) hv hs hx hw hd
                refine ⟨ρ1, _, w1, ?_, h2, .value h3⟩
                unfold builtin
                rw [Sem.run_bind]; simp [h1, Result.andThen]
              · cases hr
      · cases hr
    case copy =>
      dsimp only at hr
      split at hr
      · rename_i s a n c2 hsx
        have hl := hargl
        rw [hsx] at hl
        generalize c.args.map e' = ys at hl
        obtain ⟨ys⟩ := ys
        cases hl with
        | cons hs ht => cases ht with
          | cons hx ht => cases ht with
            | nil => exact val_sound (.copy (fun s h => by cases h) hs hx) hr hw hd
      · cases hr
    case len => exact val_sound (.len hargs) hr hw hd
    case delete =>
      dsimp only at hr
      split at hr
      · rename_i t m k ht hsx
        have hl := hargl
        rw [hsx] at hl
        split at hr
        · rename_i hfk
          split at hr
          · rename_i V2 hdel
            cases hr
            generalize c.args.map e' = ys at hl
            obtain ⟨ys⟩ := ys
            cases hl with
            | cons hm ht' => cases ht' with
              | cons hk ht' => cases ht' with
                | nil =>
                  obtain ⟨w1, h1, h2⟩ := delete_sound (tt := o.type) ht hdel hm hw
                  rw [hk.flatEq hfk]
                  refine ⟨ρ, _, w1, ?_, h2, .value (VRel.of_flatN 3 _ rfl)⟩
                  unfold builtin
                  rw [Sem.run_bind]; simp [h1, Result.andThen]
          · cases hr
        · cases hr
      · cases hr
    case clear =>
      dsimp only at hr
      split at hr
      · rename_i t0 a n c2 ht hsx
        have hl := hargl
        rw [hsx] at hl
        generalize c.args.map e' = ys at hl
        obtain ⟨ys⟩ := ys
        cases hl with
        | cons hs ht' => cases ht' with
          | nil =>
            rcases hs.sliceInv with ⟨h, _⟩ | ⟨a0, c', h1, h2, rfl, _⟩
            · cases h
            cases h1
            exact val_sound (.clearSlice hP h2) hr hw hd
      · rename_i t r0 ht hsx
        have hl := hargl
        rw [hsx] at hl
        split at hr
        · rename_i V2 hcl
          cases hr
          generalize c.args.map e' = ys at hl
          obtain ⟨ys⟩ := ys
          cases hl with
          | cons hm ht' => cases ht' with
            | nil =>
              obtain ⟨w1, h1, h2⟩ := clear_sound (tt := o.type) ht hcl hm hw
              refine ⟨ρ, _, w1, ?_, h2, .value (VRel.of_flatN 3 _ rfl)⟩
              unfold builtin
              rw [Sem.run_bind]; simp [h1, Result.andThen]
        · cases hr
      · cases hr
    case max =>
      dsimp only at hr
      split at hr
      · rename_i hf
        rw [flat_all hargs (by simpa using hf)]
        exact pure_sound hr hw
      · cases hr
    case min =>
      dsimp only at hr
      split at hr
      · rename_i hf
        rw [flat_all hargs (by simpa using hf)]
        exact pure_sound hr hw
      · cases hr

theorem runOp_sound (hP : Good P) {o : Oper} {e e' : Operand → Value} {r : Next} (hops : ∀ x, x ∈ o.op.operands → VRel ρ D (e x) (e' x)) (hr : runOp P e o V = some (r, V1)) (hw : WRel P ρ D V.get w) (hd : ∀ b, V.next ≤ b → b < V1.next → ¬ D b) :
    Outcome P ρ D V w (execOp e' o) r V1 := by
  by_cases hcall : ∃ c, o.op = .call c
  · obtain ⟨c, hc⟩ := hcall
    unfold runOp at hr
    rw [hc] at hr
    exact call_sound hP hc hops hr hw hd
  unfold runOp at hr
  unfold execOp
  split at hr
  · rename_i x ho; rw [ho] at hops ⊢; cases hr
    exact here (hops x (by simp [Op.operands])) hw
  · rename_i x ho; rw [ho] at hops ⊢; cases hr
    exact here (hops x (by simp [Op.operands])) hw
  · rename_i c a b ho; rw [ho] at hops ⊢
    have hc := hops c (by simp [Op.operands])
    split at hr
    · rename_i hq; cases hr; rw [hq] at hc
      have := hc.flatEq rfl
      dsimp only; rw [this]
      exact here (hops a (by simp [Op.operands])) hw
    · rename_i hq; cases hr; rw [hq] at hc
      have := hc.flatEq rfl
      dsimp only; rw [this]
      exact here (hops b (by simp [Op.operands])) hw
    · cases hr
  · rename_i t ho; rw [ho]
    exact val_sound (.alloc hP) hr hw hd
  · rename_i t x ho; rw [ho] at hops ⊢
    exact val_sound (.box (hops x (by simp [Op.operands]))) hr hw hd
  · rename_i t ps ho; rw [ho] at hops ⊢
    exact val_sound (.build hP (parts_rel fun p hp => hops p.2 (by simp [Op.operands]; exact ⟨p.1, by simpa using hp⟩))) hr hw hd
  · rename_i t n ps ho; rw [ho] at hops ⊢
    split at hr
    · rename_i hn
      exact val_sound (.buildSlice hP (by simpa using hn) (parts_rel fun p hp => hops p.2 (by simp [Op.operands]; exact ⟨p.1, by simpa using hp⟩))) hr hw hd
    · cases hr
  · rename_i t a ho; rw [ho] at hops ⊢
    exact val_sound (.loadAt (hops a (by simp [Op.operands]))) hr hw hd
  · rename_i t a x ho; rw [ho] at hops ⊢
    split at hr
    · rename_i u V2 hv
      cases hr
      obtain ⟨ρ1, u', w1, h1, h2, h3⟩ := Sim.storeAt (P := P) (V := V) (t := t) (hops a (by simp [Op.operands])) (hops x (by simp [Op.operands])) w hw u V1 hv hd
      exact ⟨ρ1, _, w1, by dsimp only; rw [Sem.run_bind]; simp [h1, Result.andThen], h2, .skip⟩
    · cases hr
  · rename_i x ho; rw [ho] at hops ⊢
    have hx := hops x (by simp [Op.operands])
    dsimp only
    generalize e x = v at hr hx
    generalize e' x = v' at hx ⊢
    split at hr
    · cases hr
      cases hx with
      | flat h => simp [Vm.flat] at h
      | ptr ha => exact here (.ptr ha) hw
    · cases hr
      cases hx with
      | flat h => simp [Vm.flat] at h
      | func hf h1 h2 h3 h4 => cases hf; exact here (.func (.same (fun l h => by cases h)) h1 h2 h3 h4) hw
    · cases hr
      cases hx with
      | flat h => simp [Vm.flat] at h
      | func hf h1 h2 h3 h4 =>
        cases hf with
        | same hn => exact absurd rfl (hn _)
        | yield hl => exact here (.func (.yield hl) h1 h2 h3 h4) hw
    · cases hr
  · rename_i op t x y _ ho; rw [ho] at hops ⊢
    split at hr
    · rename_i hf
      simp only [Bool.and_eq_true] at hf
      dsimp only
      rw [(hops x (by simp [Op.operands])).flatN_eq 3 hf.1, (hops y (by simp [Op.operands])).flatN_eq 3 hf.2]
      exact pure_sound hr hw
    · cases hr
  · rename_i op t x ho; rw [ho] at hops ⊢
    split at hr
    · rename_i hf
      dsimp only
      rw [(hops x (by simp [Op.operands])).flatEq hf]
      exact pure_sound hr hw
    · cases hr
  · rename_i s d x ho; rw [ho] at hops ⊢
    split at hr
    · rename_i hf
      dsimp only
      rw [(hops x (by simp [Op.operands])).flatEq hf]
      exact pure_sound hr hw
    · cases hr
  · rename_i fn first captured ho; rw [ho] at hops ⊢
    split at hr
    · rename_i g
      cases hr
      have h1 := args_rel (ρ := ρ) (D := D) (e := e) (e' := e') (xs := first) fun x hx => hops x (by simp [Op.operands, hx])
      have h2 := args_rel (ρ := ρ) (D := D) (e := e) (e' := e') (xs := captured) fun x hx => hops x (by simp [Op.operands, hx])
      exact here (.func (.same (fun l h => by cases h)) h1.1 h1.2 h2.1 h2.2) hw
    · cases hr
  · rename_i t n c ho; rw [ho] at hops ⊢
    have hn := hops n (by simp [Op.operands])
    have hc := hops c (by simp [Op.operands])
    split at hr
    · rename_i j n' k c' e1 e2
      rw [e1] at hn; rw [e2] at hc
      have h1 := hn.flatEq rfl
      have h2 := hc.flatEq rfl
      dsimp only
      rw [h1, h2]
      exact val_sound (.makeSlice hP) hr hw hd
    · cases hr
  · rename_i t x lo hi mx ho; rw [ho] at hops ⊢
    have hx := hops x (by simp [Op.operands])
    split at hr
    · rename_i hf
      simp only [Bool.and_eq_true] at hf
      dsimp only
      rw [opt_flat (fun x hx => hops x (by simp [Op.operands, hx])) hf.1.1, opt_flat (fun x hx => hops x (by simp [Op.operands, hx])) hf.1.2, opt_flat (fun x hx => hops x (by simp [Op.operands, hx])) hf.2]
      generalize e x = v at hr hx
      split at hr
      · rename_i a n c
        split at hr
        · cases hr
        · rename_i hb
          exact valc_sound (.sliceAt hx (fun a n h => by cases h; rw [Nat.beq_refl] at hb; cases hb)) hr hw hd
      · rename_i hne
        exact valc_sound (.sliceAt hx (fun a n h => hne _ _ _ h)) hr hw hd
    · cases hr
  · rename_i t x k ho; rw [ho] at hops ⊢
    exact val_sound (.fieldAt (hops x (by simp [Op.operands]))) hr hw hd
  · rename_i t x k ho; rw [ho] at hops ⊢
    exact val_sound (.field (hops x (by simp [Op.operands]))) hr hw hd
  · rename_i t x i ho; rw [ho] at hops ⊢
    exact val_sound (.indexAt (hops x (by simp [Op.operands])) (hops i (by simp [Op.operands]))) hr hw hd
  · rename_i t x i ho; rw [ho] at hops ⊢
    exact val_sound (.index (hops x (by simp [Op.operands])) (hops i (by simp [Op.operands]))) hr hw hd
  · rename_i x k ho; rw [ho] at hops ⊢
    exact val_sound (.extract (hops x (by simp [Op.operands]))) hr hw hd
  · rename_i t r ho; rw [ho] at hops ⊢
    split at hr
    · exact val_sound .makeMap hr hw hd
    · cases hr
  · rename_i t m k ok ho; rw [ho] at hops ⊢
    split at hr
    · rename_i hf
      split at hr
      · rename_i v hv
        cases hr
        dsimp only
        rw [(hops k (by simp [Op.operands])).flatEq hf]
        obtain ⟨v', h1, h2⟩ := lookup_sound hP hv (hops m (by simp [Op.operands])) hw
        exact ⟨ρ, .value v', w, by rw [Sem.run_bind]; simp [h1, Result.andThen], .refl hw, .value (by rw [grow_nil]; exact h2)⟩
      · cases hr
    · cases hr
  · rename_i t m k ho; rw [ho] at hops ⊢
    unfold val at hr
    split at hr
    · rename_i v V2 hv
      cases hr
      obtain ⟨hfl, v', w1, h1, h2, h3⟩ := mapEntry_sound hP hv (hops m (by simp [Op.operands])) hw
      dsimp only
      rw [(hops k (by simp [Op.operands])).flatEq hfl]
      have hag := h2.agree hd
      exact ⟨ρ, .value v', w1, by rw [Sem.run_bind]; simp [h1, Result.andThen], h2, .value (h3.ext hag fun _ h => .inl h)⟩
    · cases hr
  · rename_i t m s x ho; rw [ho] at hops ⊢
    split at hr
    · rename_i V2 hv
      cases hr
      obtain ⟨w1, h1, h2⟩ := entryStore_sound (t := t) hv (hops m (by simp [Op.operands])) (hops s (by simp [Op.operands])) (hops x (by simp [Op.operands])) hw
      exact ⟨ρ, _, w1, by dsimp only; rw [Sem.run_bind]; simp [h1, Result.andThen], h2, .skip⟩
    · cases hr
  · rename_i c ho; exact absurd ⟨c, ho⟩ hcall
  · cases hr
end Go.Vm
