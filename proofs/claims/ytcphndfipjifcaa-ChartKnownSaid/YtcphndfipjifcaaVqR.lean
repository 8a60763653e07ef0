/- The machine of the small memory is sound: calls. -/
import Derived.Test.YtcphndfipjifcaaVqQ
namespace Go.Vm
variable {P : Program} {ρ ρ1 ρ2 : Ren} {D D1 : Nat → Prop} {g : Nat → Option Obj} {V V1 V2 : View} {w w1 w2 : World} {n : Nat}

theorem Stepped.forget (h : WRel P ρ D g w) {b : Nat} {o0 : Obj} (hb : g b = some o0) (ho : owned o0 = true)
    (hz : w1.heap.size = w.heap.size) (hs : ∀ k, k ≠ ρ.b b → w1.heap[k]? = w.heap[k]?) (h1 : w1.os = w.os) (h2 : w1.tape = w.tape) (h3 : w1.output = w.output) :
    Stepped P ρ D g n w ρ (fun k => if k = b then none else g k) n w1 where
  next := Nat.le_refl _
  b _ _ := rfl
  o _ _ := rfl
  sz _ _ := rfl
  es _ _ := rfl
  rel := by
    rw [grow_nil]
    refine ⟨fun k x hk => ?_, fun k x hk => ?_, fun k x hk hx => ?_, fun k cs e fz hk hfz i v hi => ?_, fun k c x y hk hc hx hne => ?_⟩
    · (try dsimp only at hk); split at hk
      · cases hk
      · exact h.dom _ _ hk
    · (try dsimp only at hk); rw [hz]; split at hk
      · cases hk
      · exact h.real _ _ hk
    · (try dsimp only at hk); split at hk
      · cases hk
      · rename_i hne
        obtain ⟨h4, x', h5, h6⟩ := h.own _ _ hk hx
        exact ⟨h4, x', by rw [hs _ (h.inj k b _ _ hk hb hx hne)]; exact h5, h6⟩
    · (try dsimp only at hk); split at hk
      · cases hk
      · rename_i hne
        obtain ⟨v', h4, h5⟩ := h.ro _ _ _ _ hk hfz i v hi
        refine ⟨v', ?_, h5⟩
        rw [← h4]; unfold World.cell?; rw [hs _ (fun e => h.inj b k _ _ hb hk ho (fun e2 => hne e2.symm) e.symm)]
    · (try dsimp only at hk hc)
      split at hk
      · cases hk
      · split at hc
        · cases hc
        · exact h.inj _ _ _ _ hk hc hx hne
  os := h1
  tape := h2
  output := h3
  size := by omega
  frame k hk hn := hs k (fun e => hn b o0 hb ho e.symm)
  fresh k x hk hx := by
    (try dsimp only at hk); split at hk
    · cases hk
    · exact .inr ⟨k, x, hk, hx, rfl⟩

theorem leaves {F : Fence} {k : Nat} {fn : Func} {tmps : Array Value} {R : Ending → World → Prop} : ∀ (df : List Nat) (ds : List Deferred) (objs l : List (Nat × Obj)) (w : World), DRel ρ D df ds → takeAll df objs = some l → WRel P ρ D (find objs) w →
    (∀ w', Stepped P ρ D (find objs) n w ρ (find l) n w' → LeavesIn F k P fn tmps R [] .returning w') → LeavesInM F k P fn tmps R ds .returning w := by
  intro df
  induction df with
  | nil =>
    intro ds objs l w hd ht hw hk
    cases hd
    simp only [takeAll] at ht
    cases ht
    exact hk w (.refl hw)
  | cons x df ih =>
    intro ds objs l w hd ht hw hk
    cases hd with
    | @cons _ d _ ds hx hd =>
      simp only [takeAll] at ht
      split at ht
      · rename_i hf
        obtain ⟨hD, rfl⟩ := hx
        obtain ⟨h1, o', h2, h3⟩ := hw.own x _ hf rfl
        cases h3
        have hlt := (Array.getElem?_eq_some_iff.1 h2).1
        have hrun : (Instr.takeDeferred (ρ.b x)).run P w = .ok [] { w with heap := w.heap.setIfInBounds (ρ.b x) (.deferred none) } := by
          unfold Instr.takeDeferred
          simp [Sem.run_bind, Go.getObj, Go.setObj, Sem.run, h2, Result.andThen]
        have st := Stepped.forget (n := n) (w1 := { w with heap := w.heap.setIfInBounds (ρ.b x) (.deferred none) }) hw hf rfl (by simp) (fun k hk => by simp [Array.getElem?_setIfInBounds, Ne.symm hk]) rfl rfl rfl
        have e : (fun k => if k = x then none else find objs k) = find (drop objs x) := by funext k; rw [find_drop]
        rw [e] at st
        refine ⟨(fun h => by cases h), .inl ⟨ρ.b x, _, rfl, hrun, ?_⟩⟩
        refine ih ds (drop objs x) l _ hd ht (by have := st.rel; rwa [grow_nil] at this) fun w' st' => hk w' ?_
        have := st.trans (by rw [grow_nil]; exact st') hw
        exact this
      · cases ht

theorem isAgg_run {t : TypeId} {b : Bool} (h : runV P (Go.isAgg t) V = some (b, V1)) (w : World) : V1 = V ∧ (Go.isAgg t).run P w = .ok b w := by
  unfold Go.isAgg Go.underlying at *
  simp only [bind_assoc] at *
  rw [runV_program] at h
  rw [Sem.run_bind]
  simp only [Go.program, Sem.run, Result.andThen]
  cases hu : P.underlying t with
  | none => rw [hu] at h; rw [runV_bind] at h; cases h
  | some d =>
    rw [hu] at h
    simp only [pure_bind] at h ⊢
    cases d <;> (cases h; exact ⟨rfl, rfl⟩)
theorem sizeOf_run {t : TypeId} {k : Nat} (h : runV P (Go.sizeOf t) V = some (k, V1)) (w : World) : V1 = V ∧ (Go.sizeOf t).run P w = .ok k w := by
  unfold Go.sizeOf Go.typeInfo at *
  simp only [bind_assoc] at *
  rw [runV_program] at h
  rw [Sem.run_bind]
  simp only [Go.program, Sem.run, Result.andThen]
  cases hu : P.info? t with
  | none => rw [hu] at h; rw [runV_bind] at h; cases h
  | some d =>
    rw [hu] at h
    simp only [pure_bind] at h ⊢
    cases h; exact ⟨rfl, rfl⟩
theorem loadVar_run (hw : WRel P ρ D V.get w) {t : TypeId} {a : Addr} {v : Value} (h : runV P (Go.loadVar t a) V = some (v, V1)) : V1 = V ∧ ∃ v', (Go.loadVar t (ρ.addr a)).run P w = .ok v' w ∧ VRel ρ D v v' := by
  unfold Go.loadVar at h ⊢
  rw [runV_bind] at h
  cases h1 : runV P (Go.isAgg t) V with
  | none => rw [h1] at h; cases h
  | some p =>
    obtain ⟨b, V2⟩ := p
    obtain ⟨rfl, hr1⟩ := isAgg_run h1 w
    rw [h1] at h
    simp only [Option.bind_some] at h
    rw [Sem.run_bind, hr1]
    simp only [Result.andThen]
    cases b with
    | false =>
      simp only [Bool.false_eq_true, if_false] at h ⊢
      simp only [Go.load, runV] at h
      split at h
      · rename_i v0 hv
        cases h
        obtain ⟨v', h3, h4⟩ := hw.cell hv
        exact ⟨rfl, v', by simp [Go.load, Sem.run, h3], h4⟩
      · cases h
    | true =>
      simp only [if_true] at h ⊢
      rw [runV_bind] at h
      cases h2 : runV P (Go.sizeOf t) V2 with
      | none => rw [h2] at h; cases h
      | some p =>
        obtain ⟨k, V3⟩ := p
        obtain ⟨rfl, hr2⟩ := sizeOf_run h2 w
        rw [h2] at h
        simp only [Option.bind_some] at h
        rw [Sem.run_bind, hr2]
        simp only [Result.andThen]
        rw [runV_bind] at h
        cases h3 : runV P (Go.loadCells a k) V3 with
        | none => rw [h3] at h; cases h
        | some p =>
          obtain ⟨cs, V4⟩ := p
          obtain ⟨rfl, cs', h4, h5, _⟩ := load_run hw h3
          rw [h3] at h
          cases h
          refine ⟨rfl, .agg cs', ?_, .agg h5.1 h5.2⟩
          rw [Sem.run_bind, h4]; rfl

def resF (tmps : Array Value) : ResultVar → Sem Value
  | .tmp t => pure (tmps.getD t undef)
  | .cell a t => do loadVar t (← asAddr (tmps.getD a undef))
theorem results_eq (fn : Func) (tmps : Array Value) : results fn tmps = (do let vs ← fn.results.mapM (resF tmps); pure (if h : vs.size = 1 then vs[0] else .tuple vs)) := by
  unfold results
  have : (fun (r : ResultVar) => match r with
    | .tmp t => (pure (tmps.getD t undef) : Sem Value)
    | .cell a t => do loadVar t (← asAddr (tmps.getD a undef))) = resF tmps := by funext r; cases r <;> rfl
  rw [← this]
  rfl
theorem resultsL_run (hw : WRel P ρ D V.get w) {ts : List Value} {tmps : Array Value} (ht : TRel ρ D ts tmps) : ∀ (rs : List ResultVar) (vs : List Value) (V1 : View), runV P (resultsL rs ts) V = some (vs, V1) →
    V1 = V ∧ ∃ vs', (rs.mapM (resF tmps)).run P w = .ok vs' w ∧ LRel (VRel ρ D) vs vs' := by
  intro rs
  induction rs with
  | nil => intro vs V1 h; cases h; exact ⟨rfl, [], rfl, .nil⟩
  | cons r rs ih =>
    intro vs V1 h
    rw [List.mapM_cons]
    cases r with
    | tmp t =>
      simp only [resultsL] at h
      rw [runV_bind] at h
      cases h1 : runV P (resultsL rs ts) V with
      | none => rw [h1] at h; cases h
      | some p =>
        obtain ⟨us, V2⟩ := p
        obtain ⟨rfl, us', h2, h3⟩ := ih _ _ h1
        rw [h1] at h
        cases h
        refine ⟨rfl, _ :: us', ?_, .cons (lget_rel ht t) h3⟩
        simp [resF, Sem.run_bind, h2, Result.andThen]
    | cell a t =>
      simp only [resultsL, resF] at h ⊢
      have hrel := lget_rel ht a
      generalize tmps.getD a undef = x at hrel
      generalize lget ts a = y at hrel h
      cases hrel with
      | ptr ha =>
        rename_i ad
        simp only [Go.asAddr, pure_bind] at h ⊢
        rw [runV_bind] at h
        cases h0 : runV P (Go.loadVar t ad) V with
        | none => rw [h0] at h; cases h
        | some p =>
          obtain ⟨u, V2⟩ := p
          obtain ⟨rfl, u', h4, h5⟩ := loadVar_run hw h0
          rw [h0] at h
          simp only [Option.bind_some] at h
          rw [runV_bind] at h
          cases h1 : runV P (resultsL rs ts) V2 with
          | none => rw [h1] at h; cases h
          | some p =>
            obtain ⟨us, V3⟩ := p
            obtain ⟨rfl, us', h2, h3⟩ := ih _ _ h1
            rw [h1] at h
            cases h
            refine ⟨rfl, u' :: us', ?_, .cons h5 h3⟩
            simp [Sem.run_bind, h2, h4, Result.andThen]
      | flat hf =>
        exfalso
        revert h
        rw [runV_bind]
        cases x <;> first | (intro h; cases h; done) | (rename_i q; cases q <;> first | (simp [Vm.flat] at hf; done) | (rw [show Go.asAddr (.pointer none) = (Go.runtimePanic .nilDeref : Sem Addr) from rfl, runV_panic]; intro h; cases h))
      | _ => exfalso; rw [runV_bind] at h; cases h

theorem shut_rel {vs vs' : List Value} (h : LRel (VRel ρ D) vs vs') : VRel ρ D (shut vs) (if h : vs'.toArray.size = 1 then vs'.toArray[0] else .tuple vs'.toArray) := by
  cases h with
  | nil => exact .tuple rfl (fun i v v' h => by simp at h)
  | cons h1 ht =>
    cases ht with
    | nil => exact h1
    | cons h2 ht =>
      have := LRel.arr (.cons h1 (.cons h2 ht))
      exact .tuple this.1 this.2
theorem find_keep (n : Nat) (l : List Nat) : ∀ (L : List (Nat × Obj)) (b : Nat) (o : Obj), find (keepR n l L) b = some o → (Nat.blt b n || memN b l) = true ∧ find L b = some o
  | [], b, o, h => by cases h
  | (k, p) :: r, b, o, h => by
    simp only [keepR] at h
    split at h
    · rename_i hk
      simp only [find] at h ⊢
      split at h
      · rename_i hb
        have := Nat.eq_of_beq_eq_true hb
        subst this
        exact ⟨hk, h⟩
      · exact find_keep n l r b o h
    · rename_i hk
      obtain ⟨h1, h2⟩ := find_keep n l r b o h
      refine ⟨h1, ?_⟩
      simp only [find]
      split
      · rename_i hb
        have := Nat.eq_of_beq_eq_true hb
        subst this
        rw [hk] at h1; cases h1
      · exact h2

theorem loadCells_same {a : Addr} : ∀ (k i : Nat) (acc : Array Value) {cs : Array Value}, runV P (Go.loadCellsFrom a i k acc) V = some (cs, V1) → V1 = V
  | 0, i, acc, cs, h => by cases h; rfl
  | k + 1, i, acc, cs, h => by
    simp only [Go.loadCellsFrom] at h
    rw [runV_bind] at h
    simp only [Go.load, runV] at h
    cases hc : cell V (a.add i) with
    | none => simp [hc] at h
    | some v =>
      simp only [hc, Option.bind_some] at h
      exact loadCells_same k (i + 1) _ h
theorem loadVar_same {t : TypeId} {a : Addr} {v : Value} (h : runV P (Go.loadVar t a) V = some (v, V1)) : V1 = V := by
  unfold Go.loadVar at h
  rw [runV_bind] at h
  cases h1 : runV P (Go.isAgg t) V with
  | none => rw [h1] at h; cases h
  | some p =>
    obtain ⟨b, V2⟩ := p
    obtain ⟨rfl, -⟩ := isAgg_run h1 default
    rw [h1] at h
    simp only [Option.bind_some] at h
    cases b with
    | false =>
      simp only [Bool.false_eq_true, if_false, Go.load, runV] at h
      split at h
      · cases h; rfl
      · cases h
    | true =>
      simp only [if_true] at h
      rw [runV_bind] at h
      cases h2 : runV P (Go.sizeOf t) V2 with
      | none => rw [h2] at h; cases h
      | some p =>
        obtain ⟨k, V3⟩ := p
        obtain ⟨rfl, -⟩ := sizeOf_run h2 default
        rw [h2] at h
        simp only [Option.bind_some] at h
        rw [runV_bind] at h
        cases h3 : runV P (Go.loadCells a k) V3 with
        | none => rw [h3] at h; cases h
        | some p =>
          obtain ⟨cs, V4⟩ := p
          rw [h3] at h
          cases h
          exact loadCells_same k 0 #[] h3
theorem step_call {sf : Job → Option Out} (hs : SelfOK P sf) {f : FuncId} {args : List Value} {v : Value} (h : step P sf (.call f args V) = some (.value v V1)) : V.next ≤ V1.next ∧ CallOK P f args V v V1 := by
  simp only [step] at h
  split at h
  case h_2 => cases h
  rename_i fn hfn
  split at h
  case h_2 => cases h
  rename_i c hc
  split at h
  case h_2 => cases h
  rename_i e ts df V2 hb
  obtain ⟨n1, okb⟩ := hs.code _ _ _ _ _ _ _ _ _ hb
  have main : ∀ l vs V3, takeAll df V2.objs = some l → runV P (resultsL fn.results.toList ts) ⟨V2.next, l⟩ = some (vs, V3) → (e = .normal ∨ e = .ret) → v = shut vs → V1.next = V3.next → (∀ b o, V1.get b = some o → V3.get b = some o) →
      V.next ≤ V1.next ∧ CallOK P f args V v V1 := by
    intro l vs V3 hl hr he hv hn hsub
    have hV3 : V3 = ⟨V2.next, l⟩ := by
      -- the loads leave all as it was
      have : ∀ (rs : List ResultVar) (vs : List Value) (V V1 : View), runV P (resultsL rs ts) V = some (vs, V1) → V1 = V := by
        intro rs
        induction rs with
        | nil => intro vs V V1 h; cases h; rfl
        | cons r rs ih =>
          intro vs V V1 h
          cases r with
          | tmp t =>
            simp only [resultsL] at h
            rw [runV_bind] at h
            cases h1 : runV P (resultsL rs ts) V with
            | none => rw [h1] at h; cases h
            | some p => obtain ⟨us, Vx⟩ := p; rw [h1] at h; cases h; exact ih _ _ _ h1
          | cell a t =>
            simp only [resultsL] at h
            cases ha : lget ts a <;> rw [ha] at h <;> first | (rw [runV_bind] at h; cases h; done) | skip
            rename_i q
            cases q with
            | none => rw [show Go.asAddr (.pointer none) = (Go.runtimePanic .nilDeref : Sem Addr) from rfl, runV_bind, runV_panic] at h; cases h
            | some ad =>
              simp only [Go.asAddr, pure_bind] at h
              rw [runV_bind] at h
              cases h0 : runV P (Go.loadVar t ad) V with
              | none => rw [h0] at h; cases h
              | some p =>
                obtain ⟨u, Vy⟩ := p
                have hy : Vy = V := loadVar_same h0
                subst hy
                rw [h0] at h
                simp only [Option.bind_some] at h
                rw [runV_bind] at h
                cases h1 : runV P (resultsL rs ts) Vy with
                | none => rw [h1] at h; cases h
                | some p => obtain ⟨us, Vx⟩ := p; rw [h1] at h; cases h; exact ih _ _ _ h1
      exact this _ _ _ _ hr
    subst hV3
    have hn : V1.next = V2.next := hn
    refine ⟨by omega, fun ρ D w args' n hw hargs hd => ?_⟩
    refine callsIn_of_wp_marks hfn hc trivial ?_
    refine okb ρ D w { tmps := args' ++ Array.replicate (fn.ntmps - args'.size) undef, defers := [] } n _ hw ?_ .nil (fun l hl => by cases hl) (fun b hb hb' => hd b hb (by omega)) ?_
    · show LRel _ _ _
      simp only [Array.toList_append, Array.toList_replicate]
      rw [show args'.size = args.length by simpa using hargs.length.symm]
      refine LRel.append hargs ?_
      generalize fn.ntmps - args.length = k
      induction k with
      | zero => exact .nil
      | succ k ih => simp only [List.replicate_succ]; exact .cons undef_rel ih
    · intro ρ1 a1 w1 st1 ht1 hdf1
      have hfin : LeavesInM Fence.wide n P fn a1.tmps (fun e w' => ∃ ρ1 v', e = .returned v' ∧ Stepped P ρ D V.get V.next w ρ1 V1.get V1.next w' ∧ VRel ρ1 (grow D V.next V1.next) v v') a1.defers .returning w1 := by
        refine leaves (n := V2.next) df _ _ l w1 hdf1 hl st1.rel fun w' st2 => ?_
        have st12 : Stepped P ρ D V.get V.next w ρ1 (find l) V2.next w' := by
          have hD : grow (grow D V.next V2.next) V2.next V2.next = grow D V.next V2.next := grow_nil
          exact st1.trans st2 hw
        have hw' : WRel P ρ1 (grow D V.next V2.next) (View.get ⟨V2.next, l⟩) w' := st12.rel
        obtain ⟨_, vs', hrun, hrel⟩ := resultsL_run hw' ht1 _ _ _ hr
        refine ⟨(if h : vs'.toArray.size = 1 then vs'.toArray[0] else .tuple vs'.toArray), ?_, ρ1, _, rfl, ?_, ?_⟩
        · rw [results_eq, Array.mapM_eq_mapM_toList]
          simp only [map_eq_pure_bind, bind_assoc, pure_bind]
          rw [Sem.run_bind, hrun]
          rfl
        · rw [hn]; exact st12.sub (fun b o hb => hsub b o hb)
        · rw [hn, hv]; exact shut_rel hrel
      rcases he with rfl | rfl <;> exact hfin
  split at h
  · cases h
  · rename_i hne
    have he : e = .normal ∨ e = .ret := by
      cases e with
      | normal => exact .inl rfl
      | ret => exact .inr rfl
      | exit id => exact absurd rfl (hne id)
    split at h
    · rename_i l hl
      split at h
      · rename_i vs V3 hr
        cases h
        exact main l vs V3 hl hr he rfl rfl (fun b o hb => (find_keep _ _ _ _ _ hb).2)
      · cases h
    · cases h
end Go.Vm
