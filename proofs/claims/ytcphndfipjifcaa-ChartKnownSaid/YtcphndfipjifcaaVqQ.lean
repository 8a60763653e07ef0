/- The machine of the small memory is sound: code and calls. -/
import Derived.Test.YtcphndfipjifcaaVqO
import Derived.Scope
namespace Go.Vm
variable {P : Program} {ρ ρ1 ρ2 : Ren} {D D1 : Nat → Prop} {V V1 V2 : View} {w w1 w2 : World}

theorem exit_then {K : Act → World → Prop} {Q : Exit → Act → World → Prop} {e : Ex} (he : e ≠ .normal) {a : Act} {w : World} (h : Q (exOf e) a w) : Exit.then K Q (exOf e) a w := by
  cases e <;> first | exact absurd rfl he | exact h

theorem loop_ok {sf : Job → Option Out} (hs : SelfOK P sf) {ar : Option Nat} {c : Code} {ts ts1 : List Value} {df df1 : List Nat} {e : Ex}
    (h : (match sf (.code ar c ts df V) with
      | some (.code .normal ts df V) => sf (.code ar (.loop c) ts df V)
      | r => r) = some (.code e ts1 df1 V1)) : V.next ≤ V1.next ∧ LoopOK P ar c ts df V e ts1 df1 V1 := by
  split at h
  · rename_i ts2 df2 V2 hb
    obtain ⟨n1, h1⟩ := hs.code _ _ _ _ _ _ _ _ _ hb
    have n2 := (hs.code _ _ _ _ _ _ _ _ _ h).1
    have h2 := hs.loop _ _ _ _ _ _ _ _ _ h
    refine ⟨Nat.le_trans n1 n2, fun ρ D w a n Q hw ht hdf har hd hk => ?_⟩
    obtain ⟨d1, d2⟩ := seq_disj n1 n2 hd
    refine at_unfold (h1 ρ D w a n _ hw ht hdf har d1 ?_)
    intro ρ1 a1 w1 st1 ht1 hdf1
    have hag := st1.agree d1
    show loopAt (fence (ar.map ρ.b)) n P c Q a1 w1
    rw [← ar_same har hag]
    refine h2 ρ1 _ w1 a1 n Q st1.rel ht1 hdf1 (ar_grow har _ _) d2 ?_
    intro ρ2 a2 w2 st2 ht2 hdf2
    rw [grow_grow n1 n2] at ht2 hdf2
    exact hk ρ2 a2 w2 (st1.trans st2 hw) ht2 hdf2
  · rename_i hne
    have he : e ≠ .normal := by rintro rfl; exact hne _ _ _ h
    obtain ⟨n1, h1⟩ := hs.code _ _ _ _ _ _ _ _ _ h
    refine ⟨n1, fun ρ D w a n Q hw ht hdf har hd hk => ?_⟩
    refine at_unfold (h1 ρ D w a n _ hw ht hdf har hd ?_)
    intro ρ1 a1 w1 st1 ht1 hdf1
    exact exit_then he (hk ρ1 a1 w1 st1 ht1 hdf1)

theorem step_loop {sf : Job → Option Out} (hs : SelfOK P sf) {ar : Option Nat} {c : Code} {ts ts1 : List Value} {df df1 : List Nat} {e : Ex} (h : step P sf (.code ar (.loop c) ts df V) = some (.code e ts1 df1 V1)) :
    V.next ≤ V1.next ∧ LoopOK P ar c ts df V e ts1 df1 V1 := by
  simp only [step] at h
  exact loop_ok hs h

theorem LRel.append {α β : Type} {R : α → β → Prop} {xs xs' : List α} {ys ys' : List β} (h : LRel R xs ys) (h' : LRel R xs' ys') : LRel R (xs ++ xs') (ys ++ ys') := by
  induction h with
  | nil => exact h'
  | cons a _ ih => exact .cons a ih
theorem arr_of_list {ts : List Value} {a : Array Value} (h : TRel ρ D ts a) : ARel ρ D ts.toArray a := by
  have := LRel.arr h
  simpa using this

theorem get_cons' (V : View) (m : Nat) {n : Nat} {o : Obj} : View.get ⟨m, (n, o) :: V.objs⟩ = fun k => if k = n then some o else V.get k := get_cons n m o V.objs
/-- what is laid when a range over a function begins -/
def laid (V1 : View) (ps : Array Tmp) (assign body : Code) (ts : List Value) (D0 : Nat) : View :=
  ⟨V1.next + 1, (V1.next, .loop { state := .ready, pending := none, fn := 0, tmps := ts.toArray, params := ps, assign, body, defers := D0 }) :: V1.objs⟩
theorem enter_ok {ar : Option Nat} {ts : List Value} {df df1 : List Nat} {a : Act} {ps : Array Tmp} {assign body : Code} {D0 : Nat} (fn : FuncId)
    (h : (match ar with
      | some l => match find V.objs l with
        | some (.loop r) => some (r.defers, V, df)
        | _ => none
      | none => some (V.next, ⟨V.next + 1, (V.next, .deferred (some [])) :: V.objs⟩, V.next :: df)) = some (D0, V1, df1))
    (hw : WRel P ρ D V.get w) (ht : TRel ρ D ts a.tmps) (hdf : DRel ρ D df a.defers) (har : ∀ l, ar = some l → D l) (hd : ∀ b, V.next ≤ b → b < V1.next + 1 → ¬ D b) :
    V.next ≤ V1.next ∧ ∃ ρ1 mark w1, (Instr.enterLoop fn a.tmps ps assign body (ar.map ρ.b)).run P w = .ok (ρ1.b V1.next, mark) w1 ∧
      Stepped P ρ D V.get V.next w ρ1 (laid V1 ps assign body ts D0).get (V1.next + 1) w1 ∧ DRel ρ1 (grow D V.next (V1.next + 1)) df1 (mark ++ a.defers) := by
  cases ar with
  | none =>
    cases h
    refine ⟨Nat.le_succ _, ?_⟩
    have hn0 : ¬ D V.next := hd _ (Nat.le_refl _) (by simp <;> omega)
    have hag0 : Agree ρ (ρ.put V.next w.heap.size 0 0) D := agree_put hn0
    have st0 := Stepped.alloc (n := V.next) (o := .deferred (some [])) (o' := .deferred (some [])) (sz := 0) (es := 0) hw hn0 .deferred rfl (fun _ _ _ h => by cases h)
    rw [← get_cons' V (V.next + 1)] at st0
    have hn1 : ¬ grow D V.next (V.next + 1) (V.next + 1) := by
      rintro (h | h)
      · exact hd _ (by simp) (by simp) h
      · omega
    have hag1 : ∀ z, Agree (ρ.put V.next w.heap.size 0 0) ((ρ.put V.next w.heap.size 0 0).put (V.next + 1) z 0 0) (grow D V.next (V.next + 1)) := fun z => agree_put hn1
    have st1 := Stepped.alloc (n := V.next + 1) (o := .loop { state := .ready, pending := none, fn := 0, tmps := ts.toArray, params := ps, assign, body, defers := V.next })
      (o' := .loop { state := .ready, pending := none, fn, tmps := a.tmps, params := ps, assign, body, defers := w.heap.size }) (sz := 0) (es := 0) st0.rel hn1
      (by
        simp only [Array.size_push]
        refine .loop ⟨rfl, rfl, (arr_of_list ht).ext (hag0.trans' (hag1 _)) (fun k hk => .inl (.inl hk)), rfl, rfl, rfl, .inl (.inr (by simp)), ?_⟩
        simp [Ren.put]) rfl (fun _ _ _ h => by cases h)
    rw [← get_cons' ⟨V.next + 1, (V.next, .deferred (some [])) :: V.objs⟩ (V.next + 1 + 1)] at st1
    refine ⟨_, [{ target := .collected w.heap.size, args := #[] }], _, ?_, st0.trans st1 hw, ?_⟩
    · simp [Instr.enterLoop, Sem.run_bind, Go.newObj, Sem.run, Result.andThen, Ren.put]
      exact ⟨rfl, rfl, rfl⟩
    · refine LRel.cons ⟨.inr (by simp <;> omega), by simp [Ren.put]⟩ ?_
      exact DRel.ext (D1 := grow D V.next (V.next + 1 + 1)) (hag0.trans' (hag1 _)) (fun k hk => .inl hk) hdf
  | some l =>
    dsimp only at h
    split at h
    · rename_i r hf
      cases h
      refine ⟨Nat.le_refl _, ?_⟩
      have hn0 : ¬ D V.next := hd _ (Nat.le_refl _) (by simp)
      obtain ⟨r', hheap, hlr, -⟩ := loop_set hw hf
      have hag0 : Agree ρ (ρ.put V.next w.heap.size 0 0) D := agree_put hn0
      have st1 := Stepped.alloc (n := V.next) (o := .loop { state := .ready, pending := none, fn := 0, tmps := ts.toArray, params := ps, assign, body, defers := r.defers })
        (o' := .loop { state := .ready, pending := none, fn, tmps := a.tmps, params := ps, assign, body, defers := r'.defers }) (sz := 0) (es := 0) hw hn0
        (.loop ⟨rfl, rfl, (arr_of_list ht).ext hag0 (fun k hk => .inl hk), rfl, rfl, rfl, .inl hlr.defers.1, by rw [hag0.b _ hlr.defers.1]; exact hlr.defers.2⟩) rfl (fun _ _ _ h => by cases h)
      rw [← get_cons' V (V.next + 1)] at st1
      refine ⟨_, [], _, ?_, st1, ?_⟩
      · simp [Instr.enterLoop, Instr.getLoop, Sem.run_bind, Go.newObj, Go.getObj, Sem.run, Result.andThen, hheap, Ren.put]
      · exact hdf.ext hag0 (fun k hk => .inl hk)
    · cases h

theorem step_code (hP : Good P) {sf : Job → Option Out} (hs : SelfOK P sf) (hdr : DrawOK P sf) {ar : Option Nat} {c : Code} {ts ts1 : List Value} {df df1 : List Nat} {e : Ex} (h : step P sf (.code ar c ts df V) = some (.code e ts1 df1 V1)) :
    V.next ≤ V1.next ∧ CodeOK P ar c ts df V e ts1 df1 V1 := by
  have stay : ∀ {c : Code} {e : Ex}, (∀ (F : Fence) (n : Nat) (Q : Exit → Act → World → Prop) (a : Act) (w : World), Q (exOf e) a w → c.wpIn F n P Q a w) → V.next ≤ V.next ∧ CodeOK P ar c ts df V e ts df V := by
    intro c e hc
    refine ⟨Nat.le_refl _, fun ρ D w a n Q hw ht hdf har hd hk => hc _ _ _ _ _ (hk ρ a w (.refl hw) (by rw [grow_nil]; exact ht) (by rw [grow_nil]; exact hdf))⟩
  cases c with
  | skip => simp only [step] at h; cases h; exact stay fun _ _ _ _ _ h => wpIn_skip h
  | label l => simp only [step] at h; cases h; exact stay fun _ _ _ _ _ h => wpIn_label h
  | exit id => simp only [step] at h; cases h; exact stay fun _ _ _ _ _ h => wpIn_exit h
  | ret => simp only [step] at h; cases h; exact stay fun _ _ _ _ _ h => wpIn_ret h
  | region id ops draw =>
    simp only [step] at h
    cases draw with
    | false =>
      dsimp only at h
      split at h
      · rename_i ts2 V2 hr
        cases h
        obtain ⟨n1, hsd⟩ := runOps_sound hP hs ops _ _ _ _ _ hr
        refine ⟨n1, fun ρ D w a n Q hw ht hdf har hd hk => ?_⟩
        refine wpIn_region ?_
        have := hsd ρ D w a n Q (ar.map ρ.b) 0 df (fun k o hk => by simpa using hk) hw ht hdf hd hk
        simpa [List.range_eq_range'] using this
      · cases h
    | true =>
      dsimp only at h
      split at h
      · rename_i hok
        split at h
        · rename_i ts2 V2 hr
          cases h
          obtain ⟨n1, hsd⟩ := hdr ops _ _ _ _ hok hr
          refine ⟨n1, fun ρ D w a n Q hw ht hdf har hd hk => ?_⟩
          exact wpIn_region_any hP.mixed (hsd ρ D w a n Q (ar.map ρ.b) df hw ht hdf hd hk)
        · cases h
      · cases h
  | seq x y =>
    simp only [step] at h
    split at h
    · rename_i ts2 df2 V2 hb
      obtain ⟨n1, h1⟩ := hs.code _ _ _ _ _ _ _ _ _ hb
      obtain ⟨n2, h2⟩ := hs.code _ _ _ _ _ _ _ _ _ h
      exact ⟨Nat.le_trans n1 n2, seq_ok n1 h1 n2 h2⟩
    · rename_i hne
      have he : e ≠ .normal := by rintro rfl; exact hne _ _ _ h
      obtain ⟨n1, h1⟩ := hs.code _ _ _ _ _ _ _ _ _ h
      refine ⟨n1, fun ρ D w a n Q hw ht hdf har hd hk => wpIn_seq (h1 ρ D w a n _ hw ht hdf har hd ?_)⟩
      intro ρ1 a1 w1 st1 ht1 hdf1
      exact exit_then he (hk ρ1 a1 w1 st1 ht1 hdf1)
  | cond c x y =>
    simp only [step] at h
    split at h
    · rename_i hc
      split at h
      · rename_i hv
        obtain ⟨n1, h1⟩ := hs.code _ _ _ _ _ _ _ _ _ h
        refine ⟨n1, fun ρ D w a n Q hw ht hdf har hd hk => wpIn_cond_true ?_ (h1 ρ D w a n _ hw ht hdf har hd hk)⟩
        have := ev_rel ht hc; rw [hv] at this; exact this.flatEq rfl
      · rename_i hv
        obtain ⟨n1, h1⟩ := hs.code _ _ _ _ _ _ _ _ _ h
        refine ⟨n1, fun ρ D w a n Q hw ht hdf har hd hk => wpIn_cond_false ?_ (h1 ρ D w a n _ hw ht hdf har hd hk)⟩
        have := ev_rel ht hc; rw [hv] at this; exact this.flatEq rfl
      · cases h
    · cases h
  | block id body =>
    simp only [step] at h
    split at h
    · rename_i j ts2 df2 V2 hb
      obtain ⟨n1, h1⟩ := hs.code _ _ _ _ _ _ _ _ _ hb
      split at h
      · rename_i hj
        have hj := Nat.eq_of_beq_eq_true hj
        cases h
        refine ⟨n1, fun ρ D w a n Q hw ht hdf har hd hk => wpIn_block (h1 ρ D w a n _ hw ht hdf har hd ?_)⟩
        intro ρ1 a1 w1 st1 ht1 hdf1
        simp only [exOf, Exit.inBlock, hj, if_true]
        exact hk ρ1 a1 w1 st1 ht1 hdf1
      · rename_i hj
        cases h
        refine ⟨n1, fun ρ D w a n Q hw ht hdf har hd hk => wpIn_block (h1 ρ D w a n _ hw ht hdf har hd ?_)⟩
        intro ρ1 a1 w1 st1 ht1 hdf1
        have hne : ¬ j = id := fun e => by rw [e, Nat.beq_refl] at hj; cases hj
        simp only [exOf, Exit.inBlock, hne, if_false]
        exact hk ρ1 a1 w1 st1 ht1 hdf1
    · rename_i hne
      obtain ⟨n1, h1⟩ := hs.code _ _ _ _ _ _ _ _ _ h
      refine ⟨n1, fun ρ D w a n Q hw ht hdf har hd hk => wpIn_block (h1 ρ D w a n _ hw ht hdf har hd ?_)⟩
      intro ρ1 a1 w1 st1 ht1 hdf1
      have := hk ρ1 a1 w1 st1 ht1 hdf1
      cases e with
      | normal => exact this
      | ret => exact this
      | exit j => exact absurd h (hne _ _ _ _)
  | loop c =>
    obtain ⟨n1, h1⟩ := step_loop hs h
    exact ⟨n1, fun ρ D w a n Q hw ht hdf har hd hk => loop_of_at (h1 ρ D w a n Q hw ht hdf har hd hk)⟩
  | scope body =>
    simp only [step] at h
    split at h
    · obtain ⟨n1, h1⟩ := hs.code _ _ _ _ _ _ _ _ _ h
      refine ⟨n1, fun ρ D w a n Q hw ht hdf har hd hk => ?_⟩
      show (Code.scope body).wpIn Fence.wide n P Q a w
      refine wpIn_wide.2 (wp_scope_straight ((wpIn_wide (n := n)).1 (h1 ρ D w a n _ hw ht hdf har hd ?_)))
      intro ρ1 a1 w1 st1 ht1 hdf1
      have := hk ρ1 a1 w1 st1 ht1 hdf1
      cases e <;> exact this
    · cases h
  | rangeFunc f ps assign body =>
    simp only [step] at h
    split at h
    case h_2 => cases h
    rename_i hcf
    split at h
    case h_2 => cases h
    rename_i g first captured hfv
    split at h
    case h_2 => cases h
    rename_i hok
    split at h
    case h_2 => cases h
    rename_i D0 V2 df2 hen
    split at h
    case h_2 => cases h
    rename_i v V3 hc
    split at h
    case h_2 => cases h
    rename_i r hfr
    have hc : sf (.call g ((first.toList ++ [.func (.yield V2.next) #[] #[]]) ++ captured.toList) (laid V2 ps assign body ts D0)) = some (.value v V3) := hc
    obtain ⟨n3, okc⟩ := hs.call _ _ _ _ _ hc
    have n3 : V2.next + 1 ≤ V3.next := n3
    have nV : V.next ≤ V2.next := by
      revert hen
      cases ar with
      | none => intro hen; cases hen; exact Nat.le_succ _
      | some l =>
        dsimp only
        split
        · intro hen; cases hen; exact Nat.le_refl _
        · intro hen; cases hen
    have key : ∀ (Vf : View) (df3 : List Nat) (hnf : V3.next ≤ Vf.next) (hst : r.state ≠ .busy), (∀ (ρ : Ren) (D : Nat → Prop) (w : World) (a : Act) (n : Nat) (Q : Exit → Act → World → Prop), WRel P ρ D (View.get ⟨V3.next, put V3.objs V2.next (.loop { r with state := .exhausted })⟩) w → TRel ρ D ts a.tmps → DRel ρ D df2 a.defers → (∀ l, ar = some l → D l) → (∀ b, V3.next ≤ b → b < Vf.next → ¬ D b) →
        (∀ ρ1 a1 w1, Stepped P ρ D (View.get ⟨V3.next, put V3.objs V2.next (.loop { r with state := .exhausted })⟩) V3.next w ρ1 Vf.get Vf.next w1 → TRel ρ1 (grow D V3.next Vf.next) ts1 a1.tmps → DRel ρ1 (grow D V3.next Vf.next) df3 a1.defers → Q (exOf e) a1 w1) →
        (match r.pending with
         | none => Q .normal a w
         | some c => c.wpIn (fence (ar.map ρ.b)) n P Q a w)) →
        V.next ≤ Vf.next ∧ CodeOK P ar (.rangeFunc f ps assign body) ts df V e ts1 df3 Vf := by
      intro Vf df3 hnf hst hlast
      refine ⟨by omega, fun ρ D w a n Q hw ht hdf har hd hk => ?_⟩
      refine wpIn_rangeFunc fun fn _ => ?_
      obtain ⟨-, ρ1, mark, w1, hrun, st1, hdf1⟩ := enter_ok (P := P) (ps := ps) (assign := assign) (body := body) fn hen hw ht hdf har (fun b hb hb' => hd b hb (by omega))
      have hag1 := st1.agree (fun b hb hb' => hd b hb (by omega))
      have hfrel := ev_rel ht hcf
      rw [hfv] at hfrel
      obtain ⟨first', captured', hev, hf1, hf2⟩ : ∃ first' captured', a.eval f = .func (.func g) first' captured' ∧ ARel ρ D first first' ∧ ARel ρ D captured captured' := by
        generalize a.eval f = fv at hfrel
        cases hfrel with
        | flat h => simp [Vm.flat] at h
        | func hfn h1 h2 h3 h4 => cases hfn; exact ⟨_, _, rfl, ⟨h1, h2⟩, ⟨h3, h4⟩⟩
      refine ⟨ρ1.b V2.next, mark, w1, { target := .fn (.func g) captured', args := first' ++ #[.func (.yield (ρ1.b V2.next)) #[] #[]] }, w1, g, (first' ++ #[.func (.yield (ρ1.b V2.next)) #[] #[]]) ++ captured', w1, hrun, ?_, fun f' _ => trivial, ?_, fun h => (by cases h), ?_⟩
      · simp only [resolve, rangeCall, hev, Deferred.ofValue]
        simp [Act.eval]
      · simp only [invoke]; exact callOk_run hok _ _
      · refine callsIn_fence ((okc ρ1 _ w1 _ (n - 1) st1.rel ?_ ?_).mono ?_)
        · simp only [Array.toList_append]
          refine LRel.append (LRel.append (hf1.ext hag1 fun _ h => .inl h).list (.cons (.func (.yield (.inr (by omega))) rfl (fun i v v' h => by simp at h) rfl (fun i v v' h => by simp at h)) .nil)) (hf2.ext hag1 fun _ h => .inl h).list
        · intro b hb hb' hD
          have hb : V2.next + 1 ≤ b := hb
          rcases hD with hD | hD
          · exact hd b (by omega) (by omega) hD
          · omega
        · rintro ed w2 ⟨ρ2, v', rfl, st2, -⟩
          have st2 : Stepped P ρ1 (grow D V.next (V2.next + 1)) (laid V2 ps assign body ts D0).get (V2.next + 1) w1 ρ2 V3.get V3.next w2 := st2
          have st12 := st1.trans st2 hw
          have hag2 : Agree ρ1 ρ2 (grow D V.next (V2.next + 1)) := st2.agree (fun b hb hb' hD => by
            rcases hD with hD | hD
            · exact hd b (by omega) (by omega) hD
            · omega)
          have hbl : ρ2.b V2.next = ρ1.b V2.next := hag2.b _ (.inr (by omega))
          obtain ⟨r', hheap, hlr, hset⟩ := loop_set st12.rel hfr
          have st3 := st12.trans (hset { r with state := .exhausted } { r' with state := .exhausted } ⟨rfl, hlr.pending, hlr.tmps, hlr.params, hlr.assign, hlr.body, hlr.defers⟩) hw
          refine ⟨r.pending, _, by rw [hlr.pending]; exact endLoop_run (by rw [← hbl]; exact hheap) (by rw [← hlr.state]; exact hst), ?_⟩
          have hagAll : Agree ρ ρ2 D := hag1.trans' hag2
          rw [← ar_same har hagAll, ← hbl]
          have hdd : ∀ b, V3.next ≤ b → b < Vf.next → ¬ grow D V.next V3.next b := by
            intro b hb hb' hD
            rcases hD with hD | hD
            · exact hd b (by omega) hb' hD
            · omega
          refine hlast ρ2 (grow D V.next V3.next) _ { a with defers := mark ++ a.defers } n Q ?_ ?_ ?_ ?_ hdd ?_
          · exact st3.rel
          · exact ht.ext hagAll fun _ h => .inl h
          · refine hdf1.ext hag2 fun k hk => ?_
            rcases hk with hk | hk
            · exact .inl hk
            · exact .inr (by omega)
          · exact ar_grow har _ _
          · intro ρ3 a3 w3 st4 ht4 hdf4
            have hle : V.next ≤ V3.next := by omega
            rw [grow_grow hle hnf] at ht4 hdf4
            exact hk ρ3 a3 w3 (st3.trans st4 hw) ht4 hdf4
    split at h
    case h_1 => cases h
    rename_i hbusy
    split at h
    · rename_i hpend
      cases h
      refine key _ _ (Nat.le_refl _) (fun hb => hbusy hb) ?_
      intro ρ D w a n Q hw ht hdf har hd hk
      rw [hpend]
      exact hk ρ a w (.refl hw) (by rw [grow_nil]; exact ht) (by rw [grow_nil]; exact hdf)
    · rename_i c hpend
      obtain ⟨n4, okj⟩ := hs.code _ _ _ _ _ _ _ _ _ h
      refine key _ _ n4 (fun hb => hbusy hb) ?_
      intro ρ D w a n Q hw ht hdf har hd hk
      rw [hpend]
      exact okj ρ D w a n Q hw ht hdf har hd hk
  | goto l => simp only [step] at h; cases h
  | refuse why => simp only [step] at h; cases h
end Go.Vm
