/- The quick machine: operations on the memory. -/
import Derived.Test.YtcphndfipjifcaaVqGd
namespace Go.Vm
variable {P : Program}

noncomputable def mLd (a : Opd) (env : Env) (m : Objs) (K : Value → Bool) (s : Bool) : Bool := asPtr (getO a env) (fun b o => findK m b fun ob => asCells ob fun l _ _ _ => nthK l o fun v => fVal v K) s
noncomputable def mLdn (size : Nat) (a : Opd) (env : Env) (m : Objs) (K : Value → Bool) (s : Bool) : Bool := asPtr (getO a env) (fun b o => findK m b fun ob => asCells ob fun l _ _ _ => dropK o l fun l => cutK size l fun l => K (.agg (Array.mk l))) s
noncomputable def eqLen : List Value → Nat → Bool := List.rec (motive := fun _ => Nat → Bool) (fun n => Nat.beq n 0) (fun _ _ ih n => Nat.rec (motive := fun _ => (Nat → Bool) → Bool) (fun _ => false) (fun j _ ih => ih j) n ih)
theorem eqLen_true : ∀ {l : List Value} {n : Nat}, eqLen l n = true → l.length = n
  | [], n, h => by have : Nat.beq n 0 = true := h; exact (Nat.eq_of_beq_eq_true this).symm
  | x :: l, 0, h => by cases h
  | x :: l, n + 1, h => by have : eqLen l n = true := h; simp [eqLen_true this]
/-- the cells of a value -/
noncomputable def cellsK (v : Value) (k : List Value → Bool) (s : Bool) : Bool := asAgg v k (asOne v (k [v]) s)
theorem cellsK_true {v : Value} {k : List Value → Bool} {s : Bool} (h : cellsK v k s = true) : k v.cells.toList = true ∨ s = true := by
  rcases asAgg_true h with ⟨l, rfl, h⟩ | h
  · exact .inl h
  · rcases asOne_true h with ⟨_, h2, h3⟩ | h
    · rw [h2]; exact .inl h3
    · exact .inr h
/-- some cells, one behind the other -/
noncomputable def stK : List Value → Nat → List Value → (List Value → Bool) → Bool := List.rec (motive := fun _ => Nat → List Value → (List Value → Bool) → Bool) (fun _ l k => k l)
  (fun v _ ih o l k => asOne v (setK l o v fun l => ih (Nat.succ o) l k) false)
noncomputable def mSt (size : Nat) (a x : Opd) (env : Env) (m : Objs) (K : Objs → Bool) (s : Bool) : Bool := asPtr (getO a env) (fun b o => findK m b fun ob => asCells ob fun l e _ y =>
  cellsK (getO x env) (fun cs => ifB (Nat.beq y 0) (ifB (eqLen cs size) (stK cs o l fun l => putK m b (.cells (Array.mk l) e (0, 0)) K) s) s) s) s

theorem ifB_true {b x y : Bool} (h : ifB b x y = true) : (b = true ∧ x = true) ∨ (b = false ∧ y = true) := by
  cases b
  · exact .inr ⟨rfl, h⟩
  · exact .inl ⟨rfl, h⟩
theorem put_put (l : Objs) (b : Nat) (x y : Obj) : put (put l b x) b y = put l b y := by
  induction l with
  | nil => rfl
  | cons p r ih =>
    obtain ⟨k, o⟩ := p
    simp only [put]
    cases hq : Nat.beq k b with
    | true => simp only [put, hq]
    | false => simp only [put, hq, ih]
theorem storeCells_run {b : Nat} {e : TypeId} : ∀ (cs : List Value) (i o lo : Nat) (l : List Value) (V : View) (k : List Value → Bool), cs ≠ [] → find V.objs b = some (.cells ⟨l⟩ e (lo, 0)) → stK cs (o + i) l k = true →
    ∃ l', runV P (Go.storeCells ⟨b, o, none⟩ cs i) V = some ((), ⟨V.next, put V.objs b (.cells ⟨l'⟩ e (0, 0))⟩) ∧ k l' = true
  | [], i, o, lo, l, V, k, hne, _, _ => absurd rfl hne
  | v :: cs, i, o, lo, l, V, k, _, hf, h => by
    rcases asOne_true h with ⟨h1, _, h2⟩ | h2
    · obtain ⟨h3, h4⟩ := setK_true h2
      have hst : runV P (Go.store (Addr.add ⟨b, o, none⟩ i) v) V = some ((), ⟨V.next, put V.objs b (.cells ⟨l.set (o + i) v⟩ e (0, 0))⟩) := by
        have hok : okStore (⟨l⟩ : Array Value) 0 ⟨b, o + i, none⟩ v = true := by
          simp [okStore, h1, h3, Nat.blt_eq]
        rw [add_none]
        simp only [Go.store, runV, hf, hok, Array.setIfInBounds]
        simp [h3]
      unfold Go.storeCells
      rw [runV_bind, hst]
      simp only [Option.bind_some]
      cases cs with
      | nil => exact ⟨_, rfl, h4⟩
      | cons u cs =>
        have h4 : stK (u :: cs) (o + (i + 1)) (l.set (o + i) v) k = true := h4
        have hf2 : find (put V.objs b (.cells ⟨l.set (o + i) v⟩ e (0, 0))) b = some (.cells ⟨l.set (o + i) v⟩ e (0, 0)) := by rw [find_put, if_pos rfl, hf]; rfl
        obtain ⟨l', h5, h6⟩ := storeCells_run (u :: cs) (i + 1) o 0 _ ⟨V.next, put V.objs b (.cells ⟨l.set (o + i) v⟩ e (0, 0))⟩ k (by simp) hf2 h4
        refine ⟨l', ?_, h6⟩
        rw [h5]
        simp only [put_put]
    · cases h2

section
variable {nt : Nat} {env : Env} {ts : List Value} {d : Option Tmp} {ty : TypeId} {pos : String} {aft : Array Edge} {gd : Option (Nat × Bool)} {s : Bool} {n : Nat} {m : Objs}
theorem mLd_true (h : ERel nt env ts) {t : TypeId} {a : Operand} {K : Value → Bool} (ht : aggB P t = some false) (ha : okSlot nt a = true) (hr : mLd (opdD a) env m K s = true) :
    (∃ v, runOp P (ev ts) ⟨d, .load t a, ty, pos, aft, gd⟩ ⟨n, m⟩ = some (.value v, ⟨n, m⟩) ∧ K v = true) ∨ s = true := by
  unfold mLd at hr
  rw [getO_eq h ha] at hr
  rcases asPtr_true hr with ⟨b, o, hb, hr⟩ | hr
  · obtain ⟨ob, h1, hr⟩ := findK_true hr
    obtain ⟨l, e, x, y, rfl, hr⟩ := asCells_true hr
    obtain ⟨v, h2, hr⟩ := nthK_true hr
    rw [fVal_eq] at hr
    refine .inl ⟨v, ?_, hr⟩
    have hf : fLoad P t (ev ts a) ⟨n, m⟩ = some v := by
      rw [hb]
      have h3 : cellAt ⟨n, m⟩ ⟨b, o, none⟩ = some (⟨l⟩ : Array Value) := by simp only [cellAt, h1]
      simp only [fLoad, h3, fLoadA, ht]
      simpa using h2
    simp only [runOp, fLoad_run hf]
  · exact .inr hr
theorem mLdn_true (h : ERel nt env ts) {t : TypeId} {i : TypeInfo} {a : Operand} {K : Value → Bool} (ht : aggB P t = some true) (hi : P.info? t = some i) (ha : okSlot nt a = true) (hr : mLdn i.size (opdD a) env m K s = true) :
    (∃ v, runOp P (ev ts) ⟨d, .load t a, ty, pos, aft, gd⟩ ⟨n, m⟩ = some (.value v, ⟨n, m⟩) ∧ K v = true) ∨ s = true := by
  unfold mLdn at hr
  rw [getO_eq h ha] at hr
  rcases asPtr_true hr with ⟨b, o, hb, hr⟩ | hr
  · obtain ⟨ob, h1, hr⟩ := findK_true hr
    obtain ⟨l, e, x, y, hob, hr2⟩ := asCells_true hr
    subst hob
    rw [dropK_eq] at hr2
    obtain ⟨c, h2, hr3⟩ := cutK_true hr2
    refine .inl ⟨_, ?_, hr3⟩
    have hf : fLoad P t (ev ts a) ⟨n, m⟩ = some (.agg ⟨c⟩) := by
      rw [hb]
      have h3 : cellAt ⟨n, m⟩ ⟨b, o, none⟩ = some (⟨l⟩ : Array Value) := by simp only [cellAt, h1]
      simp only [fLoad, h3, fLoadA, ht, hi, fLoadN, h2]
    simp only [runOp, fLoad_run hf]
  · exact .inr hr
theorem mSt_true (h : ERel nt env ts) {t : TypeId} {i : TypeInfo} {a x : Operand} {K : Objs → Bool} (hi : P.info? t = some i) (hz : i.size ≠ 0) (ha : okSlot nt a = true) (hx : okSlot nt x = true) (hn : inb n m = true) (hr : mSt i.size (opdD a) (opdD x) env m K s = true) :
    (∃ m1, runOp P (ev ts) ⟨d, .store t a x, ty, pos, aft, gd⟩ ⟨n, m⟩ = some (.skip, ⟨n, m1⟩) ∧ inb n m1 = true ∧ K m1 = true) ∨ s = true := by
  unfold mSt at hr
  rw [getO_eq h ha, getO_eq h hx] at hr
  rcases asPtr_true hr with ⟨b, o, hb, hr⟩ | hr
  · obtain ⟨ob, h1, hr⟩ := findK_true hr
    obtain ⟨l, e, lo, y, hob, hr2⟩ := asCells_true hr
    subst hob
    rcases cellsK_true hr2 with hr3 | hr
    · rcases ifB_true hr3 with ⟨hy, hr4⟩ | ⟨_, hr⟩
      · rcases ifB_true hr4 with ⟨hl, hr5⟩ | ⟨_, hr⟩
        · have hy := Nat.eq_of_beq_eq_true hy
          subst hy
          have hl := eqLen_true hl
          have hne : (ev ts x).cells.toList ≠ [] := fun e => by rw [e] at hl; exact hz hl.symm
          obtain ⟨l', h2, hr6⟩ := storeCells_run (P := P) (ev ts x).cells.toList 0 o lo l ⟨n, m⟩ _ hne h1 hr5
          obtain ⟨_, hr7⟩ := putK_true hr6
          refine .inl ⟨_, ?_, by rw [inb_put]; exact hn, hr7⟩
          have h3 : runV P (Instr.storeAt t (ev ts a) (ev ts x)) ⟨n, m⟩ = some ((), ⟨n, put m b (.cells ⟨l'⟩ e (0, 0))⟩) := by
            rw [hb]
            unfold Instr.storeAt Go.storeVar
            have hs : runV P (Instr.sureAddr (.pointer (some ⟨b, o, none⟩))) ⟨n, m⟩ = some (⟨b, o, none⟩, ⟨n, m⟩) := rfl
            rw [runV_bind, hs]
            simp only [Option.bind_some]
            rw [runV_bind, run_size hi]
            simp only [Option.bind_some]
            have hl2 : (ev ts x).cells.size = i.size := by rw [← hl]; simp
            simp only [hl2, ne_eq, not_true_eq_false, if_false]
            exact h2
          simp only [runOp, h3]
        · exact .inr hr
      · exact .inr hr
    · exact .inr hr
  · exact .inr hr
theorem alloc_run {t : TypeId} {i : TypeInfo} {z : Value} (hi : P.info? t = some i) (hz : i.zero = some z) (V : View) :
    runOp P (ev ts) ⟨d, .alloc t, ty, pos, aft, gd⟩ V = some (.value (.pointer (some ⟨V.next, 0, none⟩)), ⟨V.next + 1, (V.next, .cells ⟨z.cells.toList⟩ t (0, 0)) :: V.objs⟩) := by
  simp only [runOp]
  unfold Instr.alloc
  rw [runV_bind, run_zero hi hz]
  simp only [Option.bind_some]
  unfold Go.newVar Go.newRow
  simp only [runV_bind, Go.newObj, runV, okNew, Nat.beq_refl, Bool.and_self, Option.bind_some, run_pure, val]
theorem box_run {t : TypeId} {x : Operand} (V : View) :
    runOp P (ev ts) ⟨d, .box t x, ty, pos, aft, gd⟩ V = some (.value (.pointer (some ⟨V.next, 0, none⟩)), ⟨V.next + 1, (V.next, .cells ⟨(ev ts x).cells.toList⟩ t (0, 0)) :: V.objs⟩) := by
  simp only [runOp]
  unfold Instr.box Go.newVar Go.newRow
  simp only [runV_bind, Go.newObj, runV, okNew, Nat.beq_refl, Bool.and_self, Option.bind_some, run_pure, val]
end
end Go.Vm
