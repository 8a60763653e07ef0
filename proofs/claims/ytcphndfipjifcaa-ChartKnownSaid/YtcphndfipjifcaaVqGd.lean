/- The quick machine: operations, one by one. -/
import Derived.Test.YtcphndfipjifcaaVqGc
namespace Go.Vm
variable {P : Program}

noncomputable def fVal : Value → (Value → Bool) → Bool := Value.rec (motive_1 := fun _ => (Value → Bool) → Bool) (motive_2 := fun _ => Unit) (motive_3 := fun _ => Unit)
  (fun x0 k => k (.bool x0))
  (fun x0 x1 k => k (.int x0 x1))
  (fun x0 x1 k => k (.float x0 x1))
  (fun x0 x1 x2 k => k (.complex x0 x1 x2))
  (fun x0 k => k (.string x0))
  (fun x0 k => k (.pointer x0))
  (fun x0 x1 x2 k => k (.slice x0 x1 x2))
  (fun x0 k => k (.map x0))
  (fun x0 k => k (.chan x0))
  (fun x0 x1 x2 _ _ k => k (.func x0 x1 x2))
  (fun k => k .nilFunc)
  (fun x0 x1 _ k => k (.iface x0 x1))
  (fun k => k .nilIface)
  (fun x0 _ k => k (.agg x0))
  (fun x0 _ k => k (.tuple x0))
  (fun _ _ => ()) () (fun _ _ _ _ => ())
theorem fVal_eq (v : Value) (k : Value → Bool) : fVal v k = k v := by cases v <;> rfl

structure PureOK (P : Program) (e : Operand → Value) (o : Oper) (v : Value) : Prop where
  run : ∀ V, runOp P e o V = some (.value v, V)
  foot : footOf e o = .none

theorem run_under {t : TypeId} {d : TypeDesc} (h : P.underlying t = some d) (V : View) : runV P (Go.underlying t) V = some (d, V) := by
  unfold Go.underlying
  simp only [runV_bind, Go.program, runV, Option.bind, h]
  rfl
theorem run_info {t : TypeId} {i : TypeInfo} (h : P.info? t = some i) (V : View) : runV P (Go.typeInfo t) V = some (i, V) := by
  unfold Go.typeInfo
  simp only [runV_bind, Go.program, runV, Option.bind, h]
  rfl
theorem run_size {t : TypeId} {i : TypeInfo} (h : P.info? t = some i) (V : View) : runV P (Go.sizeOf t) V = some (i.size, V) := by
  unfold Go.sizeOf
  rw [runV_bind, run_info h]
  rfl
theorem run_zero {t : TypeId} {i : TypeInfo} {z : Value} (h : P.info? t = some i) (hz : i.zero = some z) (V : View) : runV P (Go.zeroValue t) V = some (z, V) := by
  unfold Go.zeroValue
  rw [runV_bind, run_info h]
  simp only [Option.bind, hz]
  rfl
theorem run_pure {α : Type} (a : α) (V : View) : runV P (pure a : Sem α) V = some (a, V) := rfl
theorem add_none (b o k : Nat) : Addr.add ⟨b, o, none⟩ k = ⟨b, o + k, none⟩ := by
  unfold Addr.add
  split
  · rename_i h; subst h; rfl
  · rfl

/-! what an operation computes, without the memory -/
noncomputable def pBin (op : BinOp) (x y : Opd) (env : Env) (K : Value → Bool) (s : Bool) : Bool := asI64 (getO x env) (fun a => asI64 (getO y env) (fun b => binI op a b K s) s) s
noncomputable def pNot (x : Opd) (env : Env) (K : Value → Bool) (s : Bool) : Bool := asB (getO x env) (fun b => mkB (notB b) K) s
noncomputable def pPick (c a b : Opd) (env : Env) (K : Value → Bool) (s : Bool) : Bool := asB (getO c env) (fun t => Bool.rec (motive := fun _ => Opd → Opd → Env → (Value → Bool) → Bool) (fun _ b env K => fVal (getO b env) K) (fun a _ env K => fVal (getO a env) K) t a b env K) s
noncomputable def pFa (off : Nat) (x : Opd) (env : Env) (K : Value → Bool) (s : Bool) : Bool := asPtr (getO x env) (fun b o => fNr (Nat.add o off) fun o => K (.pointer (some (Addr.mk b o none)))) s
noncomputable def ixG (size n b o : Nat) (z : Int) (K : Value → Bool) (s : Bool) : Bool := Int.rec (motive := fun _ => Nat → Nat → Nat → Nat → (Value → Bool) → Bool → Bool)
  (fun j size n b o K s => Bool.rec (motive := fun _ => Nat → Nat → Nat → Nat → (Value → Bool) → Bool → Bool) (fun _ _ _ _ _ s => s) (fun j size b o K _ => fNr (Nat.add o (Nat.mul j size)) fun o => K (.pointer (some (Addr.mk b o none)))) (Nat.ble (Nat.succ j) n) j size b o K s)
  (fun _ _ _ _ _ _ s => s) z size n b o K s
noncomputable def pIxs (size : Nat) (x i : Opd) (env : Env) (K : Value → Bool) (s : Bool) : Bool := asSl (getO x env) (fun b o n _ => asI64 (getO i env) (fun z => ixG size n b o z K s) s) s
noncomputable def pIxa (size len : Nat) (x i : Opd) (env : Env) (K : Value → Bool) (s : Bool) : Bool := asPtr (getO x env) (fun b o => asI64 (getO i env) (fun z => ixG size len b o z K s) s) s
noncomputable def pExt (j : Nat) (x : Opd) (env : Env) (K : Value → Bool) (s : Bool) : Bool := asTup (getO x env) (fun l => nthK l j fun v => fVal v K) s
noncomputable def pNil (x : Opd) (env : Env) (K : Value → Bool) (s : Bool) : Bool := asPtr (getO x env) (fun b o => K (.pointer (some (Addr.mk b o none)))) s
noncomputable def pLen (x : Opd) (env : Env) (K : Value → Bool) (s : Bool) : Bool := asSl (getO x env) (fun _ _ n _ => K (.int .i64 (.ofNat n))) s
noncomputable def mapO : List Opd → Env → (List Value → Bool) → Bool := List.rec (motive := fun _ => Env → (List Value → Bool) → Bool) (fun _ k => k []) (fun x _ ih env k => fVal (getO x env) fun v => ih env fun r => k (v :: r))
theorem mapO_eq {nt : Nat} {env : Env} {ts : List Value} (h : ERel nt env ts) : ∀ (l : List Operand) (k : List Value → Bool), l.all (okSlot nt) = true → mapO (l.map opdD) env k = k (l.map (ev ts))
  | [], k, _ => rfl
  | x :: l, k, hl => by
    simp only [List.all_cons, Bool.and_eq_true] at hl
    show fVal (getO (opdD x) env) (fun v => mapO (l.map opdD) env fun r => k (v :: r)) = _
    rw [fVal_eq, mapO_eq h l _ hl.2, getO_eq h hl.1]
    rfl

section
variable {nt : Nat} {env : Env} {ts : List Value} {d : Option Tmp} {ty : TypeId} {pos : String} {aft : Array Edge} {gd : Option (Nat × Bool)} {K : Value → Bool} {s : Bool}
theorem pBin_true (h : ERel nt env ts) {op : BinOp} {t t2 : TypeId} {x y : Operand} (hx : okSlot nt x = true) (hy : okSlot nt y = true) (hr : pBin op (opdD x) (opdD y) env K s = true) :
    (∃ v, PureOK P (ev ts) ⟨d, .binOp op t x y t2, ty, pos, aft, gd⟩ v ∧ K v = true) ∨ s = true := by
  unfold pBin at hr
  rw [getO_eq h hx, getO_eq h hy] at hr
  rcases asI64_true hr with ⟨a, ha, hr⟩ | hr
  · rcases asI64_true hr with ⟨b, hb, hr⟩ | hr
    · rcases binI_true hr with ⟨v, hv, hk⟩ | hr
      · refine .inl ⟨v, ⟨fun V => ?_, rfl⟩, hk⟩
        have hf : fBin op (ev ts x) (ev ts y) = some v := by rw [ha, hb]; exact hv
        have := fBin_run (P := P) (V := V) hf t x y
        simp only [runOp, this.1, this.2]
      · exact .inr hr
    · exact .inr hr
  · exact .inr hr
theorem pNot_true (h : ERel nt env ts) {t : TypeId} {x : Operand} (hx : okSlot nt x = true) (hr : pNot (opdD x) env K s = true) :
    (∃ v, PureOK P (ev ts) ⟨d, .unOp .not t x, ty, pos, aft, gd⟩ v ∧ K v = true) ∨ s = true := by
  unfold pNot at hr
  rw [getO_eq h hx] at hr
  rcases asB_true hr with ⟨b, hb, hr⟩ | hr
  · rw [mkB_eq, notB_eq] at hr
    refine .inl ⟨_, ⟨fun V => ?_, rfl⟩, hr⟩
    simp only [runOp, hb]
    rfl
  · exact .inr hr
theorem pPick_true (h : ERel nt env ts) {c a b : Operand} (hc : okSlot nt c = true) (ha : okSlot nt a = true) (hb : okSlot nt b = true) (hr : pPick (opdD c) (opdD a) (opdD b) env K s = true) :
    (∃ v, PureOK P (ev ts) ⟨d, .pick c a b, ty, pos, aft, gd⟩ v ∧ K v = true) ∨ s = true := by
  unfold pPick at hr
  rw [getO_eq h hc] at hr
  rcases asB_true hr with ⟨t, ht, hr⟩ | hr
  · cases t with
    | true =>
      have hr : fVal (getO (opdD a) env) K = true := hr
      rw [fVal_eq, getO_eq h ha] at hr
      exact .inl ⟨_, ⟨fun V => by simp only [runOp, ht], rfl⟩, hr⟩
    | false =>
      have hr : fVal (getO (opdD b) env) K = true := hr
      rw [fVal_eq, getO_eq h hb] at hr
      exact .inl ⟨_, ⟨fun V => by simp only [runOp, ht], rfl⟩, hr⟩
  · exact .inr hr
theorem pFa_true (h : ERel nt env ts) {t : TypeId} {x : Operand} {j off : Nat} (ho : fieldOff P t j = some off) (hx : okSlot nt x = true) (hr : pFa off (opdD x) env K s = true) :
    (∃ v, PureOK P (ev ts) ⟨d, .fieldAddr t x j, ty, pos, aft, gd⟩ v ∧ K v = true) ∨ s = true := by
  unfold pFa at hr
  rw [getO_eq h hx] at hr
  rcases asPtr_true hr with ⟨b, o, hb, hr⟩ | hr
  · rw [fNr_eq] at hr
    refine .inl ⟨_, ⟨fun V => ?_, rfl⟩, hr⟩
    have : fField P t (ev ts x) j = some (.pointer (some ⟨b, Nat.add o off, none⟩)) := by
      rw [hb]; simp only [fField, ho, add_none]; rfl
    simp only [runOp, fField_run this]
  · exact .inr hr
theorem ixG_true {size n b o : Nat} {z : Int} (hr : ixG size n b o z K s = true) : (∃ j, z = .ofNat j ∧ j < n ∧ K (.pointer (some ⟨b, o + j * size, none⟩)) = true) ∨ s = true := by
  cases z with
  | ofNat j =>
    have hr : Bool.rec (motive := fun _ => Nat → Nat → Nat → Nat → (Value → Bool) → Bool → Bool) (fun _ _ _ _ _ s => s) (fun j size b o K _ => fNr (Nat.add o (Nat.mul j size)) fun o => K (.pointer (some (Addr.mk b o none)))) (Nat.ble (Nat.succ j) n) j size b o K s = true := hr
    cases hq : Nat.ble (Nat.succ j) n with
    | true =>
      rw [hq] at hr
      simp only [fNr_eq] at hr
      exact .inl ⟨j, rfl, Nat.le_of_ble_eq_true hq, hr⟩
    | false => rw [hq] at hr; exact .inr hr
  | negSucc j => exact .inr hr
theorem index_run {t elem : TypeId} {info : TypeInfo} (hi : P.info? elem = some info) {b o n j : Nat} {x : Value} (hj : j < n)
    (hx : (∃ c, P.underlying t = some (.slice elem) ∧ x = .slice (some ⟨b, o, none⟩) n c) ∨ (P.underlying t = some (.array n elem) ∧ x = .pointer (some ⟨b, o, none⟩))) (V : View) :
    val (runV P (Instr.indexAt t x (.int .i64 (.ofNat j))) V) = some (.value (.pointer (some ⟨b, o + j * info.size, none⟩)), V) := by
  have h0 : (0 : Int) ≤ (j : Int) ∧ (j : Int) < (n : Int) := by omega
  have e : Go.asIntOf (.int .i64 (.ofNat j)) = pure (IntKind.i64, (j : Int)) := rfl
  unfold Instr.indexAt
  rw [e, pure_bind]
  rcases hx with ⟨c, hu, rfl⟩ | ⟨hu, rfl⟩
  · simp only [runV_bind, run_under hu, Option.bind_some, run_pure, h0, and_self, if_true, run_size hi, add_none, Int.toNat_natCast]
    by_cases h1 : n ≤ 1 <;> simp [h1, run_under hu, runV_bind, run_pure, h0, run_size hi, val]
  · simp only [runV_bind, run_under hu, Option.bind_some, run_pure, h0, and_self, if_true, run_size hi, add_none, Int.toNat_natCast, Instr.sureAddr]
    by_cases h1 : n ≤ 1 <;> simp [h1, run_under hu, runV_bind, run_pure, h0, run_size hi, val]
theorem pIxs_true (h : ERel nt env ts) {t elem : TypeId} {info : TypeInfo} {x i : Operand} (hu : P.underlying t = some (.slice elem)) (hi : P.info? elem = some info) (hx : okSlot nt x = true) (hy : okSlot nt i = true) (hr : pIxs info.size (opdD x) (opdD i) env K s = true) :
    (∃ v, PureOK P (ev ts) ⟨d, .indexAddr t x i, ty, pos, aft, gd⟩ v ∧ K v = true) ∨ s = true := by
  unfold pIxs at hr
  rw [getO_eq h hx, getO_eq h hy] at hr
  rcases asSl_true hr with ⟨b, o, n, c, hb, hr⟩ | hr
  · rcases asI64_true hr with ⟨z, hz, hr⟩ | hr
    · rcases ixG_true hr with ⟨j, rfl, hj, hk⟩ | hr
      · exact .inl ⟨_, ⟨fun V => by simp only [runOp, hb, hz]; exact index_run hi hj (.inl ⟨c, hu, rfl⟩) V, rfl⟩, hk⟩
      · exact .inr hr
    · exact .inr hr
  · exact .inr hr
theorem pIxa_true (h : ERel nt env ts) {t elem : TypeId} {n : Nat} {info : TypeInfo} {x i : Operand} (hu : P.underlying t = some (.array n elem)) (hi : P.info? elem = some info) (hx : okSlot nt x = true) (hy : okSlot nt i = true) (hr : pIxa info.size n (opdD x) (opdD i) env K s = true) :
    (∃ v, PureOK P (ev ts) ⟨d, .indexAddr t x i, ty, pos, aft, gd⟩ v ∧ K v = true) ∨ s = true := by
  unfold pIxa at hr
  rw [getO_eq h hx, getO_eq h hy] at hr
  rcases asPtr_true hr with ⟨b, o, hb, hr⟩ | hr
  · rcases asI64_true hr with ⟨z, hz, hr⟩ | hr
    · rcases ixG_true hr with ⟨j, rfl, hj, hk⟩ | hr
      · exact .inl ⟨_, ⟨fun V => by simp only [runOp, hb, hz]; exact index_run hi hj (.inr ⟨hu, rfl⟩) V, rfl⟩, hk⟩
      · exact .inr hr
    · exact .inr hr
  · exact .inr hr
theorem pExt_true (h : ERel nt env ts) {x : Operand} {j : Nat} (hx : okSlot nt x = true) (hr : pExt j (opdD x) env K s = true) :
    (∃ v, PureOK P (ev ts) ⟨d, .extract x j, ty, pos, aft, gd⟩ v ∧ K v = true) ∨ s = true := by
  unfold pExt at hr
  rw [getO_eq h hx] at hr
  rcases asTup_true hr with ⟨l, hl, hr⟩ | hr
  · obtain ⟨v, h1, h2⟩ := nthK_true hr
    rw [fVal_eq] at h2
    refine .inl ⟨v, ⟨fun V => ?_, rfl⟩, h2⟩
    have : (⟨l⟩ : Array Value)[j]? = some v := by simpa using h1
    simp only [runOp, hl, Instr.extract, this]
    rfl
  · exact .inr hr
theorem pNil_true (h : ERel nt env ts) {x : Operand} (hx : okSlot nt x = true) (hr : pNil (opdD x) env K s = true) :
    (∃ v, PureOK P (ev ts) ⟨d, .nilCheck x, ty, pos, aft, gd⟩ v ∧ K v = true) ∨ s = true := by
  unfold pNil at hr
  rw [getO_eq h hx] at hr
  rcases asPtr_true hr with ⟨b, o, hb, hr⟩ | hr
  · exact .inl ⟨_, ⟨fun V => by simp only [runOp, hb], rfl⟩, hr⟩
  · exact .inr hr
theorem pLen_true (h : ERel nt env ts) {t : TypeId} {elem : TypeId} {x : Operand} {c : Call} (hc : c.callee = .builtin .len) (ha : c.args.toList = [x]) (ht : c.argTypes[0]? = some t) (hu : P.underlying t = some (.slice elem)) (hx : okSlot nt x = true) (hr : pLen (opdD x) env K s = true) :
    (∃ v, PureOK P (ev ts) ⟨d, .call c, ty, pos, aft, gd⟩ v ∧ K v = true) ∨ s = true := by
  unfold pLen at hr
  rw [getO_eq h hx] at hr
  rcases asSl_true hr with ⟨b, o, n, cc, hb, hr⟩ | hr
  · refine .inl ⟨_, ⟨fun V => ?_, ?_⟩, hr⟩
    · simp only [runOp, runCall, hc, ha, List.map_cons, List.map_nil, hb]
      unfold Builtin.len_
      simp only [ht, List.getElem?_toArray, List.getElem?_cons_zero]
      simp [runV_bind, run_under hu, run_pure, val, Go.goInt]
    · simp only [footOf, hc, ha, List.map_cons, List.map_nil, hb]
  · exact .inr hr
theorem pMkf_ok (h : ERel nt env ts) {g : FuncId} {f c : Array Operand} (hf : f.toList.all (okSlot nt) = true) (hc : c.toList.all (okSlot nt) = true) {K : Value → Bool} (hr : mapO (f.toList.map opdD) env (fun l => mapO (c.toList.map opdD) env fun m => K (.func (.func g) ⟨l⟩ ⟨m⟩)) = true) :
    ∃ v, PureOK P (ev ts) ⟨d, .makeFunc (.func g) f c, ty, pos, aft, gd⟩ v ∧ K v = true := by
  rw [mapO_eq h _ _ hf, mapO_eq h _ _ hc] at hr
  exact ⟨_, ⟨fun V => rfl, rfl⟩, hr⟩
end
end Go.Vm
