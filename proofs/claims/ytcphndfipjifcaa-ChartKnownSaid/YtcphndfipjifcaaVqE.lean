/- The instructions, one by one. -/
import Derived.Test.YtcphndfipjifcaaVqD
import Derived.OrdersIn
namespace Go.Vm
variable {P : Program} {ρ ρ1 ρ2 : Ren} {D D1 : Nat → Prop} {V : View} {α β γ δ : Type}
  {Φ : Ren → (Nat → Prop) → α → β → Prop} {Ψ : Ren → (Nat → Prop) → γ → δ → Prop}

/-- what is asked of a program's tables -/
structure Good (P : Program) : Prop where
  zero : ∀ t i z, P.info? t = some i → i.zero = some z → flatN 3 z = true
  zsize : ∀ t i z, P.info? t = some i → i.zero = some z → z.cells.size = i.size
  mixed : P.follows .mixedOrders = true

abbrev Eq2 (α : Type) : Ren → (Nat → Prop) → α → α → Prop := fun _ _ a b => a = b
abbrev Any2 (α β : Type) : Ren → (Nat → Prop) → α → β → Prop := fun _ _ _ _ => True

theorem Sim.map {f : α → γ} {f' : β → δ} {s : Sem α} {s' : Sem β} (h : Sim P ρ D V s s' Φ)
    (k : ∀ ρ1 D1 a a', Agree ρ ρ1 D → (∀ b, D b → D1 b) → Φ ρ1 D1 a a' → Ψ ρ1 D1 (f a) (f' a')) : Sim P ρ D V (do let a ← s; Pure.pure (f a)) (do let a ← s'; Pure.pure (f' a)) Ψ :=
  .bind h fun ρ1 D1 V1 a a' hag hD hφ => .pure (k _ _ _ _ hag hD hφ)

theorem Sim.stops {s : Sem α} {s' : Sem β} (h : ∀ V, runV P s V = none) : Sim P ρ D V s s' Φ := by
  intro w hw a V1 hr hd; rw [h] at hr; cases hr
theorem Sim.underlying {t : TypeId} : Sim P ρ D V (Go.underlying t) (Go.underlying t) (fun _ _ a b => a = b ∧ P.underlying t = some a) := by
  unfold Go.underlying
  refine .program ?_
  cases h : P.underlying t with
  | none => exact .stuck
  | some d => exact .pure ⟨rfl, rfl⟩
theorem Sim.typeInfo {t : TypeId} : Sim P ρ D V (Go.typeInfo t) (Go.typeInfo t) (fun _ _ a b => a = b ∧ P.info? t = some a) := by
  unfold Go.typeInfo
  refine .program ?_
  cases h : P.info? t with
  | none => exact .stuck
  | some d => exact .pure ⟨rfl, rfl⟩
theorem Sim.sizeOf {t : TypeId} : Sim P ρ D V (Go.sizeOf t) (Go.sizeOf t) (fun _ _ a b => a = b ∧ P.cellsOf t = a) := by
  unfold Go.sizeOf
  refine .map .typeInfo ?_
  rintro ρ1 D1 a _ _ _ ⟨rfl, h⟩
  exact ⟨rfl, by simp [Program.cellsOf, h]⟩
theorem Sim.zeroValue (hP : Good P) {t : TypeId} : Sim P ρ D V (Go.zeroValue t) (Go.zeroValue t) (fun _ _ a b => a = b ∧ flatN 3 a = true) := by
  unfold Go.zeroValue
  refine .bind .typeInfo ?_
  rintro ρ1 D1 V1 a _ _ _ ⟨rfl, h⟩
  (try dsimp only)
  cases hz : a.zero with
  | none => exact .unsupported
  | some z => exact .pure ⟨rfl, hP.zero _ _ _ h hz⟩
theorem Sim.isAgg {t : TypeId} : Sim P ρ D V (Go.isAgg t) (Go.isAgg t) (Eq2 Bool) := by
  unfold Go.isAgg
  refine .bind .underlying ?_
  rintro ρ1 D1 V1 a _ _ _ ⟨rfl, h⟩
  (try dsimp only)
  cases a <;> exact .pure rfl

theorem Ren.addr_add (a : Addr) (k : Nat) : (ρ.addr a).add k = ρ.addr (a.add k) := by
  unfold Addr.add Ren.addr
  split
  · rfl
  · simp [Nat.add_assoc]
theorem add_block (a : Addr) (k : Nat) : (a.add k).block = a.block := by unfold Addr.add; split <;> rfl

theorem Sim.loadCellsFrom (n : Nat) : ∀ {ρ : Ren} {D : Nat → Prop} {V : View} {a : Addr} (i : Nat) {acc acc' : Array Value}, D a.block → ARel ρ D acc acc' →
    Sim P ρ D V (Go.loadCellsFrom a i n acc) (Go.loadCellsFrom (ρ.addr a) i n acc') ARel := by
  induction n with
  | zero => intro ρ D V a i acc acc' _ h; exact .pure h
  | succ n ih =>
    intro ρ D V a i acc acc' ha h
    unfold Go.loadCellsFrom
    rw [Ren.addr_add]
    refine .bind .load ?_
    intro ρ1 D1 V1 v v' hag hD hv
    rw [← hag.addr ha]
    exact ih _ (hD _ ha) ((h.ext hag hD).push hv)
theorem Sim.loadCells {a : Addr} (n : Nat) (ha : D a.block) : Sim P ρ D V (Go.loadCells a n) (Go.loadCells (ρ.addr a) n) ARel := Sim.loadCellsFrom n 0 ha .nil
theorem Sim.loadVar {t : TypeId} {a : Addr} (ha : D a.block) : Sim P ρ D V (Go.loadVar t a) (Go.loadVar t (ρ.addr a)) VR := by
  unfold Go.loadVar
  refine .bind .isAgg ?_
  rintro ρ1 D1 V1 b' _ hag hD rfl
  rw [← hag.addr ha]
  have ha := hD _ ha
  cases b' with
  | false => exact .load
  | true =>
    simp only [if_true]
    refine .bind .sizeOf ?_
    rintro ρ2 D2 V2 n _ hag2 hD2 ⟨rfl, _⟩
    rw [← hag2.addr ha]
    refine .map (.loadCells n (hD2 _ ha)) ?_
    rintro _ _ _ _ _ _ h
    exact .agg h.1 h.2
theorem Sim.storeCells {vs vs' : List Value} : ∀ {ρ : Ren} {D : Nat → Prop} {V : View} {a : Addr} (i : Nat), D a.block → LRel (VRel ρ D) vs vs' →
    Sim P ρ D V (Go.storeCells a vs i) (Go.storeCells (ρ.addr a) vs' i) (Any2 Unit Unit) := by
  induction vs generalizing vs' with
  | nil => intro ρ D V a i _ h; cases h; exact .pure trivial
  | cons v vs ih =>
    intro ρ D V a i ha h
    cases h with
    | cons hv ht =>
      unfold Go.storeCells
      rw [Ren.addr_add]
      refine .bind (.store hv) ?_
      intro ρ1 D1 V1 _ _ hag hD _
      rw [← hag.addr ha]
      exact ih _ (hD _ ha) (ht.mono fun _ _ r => r.ext hag hD)
theorem VRel.cells {v v' : Value} (h : VRel ρ D v v') : ARel ρ D v.cells v'.cells := by
  cases h with
  | agg h1 h2 => exact ⟨h1, h2⟩
  | flat hf => cases v <;> first | exact ARel.one (.flat hf) | simp [Vm.flat] at hf
  | ptr h => exact ARel.one (.ptr h)
  | slice h hc => exact ARel.one (.slice h hc)
  | grown h hl hs => exact ARel.one (.grown h hl hs)
  | map h => exact ARel.one (.map h)
  | func a b c d e => exact ARel.one (.func a b c d e)
  | tuple a b => exact ARel.one (.tuple a b)
  | iface a => exact ARel.one (.iface a)
theorem Sim.storeVar {t : TypeId} {a : Addr} {v v' : Value} (ha : D a.block) (hv : VRel ρ D v v') : Sim P ρ D V (Go.storeVar t a v) (Go.storeVar t (ρ.addr a) v') (Any2 Unit Unit) := by
  unfold Go.storeVar
  refine .bind .sizeOf ?_
  rintro ρ1 D1 V1 n _ hag hD ⟨rfl, _⟩
  have hc := (hv.ext hag hD).cells
  rw [← hc.1, ← hag.addr ha]
  split
  · exact .stops fun V => by rw [runV_bind]; rfl
  · exact .storeCells 0 (hD _ ha) hc.list
theorem Sim.newRow {c c' : Array Value} {e : TypeId} (hc : ARel ρ D c c') : Sim P ρ D V (Go.newRow e c) (Go.newRow e c')
    (fun ρ1 D1 a a' => D1 a.block ∧ a' = ρ1.addr a ∧ a.off = 0 ∧ a.spot = none ∧ ρ1.sz a.block = c'.size ∧ ρ1.es a.block = P.cellsOf e) := by
  unfold Go.newRow
  refine .map (.newCells hc) ?_
  rintro ρ1 D1 r r' hag hD ⟨h1, rfl, h3, h4, h5⟩
  exact ⟨h1, by simp [Ren.addr, h3], rfl, rfl, h4, h5⟩
theorem Sim.newVar {t : TypeId} {v v' : Value} (hv : VRel ρ D v v') : Sim P ρ D V (Go.newVar t v) (Go.newVar t v') (fun ρ1 D1 a a' => D1 a.block ∧ a' = ρ1.addr a) := by
  unfold Go.newVar
  exact (Sim.newRow hv.cells).mono fun _ _ _ _ _ _ h => ⟨h.1, h.2.1⟩

theorem Sim.sureAddr {v v' : Value} (hv : VRel ρ D v v') : Sim P ρ D V (Instr.sureAddr v) (Instr.sureAddr v') (fun ρ1 D1 a a' => D1 a.block ∧ a' = ρ1.addr a) := by
  cases hv with
  | ptr h => exact .pure ⟨h, rfl⟩
  | flat hf =>
    cases v <;> first | exact .stuck | skip
    rename_i a; cases a <;> first | exact .stuck | simp [Vm.flat] at hf
  | _ => exact .stuck
theorem Sim.asAddr {v v' : Value} (hv : VRel ρ D v v') : Sim P ρ D V (Go.asAddr v) (Go.asAddr v') (fun ρ1 D1 a a' => D1 a.block ∧ a' = ρ1.addr a) := by
  cases hv with
  | ptr h => exact .pure ⟨h, rfl⟩
  | flat hf =>
    cases v <;> first | exact .stuck | skip
    rename_i a; cases a <;> first | exact Sim.panic (e := .nilDeref) | simp [Vm.flat] at hf
  | _ => exact .stuck
theorem Sim.asIntOf {v v' : Value} (hv : VRel ρ D v v') : Sim P ρ D V (Go.asIntOf v) (Go.asIntOf v') (fun _ _ a b => a = b ∧ v = .int a.1 a.2) := by
  cases hv with
  | flat hf =>
    cases v <;> first | exact .stuck | skip
    · exact .pure ⟨rfl, rfl⟩
    · rename_i a; cases a <;> first | exact .stuck | simp [Vm.flat] at hf
  | ptr => exact .unsupported
  | _ => exact .stuck
theorem Sim.asInt {v v' : Value} (hv : VRel ρ D v v') : Sim P ρ D V (Go.asInt v) (Go.asInt v') (Eq2 Int) := by
  unfold Go.asInt
  refine .map (.asIntOf hv) ?_
  rintro _ _ _ _ _ _ ⟨rfl, _⟩; rfl
theorem Sim.bounds {k : IntKind} {x y : Int} {c : BoundsCode} {s' : Sem β} : Sim P ρ D V (Go.boundsPanic k x y c : Sem α) s' Φ := by
  intro w hw a V1 hr hd
  exfalso
  unfold boundsPanic at hr
  dsimp only at hr
  have : ∀ (q : Sem Bool) V, runV P (q >>= fun signed => (Go.runtimePanic (.bounds (IntKind.i64.wrap x) y signed c) : Sem α)) V = none := fun q V => runV_none (fun _ V => runV_panic _ V) V
  split at hr
  · rw [this] at hr; cases hr
  · rw [this] at hr; cases hr

/-- an operation that touches no memory, computed without any -/
def pureRun {α : Type} (P : Program) (s : Sem α) : Option α := match runV P s ⟨0, []⟩ with
  | some (a, ⟨0, _⟩) => some a
  | _ => none
theorem pure_run {α : Type} (s : Sem α) : ∀ (n : Nat) (a : α) (V1 : View), runV P s ⟨n, []⟩ = some (a, V1) → V1.next = n → V1 = ⟨n, []⟩ ∧ ∀ w, s.run P w = .ok a w := by
  induction s with
  | pure b => intro n a V1 h hn; simp only [runV] at h; cases h; exact ⟨rfl, fun w => rfl⟩
  | load m b k ih => intro n a V1 h hn; simp [runV, Vm.cell, find] at h
  | store m b v k ih => intro n a V1 h hn; simp [runV, find] at h
  | new o k ih =>
    intro n a V1 h hn; simp only [runV] at h
    split at h
    · have := runV_next _ _ _ _ h; simp at this; omega
    · cases h
  | getObj r k ih => intro n a V1 h hn; simp [runV, find] at h
  | setObj r o k ih => intro n a V1 h hn; simp [runV, find] at h
  | choose q k ih =>
    intro n a V1 h hn; simp only [runV] at h
    split at h
    · rename_i hq
      obtain ⟨h1, h2⟩ := ih _ _ _ _ h hn
      exact ⟨h1, fun w => by simp [Sem.run, hq, h2]⟩
    · cases h
  | program k ih =>
    intro n a V1 h hn; simp only [runV] at h
    obtain ⟨h1, h2⟩ := ih _ _ _ _ h hn
    exact ⟨h1, fun w => by simp [Sem.run, h2]⟩
  | mark m k ih =>
    intro n a V1 h hn; simp only [runV] at h
    obtain ⟨h1, h2⟩ := ih _ _ _ h hn
    exact ⟨h1, fun w => by simp [Sem.run, h2]⟩
  | _ => intro n a V1 h hn; simp only [runV] at h; cases h
theorem pureRun_run {α : Type} {s : Sem α} {a : α} (h : pureRun P s = some a) (w : World) : s.run P w = .ok a w := by
  unfold pureRun at h
  split at h
  · rename_i b r hb
    cases h
    exact (pure_run s 0 _ _ hb rfl).2 w
  · cases h
end Go.Vm
