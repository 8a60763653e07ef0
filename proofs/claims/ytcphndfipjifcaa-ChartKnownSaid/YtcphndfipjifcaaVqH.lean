/- len, copy, append. -/
import Derived.Test.YtcphndfipjifcaaVqG
namespace Go.Vm
variable {P : Program} {ρ ρ1 ρ2 : Ren} {D D1 : Nat → Prop} {V : View} {α β γ δ : Type} {w w1 : World}
  {Φ : Ren → (Nat → Prop) → α → β → Prop} {Ψ : Ren → (Nat → Prop) → γ → δ → Prop}

theorem VRel.mapInv {x : Option Nat} {v' : Value} (h : VRel ρ D (.map x) v') : (x = none ∧ v' = .map none) ∨ ∃ r, x = some r ∧ D r ∧ v' = .map (some (ρ.b r)) := by
  cases h with
  | flat hf => cases x <;> first | exact .inl ⟨rfl, rfl⟩ | simp [Vm.flat] at hf
  | map hr => exact .inr ⟨_, rfl, hr, rfl⟩
theorem VRel.chanInv {x : Option Nat} {v' : Value} (h : VRel ρ D (.chan x) v') : x = none ∧ v' = .chan none := by
  cases h with
  | flat hf => cases x <;> first | exact ⟨rfl, rfl⟩ | simp [Vm.flat] at hf
theorem Sim.len {ts : Array TypeId} {t : TypeId} {xs ys : Array Value} (h : ARel ρ D xs ys) : Sim P ρ D V (Builtin.len_ ts t xs) (Builtin.len_ ts t ys) VR := by
  unfold Builtin.len_
  cases h0 : ts[0]? with
  | none => exact .stuck
  | some t0 =>
    cases h1 : xs[0]? with
    | none => exact .stuck
    | some x =>
      obtain ⟨y, h2, hv⟩ := h.get h1
      rw [h2]
      (try dsimp only)
      refine .bind .underlying ?_
      rintro ρ1 D1 V1 d _ hag hD ⟨rfl, -⟩
      have hv := hv.ext hag hD
      cases d <;> try exact .stuck
      case string => cases x <;> try exact .stuck
                     obtain rfl := hv.strInv
                     exact .pure (.flat rfl)
      case array => exact .pure (.flat rfl)
      case pointer =>
        (try dsimp only)
        refine .bind .underlying ?_
        rintro ρ1 D1 V1 d _ hag hD ⟨rfl, -⟩
        cases d <;> try exact .stuck
        exact .pure (.flat rfl)
      case slice =>
        cases x <;> try exact .stuck
        rcases hv.sliceInv with ⟨rfl, rfl⟩ | ⟨a, c', rfl, ha, rfl, _⟩ <;> exact .pure (.flat rfl)
      case map =>
        cases x <;> try exact .stuck
        rcases hv.mapInv with ⟨rfl, rfl⟩ | ⟨r, rfl, hr, rfl⟩
        · exact .pure (.flat rfl)
        · (try dsimp only)
          refine .bind .getObj ?_
          rintro ρ1 D1 V1 o o' hag hD ⟨hro, ho, -⟩
          cases ho with
          | map hm =>
            refine .pure ?_
            rw [show ∀ (a b : Array MapEntry), a.toList.length = b.toList.length → a.size = b.size from fun a b h => by simpa using h]
            · exact .flat rfl
            · exact hm.length
          | _ => exact .stuck
      case chan =>
        cases x <;> try exact .stuck
        obtain ⟨rfl, rfl⟩ := hv.chanInv
        exact .pure (.flat rfl)

theorem loadFrom_run {w : World} (hw : WRel P ρ D V.get w) {a : Addr} : ∀ (n i : Nat) {acc acc' cs : Array Value} {V1 : View}, ARel ρ D acc acc' → runV P (Go.loadCellsFrom a i n acc) V = some (cs, V1) →
    V1 = V ∧ ∃ cs', (Go.loadCellsFrom (ρ.addr a) i n acc').run P w = .ok cs' w ∧ ARel ρ D cs cs' ∧ cs.size = acc.size + n := by
  intro n
  induction n with
  | zero => intro i acc acc' cs V1 h hr; simp only [Go.loadCellsFrom] at hr; cases hr; exact ⟨rfl, acc', rfl, h, rfl⟩
  | succ n ih =>
    intro i acc acc' cs V1 h hr
    simp only [Go.loadCellsFrom] at hr
    rw [runV_bind] at hr
    simp only [Go.load, runV] at hr
    cases hc : cell V (a.add i) with
    | none => simp [hc] at hr
    | some v =>
      simp only [hc, Option.bind_some] at hr
      obtain ⟨v', h1, h2⟩ := hw.cell hc
      obtain ⟨e, cs', h3, h4, h5⟩ := ih (i + 1) (h.push h2) hr
      refine ⟨e, cs', ?_, h4, by simpa [Nat.add_assoc, Nat.add_comm 1] using h5⟩
      simp only [Go.loadCellsFrom]
      rw [Ren.addr_add, Sem.run_bind]
      simp [Go.load, Sem.run, h1, Result.andThen, h3]
theorem load_run {w : World} (hw : WRel P ρ D V.get w) {a : Addr} {n : Nat} {cs : Array Value} {V1 : View} (hr : runV P (Go.loadCells a n) V = some (cs, V1)) :
    V1 = V ∧ ∃ cs', (Go.loadCells (ρ.addr a) n).run P w = .ok cs' w ∧ ARel ρ D cs cs' ∧ cs.size = n := by
  have := loadFrom_run hw n 0 (ARel.nil) hr
  simpa [Go.loadCells] using this
theorem first_run {w : World} (hw : WRel P ρ D V.get w) {size n m c : Nat} {x : Option Addr} {x' : Value} {cs : Array Value} {V1 : View} (hx : VRel ρ D (.slice x m c) x') (hr : runV P (Builtin.firstCells size n (.slice x m c)) V = some (cs, V1)) :
    V1 = V ∧ ∃ cs', (Builtin.firstCells size n x').run P w = .ok cs' w ∧ ARel ρ D cs cs' := by
  rcases hx.sliceInv with ⟨rfl, rfl⟩ | ⟨a, c', rfl, ha, rfl, _⟩
  · simp only [Builtin.firstCells] at hr; cases hr; exact ⟨rfl, #[], rfl, .nil⟩
  · obtain ⟨h1, cs', h2, h3, _⟩ := load_run hw hr
    exact ⟨h1, cs', h2, h3⟩

theorem run_und {t : TypeId} {d : TypeDesc} (h : P.underlying t = some d) : (Go.underlying t).run P w = .ok d w := by simp [Go.underlying, Go.program, Sem.run, h, Sem.run_bind, Result.andThen]
theorem run_inf {t : TypeId} {d : TypeInfo} (h : P.info? t = some d) : (Go.typeInfo t).run P w = .ok d w := by simp [Go.typeInfo, Go.program, Sem.run, h, Sem.run_bind, Result.andThen]
theorem run_siz {t : TypeId} {d : TypeInfo} (h : P.info? t = some d) : (Go.sizeOf t).run P w = .ok d.size w := by unfold Go.sizeOf; rw [Sem.run_bind]; simp [run_inf h, Result.andThen]
theorem run_zer {t : TypeId} {d : TypeInfo} {z : Value} (h : P.info? t = some d) (hz : d.zero = some z) : (Go.zeroValue t).run P w = .ok z w := by unfold Go.zeroValue; rw [Sem.run_bind]; simp [run_inf h, Result.andThen, hz]

/-- cells stored one behind the other into a block of one's own -/
theorem store_run {b : Nat} {e : TypeId} : ∀ (vs : List Value) (off i : Nat) (w : World) (c : Array Value), w.heap[b]? = some (.cells c e (0, 0)) → off + i + vs.length ≤ c.size → (∀ v, v ∈ vs → one v = true) →
    ∃ (w1 : World) (c1 : Array Value), (Go.storeCells ⟨b, off, none⟩ vs i).run P w = .ok () w1 ∧ w1.heap[b]? = some (.cells c1 e (0, 0)) ∧ c1.size = c.size ∧ (∀ k, k < off + i → c1[k]? = c[k]?) ∧
      (∀ k, k < vs.length → c1[off + i + k]? = vs[k]?) ∧ (∀ k, k ≠ b → w1.heap[k]? = w.heap[k]?) ∧ w1.heap.size = w.heap.size ∧ w1.os = w.os ∧ w1.tape = w.tape ∧ w1.output = w.output := by
  intro vs
  induction vs with
  | nil => intro off i w c h1 _ _; exact ⟨w, c, rfl, h1, rfl, fun _ _ => rfl, fun k hk => by simp at hk, fun _ _ => rfl, rfl, rfl, rfl, rfl⟩
  | cons v vs ih =>
    intro off i w c h1 h2 h3
    simp only [List.length_cons] at h2
    have hlt : off + i < c.size := by omega
    have hadd : (⟨b, off, none⟩ : Addr).add i = ⟨b, off + i, none⟩ := by
      unfold Addr.add; split
      · rename_i h; subst h; rfl
      · rfl
    have hcell : w.cell? ⟨b, off + i, none⟩ = some c[off + i] := by simp [World.cell?, h1, hlt]
    have hfr : w.frozen? ⟨b, off + i, none⟩ = false := by simp [World.frozen?, h1]
    obtain ⟨hbz, hbv⟩ := Array.getElem?_eq_some_iff.1 h1
    have hset : (w.setCell ⟨b, off + i, none⟩ v).heap[b]? = some (.cells (c.setIfInBounds (off + i) v) e (0, 0)) := by
      simp only [World.setCell, Array.getElem?_modify, if_true, h1]; rfl
    obtain ⟨w1, c1, e1, e2, e3, e4, e5, e6, e7, e8, e9, e10⟩ := ih off (i + 1) (w.setCell ⟨b, off + i, none⟩ v) _ hset (by simp; omega) (fun x hx => h3 x (List.mem_cons_of_mem _ hx))
    refine ⟨w1, c1, ?_, e2, by simpa using e3, fun k hk => ?_, fun k hk => ?_, fun k hk => ?_, ?_, e8, e9, e10⟩
    · unfold Go.storeCells
      rw [hadd, Sem.run_bind]
      have h1v : one v = true := h3 v (by simp)
      have : (Go.store ⟨b, off + i, none⟩ v).run P w = .ok () (w.setCell ⟨b, off + i, none⟩ v) := by
        cases v <;> first | (simp [one] at h1v; done) | simp [Go.store, Sem.run, hcell, hfr]
      simp [this, Result.andThen, e1]
    · rw [e4 k (by omega)]; simp [Array.getElem?_setIfInBounds]; omega
    · cases k with
      | zero => rw [Nat.add_zero, e4 _ (by omega)]; simp [hlt]
      | succ k =>
        have := e5 k (by simpa using hk)
        rw [show off + i + (k + 1) = off + (i + 1) + k by omega, this]; simp
    · rw [e6 k hk]; simp [World.setCell, Array.getElem?_modify, Ne.symm hk]
    · rw [e7]; simp [World.setCell]
end Go.Vm
