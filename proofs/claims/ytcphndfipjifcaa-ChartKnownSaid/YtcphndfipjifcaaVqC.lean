/- A run in the small memory is one in each related world: the simple steps. -/
import Derived.Test.YtcphndfipjifcaaVqB
namespace Go.Vm
variable {P : Program} {ρ ρ1 ρ2 : Ren} {D D1 : Nat → Prop} {g g1 g2 : Nat → Option Obj} {n m m2 : Nat} {w w1 w2 : World}

theorem runV_bind {α β : Type} (s : Sem α) (f : α → Sem β) (V : View) : runV P (s >>= f) V = (runV P s V).bind fun x => runV P (f x.1) x.2 := by
  show runV P (s.bind f) V = _
  induction s generalizing V with
  | pure a => rfl
  | load md a k ih => simp only [Sem.bind, runV]; split <;> simp [ih]
  | store md a v k ih => simp only [Sem.bind, runV]; (repeat' split) <;> simp [ih]
  | new o k ih => simp only [Sem.bind, runV]; split <;> simp [ih]
  | shape r k ih => rfl
  | freeze a n k ih => rfl
  | frozen a k ih => rfl
  | getObj r k ih => simp only [Sem.bind, runV]; (repeat' split) <;> simp [ih]
  | setObj r o k ih => simp only [Sem.bind, runV]; (repeat' split) <;> simp [ih]
  | choose q k ih => simp only [Sem.bind, runV]; split <;> simp [ih]
  | sys c k ih => rfl
  | program k ih => simp only [Sem.bind, runV]; exact ih _ _
  | mark m k ih => simp only [Sem.bind, runV]; exact ih _
  | halt h => rfl

theorem runV_next {α : Type} (s : Sem α) : ∀ (V V1 : View) (a : α), runV P s V = some (a, V1) → V.next ≤ V1.next := by
  induction s with
  | pure a => intro V V1 b h; simp only [runV] at h; cases h; exact Nat.le_refl _
  | load md a k ih =>
    intro V V1 b h; simp only [runV] at h
    split at h
    · exact ih _ _ _ _ h
    · cases h
  | store md a v k ih =>
    intro V V1 b h; simp only [runV] at h
    split at h
    · split at h
      · exact (ih _ _ _ h :)
      · cases h
    · cases h
  | new o k ih =>
    intro V V1 b h; simp only [runV] at h
    split at h
    · have := ih _ _ _ _ h; exact Nat.le_trans (Nat.le_succ _) this
    · cases h
  | getObj r k ih =>
    intro V V1 b h; simp only [runV] at h
    split at h
    · split at h
      · cases h
      · exact ih _ _ _ _ h
    · cases h
  | setObj r o k ih =>
    intro V V1 b h; simp only [runV] at h
    split at h
    · split at h
      · cases h
      · exact (ih _ _ _ h :)
    · cases h
  | choose q k ih =>
    intro V V1 b h; simp only [runV] at h
    split at h
    · exact ih _ _ _ _ h
    · cases h
  | program k ih => intro V V1 b h; simp only [runV] at h; exact ih _ _ _ _ h
  | mark mk k ih => intro V V1 b h; simp only [runV] at h; exact ih _ _ _ h
  | _ => intro V V1 b h; simp only [runV] at h; cases h

theorem runV_none {α β : Type} {s : Sem α} {f : α → Sem β} (h : ∀ a V, runV P (f a) V = none) (V : View) : runV P (s >>= f) V = none := by
  rw [runV_bind]
  cases runV P s V with
  | none => rfl
  | some p => exact h _ _
theorem runV_panic {α : Type} (e : RuntimeError) (V : View) : runV P (Go.runtimePanic e : Sem α) V = none := by
  unfold runtimePanic
  refine runV_none (fun p V => ?_) V
  cases e
  case typeAssertion => exact runV_none (fun _ V => runV_none (fun _ V => rfl) V) V
  case panicNil => exact runV_none (fun _ V => runV_none (fun _ V => rfl) V) V
  all_goals rfl

def Sim (P : Program) (ρ : Ren) (D : Nat → Prop) (V : View) {α β : Type} (s : Sem α) (s' : Sem β) (Φ : Ren → (Nat → Prop) → α → β → Prop) : Prop :=
  ∀ w, WRel P ρ D V.get w → ∀ a V1, runV P s V = some (a, V1) → (∀ b, V.next ≤ b → b < V1.next → ¬ D b) →
    ∃ ρ1 a' w1, s'.run P w = .ok a' w1 ∧ Stepped P ρ D V.get V.next w ρ1 V1.get V1.next w1 ∧ Φ ρ1 (grow D V.next V1.next) a a'

section
variable {V : View} {α β γ δ : Type} {Φ : Ren → (Nat → Prop) → α → β → Prop} {Ψ : Ren → (Nat → Prop) → γ → δ → Prop}
theorem Sim.bind {s : Sem α} {s' : Sem β} {f : α → Sem γ} {f' : β → Sem δ} (h : Sim P ρ D V s s' Φ)
    (k : ∀ ρ1 D1 V1 a a', Agree ρ ρ1 D → (∀ b, D b → D1 b) → Φ ρ1 D1 a a' → Sim P ρ1 D1 V1 (f a) (f' a') Ψ) : Sim P ρ D V (s >>= f) (s' >>= f') Ψ := by
  intro w hw c V2 hr hd
  rw [runV_bind] at hr
  cases h1 : runV P s V with
  | none => rw [h1] at hr; cases hr
  | some p =>
    obtain ⟨a, V1⟩ := p
    rw [h1] at hr
    simp only [Option.bind_some] at hr
    have n1 := runV_next _ _ _ _ h1
    have n2 := runV_next _ _ _ _ hr
    obtain ⟨ρ1, a', w1, e1, st1, hφ⟩ := h w hw a V1 h1 (fun b hb hb' => hd b hb (by omega))
    have hag := st1.agree (fun b hb hb' => hd b hb (by omega))
    obtain ⟨ρ2, c', w2, e2, st2, hψ⟩ := k ρ1 _ V1 a a' hag (fun b hb => .inl hb) hφ w1 st1.rel c V2 hr (fun b hb hb' hD => by
      rcases hD with hD | hD
      · exact hd b (by omega) hb' hD
      · omega)
    refine ⟨ρ2, c', w2, ?_, st1.trans st2 hw, ?_⟩
    · rw [Sem.run_bind]; simp [e1, e2, Result.andThen]
    · rwa [grow_grow n1 n2] at hψ
theorem Sim.mono {Φ' : Ren → (Nat → Prop) → α → β → Prop} {s : Sem α} {s' : Sem β} (h : Sim P ρ D V s s' Φ) (hm : ∀ ρ1 D1 a a', Agree ρ ρ1 D → (∀ b, D b → D1 b) → Φ ρ1 D1 a a' → Φ' ρ1 D1 a a') : Sim P ρ D V s s' Φ' :=
  fun w hw a V1 hr hd => let ⟨ρ1, a', w1, e, st, hφ⟩ := h w hw a V1 hr hd; ⟨ρ1, a', w1, e, st, hm _ _ _ _ (st.agree hd) (fun _ h => .inl h) hφ⟩
theorem Sim.pure {a : α} {b : β} (h : Φ ρ D a b) : Sim P ρ D V (Pure.pure a) (Pure.pure b) Φ := by
  intro w hw c V1 hr hd
  have hr : some (a, V) = some (c, V1) := hr
  cases hr
  exact ⟨ρ, b, w, rfl, .refl hw, by rwa [grow_nil]⟩
theorem Sim.halt {h : Halt} {s' : Sem β} : Sim P ρ D V (Sem.halt h : Sem α) s' Φ := by
  intro w hw c V1 hr hd; cases hr
theorem Sim.stuck {why : String} {s' : Sem β} : Sim P ρ D V (Go.stuck why : Sem α) s' Φ := Sim.halt
theorem Sim.unsupported {u : Unsupported} {s' : Sem β} : Sim P ρ D V (Go.unsupported u : Sem α) s' Φ := Sim.halt
theorem Sim.program {f : Program → Sem α} {f' : Program → Sem β} (h : Sim P ρ D V (f P) (f' P) Φ) : Sim P ρ D V (Go.program >>= f) (Go.program >>= f') Φ := by
  intro w hw c V1 hr hd
  rw [runV_bind] at hr
  simp only [Go.program, runV, Option.bind_some] at hr
  obtain ⟨ρ1, a', w1, e, r⟩ := h w hw c V1 hr hd
  refine ⟨ρ1, a', w1, ?_, r⟩
  rw [Sem.run_bind]; simp [Go.program, Sem.run, Result.andThen, e]
theorem Sim.panic {e : RuntimeError} {s' : Sem β} : Sim P ρ D V (Go.runtimePanic e : Sem α) s' Φ := by
  intro w hw c V1 hr hd
  rw [runV_panic] at hr; cases hr
end
end Go.Vm
