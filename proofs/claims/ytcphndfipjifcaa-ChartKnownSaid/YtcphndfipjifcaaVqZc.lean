/- Calls that answer plain values and leave all old memory as it was: known wherever they are called. -/
import Derived.Test.YtcphndfipjifcaaVqZb
namespace Go.Vm
variable {P : Program} {V V1 V2 : View}

theorem WRel.below {ρ : Ren} {D : Nat → Prop} {g : Nat → Option Obj} {w w1 : World} (h : WRel P ρ D g w) (hb : RowKit.Below w.heap.size w w1) : WRel P ρ D g w1 := by
  have he : ∀ b o, g b = some o → w1.heap[ρ.b b]? = w.heap[ρ.b b]? := fun b o hg => hb.block _ (h.real b o hg)
  refine ⟨h.dom, fun b o hg => Nat.lt_of_lt_of_le (h.real b o hg) hb.size, fun b o hg ho => ?_, fun b cs e fz hg hf i v hi => ?_, h.inj⟩
  · obtain ⟨h1, o', h2, h3⟩ := h.own b o hg ho
    exact ⟨h1, o', (he b o hg).trans h2, h3⟩
  · obtain ⟨v', h1, h2⟩ := h.ro b cs e fz hg hf i v hi
    refine ⟨v', ?_, h2⟩
    rw [← h1]
    unfold World.cell?
    rw [he b _ hg]
theorem Stepped.below {ρ : Ren} {D : Nat → Prop} {g : Nat → Option Obj} {n : Nat} {w w1 : World} (h : WRel P ρ D g w) (hb : RowKit.Below w.heap.size w w1) : Stepped P ρ D g n w ρ g n w1 :=
  ⟨Nat.le_refl _, fun _ _ => rfl, fun _ _ => rfl, fun _ _ => rfl, fun _ _ => rfl,
   (h.below hb).widen fun b hd => .inl hd, hb.os, hb.tape, hb.output, hb.size, fun k hk _ => hb.block k hk, fun b o hg ho => .inr ⟨b, o, hg, ho, rfl⟩⟩
theorem flat_args {ρ : Ren} {D : Nat → Prop} : ∀ {l l' : List Value}, LRel (VRel ρ D) l l' → l.all (flatN 3) = true → l' = l := by
  intro l l' h
  induction h with
  | nil => intro _; rfl
  | cons hx _ ih =>
    intro hf
    simp only [List.all_cons, Bool.and_eq_true] at hf
    rw [hx.flatN_eq 3 hf.1, ih hf.2]
/-- what is proved of a call with plain arguments in every world is known to the machine in every view -/
theorem CallOK.of_calls {f : FuncId} {args : List Value} {v : Value} (ha : args.all (flatN 3) = true) (hv : flatN 3 v = true)
    (h : ∀ w, Calls P f args.toArray w fun e w' => e = .returned v ∧ RowKit.Below w.heap.size w w') (V : View) : CallOK P f args V v V := by
  intro ρ D w args' n hw hl hd
  have e : args' = args.toArray := by
    have := flat_args hl ha
    cases args'; simp only at this; rw [this]
  subst e
  refine (callsIn_wide.2 (h w)).mono ?_
  rintro e w' ⟨he, hb⟩
  exact ⟨ρ, v, he, .below hw hb, VRel.of_flatN 3 v hv⟩
/-- a table of such calls, told by a function -/
def oracle (F : FuncId → List Value → Option Value) (j : Job) : Option Out := match j with
  | .call f args V => match F f args with
    | some v => some (.value v V)
    | none => none
  | _ => none
theorem oracle_ok {F : FuncId → List Value → Option Value} (h : ∀ f args v, F f args = some v → args.all (flatN 3) = true ∧ flatN 3 v = true ∧ ∀ w, Calls P f args.toArray w fun e w' => e = .returned v ∧ RowKit.Below w.heap.size w w') :
    SelfOK P (oracle F) := by
  refine ⟨(fun _ _ _ _ _ _ _ _ _ h => by cases h), (fun _ _ _ _ _ _ _ _ _ h => by cases h), fun f args V v V1 hj => ?_⟩
  simp only [oracle] at hj
  split at hj
  · rename_i x hF
    cases hj
    obtain ⟨h1, h2, h3⟩ := h _ _ _ hF
    exact ⟨Nat.le_refl _, .of_calls h1 h2 h3 V⟩
  · cases hj
theorem oracle_code (F : FuncId → List Value → Option Value) : ∀ ar c ts df V, oracle F (.code ar c ts df V) = none := fun _ _ _ _ _ => rfl
/-- one closed call -/
def once (f : FuncId) (v : Value) (g : FuncId) (args : List Value) : Option Value := match Nat.beq f g && args.isEmpty with
  | true => some v
  | false => none
theorem once_ok {f : FuncId} {v : Value} (hv : flatN 3 v = true) (h : ∀ w, Calls P f #[] w fun e w' => e = .returned v ∧ RowKit.Below w.heap.size w w') : SelfOK P (oracle (once f v)) := by
  refine oracle_ok fun g args x hx => ?_
  unfold once at hx
  split at hx
  · rename_i hh
    rw [Bool.and_eq_true] at hh
    cases hx
    have e1 := Nat.eq_of_beq_eq_true hh.1
    have e2 : args = [] := by cases args with
      | nil => rfl
      | cons a l => cases hh.2
    subst e1 e2
    exact ⟨rfl, hv, h⟩
  · cases hx
/-- a closed call, computed with any table that is known -/
theorem closed_by (hP : Good P) {memo : Job → Option Out} (hl : SelfOK P memo) {n : Nat} {f : FuncId} {v : Value} {V1 : View} (h : runM P memo n (.call f [] ⟨0, []⟩) = some (.value v V1)) (hv : flatN 3 v = true) (w : World) :
    Calls P f #[] w fun e w' => e = .returned v ∧ RowKit.Below w.heap.size w w' := by
  obtain ⟨_, ok⟩ := (runM_sound hP hl n).call _ _ _ _ _ h
  have := ok ⟨id, fun _ => 0, fun _ => 0, fun _ => 0⟩ (fun _ => False) w #[] 5 ⟨fun b o h => (by cases h), fun b o h => (by cases h), fun b o h => (by cases h), fun b cs e fz h => (by cases h), fun b c x y h => (by cases h)⟩ .nil (fun b _ _ h => h)
  refine (callsIn_wide.1 this).mono ?_
  rintro e w' ⟨ρ1, v', rfl, st, hr⟩
  have e := hr.flatN_eq 3 hv
  exact ⟨by rw [e], st.os, st.tape, st.output, st.size, fun k hk => st.frame k hk fun b o hb => by cases hb⟩
end Go.Vm
