/- The program at hand is one that the small machine takes. -/
import Derived.Test.YtcphndfipjifcaaVqZ
import Derived.Test.YtcphndfipjifcaaProg
namespace Go.Vm
def goodType (i : TypeInfo) : Bool := match i.zero with
  | some z => z.cells.toList.all (flatN 2) && (flatN 3 z && Nat.beq z.cells.size i.size)
  | none => true
/-- a type's zero is of plain cells, as many as its size says -/
def Fine (i : TypeInfo) : Prop := ∀ z, i.zero = some z → (∀ c ∈ z.cells, flatN 2 c = true) ∧ flatN 3 z = true ∧ z.cells.size = i.size
theorem fine_word {d : TypeDesc} {s : String} {z : Value} {c : Bool} {b : Nat} (h : flatN 2 z = true) (hz : z.cells = #[z]) (h3 : flatN 3 z = true) : Fine (Made.word d s z c b) := by
  intro z' h'
  cases h'
  exact ⟨fun x hx => by rw [hz] at hx; simp at hx; rw [hx]; exact h, h3, by rw [hz]; rfl⟩
theorem flat_agg {a : Array Value} (h : ∀ c ∈ a, flatN 2 c = true) : flatN 3 (.agg a) = true := by
  simp only [flatN, List.all_eq_true]
  intro x hx
  exact h x (by simpa using hx)
theorem forIn_inv {α β : Type} (f : α → β → Option (ForInStep β)) (I : β → Prop) (h : ∀ a b r, I b → f a b = some r → I r.value) :
    ∀ (l : List α) (b b' : β), I b → forIn l b f = some b' → I b' := by
  intro l
  induction l with
  | nil => intro b b' hb e; simp at e; exact e ▸ hb
  | cons x r ih =>
    intro b b' hb e
    rw [List.forIn_cons] at e
    cases hf : f x b with
    | none => rw [hf] at e; cases e
    | some s =>
      rw [hf] at e
      have := h _ _ _ hb hf
      cases s with
      | done c => simp at e; exact e ▸ this
      | yield c => exact ih _ _ this (by simpa using e)
def OkZ (n : Nat) (o : Option (Array Value)) : Prop := ∀ z, o = some z → (∀ c ∈ z, flatN 2 c = true) ∧ z.size = n
theorem okZ_step {i : TypeInfo} (hi : Fine i) {n : Nat} {o : Option (Array Value)} (h : OkZ n o) :
    OkZ (n + i.size) (if n + i.size > Made.mostCells then none else o.bind fun x => i.zero.bind fun y => pure (x ++ y.cells)) := by
  intro z hz
  split at hz
  · cases hz
  · obtain ⟨x, hx, hz⟩ := Option.bind_eq_some_iff.1 hz
    obtain ⟨y, hy, hz⟩ := Option.bind_eq_some_iff.1 hz
    cases hz
    obtain ⟨h1, h2⟩ := h x hx
    obtain ⟨h3, _, h4⟩ := hi y hy
    refine ⟨fun c hc => ?_, by simp [h2, h4]⟩
    rcases Array.mem_append.1 hc with hc | hc
    · exact h1 c hc
    · exact h3 c hc
theorem fine_struct {info : TypeId → Option TypeInfo} (hi : ∀ t i, info t = some i → Fine i) {fs : Array Field} {i : TypeInfo} (h : Made.reckonStruct info fs = some i) : Fine i := by
  unfold Made.reckonStruct at h
  simp only [Option.bind_eq_bind, Option.bind_eq_some_iff] at h
  obtain ⟨s, hs, h⟩ := h
  rw [← Array.forIn_toList] at hs
  have hI := forIn_inv _ (fun s => OkZ s.2.1 s.2.2.2.2.2.2.2.1) (fun f b r hb hr => by
    obtain ⟨i, hi1, hr⟩ := Option.bind_eq_some_iff.1 hr
    have key := okZ_step (hi _ _ hi1) hb
    split at hr
    · cases hr
    · split at hr
      · cases hr
      · split at hr
        · obtain ⟨tag, _, hr⟩ := Option.bind_eq_some_iff.1 hr
          split at hr
          · cases hr; exact key
          · cases hr; exact key
        · obtain ⟨tag, _, hr⟩ := Option.bind_eq_some_iff.1 hr
          split at hr
          · cases hr; exact key
          · cases hr; exact key) _ _ _ (fun z hz => by cases hz; exact ⟨fun c hc => by simp at hc, rfl⟩) hs
  have fin : ∀ o : Option (Array Value), OkZ s.2.1 o → ∀ z, o.map Value.agg = some z → (∀ c ∈ z.cells, flatN 2 c = true) ∧ flatN 3 z = true ∧ z.cells.size = s.2.1 := by
    intro o ho z hz
    cases o with
    | none => cases hz
    | some a =>
      cases hz
      obtain ⟨h1, h2⟩ := ho a rfl
      exact ⟨h1, flat_agg h1, h2⟩
  split at h
  · cases h
    exact fun z hz => fin _ hI z hz
  · cases h
    exact fun z hz => fin _ hI z hz
theorem fine_reckon {info : TypeId → Option TypeInfo} (hi : ∀ t i, info t = some i → Fine i) {d : TypeDesc} {i : TypeInfo} (h : Made.reckon info d = some i) : Fine i := by
  unfold Made.reckon at h
  split at h
  · obtain ⟨j, hj, h⟩ := Option.bind_eq_some_iff.1 h
    split at h
    · cases h
    · split at h
      · cases h
      · obtain ⟨s, _, h⟩ := Option.bind_eq_some_iff.1 h
        cases h; exact fine_word rfl rfl rfl
    · obtain ⟨s, _, h⟩ := Option.bind_eq_some_iff.1 h
      cases h; exact fine_word rfl rfl rfl
  · obtain ⟨j, hj, h⟩ := Option.bind_eq_some_iff.1 h
    obtain ⟨s, _, h⟩ := Option.bind_eq_some_iff.1 h
    cases h; exact fine_word rfl rfl rfl
  · obtain ⟨j, hj, h⟩ := Option.bind_eq_some_iff.1 h
    obtain ⟨s, _, h⟩ := Option.bind_eq_some_iff.1 h
    obtain ⟨j2, hj2, h⟩ := Option.bind_eq_some_iff.1 h
    obtain ⟨s2, _, h⟩ := Option.bind_eq_some_iff.1 h
    cases h; exact fine_word rfl rfl rfl
  · obtain ⟨j, hj, h⟩ := Option.bind_eq_some_iff.1 h
    obtain ⟨s, _, h⟩ := Option.bind_eq_some_iff.1 h
    cases h; exact fine_word rfl rfl rfl
  · obtain ⟨s, _, h⟩ := Option.bind_eq_some_iff.1 h
    cases h; exact fine_word rfl rfl rfl
  · rename_i n e
    obtain ⟨j, hj, h⟩ := Option.bind_eq_some_iff.1 h
    obtain ⟨s, _, h⟩ := Option.bind_eq_some_iff.1 h
    cases h
    intro z hz
    simp only at hz
    split at hz
    · cases hz
    · split at hz
      · rename_i h0
        cases hz
        exact ⟨fun c hc => by simp [Value.cells] at hc, rfl, by simp only [Value.cells]; simp [h0]⟩
      · cases hz0 : j.zero with
        | none => rw [hz0] at hz; cases hz
        | some z0 =>
          rw [hz0] at hz
          cases hz
          obtain ⟨h1, _, h3⟩ := hi _ _ hj z0 hz0
          have hall : ∀ c ∈ (Array.replicate n z0.cells).flatten, flatN 2 c = true := by
            intro c hc
            obtain ⟨a, ha, hca⟩ := Array.mem_flatten.1 hc
            rw [(Array.mem_replicate.1 ha).2] at hca
            exact h1 c hca
          refine ⟨hall, flat_agg hall, ?_⟩
          have hsz : ∀ (m : Nat), ((Array.replicate m z0.cells).flatten).size = m * j.size := by
            intro m
            rw [← h3]
            simp [Array.size_flatten, Array.map_replicate]
          exact hsz n
  · exact fine_struct hi h
  · cases h
theorem fine_infoAt {T : Tables} (h1 : T.types.toList.all goodType = true) : ∀ f t i, Made.infoAt T f t = some i → Fine i := by
  have hg : ∀ (t : Nat) (i : TypeInfo), T.types[t]? = some i → Fine i := by
    intro t i hi z hz
    have hm : i ∈ T.types.toList := Array.mem_toList_iff.2 (Array.mem_of_getElem? hi)
    have := List.all_eq_true.1 h1 i hm
    unfold goodType at this
    rw [hz] at this
    simp only [Bool.and_eq_true, List.all_eq_true] at this
    exact ⟨fun c hc => this.1 c (by simpa using hc), this.2.1, Nat.eq_of_beq_eq_true this.2.2⟩
  intro f
  induction f with
  | zero => intro t i h; cases h
  | succ f ih =>
    intro t i h
    unfold Made.infoAt at h
    split at h
    · exact hg t i h
    · obtain ⟨d, _, h⟩ := Option.bind_eq_some_iff.1 h
      exact fine_reckon ih h
theorem good_of {P : Program} (h1 : P.types.toList.all goodType = true) (h2 : P.follows .mixedOrders = true) : Good P := by
  have hf : ∀ t i, P.info? t = some i → Fine i := by
    intro t i hi
    simp only [Tables.info?] at hi
    split at hi
    · rename_i ht
      refine fine_infoAt (T := P.toTables) h1 1 t i ?_
      unfold Made.infoAt
      rw [if_pos ht]; exact hi
    · exact fine_infoAt (T := P.toTables) h1 _ t i hi
  exact ⟨fun t i z hi hz => (hf t i hi z hz).2.1, fun t i z hi hz => (hf t i hi z hz).2.2, h2⟩
theorem good_prog : Good Go.Proofs.Try.prog := good_of (by decide +kernel) (by decide +kernel)
end Go.Vm
