/- Maps. -/
import Derived.Test.YtcphndfipjifcaaVqK
namespace Go.Vm
variable {P : Program} {ρ ρ1 ρ2 : Ren} {D D1 : Nat → Prop} {V V1 : View} {w w1 : World}

theorem map_set (hw : WRel P ρ D V.get w) {r : Nat} {es : Array MapEntry} {clock : Nat} (hf : find V.objs r = some (.map es clock)) : ∃ es', w.heap[ρ.b r]? = some (.map es' clock) ∧ LRel (MRel ρ D) es.toList es'.toList ∧
    ∀ (x : List MapEntry) (x' : Array MapEntry) (c : Nat), LRel (MRel ρ D) x x'.toList → Stepped P ρ D V.get V.next w ρ (setMap V r x c).get V.next { w with heap := w.heap.setIfInBounds (ρ.b r) (.map x' c) } := by
  obtain ⟨h1, o', h2, h3⟩ := hw.own r _ hf rfl
  cases h3 with
  | @map _ es' _ hr =>
    refine ⟨es', h2, hr, fun x x' c hx => ?_⟩
    have hlt := (Array.getElem?_eq_some_iff.1 h2).1
    have := Stepped.update (n := V.next) (w1 := { w with heap := w.heap.setIfInBounds (ρ.b r) (.map x' c) }) (o := .map x.toArray c) (o' := .map x' c) hw hf rfl (.map (by simpa using hx)) rfl (by simp) (by simp [hlt]) (fun k hk => by simp [Array.getElem?_setIfInBounds, Ne.symm hk]) rfl rfl rfl
    refine (funext fun k => ?_ : ((setMap V r x c).get) = _) ▸ this
    show find (put V.objs r _) k = _
    rw [find_put, hf]
    rfl

theorem sameNow_rel {d : TypeDesc} {k x x' : Value} {b : Bool} (hx : VRel ρ D x x') (h : Instr.sameNow d k x = some b) : Instr.sameNow d k x' = some b := by
  have : flat x = true := by
    cases x <;> first | rfl | skip
    all_goals (exfalso; revert h; cases d <;> cases k <;> simp [Instr.sameNow])
  rw [hx.flatEq this]; exact h
theorem findNow_rel {d : TypeDesc} {k : Value} : ∀ {es es' : List MapEntry}, LRel (MRel ρ D) es es' → ∀ (i : Nat) (r : Option (Nat × Value)), Instr.findNow d k es i = some r →
    ∃ r', Instr.findNow d k es' i = some r' ∧ ((r = none ∧ r' = none) ∨ ∃ j v v', r = some (j, v) ∧ r' = some (j, v') ∧ VRel ρ D v v') := by
  intro es es' h
  induction h with
  | nil => intro i r h; simp only [Instr.findNow] at h; cases h; exact ⟨none, rfl, .inl ⟨rfl, rfl⟩⟩
  | @cons e e' es es' he _ ih =>
    intro i r h
    simp only [Instr.findNow] at h ⊢
    cases hq : Instr.sameNow d k e.key with
    | none => rw [hq] at h; cases h
    | some b =>
      rw [sameNow_rel he.key hq]
      rw [hq] at h
      cases b with
      | true => cases h; exact ⟨_, rfl, .inr ⟨i, _, _, rfl, rfl, he.val⟩⟩
      | false => exact ih _ _ h
theorem key_kind {t : TypeId} {d : TypeDesc} {elem : TypeId} (h : keyKind P t = some (d, elem)) : ∃ kt, P.underlying t = some (.map kt elem) ∧ P.underlying kt = some d ∧ simpleKey d = true := by
  unfold keyKind at h
  split at h
  · rename_i kt el hu
    split at h
    · rename_i d' hk
      split at h
      · rename_i hs; cases h; exact ⟨kt, hu, hk, hs⟩
      · cases h
    · cases h
  · cases h
theorem checkKey_run {kt : TypeId} {d : TypeDesc} (hu : P.underlying kt = some d) (hs : simpleKey d = true) (b : Bool) (k : Value) (w : World) : (Instr.checkKey b 10000 kt k).run P w = .ok () w := by
  show (Instr.checkKey b (9999 + 1) kt k).run P w = _
  unfold Instr.checkKey
  rw [Sem.run_bind, run_und hu]
  simp only [Result.andThen]
  cases d <;> first | rfl | (simp [simpleKey] at hs)
theorem findKey_run {kt : TypeId} {d : TypeDesc} (hu : P.underlying kt = some d) {k : Value} {es : List MapEntry} {r : Option (Nat × Value)} (h : Instr.findNow d k es 0 = some r) (w : World) : (Instr.findKey kt k es).run P w = .ok r w := by
  unfold Instr.findKey
  rw [Sem.run_bind, run_und hu]
  simp only [Result.andThen, h]
  rfl
theorem zero_of {t : TypeId} {z : Value} (h : zeroOf P t = some z) : ∃ i, P.info? t = some i ∧ i.zero = some z := by
  unfold zeroOf at h
  split at h
  · rename_i i hi; exact ⟨i, hi, h⟩
  · cases h

theorem lookup_sound (hP : Good P) {t : TypeId} {m m' k v : Value} {ok : Bool} (h : lookupV P t m k ok V = some v) (hm : VRel ρ D m m') (hw : WRel P ρ D V.get w) :
    ∃ v', (Instr.lookup t m' k ok).run P w = .ok v' w ∧ VRel ρ D v v' := by
  unfold lookupV at h
  split at h
  case h_2 => cases h
  rename_i d elem hkk
  obtain ⟨kt, hu, hk, hs⟩ := key_kind hkk
  split at h
  case h_2 => cases h
  rename_i es hes
  have hgo : ∀ (r c : Nat) (es : Array MapEntry), w.heap[r]? = some (.map es c) → (Go.getObj r).run P w = .ok (.map es c) w := by
    intro r c es h; simp [Go.getObj, Sem.run, h]
  have main : ∀ (es' : List MapEntry), LRel (MRel ρ D) es es' → ((m' = .map none ∧ es' = []) ∨ ∃ r c, m' = .map (some r) ∧ w.heap[r]? = some (.map es'.toArray c)) → ∃ v', (Instr.lookup t m' k ok).run P w = .ok v' w ∧ VRel ρ D v v' := by
    intro es' hrel hget
    split at h
    · rename_i j v0 hfn
      cases h
      obtain ⟨r', h1, ⟨h2, _⟩ | ⟨j', a, a', h2, h3, h4⟩⟩ := findNow_rel hrel 0 _ hfn
      · cases h2
      · cases h2
        subst h3
        refine ⟨if ok then .tuple #[a', .bool true] else a', ?_, ?_⟩
        · rcases hget with ⟨rfl, rfl⟩ | ⟨r, c, rfl, hh⟩
          · simp [Instr.findNow] at h1
          · simp [Instr.lookup, Sem.run_bind, run_und hu, Result.andThen, checkKey_run hk hs, findKey_run hk h1, hgo _ _ _ hh]
        · cases ok
          · exact h4
          · refine .tuple rfl fun i x y hx hy => ?_
            match i with
            | 0 => simp at hx hy; subst hx hy; exact h4
            | 1 => simp at hx hy; subst hx hy; exact .flat rfl
            | i + 2 => simp at hx
    · rename_i hfn
      obtain ⟨r', h1, ⟨_, rfl⟩ | ⟨j', a, a', h2, _⟩⟩ := findNow_rel hrel 0 _ hfn
      · split at h
        · rename_i z hz
          cases h
          obtain ⟨i, hi, hz'⟩ := zero_of hz
          have hfz := hP.zero _ _ _ hi hz'
          refine ⟨if ok then .tuple #[z, .bool false] else z, ?_, ?_⟩
          · rcases hget with ⟨rfl, rfl⟩ | ⟨r, c, rfl, hh⟩
            · simp [Instr.lookup, Sem.run_bind, run_und hu, Result.andThen, checkKey_run hk hs, findKey_run hk h1, run_zer hi hz']
            · simp [Instr.lookup, Sem.run_bind, run_und hu, Result.andThen, checkKey_run hk hs, findKey_run hk h1, hgo _ _ _ hh, run_zer hi hz']
          · cases ok
            · exact VRel.of_flatN 3 z hfz
            · refine .tuple rfl fun i x y hx hy => ?_
              match i with
              | 0 => simp at hx hy; subst hx hy; exact VRel.of_flatN 3 z hfz
              | 1 => simp at hx hy; subst hx hy; exact .flat rfl
              | i + 2 => simp at hx
        · cases h
      · cases h2
    · cases h
  split at hes
  · cases hes
    have : m' = .map none := hm.flatEq rfl
    subst this
    exact main [] .nil (.inl ⟨rfl, rfl⟩)
  · rename_i r
    split at hes
    · rename_i es0 c hf
      cases hes
      rcases hm.mapInv with ⟨e, _⟩ | ⟨r0, e, hr, rfl⟩
      · cases e
      · cases e
        obtain ⟨es', h1, h2, _⟩ := map_set hw hf
        exact main es'.toList h2 (.inr ⟨_, _, rfl, by simpa using h1⟩)
    · cases hes
  · cases hes
end Go.Vm
