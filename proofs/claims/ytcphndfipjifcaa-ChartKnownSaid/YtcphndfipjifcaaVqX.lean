/- The machine of the small memory is sound. -/
import Derived.Test.YtcphndfipjifcaaVqW
import Derived.Below
namespace Go.Vm
variable {P : Program} {sf : Job → Option Out} {ops : Array Oper} {k0 : Nat} {ts0 : List Value} {V0 : View}

theorem getD_false_of (listed : Array Bool) (i : Nat) (hi : i < listed.size) : listed.getD i true = listed.getD i false := by simp [hi]
theorem exists_unlisted : ∀ (k : Nat) (listed : Array Bool), (∃ i, i < k ∧ listed.getD i false = false) → ∃ i, i < k ∧ listed.getD i false = false ∧ ∀ j, j < i → listed.getD j false = true
  | 0, _, ⟨i, hi, _⟩ => by omega
  | k + 1, listed, ⟨i, hi, hf⟩ => by
    by_cases hk : ∃ i, i < k ∧ listed.getD i false = false
    · obtain ⟨i, h1, h2, h3⟩ := exists_unlisted k listed hk
      exact ⟨i, by omega, h2, h3⟩
    · have : i = k := by
        rcases Nat.lt_or_ge i k with h1 | h1
        · exact absurd ⟨i, h1, hf⟩ hk
        · omega
      subst this
      refine ⟨i, by omega, hf, fun j hj => ?_⟩
      cases hv : listed.getD j false
      · exact absurd ⟨j, hj, hv⟩ hk
      · rfl
theorem all_listed (hsh : Shape ops) {listed : Array Bool} (hz : listed.size = ops.size) (hr : Region.ready .any ops listed = []) : ∀ i, i < ops.size → listed.getD i false = true := by
  intro i hi
  cases hv : listed.getD i false
  · exfalso
    obtain ⟨j, hj, hf, hall⟩ := exists_unlisted ops.size listed ⟨i, hi, hv⟩
    have : j ∈ Region.ready .any ops listed := by
      rw [mem_ready]
      refine ⟨by rw [getD_false_of _ _ (by omega)]; exact hf, ops[j], Array.getElem?_eq_getElem hj, fun e he hb => hall _ (hsh.edge j _ e (Array.getElem?_eq_getElem hj) he hb)⟩
    rw [hr] at this; cases this
  · rfl
theorem filter_drop {i : Nat} {p p' : Nat → Bool} (hp : p i = true) (hp' : p' i = false) (hne : ∀ j, j ≠ i → p' j = p j) : ∀ (l : List Nat), l.Nodup → i ∈ l → (l.filter p').length + 1 = (l.filter p).length
  | [], _, h => by cases h
  | a :: l, hn, hi => by
    obtain ⟨h1, h2⟩ := List.nodup_cons.1 hn
    by_cases ha : a = i
    · subst ha
      have : l.filter p' = l.filter p := List.filter_congr fun j hj => hne j (fun e => h1 (by rw [← e]; exact hj))
      simp [hp, hp', this]
    · have hil : i ∈ l := by rcases List.mem_cons.1 hi with e | e
                             · exact absurd e.symm ha
                             · exact e
      have ih := filter_drop hp hp' hne l h2 hil
      have hpa := hne a ha
      cases hv : p a
      · rw [hv] at hpa; simp [hv, hpa, ih]
      · rw [hv] at hpa; simp [hv, hpa]; omega
def leftN (ops : Array Oper) (listed : Array Bool) : Nat := ((List.range ops.size).filter fun i => !listed.getD i false).length
theorem leftN_set {listed : Array Bool} (hz : listed.size = ops.size) {i : Nat} (hi : i < ops.size) (hf : listed.getD i false = false) : leftN ops (listed.setIfInBounds i true) + 1 = leftN ops listed := by
  unfold leftN
  refine filter_drop (i := i) (by rw [hf]; rfl) ?_ (fun j hj => by rw [getD_set_ne false (Ne.symm hj)]) _ List.nodup_range (by simpa using hi)
  have : i < listed.size := by omega
  simp [this]

theorem split_at : ∀ (l : List Rec) (i : Nat), i < l.length → ∃ later r rest, l = later ++ r :: rest ∧ rest.length = i
  | [], i, h => by simp at h
  | x :: l, i, h => by
    by_cases hi : i = l.length
    · exact ⟨[], x, l, rfl, hi.symm⟩
    · obtain ⟨later, r, rest, h1, h2⟩ := split_at l i (by simp at h; omega)
      exact ⟨x :: later, r, rest, by rw [h1]; rfl, h2⟩

theorem Inv.congr {D0 : Nat → Prop} {ρ0 : Ren} {w0 : World} {N : Nat} {df : List Nat} {full : List Rec} {S S' : Nat → Bool} {ρ : Ren} {a : Act} {w : World} (h : Inv P ops ts0 V0 D0 ρ0 w0 N df full S ρ a w) (hS : ∀ j, j < full.length → S j = S' j) : Inv P ops ts0 V0 D0 ρ0 w0 N df full S' ρ a w := by
  have e1 : stD S D0 full = stD S' D0 full := by funext b; exact propext (stD_congr full hS b)
  have e2 : stG S V0.get full = stG S' V0.get full := by funext b; exact stG_congr full hS b
  have e3 : stT ops S ts0 full = stT ops S' ts0 full := stT_congr full hS
  exact ⟨by rw [← e1, ← e2]; exact h.rel, by rw [← e1, ← e3]; exact h.tmps, by rw [← e1]; exact h.defers, by rw [← e2]; exact h.frm⟩

theorem draw_walk (hP : Good P) (hs : SelfOK P sf) (hsh : Shape ops) {D0 : Nat → Prop} {ρ0 : Ren} {w0 : World} {df : List Nat} {full : List Rec} {ts1 : List Value} {V1 : View}
    (hV0 : ∀ b o, V0.get b = some o → b < V0.next) (hc : Coll P sf ops k0 ts0 V0 full ts1 V1) (hlen : full.length ≤ ops.size) (hkf : k0 ≤ full.length)
    (htot : ∀ j k, full.length ≤ j → j < ops.size → k < full.length → ((Region.before ops).getD j 0).testBit k = true) (hd : ∀ b, V0.next ≤ b → b < V1.next → ¬ D0 b)
    {n : Nat} {Q : Exit → Act → World → Prop} {ro : Option Nat} (hend : ∀ (fuel : Nat) (listed : Array Bool) (ρ : Ren) (a : Act) (w : World), listed.size = ops.size → (∀ j, listed.getD j false = decide (j < full.length)) →
      (∀ (i : Nat) (o : Oper) (e : Edge), listed.getD i false = true → ops[i]? = some o → e ∈ o.after → Region.binds .any e = true → listed.getD e.on false = true) →
      leftN ops listed ≤ fuel → Inv P ops ts0 V0 D0 ρ0 w0 V1.next df full (fun _ => true) ρ a w → wpAnyIn (fence ro) n P .any ops Q fuel listed a w) :
    ∀ (fuel : Nat) (listed : Array Bool) (ρ : Ren) (a : Act) (w : World), listed.size = ops.size → (∀ j, j < k0 → listed.getD j false = true) → (∀ j, full.length ≤ j → listed.getD j false = false) →
      (∀ (i : Nat) (o : Oper) (e : Edge), listed.getD i false = true → ops[i]? = some o → e ∈ o.after → Region.binds .any e = true → listed.getD e.on false = true) →
      leftN ops listed ≤ fuel → Inv P ops ts0 V0 D0 ρ0 w0 V1.next df full (fun j => listed.getD j false) ρ a w → wpAnyIn (fence ro) n P .any ops Q fuel listed a w := by
  have done : ∀ (fuel : Nat) (listed : Array Bool) (ρ : Ren) (a : Act) (w : World), listed.size = ops.size → (∀ j, full.length ≤ j → listed.getD j false = false) → (∀ j, j < full.length → listed.getD j false = true) →
      (∀ (i : Nat) (o : Oper) (e : Edge), listed.getD i false = true → ops[i]? = some o → e ∈ o.after → Region.binds .any e = true → listed.getD e.on false = true) →
      leftN ops listed ≤ fuel → Inv P ops ts0 V0 D0 ρ0 w0 V1.next df full (fun j => listed.getD j false) ρ a w → wpAnyIn (fence ro) n P .any ops Q fuel listed a w := by
    intro fuel listed ρ a w hz hhi hall hcl hf inv
    refine hend fuel listed ρ a w hz (fun j => ?_) hcl hf (inv.congr fun j hj => hall j hj)
    by_cases hj : j < full.length
    · rw [hall j hj]; simp [hj]
    · rw [hhi j (by omega)]; simp [hj]
  intro fuel
  induction fuel with
  | zero =>
    intro listed ρ a w hz hlo hhi hcl hf inv
    refine done 0 listed ρ a w hz hhi (fun j hj => ?_) hcl hf inv
    cases hv : listed.getD j false
    · have := leftN_set hz (by omega) hv; omega
    · rfl
  | succ fuel ih =>
    intro listed ρ a w hz hlo hhi hcl hf inv
    by_cases hall : ∀ j, j < full.length → listed.getD j false = true
    · exact done (fuel + 1) listed ρ a w hz hhi hall hcl hf inv
    · obtain ⟨j0, hj0, hj1⟩ : ∃ j, j < full.length ∧ listed.getD j false = false := by
        refine Classical.byContradiction fun hno => hall fun j hj => ?_
        cases hv : listed.getD j false
        · exact absurd ⟨j, hj, hv⟩ hno
        · rfl
      refine ⟨fun hr => ?_, fun i hi => ?_⟩
      · have := all_listed hsh hz hr j0 (by omega)
        rw [hj1] at this; cases this
      rw [mem_ready] at hi
      obtain ⟨h0, o, ho, hedges⟩ := hi
      have hlt := (Array.getElem?_eq_some_iff.1 ho).1
      rw [getD_false_of _ _ (by omega)] at h0
      have hcl' : ∀ j k, listed.getD j false = true → ((Region.before ops).getD j 0).testBit k = true → listed.getD k false = true := by
        intro j k hj hk
        have hjs : j < ops.size := by
          rcases Nat.lt_or_ge j ops.size with h | h
          · exact h
          · rw [Array.getD_eq_getD_getElem?, Array.getElem?_eq_none_iff.2 (by omega)] at hj; simp at hj
        exact anc_closed hsh (S := fun j => listed.getD j false) hcl j k hjs (fun o e ho he hb => hcl j o e hj ho he hb) hk
      have hAi : ∀ k, ((Region.before ops).getD i 0).testBit k = true → listed.getD k false = true := fun k hk =>
        anc_closed hsh (S := fun j => listed.getD j false) hcl i k hlt (fun o' e ho' he hb => by rw [ho] at ho'; cases ho'; exact hedges e he hb) hk
      have him : i < full.length := by
        rcases Nat.lt_or_ge i full.length with h | h
        · exact h
        · have := hAi j0 (htot i j0 h hlt hj0)
          rw [hj1] at this; cases this
      obtain ⟨later, r, rest, rfl, rfl⟩ := split_at full i him
      have hset : (listed.setIfInBounds rest.length true).getD rest.length false = true := by
        have : rest.length < listed.size := by omega
        simp [this]
      refine draw_step hP hs hsh (S := fun j => listed.getD j false) (S' := fun j => (listed.setIfInBounds rest.length true).getD j false) hV0 hc h0 hset (fun j hj => getD_set_ne false (Ne.symm hj)) hlo hcl' hAi hd inv ?_
      intro ρ' a' w' inv'
      refine ih _ ρ' a' w' (by simpa using hz) (fun j hj => ?_) (fun j hj => ?_) ?_ (by have := leftN_set hz hlt h0; omega) inv'
      · by_cases e : j = rest.length
        · rw [e]; exact hset
        · rw [getD_set_ne false (Ne.symm e)]; exact hlo j hj
      · rw [getD_set_ne false (by omega)]; exact hhi j hj
      · intro j o' e hj ho' he hb
        by_cases hjr : j = rest.length
        · subst hjr
          rw [ho] at ho'; cases ho'
          have := hedges e he hb
          by_cases hk : e.on = rest.length
          · rw [hk]; exact hset
          · rw [getD_set_ne false (Ne.symm hk)]; exact this
        · rw [getD_set_ne false (Ne.symm hjr)] at hj
          have := hcl j o' e hj ho' he hb
          by_cases hk : e.on = rest.length
          · rw [hk]; exact hset
          · rw [getD_set_ne false (Ne.symm hk)]; exact this

theorem Agree.refl (ρ : Ren) (D : Nat → Prop) : Agree ρ ρ D := ⟨fun _ _ => rfl, fun _ _ => rfl, fun _ _ => rfl, fun _ _ => rfl⟩
theorem WRel.widen {ρ : Ren} {D D' : Nat → Prop} {g : Nat → Option Obj} {w : World} (h : WRel P ρ D g w) (hD : ∀ b, D b → D' b) : WRel P ρ D' g w :=
  ⟨fun b o e => hD _ (h.dom b o e), h.real, fun b o e ho => let ⟨h1, o', h2, h3⟩ := h.own b o e ho; ⟨h1, o', h2, h3.ext (.refl _ _) hD (h.dom _ _ e)⟩,
   fun b cs e fz hb hz i v hi => let ⟨v', h1, h2⟩ := h.ro b cs e fz hb hz i v hi; ⟨v', h1, h2.ext (.refl _ _) hD⟩, h.inj⟩

theorem coll_low {D : Nat → Prop} {S : Nat → Bool} (hS : ∀ j, k0 ≤ j → S j = false) {full : List Rec} {ts1 : List Value} {V1 : View} (hc : Coll P sf ops k0 ts0 V0 full ts1 V1) :
    stD S D full = D ∧ stG S V0.get full = V0.get ∧ stT ops S ts0 full = ts0 := by
  induction hc with
  | nil k hk => exact ⟨funext fun b => propext (stD_dummies b k), funext fun b => stG_dummies b k, stT_dummies k⟩
  | @run recs ts V o vi vo wr v hc hk ho hok hw hv ha hg hi hn ih =>
    have e := hS _ hk
    refine ⟨?_, ?_, ?_⟩
    · rw [← ih.1]; funext b; apply propext; simp only [stD, e, ih.1]
      constructor
      · rintro (h | ⟨h, _⟩)
        · exact h
        · cases h
      · exact .inl
    · funext b; simp only [stG, e, Bool.false_and, ih.2.1]
    · simp only [stT, e, ih.2.2]
  | @skip recs ts V o hc hk ho hok hw ih =>
    have e := hS _ hk
    refine ⟨?_, ?_, ?_⟩
    · rw [← ih.1]; funext b; apply propext; simp only [stD, e, ih.1]
      constructor
      · rintro (h | ⟨h, _⟩)
        · exact h
        · cases h
      · exact .inl
    · funext b; simp only [stG, e, Bool.false_and, ih.2.1]
    · simp only [stT, e, ih.2.2]
theorem coll_mono {full : List Rec} {ts1 : List Value} {V1 : View} (hc : Coll P sf ops k0 ts0 V0 full ts1 V1) : V0.next ≤ V1.next := by
  induction hc with
  | nil => exact Nat.le_refl _
  | run hc hk ho hok hw hv ha hg hi hn ih =>
    have := (view_spec hi hv).1
    refine Nat.le_trans ih ?_
    rw [← this]; exact hn
  | skip hc hk ho hok hw ih => exact ih
theorem coll_long {full : List Rec} {ts1 : List Value} {V1 : View} (hc : Coll P sf ops k0 ts0 V0 full ts1 V1) : ∀ b, stD (fun _ => true) (fun _ => False) full b → V0.next ≤ b ∧ b < V1.next := by
  induction hc with
  | nil k hk => intro b h; exact ((stD_dummies b k).1 h).elim
  | @run recs ts V o vi vo wr v hc hk ho hok hw hv ha hg hi hn ih =>
    intro b h
    have e1 := (view_spec hi hv).1
    have e2 := coll_mono hc
    rcases h with h | ⟨_, h1, h2⟩
    · have := ih b h
      refine ⟨this.1, ?_⟩
      show b < vo.next
      omega
    · have h1 : vi.next ≤ b := h1
      have h2 : b < vo.next := h2
      refine ⟨by omega, h2⟩
  | @skip recs ts V o hc hk ho hok hw ih =>
    intro b h
    rcases h with h | ⟨_, h1, h2⟩
    · exact ih b h
    · have h1 : V.next ≤ b := h1
      have h2 : b < V.next := h2
      omega
theorem stD_union {S : Nat → Bool} {D : Nat → Prop} : ∀ (l : List Rec) (b : Nat), stD S D l b → D b ∨ stD S (fun _ => False) l b
  | [], b, h => .inl h
  | r :: l, b, h => by
    rcases h with h | h
    · exact (stD_union l b h).imp id .inl
    · exact .inr (.inr h)
theorem inv_end {D0 : Nat → Prop} {ρ0 ρ : Ren} {w0 w : World} {df : List Nat} {full : List Rec} {ts1 : List Value} {V1 : View} {a : Act} (hV0 : ∀ b o, V0.get b = some o → b < V0.next) (hc : Coll P sf ops k0 ts0 V0 full ts1 V1)
    (inv : Inv P ops ts0 V0 D0 ρ0 w0 V1.next df full (fun _ => true) ρ a w) :
    Stepped P ρ0 D0 V0.get V0.next w0 ρ V1.get V1.next w ∧ TRel ρ (grow D0 V0.next V1.next) ts1 a.tmps ∧ DRel ρ (grow D0 V0.next V1.next) df a.defers := by
  obtain ⟨hts, hVg, _, hn⟩ := coll_state hV0 hc
  have hD : ∀ b, stD (fun _ => true) D0 full b → grow D0 V0.next V1.next b := fun b h => (stD_union full b h).imp id (coll_long hc b)
  have eG : stG (fun _ => true) V0.get full = V1.get := by funext b; exact (hVg b).symm
  have f := inv.frm
  rw [eG] at f
  refine ⟨⟨hn, f.b, f.o, f.sz, f.es, ?_, f.os, f.tape, f.output, f.size, f.frame, f.fresh⟩, ?_, ?_⟩
  · have := inv.rel.widen hD
    rwa [eG] at this
  · have := inv.tmps.ext (.refl _ _) hD
    rwa [← hts] at this
  · exact inv.defers.ext (.refl _ _) hD

theorem upTo_bit {A k j : Nat} (h : upTo A k = true) (hj : j < k) : A.testBit j = true := by
  have h := Nat.eq_of_beq_eq_true h
  have h1 : (A % 2 ^ k).testBit j = true := by rw [h, Nat.testBit_two_pow_sub_one]; simp [hj]
  rw [Nat.testBit_mod_two_pow] at h1
  simpa [hj] using h1
theorem total_bits {i : Nat} (h : totalAt (Region.before ops) i = true) : ∀ j, i ≤ j → j < ops.size → ∀ k, (k < i ∨ (i < j ∧ k = i)) → ((Region.before ops).getD j 0).testBit k = true := by
  intro j hij hj k hk
  unfold totalAt at h
  rw [List.all_eq_true] at h
  have hz : (Region.before ops).size = ops.size := by rw [before_eq]; have := (anc_list ops.toList #[]).1; simpa using this
  have hj' : j < (Region.before ops).size := by omega
  have := h ((Region.before ops)[j], j) (by rw [List.mem_zipIdx_iff_getElem?]; simp [hj'])
  have e : (Region.before ops).getD j 0 = (Region.before ops)[j] := by simp [hj']
  rw [e]
  dsimp only at this
  have hb : Nat.blt j i = false := by
    cases hq : Nat.blt j i with
    | false => rfl
    | true => rw [Nat.blt_eq] at hq; omega
  rw [hb] at this
  dsimp only at this
  split at this
  · rename_i hq
    have := Nat.eq_of_beq_eq_true hq
    exact upTo_bit ‹upTo _ i = true› (by omega)
  · exact upTo_bit this (by omega)

/-- the parts, one behind the other -/
theorem segs_walk (hP : Good P) (hs : SelfOK P sf) (hsh : Shape ops) {n : Nat} {Q : Exit → Act → World → Prop} {ro : Option Nat} {df : List Nat} {ts1 : List Value} {V1 : View} {k0 : Nat} {ts0 : List Value} {V0 : View} (hsg : Segs P sf ops ts1 V1 k0 ts0 V0) :
    (∀ b o, V0.get b = some o → b < V0.next) → k0 ≤ ops.size → V0.next ≤ V1.next ∧ ∀ (D0 : Nat → Prop) (ρ0 : Ren) (w0 : World) (a0 : Act) (fuel : Nat) (listed : Array Bool), WRel P ρ0 D0 V0.get w0 → TRel ρ0 D0 ts0 a0.tmps → DRel ρ0 D0 df a0.defers →
      (∀ b, V0.next ≤ b → b < V1.next → ¬ D0 b) → listed.size = ops.size → (∀ j, listed.getD j false = decide (j < k0)) →
      (∀ (i : Nat) (o : Oper) (e : Edge), listed.getD i false = true → ops[i]? = some o → e ∈ o.after → Region.binds .any e = true → listed.getD e.on false = true) → leftN ops listed ≤ fuel →
      (∀ ρ1 a1 w1, Stepped P ρ0 D0 V0.get V0.next w0 ρ1 V1.get V1.next w1 → TRel ρ1 (grow D0 V0.next V1.next) ts1 a1.tmps → DRel ρ1 (grow D0 V0.next V1.next) df a1.defers → Q .normal a1 w1) →
      wpAnyIn (fence ro) n P .any ops Q fuel listed a0 w0 := by
  have start : ∀ {k0 : Nat} {ts0 : List Value} {V0 : View} {full : List Rec} {ts : List Value} {V : View} {D0 : Nat → Prop} {ρ0 : Ren} {w0 : World} {a0 : Act} {listed : Array Bool}, Coll P sf ops k0 ts0 V0 full ts V → WRel P ρ0 D0 V0.get w0 → TRel ρ0 D0 ts0 a0.tmps → DRel ρ0 D0 df a0.defers →
      (∀ j, listed.getD j false = decide (j < k0)) → Inv P ops ts0 V0 D0 ρ0 w0 V.next df full (fun j => listed.getD j false) ρ0 a0 w0 := by
    intro k0 ts0 V0 full ts V D0 ρ0 w0 a0 listed hc hw ht hdf hl
    obtain ⟨e1, e2, e3⟩ := coll_low (D := D0) (S := fun j => listed.getD j false) (fun j hj => by show listed.getD j false = false; rw [hl]; simp; omega) hc
    refine ⟨by rw [e1, e2]; exact hw, by rw [e1, e3]; exact ht, by rw [e1]; exact hdf, ?_⟩
    rw [e2]
    exact ⟨fun _ _ => rfl, fun _ _ => rfl, fun _ _ => rfl, fun _ _ => rfl, rfl, rfl, rfl, Nat.le_refl _, fun _ _ _ => rfl, fun b o hb ho => .inr ⟨b, o, hb, ho, rfl⟩⟩
  have longer : ∀ {k0 : Nat} {ts0 : List Value} {V0 : View} {full : List Rec} {ts : List Value} {V : View}, Coll P sf ops k0 ts0 V0 full ts V → k0 ≤ ops.size → full.length ≤ ops.size := by
    intro k0 ts0 V0 full ts V hc hk
    cases hc with
    | nil k hk' => rw [dummies_length]; omega
    | run hc hkk ho => have := (Array.getElem?_eq_some_iff.1 ho).1; simp; omega
    | skip hc hkk ho => have := (Array.getElem?_eq_some_iff.1 ho).1; simp; omega
  induction hsg with
  | @last k0 ts0 V0 full hc hlen =>
    intro hV0 hk0
    have hn := (coll_state hV0 hc).2.2.2
    refine ⟨hn, fun D0 ρ0 w0 a0 fuel listed hw ht hdf hd hz hl hcl hf hk => ?_⟩
    refine draw_walk hP hs hsh (ρ0 := ρ0) (w0 := w0) hV0 hc (by omega) (by omega) (fun j k h1 h2 _ => by omega) hd ?_ fuel listed ρ0 a0 w0 hz (fun j hj => by rw [hl]; simp [hj]) (fun j hj => by rw [hl]; simp; omega) hcl hf (start hc hw ht hdf hl)
    intro fuel listed ρ a w hz hl hcl hf inv
    obtain ⟨h1, h2, h3⟩ := inv_end hV0 hc inv
    have hall : ∀ j, j < ops.size → listed.getD j false = true := fun j hj => by rw [hl]; simp; omega
    have hnil : Region.ready .any ops listed = [] := by
      rw [List.eq_nil_iff_forall_not_mem]
      intro j hj
      rw [mem_ready] at hj
      obtain ⟨h0, o, ho, _⟩ := hj
      have hlt := (Array.getElem?_eq_some_iff.1 ho).1
      rw [getD_false_of _ _ (by omega), hall j hlt] at h0
      cases h0
    cases fuel with
    | zero => exact ⟨hnil, hk ρ a w h1 h2 h3⟩
    | succ fuel => exact ⟨fun _ => hk ρ a w h1 h2 h3, fun i hi => by rw [hnil] at hi; cases hi⟩
  | @tot k0 ts0 V0 full ts V o v V2 hc hkf ho hok hw htt ha hn hi hr ih =>
    intro hV0 hk0
    have hn0 := (coll_state hV0 hc).2.2.2
    have hm := (Array.getElem?_eq_some_iff.1 ho).1
    obtain ⟨hn2, ih⟩ := ih (fun b o hb => (mem_inb _ _ hi b o (find_mem _ _ _ hb)).1) (by omega)
    refine ⟨by omega, fun D0 ρ0 w0 a0 fuel listed hw0 ht hdf hd hz hl hcl hf hk => ?_⟩
    refine draw_walk hP hs hsh (ρ0 := ρ0) (w0 := w0) hV0 hc (by omega) hkf (fun j k h1 h2 h3 => total_bits htt j h1 h2 k (.inl h3)) (fun b h1 h2 => hd b h1 (by omega)) ?_ fuel listed ρ0 a0 w0 hz (fun j hj => by rw [hl]; simp [hj]) (fun j hj => by rw [hl]; simp; omega) hcl hf (start hc hw0 ht hdf hl)
    intro fuel listed ρ a w hz hl hcl hf inv
    obtain ⟨h1, h2, h3⟩ := inv_end hV0 hc inv
    have hunl : listed.getD full.length false = false := by rw [hl]; simp
    cases fuel with
    | zero => have := leftN_set hz hm hunl; omega
    | succ fuel =>
      refine ⟨fun hr => ?_, fun i hi => ?_⟩
      · have := all_listed hsh hz hr _ hm
        rw [hunl] at this; cases this
      rw [mem_ready] at hi
      obtain ⟨h0, o', ho', hedges⟩ := hi
      have hlt := (Array.getElem?_eq_some_iff.1 ho').1
      rw [getD_false_of _ _ (by omega)] at h0
      have hAi : ∀ k, ((Region.before ops).getD i 0).testBit k = true → listed.getD k false = true := fun k hk =>
        anc_closed hsh (S := fun j => listed.getD j false) hcl i k hlt (fun o' e ho2 he hb => by rw [ho'] at ho2; cases ho2; exact hedges e he hb) hk
      have him : i = full.length := by
        rcases Nat.lt_trichotomy i full.length with h | h | h
        · rw [hl] at h0; simp [h] at h0
        · exact h
        · have := hAi _ (total_bits htt i (by omega) hlt full.length (.inr ⟨h, rfl⟩))
          rw [hunl] at this; cases this
      subst him
      unfold wpOpIn
      rw [ho]
      simp only [wanted_rel h2 hw, if_true]
      have hdis : ∀ b, V.next ≤ b → b < V2.next → ¬ grow D0 V0.next V.next b := fun b hb hb' hD => by
        rcases hD with hD | hD
        · exact hd b (by omega) (by omega) hD
        · omega
      refine op_wp hP hs ha (ops_rel h2 hok) h1.rel hdis ?_
      intro ρ2 v' w2 st hv
      have hag := st.agree hdis
      refine ih _ ρ2 w2 _ fuel (listed.setIfInBounds full.length true) st.rel (lput_rel (h2.ext hag fun _ h => .inl h) _ hv) (by rw [put_defers]; exact h3.ext hag fun _ h => .inl h) ?_ (by simpa using hz) ?_ ?_ (by have := leftN_set hz hm hunl; omega) ?_
      · intro b hb hb' hD
        rcases hD with (hD | hD) | hD
        · exact hd b (by omega) hb' hD
        · omega
        · omega
      · intro j
        by_cases hj : j = full.length
        · subst hj
          have : full.length < listed.size := by omega
          simp [this]
        · rw [getD_set_ne false (Ne.symm hj), hl]
          simp only [decide_eq_decide]
          omega
      · intro j o2 e hj ho2 he hb
        by_cases hk : e.on = full.length
        · rw [hk]
          have : full.length < listed.size := by omega
          simp [this]
        · rw [getD_set_ne false (Ne.symm hk)]
          by_cases hjr : j = full.length
          · subst hjr
            rw [ho'] at ho2; cases ho2
            exact hedges e he hb
          · rw [getD_set_ne false (Ne.symm hjr)] at hj
            exact hcl j o2 e hj ho2 he hb
      · intro ρ3 a3 w3 st3 ht3 hdf3
        rw [grow_grow hn hn2, grow_grow hn0 (by omega)] at ht3 hdf3
        exact hk ρ3 a3 w3 ((h1.trans st hw0).trans (by rw [← grow_grow hn0 hn]; exact st3) hw0) ht3 hdf3

theorem draw_ok (hP : Good P) (hs : SelfOK P sf) : DrawOK P sf := by
  intro ops ts V ts1 V1 hok hr
  simp only [Bool.and_eq_true] at hok
  have hsh := shape_of hok.1
  have hV0 : ∀ b o, V.get b = some o → b < V.next := fun b o hb => (mem_inb _ _ hok.2 b o (find_mem _ _ _ hb)).1
  have hsg := drawGo_segs hs ops.toList 0 ts V [] ts V ts1 V1 (.nil 0 (Nat.le_refl _)) (Nat.le_refl _) (fun k o hk => by simpa using hk) (by simp) hr
  refine ⟨(segs_walk hP hs hsh (n := 0) (Q := fun _ _ _ => True) (ro := none) (df := []) hsg hV0 (Nat.zero_le _)).1, fun ρ D w a n Q ro df hw ht hdf hd hk => ?_⟩
  have z : ∀ k, (Array.replicate ops.size false).getD k false = false := by intro k; simp only [Array.getD_eq_getD_getElem?, Array.getElem?_replicate]; split <;> rfl
  refine ((segs_walk hP hs hsh (n := n) (Q := Q) (ro := ro) (df := df) hsg hV0 (Nat.zero_le _)).2 D ρ w.drew a ops.size (Array.replicate ops.size false) ⟨hw.dom, hw.real, hw.own, hw.ro, hw.inj⟩ ht hdf hd (by simp) (fun j => by rw [z]; simp) (fun i o e hi => by rw [z] at hi; cases hi) ?_ ?_)
  · unfold leftN
    exact Nat.le_trans (List.length_filter_le _ _) (by simp)
  · intro ρ1 a1 w1 st ht1 hdf1
    exact hk ρ1 a1 w1 ⟨st.next, st.b, st.o, st.sz, st.es, st.rel, st.os, st.tape, st.output, st.size, st.frame, st.fresh⟩ ht1 hdf1

/-- **The machine of the small memory is sound.** -/
theorem run_sound (hP : Good P) : ∀ n, SelfOK P (run P n) := by
  intro n
  induction n with
  | zero => exact ⟨(fun _ _ _ _ _ _ _ _ _ h => by cases h), (fun _ _ _ _ _ _ _ _ _ h => by cases h), (fun _ _ _ _ _ h => by cases h)⟩
  | succ n ih => exact ⟨fun _ _ _ _ _ _ _ _ _ h => step_code hP ih (draw_ok hP ih) h, fun _ _ _ _ _ _ _ _ _ h => (step_loop ih h).2, fun _ _ _ _ _ h => step_call ih h⟩

/-- a closed call, computed -/
theorem call_closed (hP : Good P) {n : Nat} {f : FuncId} {v : Value} {V1 : View} (h : run P n (.call f [] ⟨0, []⟩) = some (.value v V1)) (hv : flatN 3 v = true) (w : World) :
    Calls P f #[] w fun e w' => e = .returned v ∧ RowKit.Below w.heap.size w w' := by
  obtain ⟨_, ok⟩ := (run_sound hP n).call _ _ _ _ _ h
  have := ok ⟨id, fun _ => 0, fun _ => 0, fun _ => 0⟩ (fun _ => False) w #[] 5 ⟨fun b o h => (by cases h), fun b o h => (by cases h), fun b o h => (by cases h), fun b cs e fz h => (by cases h), fun b c x y h => (by cases h)⟩ .nil (fun b _ _ h => h)
  refine (callsIn_wide.1 this).mono ?_
  rintro e w' ⟨ρ1, v', rfl, st, hr⟩
  have e := hr.flatN_eq 3 hv
  exact ⟨by rw [e], st.os, st.tape, st.output, st.size, fun k hk => st.frame k hk fun b o hb => by cases hb⟩
end Go.Vm
