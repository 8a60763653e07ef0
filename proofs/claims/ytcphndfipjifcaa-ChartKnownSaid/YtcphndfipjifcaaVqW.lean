/- A region that draws its order: one operation more, whichever it is. -/
import Derived.Test.YtcphndfipjifcaaVqU
namespace Go.Vm
variable {P : Program} {sf : Job → Option Out} {ops : Array Oper} {k0 : Nat} {ts0 : List Value} {V0 : View}

structure Frm (ρ0 : Ren) (g0 : Nat → Option Obj) (n : Nat) (w0 : World) (ρ : Ren) (g : Nat → Option Obj) (m : Nat) (w : World) : Prop where
  b : ∀ k, ¬ (n ≤ k ∧ k < m) → ρ.b k = ρ0.b k
  o : ∀ k, ¬ (n ≤ k ∧ k < m) → ρ.o k = ρ0.o k
  sz : ∀ k, ¬ (n ≤ k ∧ k < m) → ρ.sz k = ρ0.sz k
  es : ∀ k, ¬ (n ≤ k ∧ k < m) → ρ.es k = ρ0.es k
  os : w.os = w0.os
  tape : w.tape = w0.tape
  output : w.output = w0.output
  size : w0.heap.size ≤ w.heap.size
  frame : ∀ k, k < w0.heap.size → (∀ b o, g0 b = some o → owned o = true → ρ0.b b ≠ k) → w.heap[k]? = w0.heap[k]?
  fresh : ∀ b o, g b = some o → owned o = true → w0.heap.size ≤ ρ.b b ∨ ∃ b0 o0, g0 b0 = some o0 ∧ owned o0 = true ∧ ρ.b b = ρ0.b b0

structure Inv (P : Program) (ops : Array Oper) (ts0 : List Value) (V0 : View) (D0 : Nat → Prop) (ρ0 : Ren) (w0 : World) (N : Nat) (df : List Nat) (full : List Rec) (S : Nat → Bool) (ρ : Ren) (a : Act) (w : World) : Prop where
  rel : WRel P ρ (stD S D0 full) (stG S V0.get full) w
  tmps : TRel ρ (stD S D0 full) (stT ops S ts0 full) a.tmps
  defers : DRel ρ (stD S D0 full) df a.defers
  frm : Frm ρ0 V0.get V0.next w0 ρ (stG S V0.get full) N w

theorem frz_unowned {o0 o : Obj} (h : Frz o0 o) : owned o = false := by
  obtain ⟨c, e, fz, rfl, rfl⟩ := h; rfl
/-- what some see of it, not to be written -/
theorem wrel_view {ρ : Ren} {D : Nat → Prop} {g g1 : Nat → Option Obj} {w : World} (h : WRel P ρ D g w) (hv : ∀ b o, g1 b = some o → ∃ o0, g b = some o0 ∧ (o = o0 ∨ Frz o0 o)) : WRel P ρ D g1 w := by
  refine ⟨fun b o hb => ?_, fun b o hb => ?_, fun b o hb ho => ?_, fun b cs e fz hb hz i v hi => ?_, fun b c x y hb hc hx hne => ?_⟩
  · obtain ⟨o0, h1, _⟩ := hv b o hb; exact h.dom b o0 h1
  · obtain ⟨o0, h1, _⟩ := hv b o hb; exact h.real b o0 h1
  · obtain ⟨o0, h1, rfl | h2⟩ := hv b o hb
    · exact h.own b _ h1 ho
    · rw [frz_unowned h2] at ho; cases ho
  · obtain ⟨o0, h1, h2 | h2⟩ := hv b _ hb
    · exact h.ro b cs e fz (by rw [h1, ← h2]) hz i v hi
    · obtain ⟨c, e', fz', rfl, h3⟩ := h2
      cases h3
      by_cases h0 : fz'.2 = 0
      · obtain ⟨lo, hi'⟩ := fz'
        simp only at h0
        subst h0
        obtain ⟨h4, o', h5, h6⟩ := h.own b _ h1 rfl
        cases h6 with
        | cells hsz hes hle hvv =>
          obtain ⟨v', h7, h8⟩ := hvv i v hi
          exact ⟨v', by simp [World.cell?, h5, h4, h7], h8⟩
      · exact h.ro b _ _ fz' h1 h0 i v hi
  · obtain ⟨o0, h1, h2⟩ := hv b x hb
    obtain ⟨o1, h3, _⟩ := hv c y hc
    rcases h2 with rfl | h2
    · exact h.inj b c _ _ h1 h3 hx hne
    · rw [frz_unowned h2] at hx; cases hx

theorem lget_ext {xs ys : List Value} (hl : xs.length = ys.length) (h : ∀ t, lget xs t = lget ys t) : xs = ys := by
  apply List.ext_getElem hl
  intro i h1 h2
  have := h i
  rw [lget_eq, lget_eq, List.getElem?_eq_getElem h1, List.getElem?_eq_getElem h2] at this
  simpa using this
theorem wantedL_congr {ts ts' : List Value} {o : Oper} (h : ∀ t, t ∈ tmpsOf ops o → lget ts t = lget ts' t) : wantedL ops ts o = wantedL ops ts' o := by
  unfold wantedL
  cases hg : o.guard with
  | none => rfl
  | some p =>
    obtain ⟨j, want⟩ := p
    dsimp only
    cases hd : (ops[j]?).bind (·.dst) with
    | none => rfl
    | some d =>
      dsimp only
      rw [h d (by unfold tmpsOf; rw [hg]; simp [hd])]
theorem ev_tmps {ρ : Ren} {D : Nat → Prop} {ts ts' : List Value} {a : Act} {o : Oper} (h : ∀ t, t ∈ tmpsOf ops o → lget ts t = lget ts' t) (ht : TRel ρ D ts' a.tmps) (hok : okOps o = true) : ∀ x, x ∈ o.op.operands → VRel ρ D (ev ts x) (a.eval x) := by
  intro x hx
  have hc : okConst x = true := List.all_eq_true.1 hok x (by simpa using hx)
  cases x with
  | tmp t =>
    show VRel ρ D (lget ts t) _
    rw [h t (by unfold tmpsOf; simp only [List.mem_append, List.mem_filterMap]; exact .inl ⟨.tmp t, by simpa using hx, rfl⟩)]
    exact lget_rel ht t
  | _ => exact ev_rel ht hc

theorem stD_lt {S : Nat → Bool} {D : Nat → Prop} {b : Nat} {recs : List Rec} {ts : List Value} {V : View} (hc : Coll P sf ops k0 ts0 V0 recs ts V) : stD S D recs b → D b ∨ b < V.next := by
  intro h
  have : ∀ (l : List Rec), (∀ r, r ∈ l → r.vo.next ≤ V.next) → stD S D l b → D b ∨ b < V.next := by
    intro l
    induction l with
    | nil => intro _ h; exact .inl h
    | cons r l ih =>
      intro hl h
      rcases h with h | ⟨_, _, h⟩
      · exact ih (fun r hr => hl r (by simp [hr])) h
      · have := hl r (by simp); exact .inr (by omega)
  exact this recs (fun r hr => (coll_next hc r hr).2) h
theorem coll_head {r : Rec} {rest : List Rec} {ts : List Value} {V : View} (hc : Coll P sf ops k0 ts0 V0 (r :: rest) ts V) : ∃ ts' V', Coll P sf ops k0 ts0 V0 rest ts' V' ∧ r.vi.next = V'.next := by
  generalize hq : r :: rest = l at hc
  cases hc with
  | nil k hk => obtain ⟨j, rfl, hl, h1, _, _⟩ := dummies_cons hq; exact ⟨ts0, V0, by rw [hl]; exact .nil j (by omega), h1⟩
  | run hc hk ho hok hw hv ha hg hi hn => cases hq; exact ⟨_, _, hc, (view_spec hi hv).1⟩
  | skip hc => cases hq; exact ⟨_, _, hc, rfl⟩
theorem stD_not {S : Nat → Bool} {D : Nat → Prop} {r : Rec} {rest : List Rec} (hS : S rest.length = false) {b : Nat} (h1 : r.vi.next ≤ b) (h2 : b < r.vo.next) :
    ∀ (later : List Rec) {ts : List Value} {V : View}, Coll P sf ops k0 ts0 V0 (later ++ r :: rest) ts V → stD S D (later ++ r :: rest) b → D b
  | [], ts, V, hc, h => by
    obtain ⟨ts', V', hc', e⟩ := coll_head hc
    rcases h with h | ⟨h, _⟩
    · rcases stD_lt hc' h with h | h
      · exact h
      · omega
    · rw [hS] at h; cases h
  | x :: later, ts, V, hc, h => by
    obtain ⟨ts', V', hc', e⟩ := coll_head hc
    rcases h with h | ⟨_, h3, _⟩
    · exact stD_not hS h1 h2 later hc' h
    · have := (coll_next hc' r (by simp)).2
      omega

theorem draw_step (hP : Good P) (hs : SelfOK P sf) (hsh : Shape ops) {D0 : Nat → Prop} {ρ0 : Ren} {w0 : World} {df : List Nat} {later rest : List Rec} {r : Rec} {ts1 : List Value} {V1 : View} {S S' : Nat → Bool}
    (hV0 : ∀ b o, V0.get b = some o → b < V0.next) (hc : Coll P sf ops k0 ts0 V0 (later ++ r :: rest) ts1 V1) (hSi : S rest.length = false) (hS' : S' rest.length = true) (hne : ∀ j, j ≠ rest.length → S' j = S j) (hlow : ∀ j, j < k0 → S j = true)
    (hcl : ∀ j k, S j = true → ((Region.before ops).getD j 0).testBit k = true → S k = true) (hAi : ∀ k, ((Region.before ops).getD rest.length 0).testBit k = true → S k = true)
    (hd : ∀ b, V0.next ≤ b → b < V1.next → ¬ D0 b) {ρ : Ren} {a : Act} {w : World} (inv : Inv P ops ts0 V0 D0 ρ0 w0 V1.next df (later ++ r :: rest) S ρ a w)
    {n : Nat} {Q : Exit → Act → World → Prop} {ro : Option Nat} {K : Act → World → Prop} (hK : ∀ ρ' a' w', Inv P ops ts0 V0 D0 ρ0 w0 V1.next df (later ++ r :: rest) S' ρ' a' w' → K a' w') :
    wpOpIn (fence ro) n P ops Q rest.length K a w := by
  obtain ⟨tsr, Vr, hcr⟩ := coll_suffix later hc
  have hrn := coll_next hc r (by simp)
  have hnotin : ∀ j, rest.length < j → S j = true → ((Region.before ops).getD j 0).testBit rest.length = false := by
    intro j _ hj
    cases hq : ((Region.before ops).getD j 0).testBit rest.length with
    | false => rfl
    | true => rw [hcl j _ hj hq] at hSi; cases hSi
  have hnotin' : ∀ j, rest.length < j → S' j = true → ((Region.before ops).getD j 0).testBit rest.length = false := by
    intro j h1 h2; exact hnotin j h1 (by rw [← hne j (by omega)]; exact h2)
  have hlt : ∀ i k, ((Region.before ops).getD i 0).testBit k = true → i < ops.size := by
    intro i k h
    rcases Nat.lt_or_ge i ops.size with h1 | h1
    · exact h1
    · exfalso
      have hz : (Region.before ops).size = ops.size := by rw [before_eq]; have := (anc_list ops.toList #[]).1; simpa using this
      rw [Array.getD_eq_getD_getElem?, Array.getElem?_eq_none_iff.2 (by omega)] at h
      simp at h
  have bindDst : ∀ {j : Nat} {t : Nat}, (ops[j]?).bind (·.dst) = some t → ∃ q, ops[j]? = some q ∧ q.dst = some t := by
    intro j t h
    cases hq : ops[j]? with
    | none => rw [hq] at h; cases h
    | some q => rw [hq] at h; exact ⟨q, rfl, h⟩
  have hget : ∀ {o : Oper} {tsi : List Value} {Vi : View}, ops[rest.length]? = some o → Coll P sf ops k0 ts0 V0 rest tsi Vi → ∀ t, t ∈ tmpsOf ops o → lget tsi t = lget (stT ops S ts0 (later ++ r :: rest)) t := by
    intro o tsi Vi ho hci t ht
    rw [(coll_state hV0 hci).1]
    have e1 : lget (stT ops S ts0 (later ++ r :: rest)) t = lget (stT ops S ts0 rest) t := by
      have := stT_skip (ops := ops) (S := S) (ts0 := ts0) (t := t) (base := rest) (later ++ [r]) (fun j hj hSj hdj => by
        obtain ⟨q, hq1, hq2⟩ := bindDst hdj
        rcases hsh.tmp rest.length j o q t ho hq1 hq2 ht with h | h | h
        · rw [← h, hSi] at hSj; cases hSj
        · have := anc_lt hsh rest.length j (hlt _ _ h) h; omega
        · rw [hcl j _ hSj h] at hSi; cases hSi)
      simpa using this
    rw [e1]
    refine (stT_all rest fun j hj hdj => ?_).symm
    obtain ⟨q, hq1, hq2⟩ := bindDst hdj
    rcases hsh.tmp rest.length j o q t ho hq1 hq2 ht with h | h | h
    · omega
    · exact hAi j h
    · have := anc_lt hsh j rest.length (hlt _ _ h) h; omega
  have hdst : ∀ {o : Oper}, ops[rest.length]? = some o → ∀ v, r.val = v → stT ops S' ts0 (later ++ r :: rest) = lput (stT ops S ts0 (later ++ r :: rest)) o.dst v := by
    intro o ho v hv
    apply lget_ext
    · cases hdo : o.dst with
      | none => simp only [lput]; rw [stT_len, stT_len]
      | some d => simp only [lput, lset_eq, List.length_set]; rw [stT_len, stT_len]
    · intro t
      rw [lget_lput, stT_len]
      have := stT_add (ops := ops) (ts0 := ts0) (r := r) hSi hS' hne (t := t) (fun j hj h1 h2 => by
        obtain ⟨p, hp1, hp2⟩ := bindDst h1
        obtain ⟨q, hq1, hq2⟩ := bindDst h2
        have := hsh.dst _ _ p q t hp1 hq1 hp2 hq2
        omega) later
      rw [this, ho, hv]
      rfl
  have hD' : stD S' D0 (later ++ r :: rest) = grow (stD S D0 (later ++ r :: rest)) r.vi.next r.vo.next := by
    funext b; exact propext (stD_add hSi hS' hne b later)
  generalize hq : r :: rest = l at hcr
  cases hcr with
  | nil k hk =>
    obtain ⟨j, rfl, hl, _⟩ := dummies_cons hq
    have : rest.length = j := by rw [hl, dummies_length]
    rw [hlow _ (by omega)] at hSi; cases hSi
  | @skip recs tsi Vi o hci hkk ho hok hw =>
    cases hq
    have hg := hget ho hci
    have hwant := wanted_rel inv.tmps (by rw [← wantedL_congr hg]; exact hw)
    unfold wpOpIn
    rw [ho]
    simp only [hwant, Bool.false_eq_true, if_false]
    refine ⟨fun f _ => trivial, hK ρ _ w ?_⟩
    have hGG : stG S' V0.get (later ++ ⟨⟨Vr.next, []⟩, undef, ⟨Vr.next, []⟩, none⟩ :: rest) = stG S V0.get (later ++ ⟨⟨Vr.next, []⟩, undef, ⟨Vr.next, []⟩, none⟩ :: rest) := by
      funext b
      refine stG_add hSi hne ?_ later
      cases hT : touch ⟨⟨Vr.next, []⟩, undef, ⟨Vr.next, []⟩, none⟩ b with
      | false => rfl
      | true =>
        simp only [touch, isWr, Bool.false_or, Bool.and_eq_true, Nat.blt_eq] at hT
        have := Nat.le_of_ble_eq_true hT.1
        omega
    have hDD : stD S' D0 (later ++ ⟨⟨Vr.next, []⟩, undef, ⟨Vr.next, []⟩, none⟩ :: rest) = stD S D0 (later ++ ⟨⟨Vr.next, []⟩, undef, ⟨Vr.next, []⟩, none⟩ :: rest) := by
      rw [hD']; exact grow_nil
    refine ⟨by rw [hGG, hDD]; exact inv.rel, ?_, by rw [hDD, put_defers]; exact inv.defers, by rw [hGG]; exact inv.frm⟩
    rw [hDD, hdst ho undef rfl]
    exact lput_rel inv.tmps _ undef_rel
  | @run recs tsi Vi o vi vo wr v hci hkk ho hok hw hv ha hgo hi hn =>
    cases hq
    have hg := hget ho hci
    have hwant := wanted_rel inv.tmps (by rw [← wantedL_congr hg]; exact hw)
    obtain ⟨_, hVi, hVib, hVin⟩ := coll_state hV0 hci
    obtain ⟨e1, e2, e3⟩ := view_spec hi hv
    have hsee : ∀ b o', find vi.objs b = some o' → ∃ o0, stG S V0.get (later ++ ⟨vi, v, vo, wr⟩ :: rest) b = some o0 ∧ ((isWr wr b = true ∧ o' = o0) ∨ (isWr wr b = false ∧ Frz o0 o')) := by
      intro b o' hb
      obtain ⟨h1, o0, h2, h3⟩ := e2 b o' hb
      refine ⟨o0, ?_, h3⟩
      rw [later_untouched (r := ⟨vi, v, vo, wr⟩) (.inl (by show (find vi.objs b).isSome = true; rw [hb]; rfl)) (by show b < vo.next; have := hVib b o0 h2; omega) hnotin later hc]
      simp only [stG, hSi, Bool.false_and]
      rw [stG_all rest h1 (fun j _ hj => hAi j hj), ← hVi b]; exact h2
    have hpre : WRel P ρ (stD S D0 (later ++ ⟨vi, v, vo, wr⟩ :: rest)) vi.get w := wrel_view inv.rel fun b o' hb => by
      obtain ⟨o0, h1, h2⟩ := hsee b o' hb
      exact ⟨o0, h1, h2.imp And.right And.right⟩
    have hdis : ∀ b, vi.next ≤ b → b < vo.next → ¬ stD S D0 (later ++ ⟨vi, v, vo, wr⟩ :: rest) b := by
      intro b h1 h2 h3
      have := stD_not (r := ⟨vi, v, vo, wr⟩) hSi h1 h2 later hc h3
      refine hd b (by omega) ?_ this
      have : vo.next ≤ V1.next := hrn.2
      omega
    unfold wpOpIn
    rw [ho]
    simp only [hwant, if_true]
    refine op_wp hP hs ha (ev_tmps hg inv.tmps hok) hpre hdis ?_
    intro ρ2 v' w2 st hvr
    refine hK ρ2 _ w2 ?_
    have hag := st.agree hdis
    -- the state with this one
    have hG : ∀ b, stG S' V0.get (later ++ ⟨vi, v, vo, wr⟩ :: rest) b = if touch ⟨vi, v, vo, wr⟩ b = true then find vo.objs b else stG S V0.get (later ++ ⟨vi, v, vo, wr⟩ :: rest) b := by
      intro b
      by_cases ht : touch ⟨vi, v, vo, wr⟩ b = true
      · rw [if_pos ht]
        have hbn : b < vo.next := by
          have ht2 := ht
          simp only [touch, Bool.or_eq_true, Bool.and_eq_true, Nat.blt_eq] at ht2
          rcases ht2 with ht2 | ht2
          · obtain ⟨_, _, h3⟩ := e3 b (isWr_iff.1 ht2)
            cases hq : find vi.objs b with
            | none => rw [hq] at h3; cases h3
            | some o' =>
              obtain ⟨_, o0, h4, _⟩ := e2 b o' hq
              have := hVib b o0 h4
              omega
          · exact ht2.2
        rw [later_untouched (r := ⟨vi, v, vo, wr⟩) (.inr ht) hbn hnotin' later hc]
        simp only [stG, hS', ht, Bool.and_self]
      · rw [if_neg ht]
        exact stG_add hSi hne (by simpa using ht) later
    have hwr : ∀ b o', find vi.objs b = some o' → owned o' = true → isWr wr b = true ∧ stG S V0.get (later ++ ⟨vi, v, vo, wr⟩ :: rest) b = some o' := by
      intro b o' hb ho'
      obtain ⟨o0, h1, ⟨h2, rfl⟩ | ⟨_, h2⟩⟩ := hsee b o' hb
      · exact ⟨h2, h1⟩
      · rw [frz_unowned h2] at ho'; cases ho'
    have hsame : ∀ b o', touch ⟨vi, v, vo, wr⟩ b = false → stG S V0.get (later ++ ⟨vi, v, vo, wr⟩ :: rest) b = some o' → ρ2.b b = ρ.b b ∧ ρ2.o b = ρ.o b ∧ w2.heap[ρ.b b]? = w.heap[ρ.b b]? := by
      intro b o' ht hb
      have hDb := inv.rel.dom _ _ hb
      refine ⟨hag.b _ hDb, hag.o _ hDb, st.frame _ (inv.rel.real _ _ hb) fun b0 o0 hb0 ho0 => ?_⟩
      obtain ⟨h1, h2⟩ := hwr b0 o0 hb0 ho0
      refine inv.rel.inj b0 b _ _ h2 hb ho0 fun e => ?_
      subst e
      simp [touch, h1] at ht
    have hown : ∀ b o', touch ⟨vi, v, vo, wr⟩ b = true → find vo.objs b = some o' → owned o' = true := by
      intro b o' ht hb
      rcases (goodOut_spec _ hgo b o' hb).2 with h | ⟨h1, h2⟩
      · exact h
      · exfalso
        simp only [touch, h2, Bool.false_or, Bool.and_eq_true] at ht
        have := Nat.le_of_ble_eq_true ht.1
        omega
    have hfr : ∀ b o', touch ⟨vi, v, vo, wr⟩ b = true → find vo.objs b = some o' → w.heap.size ≤ ρ2.b b ∨ ∃ b0 o0, stG S V0.get (later ++ ⟨vi, v, vo, wr⟩ :: rest) b0 = some o0 ∧ owned o0 = true ∧ isWr wr b0 = true ∧ ρ2.b b = ρ.b b0 := by
      intro b o' ht hb
      rcases st.fresh b o' hb (hown b o' ht hb) with h | ⟨b0, o0, h1, h2, h3⟩
      · exact .inl h
      · obtain ⟨h4, h5⟩ := hwr b0 o0 h1 h2
        exact .inr ⟨b0, o0, h5, h2, h4, h3⟩
    have tw : ∀ b, isWr wr b = true → touch ⟨vi, v, vo, wr⟩ b = true := fun b h => by simp [touch, h]
    refine ⟨?_, ?_, ?_, ?_⟩
    · rw [hD']
      refine ⟨fun b o' hb => ?_, fun b o' hb => ?_, fun b o' hb ho' => ?_, fun b cs e fz hb hz i x hx => ?_, fun b c x y hb hcc hx hbc => ?_⟩
      · rw [hG] at hb; split at hb
        · exact st.rel.dom _ _ hb
        · exact .inl (inv.rel.dom _ _ hb)
      · rw [hG] at hb; split at hb
        · exact st.rel.real _ _ hb
        · rename_i ht
          obtain ⟨h1, _, _⟩ := hsame b o' (by simpa using ht) hb
          rw [h1]; have := inv.rel.real _ _ hb; have := st.size; omega
      · rw [hG] at hb; split at hb
        · exact st.rel.own _ _ hb ho'
        · rename_i ht
          obtain ⟨h1, h2, h3⟩ := hsame b o' (by simpa using ht) hb
          obtain ⟨h4, x', h5, h6⟩ := inv.rel.own _ _ hb ho'
          exact ⟨by rw [h2]; exact h4, x', by rw [h1, h3]; exact h5, h6.ext hag (fun k hk => .inl hk) (inv.rel.dom _ _ hb)⟩
      · rw [hG] at hb; split at hb
        · exact st.rel.ro _ _ _ _ hb hz i x hx
        · rename_i ht
          obtain ⟨h1, h2, h3⟩ := hsame b _ (by simpa using ht) hb
          obtain ⟨v2, h4, h5⟩ := inv.rel.ro _ _ _ _ hb hz i x hx
          refine ⟨v2, ?_, h5.ext hag (fun k hk => .inl hk)⟩
          rw [h1, h2, ← h4]; unfold World.cell?; rw [h3]
      · rw [hG] at hb hcc
        split at hb
        · rename_i ht
          split at hcc
          · exact st.rel.inj _ _ _ _ hb hcc hx hbc
          · rename_i htc
            obtain ⟨h1, _, _⟩ := hsame c y (by simpa using htc) hcc
            rw [h1]
            rcases hfr b x ht hb with h | ⟨b0, o0, h2, h3, h4, h5⟩
            · have := inv.rel.real _ _ hcc; omega
            · rw [h5]
              exact inv.rel.inj b0 c _ _ h2 hcc h3 fun e => by subst e; exact htc (tw _ h4)
        · rename_i ht
          obtain ⟨h1, _, _⟩ := hsame b x (by simpa using ht) hb
          rw [h1]
          split at hcc
          · rename_i htc
            rcases hfr c y htc hcc with h | ⟨b0, o0, h2, h3, h4, h5⟩
            · have := inv.rel.real _ _ hb; omega
            · rw [h5]
              exact inv.rel.inj b b0 _ _ hb h2 hx fun e => by subst e; exact ht (tw _ h4)
          · rename_i htc
            obtain ⟨h6, _, _⟩ := hsame c y (by simpa using htc) hcc
            rw [h6]
            exact inv.rel.inj _ _ _ _ hb hcc hx hbc
    · rw [hD', hdst ho v rfl]
      exact lput_rel (inv.tmps.ext hag fun _ h => .inl h) _ hvr
    · rw [hD', put_defers]
      exact inv.defers.ext hag fun _ h => .inl h
    · have hrange : ∀ k, ¬ (V0.next ≤ k ∧ k < V1.next) → ¬ (vi.next ≤ k ∧ k < vo.next) := by
        intro k h1 h2
        have : vo.next ≤ V1.next := hrn.2
        exact h1 (by omega)
      have f := inv.frm
      refine ⟨fun k hk => (st.b k (hrange k hk)).trans (f.b k hk), fun k hk => (st.o k (hrange k hk)).trans (f.o k hk), fun k hk => (st.sz k (hrange k hk)).trans (f.sz k hk), fun k hk => (st.es k (hrange k hk)).trans (f.es k hk),
        st.os.trans f.os, st.tape.trans f.tape, st.output.trans f.output, Nat.le_trans f.size st.size, fun k hk hn' => ?_, fun b o' hb ho' => ?_⟩
      · rw [← f.frame k hk hn']
        refine st.frame k (Nat.lt_of_lt_of_le hk f.size) fun b0 o0 hb0 ho0 e => ?_
        obtain ⟨h1, h2⟩ := hwr b0 o0 hb0 ho0
        rcases f.fresh b0 o0 h2 ho0 with h | ⟨b1, o1, h3, h4, h5⟩
        · omega
        · exact hn' b1 o1 h3 h4 (by rw [← h5]; exact e)
      · rw [hG] at hb; split at hb
        · rename_i ht
          rcases hfr b o' ht hb with h | ⟨b0, o0, h2, h3, h4, h5⟩
          · exact .inl (Nat.le_trans f.size h)
          · rcases f.fresh b0 o0 h2 h3 with h | ⟨b1, o1, h6, h7, h8⟩
            · exact .inl (by rw [h5]; exact h)
            · exact .inr ⟨b1, o1, h6, h7, h5.trans h8⟩
        · rename_i ht
          obtain ⟨h1, _, _⟩ := hsame b o' (by simpa using ht) hb
          rcases f.fresh b o' hb ho' with h | ⟨b1, o1, h6, h7, h8⟩
          · exact .inl (by rw [h1]; exact h)
          · exact .inr ⟨b1, o1, h6, h7, h1.trans h8⟩
end Go.Vm
