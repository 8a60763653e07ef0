/- A region that draws its order: the states of the operations that have come so far. -/
import Derived.Test.YtcphndfipjifcaaVqT
namespace Go.Vm
variable {P : Program} {sf : Job → Option Out} {ops : Array Oper} {k0 : Nat} {ts0 : List Value} {V0 : View}

theorem coll_next {recs : List Rec} {ts : List Value} {V : View} (hc : Coll P sf ops k0 ts0 V0 recs ts V) : ∀ r, r ∈ recs → r.vi.next ≤ r.vo.next ∧ r.vo.next ≤ V.next := by
  induction hc with
  | nil k hk =>
    intro r hr
    clear hk
    induction k with
    | zero => cases hr
    | succ k ih =>
      rcases List.mem_cons.1 hr with rfl | hr
      · exact ⟨Nat.le_refl _, Nat.le_refl _⟩
      · exact ih hr
  | @run recs ts V o vi vo wr v hc hk ho hok hw hv ha hg hi hn ih =>
    intro r hr
    have e1 := (view_spec hi hv).1
    rcases List.mem_cons.1 hr with rfl | hr
    · exact ⟨hn, Nat.le_refl _⟩
    · have := ih r hr
      exact ⟨this.1, by show r.vo.next ≤ vo.next; omega⟩
  | @skip recs ts V o hc hk ho hok hw ih =>
    intro r hr
    rcases List.mem_cons.1 hr with rfl | hr
    · exact ⟨Nat.le_refl _, Nat.le_refl _⟩
    · exact ih r hr
theorem coll_suffix : ∀ (later : List Rec) {recs : List Rec} {ts : List Value} {V : View}, Coll P sf ops k0 ts0 V0 (later ++ recs) ts V → ∃ ts' V', Coll P sf ops k0 ts0 V0 recs ts' V'
  | [], _, _, _, h => ⟨_, _, h⟩
  | x :: later, recs, ts, V, h => by
    rw [List.cons_append] at h
    generalize hq : x :: (later ++ recs) = l at h
    cases h with
    | nil k hk => obtain ⟨j, rfl, hl, _⟩ := dummies_cons hq; exact coll_suffix later (ts := ts0) (V := V0) (by rw [hl]; exact .nil j (by omega))
    | run hc => cases hq; exact coll_suffix later hc
    | skip hc => cases hq; exact coll_suffix later hc

theorem hid_app {A : Nat} {b : Nat} {r : Rec} {rest : List Rec} (hA : A.testBit rest.length = false) : ∀ (l : List Rec), hid A (l ++ r :: rest) b = false → touch r b = false
  | [], h => by
    simp only [List.nil_append, hid, hA, Bool.not_false, Bool.true_and, Bool.or_eq_false_iff] at h
    exact h.1
  | x :: l, h => by
    simp only [List.cons_append, hid, Bool.or_eq_false_iff] at h
    exact hid_app hA l h.2
theorem clash_app {A : Nat} {b : Nat} {r : Rec} {rest : List Rec} (hA : A.testBit rest.length = false) : ∀ (l : List Rec), clash A (l ++ r :: rest) b = false → (find r.vi.objs b).isSome = false
  | [], h => by
    simp only [List.nil_append, clash, hA, Bool.not_false, Bool.true_and, Bool.or_eq_false_iff] at h
    exact h.1
  | x :: l, h => by
    simp only [List.cons_append, clash, Bool.or_eq_false_iff] at h
    exact clash_app hA l h.2

theorem later_untouched {S : Nat → Bool} {g0 : Nat → Option Obj} {r : Rec} {rest : List Rec} {b : Nat} (hb : (find r.vi.objs b).isSome = true ∨ touch r b = true) (hbn : b < r.vo.next)
    (hA : ∀ j, rest.length < j → S j = true → ((Region.before ops).getD j 0).testBit rest.length = false) :
    ∀ (later : List Rec) {ts : List Value} {V : View}, Coll P sf ops k0 ts0 V0 (later ++ r :: rest) ts V → stG S g0 (later ++ r :: rest) b = stG S g0 (r :: rest) b
  | [], _, _, _ => rfl
  | x :: later, ts, V, h => by
    rw [List.cons_append] at h ⊢
    generalize hq : x :: (later ++ r :: rest) = l at h
    have hidx : rest.length < (later ++ r :: rest).length := by simp; omega
    have key : ∀ {ts' : List Value} {V' : View}, Coll P sf ops k0 ts0 V0 (later ++ r :: rest) ts' V' → (S (later ++ r :: rest).length = true → touch x b = false) → stG S g0 (x :: (later ++ r :: rest)) b = stG S g0 (r :: rest) b := by
      intro ts' V' hc ht
      simp only [stG]
      have : (S (later ++ r :: rest).length && touch x b) = false := by
        cases hS : S (later ++ r :: rest).length with
        | false => rfl
        | true => simpa [hS] using ht hS
      rw [this]
      exact later_untouched hb hbn hA later hc
    cases h with
    | nil k hk => obtain ⟨j, rfl, hl, _, _, ht⟩ := dummies_cons hq; rw [← hq]; exact key (ts' := ts0) (V' := V0) (by rw [hl]; exact .nil j (by omega)) (fun _ => ht b)
    | @run recs ts' V' o vi vo wr v hc hk ho hok hw hv ha hg hi hn =>
      cases hq
      refine key hc fun hS => ?_
      obtain ⟨e1, _, e3⟩ := view_spec hi hv
      have hAj := hA _ hidx hS
      cases hT : touch ⟨vi, v, vo, wr⟩ b with
      | false => rfl
      | true =>
        exfalso
        simp only [touch, Bool.or_eq_true, Bool.and_eq_true, Nat.blt_eq] at hT
        rcases hT with hT | ⟨hT, _⟩
        · obtain ⟨h1, h2, _⟩ := e3 b (isWr_iff.1 hT)
          have h3 := hid_app hAj later h1
          have h4 := clash_app hAj later h2
          rcases hb with hb | hb
          · rw [h4] at hb; cases hb
          · rw [h3] at hb; cases hb
        · have := Nat.le_of_ble_eq_true hT
          have := (coll_next hc r (by simp)).2
          omega
    | @skip recs ts' V' o hc hk ho hok hw =>
      cases hq
      refine key hc fun hS => ?_
      cases hT : touch ⟨⟨V.next, []⟩, undef, ⟨V.next, []⟩, none⟩ b with
      | false => rfl
      | true =>
        simp only [touch, isWr, Bool.false_or, Bool.and_eq_true, Nat.blt_eq] at hT
        have := Nat.le_of_ble_eq_true hT.1
        omega

theorem stG_congr {S S' : Nat → Bool} {g0 : Nat → Option Obj} : ∀ (l : List Rec), (∀ j, j < l.length → S j = S' j) → ∀ b, stG S g0 l b = stG S' g0 l b
  | [], _, b => rfl
  | r :: l, h, b => by
    simp only [stG]
    rw [h l.length (by simp), stG_congr l (fun j hj => h j (by simp; omega)) b]
/-- below it, all that turned b is there -/
theorem stG_all {S : Nat → Bool} {g0 : Nat → Option Obj} {b : Nat} {A : Nat} : ∀ (l : List Rec), hid A l b = false → (∀ j, j < l.length → A.testBit j = true → S j = true) → stG S g0 l b = stG (fun _ => true) g0 l b
  | [], _, _ => rfl
  | r :: l, h, hA => by
    simp only [hid, Bool.or_eq_false_iff, Bool.and_eq_false_iff, Bool.not_eq_false'] at h
    simp only [stG, Bool.true_and]
    have ih := stG_all (S := S) (g0 := g0) l h.2 (fun j hj => hA j (by simp; omega))
    rcases h.1 with h1 | h1
    · rw [hA l.length (by simp) h1, Bool.true_and, ih]
    · rw [h1, Bool.and_false]; exact ih

theorem stT_len {S : Nat → Bool} : ∀ (l : List Rec), (stT ops S ts0 l).length = ts0.length
  | [] => rfl
  | r :: l => by
    simp only [stT]
    split
    · cases h : (ops[l.length]?).bind (·.dst) with
      | none => simp only [lput]; exact stT_len l
      | some d => simp only [lput, lset_eq, List.length_set]; exact stT_len l
    · exact stT_len l
theorem lget_lput (ts : List Value) (d : Option Tmp) (v : Value) (t : Nat) : lget (lput ts d v) t = if d = some t ∧ t < ts.length then v else lget ts t := by
  cases d with
  | none => simp [lput]
  | some d =>
    simp only [lput, lset_eq, lget_eq, Option.some.injEq]
    rw [List.getElem?_set]
    by_cases h : d = t
    · subst h
      by_cases h2 : d < ts.length
      · simp [h2]
      · have : ts[d]? = none := List.getElem?_eq_none_iff.2 (Nat.le_of_not_lt h2)
        simp [h2, this]
    · simp [h]
theorem stT_congr {S S' : Nat → Bool} : ∀ (l : List Rec), (∀ j, j < l.length → S j = S' j) → stT ops S ts0 l = stT ops S' ts0 l
  | [], _ => rfl
  | r :: l, h => by
    simp only [stT]
    rw [h l.length (by simp), stT_congr l (fun j hj => h j (by simp; omega))]
theorem stT_skip {S : Nat → Bool} {t : Nat} {base : List Rec} : ∀ (later : List Rec), (∀ j, base.length ≤ j → S j = true → (ops[j]?).bind (·.dst) ≠ some t) → lget (stT ops S ts0 (later ++ base)) t = lget (stT ops S ts0 base) t
  | [], _ => rfl
  | x :: later, h => by
    simp only [List.cons_append, stT]
    split
    · rename_i hS
      rw [lget_lput, if_neg (fun e => h _ (by simp) hS e.1)]
      exact stT_skip later h
    · exact stT_skip later h
theorem stT_all {S : Nat → Bool} {t : Nat} : ∀ (l : List Rec), (∀ j, j < l.length → (ops[j]?).bind (·.dst) = some t → S j = true) → lget (stT ops S ts0 l) t = lget (stT ops (fun _ => true) ts0 l) t
  | [], _ => rfl
  | r :: l, h => by
    have ih := stT_all (S := S) l (fun j hj => h j (by simp; omega))
    simp only [stT]
    rw [lget_lput]
    split
    · rw [lget_lput, stT_len, stT_len, ih]
    · rename_i hS
      rw [if_neg, ih]
      intro e
      rw [h l.length (by simp) e.1] at hS; cases hS
theorem stT_add {S S' : Nat → Bool} {r : Rec} {rest : List Rec} (hS : S rest.length = false) (hS' : S' rest.length = true) (hne : ∀ j, j ≠ rest.length → S' j = S j) {t : Nat}
    (hd : ∀ j, rest.length < j → (ops[rest.length]?).bind (·.dst) = some t → (ops[j]?).bind (·.dst) ≠ some t) :
    ∀ (later : List Rec), lget (stT ops S' ts0 (later ++ r :: rest)) t = if (ops[rest.length]?).bind (·.dst) = some t ∧ t < ts0.length then r.val else lget (stT ops S ts0 (later ++ r :: rest)) t
  | [] => by
    simp only [List.nil_append, stT, hS, hS']
    rw [lget_lput, stT_len, stT_congr (S := S') (S' := S) rest (fun j hj => hne j (by omega))]
  | x :: later => by
    have ih := stT_add (r := r) hS hS' hne hd later
    have hidx : rest.length < (later ++ r :: rest).length := by simp; omega
    simp only [List.cons_append, stT]
    rw [hne _ (by omega)]
    split
    · rw [lget_lput, lget_lput, ih, stT_len, stT_len]
      by_cases h1 : (ops[(later ++ r :: rest).length]?).bind (·.dst) = some t ∧ t < ts0.length
      · rw [if_pos h1, if_pos h1, if_neg]
        intro e
        exact hd _ hidx e.1 h1.1
      · rw [if_neg h1, if_neg h1]
    · exact ih
theorem stG_add {S S' : Nat → Bool} {g0 : Nat → Option Obj} {r : Rec} {rest : List Rec} (hS : S rest.length = false) (hne : ∀ j, j ≠ rest.length → S' j = S j) {b : Nat} (ht : touch r b = false) :
    ∀ (later : List Rec), stG S' g0 (later ++ r :: rest) b = stG S g0 (later ++ r :: rest) b
  | [] => by
    simp only [List.nil_append, stG, ht, Bool.and_false]
    exact stG_congr rest (fun j hj => hne j (by omega)) b
  | x :: later => by
    simp only [List.cons_append, stG]
    rw [hne _ (by simp; omega), stG_add hS hne ht later]
theorem stD_congr {S S' : Nat → Bool} {D : Nat → Prop} : ∀ (l : List Rec), (∀ j, j < l.length → S j = S' j) → ∀ b, stD S D l b ↔ stD S' D l b
  | [], _, b => Iff.rfl
  | r :: l, h, b => by
    simp only [stD]
    rw [h l.length (by simp), stD_congr l (fun j hj => h j (by simp; omega)) b]
theorem stD_add {S S' : Nat → Bool} {D : Nat → Prop} {r : Rec} {rest : List Rec} (hS : S rest.length = false) (hS' : S' rest.length = true) (hne : ∀ j, j ≠ rest.length → S' j = S j) (b : Nat) :
    ∀ (later : List Rec), stD S' D (later ++ r :: rest) b ↔ grow (stD S D (later ++ r :: rest)) r.vi.next r.vo.next b
  | [] => by
    simp only [List.nil_append, stD, hS, hS', grow]
    rw [stD_congr (S := S') (S' := S) rest (fun j hj => hne j (by omega)) b]
    simp
  | x :: later => by
    have ih := stD_add (D := D) (r := r) hS hS' hne b later
    simp only [List.cons_append, stD]
    rw [hne _ (by simp; omega), ih]
    unfold grow
    simp only [stD]
    constructor
    · rintro ((h | h) | h)
      · exact .inl (.inl h)
      · exact .inr h
      · exact .inl (.inr h)
    · rintro ((h | h) | h)
      · exact .inl (.inl h)
      · exact .inr h
      · exact .inl (.inr h)
end Go.Vm
