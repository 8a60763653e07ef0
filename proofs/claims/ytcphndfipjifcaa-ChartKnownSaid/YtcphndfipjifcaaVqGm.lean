/- What is asked of a region that draws its order, asked quickly. -/
import Derived.Test.YtcphndfipjifcaaVqGi
namespace Go.Vm
noncomputable def nthN : List Nat → Nat → Nat := List.rec (motive := fun _ => Nat → Nat) (fun _ => 0) (fun x _ ih i => Nat.rec (motive := fun _ => Nat → (Nat → Nat) → Nat) (fun x _ => x) (fun j _ _ ih => ih j) i x ih)
theorem nthN_eq : ∀ (l : List Nat) (i : Nat), nthN l i = (l[i]?).getD 0
  | [], i => rfl
  | x :: l, 0 => rfl
  | x :: l, i + 1 => by show nthN l i = _; rw [nthN_eq l i]; simp
/-- of some edges, with what is known of the operations ahead, the newest first -/
noncomputable def edgeG : List Edge → List Nat → Nat → Nat → Nat := List.rec (motive := fun _ => List Nat → Nat → Nat → Nat) (fun _ _ s => s)
  (fun e _ ih r i s => Bool.rec (motive := fun _ => Nat) (ih r i s) (ih r i (Nat.lor (Nat.lor s (Nat.pow 2 e.on)) (Bool.rec (motive := fun _ => Nat) 0 (nthN r (Nat.sub (Nat.sub i 1) e.on)) (Nat.ble (Nat.succ e.on) i)))) (Region.binds .any e))
noncomputable def ancR : List Oper → List Nat → Nat → List Nat := List.rec (motive := fun _ => List Nat → Nat → List Nat) (fun r _ => r) (fun o _ ih r i => ih (edgeG o.after.toList r i 0 :: r) (Nat.succ i))
noncomputable def revG : List Nat → List Nat → List Nat := List.rec (motive := fun _ => List Nat → List Nat) (fun r => r) (fun x _ ih r => ih (x :: r))
noncomputable def ancG (ops : Array Oper) : List Nat := revG (ancR ops.toList [] 0) []
theorem revG_eq : ∀ (l r : List Nat), revG l r = l.reverse ++ r
  | [], r => rfl
  | x :: l, r => by show revG l (x :: r) = _; rw [revG_eq l]; simp
theorem edgeG_eq (acc : Array Nat) : ∀ (l : List Edge) (s : Nat), edgeG l acc.toList.reverse acc.size s = l.foldl (fun s e => if Region.binds .any e then s ||| 2 ^ e.on ||| acc.getD e.on 0 else s) s
  | [], s => rfl
  | e :: l, s => by
    have hget : (Bool.rec (motive := fun _ => Nat) 0 (nthN acc.toList.reverse (Nat.sub (Nat.sub acc.size 1) e.on)) (Nat.ble (Nat.succ e.on) acc.size)) = acc.getD e.on 0 := by
      rw [Array.getD_eq_getD_getElem?]
      cases hq : Nat.ble (Nat.succ e.on) acc.size with
      | true =>
        have hlt : e.on < acc.size := Nat.le_of_ble_eq_true hq
        show nthN acc.toList.reverse (acc.size - 1 - e.on) = _
        rw [nthN_eq, List.getElem?_reverse (by simp; omega)]
        simp only [Array.length_toList]
        rw [show acc.size - 1 - (acc.size - 1 - e.on) = e.on by omega]
        simp
      | false =>
        have : ¬ e.on < acc.size := fun h => by
          have := Nat.ble_eq_true_of_le (show Nat.succ e.on ≤ acc.size from h)
          rw [hq] at this; cases this
        rw [Array.getElem?_eq_none_iff.2 (by omega)]; rfl
    simp only [List.foldl_cons]
    rw [← edgeG_eq acc l]
    show Bool.rec (motive := fun _ => Nat) (edgeG l acc.toList.reverse acc.size s) (edgeG l acc.toList.reverse acc.size (Nat.lor (Nat.lor s (Nat.pow 2 e.on)) (Bool.rec (motive := fun _ => Nat) 0 (nthN acc.toList.reverse (Nat.sub (Nat.sub acc.size 1) e.on)) (Nat.ble (Nat.succ e.on) acc.size)))) (Region.binds .any e) = _
    rw [hget]
    cases Region.binds .any e <;> rfl
theorem ancR_eq : ∀ (l : List Oper) (acc : Array Nat), ancR l acc.toList.reverse acc.size = (l.foldl (fun acc o => acc.push (ancF acc o)) acc).toList.reverse
  | [], acc => rfl
  | o :: l, acc => by
    simp only [List.foldl_cons]
    rw [← ancR_eq l]
    show ancR l (edgeG o.after.toList acc.toList.reverse acc.size 0 :: acc.toList.reverse) (Nat.succ acc.size) = _
    rw [edgeG_eq]
    have : (acc.push (ancF acc o)).toList.reverse = ancF acc o :: acc.toList.reverse := by simp
    rw [this]
    unfold ancF
    rw [← Array.foldl_toList]
    simp
theorem before_anc (ops : Array Oper) : Region.before ops = Array.mk (ancG ops) := by
  rw [before_eq]
  have := ancR_eq ops.toList #[]
  unfold ancG
  rw [revG_eq, show ancR ops.toList [] 0 = ancR ops.toList (#[] : Array Nat).toList.reverse (#[] : Array Nat).size from rfl, this]
  simp

/-! the shape -/
noncomputable def bitG (A j : Nat) : Bool := Nat.beq (Nat.land (Nat.shiftRight A j) 1) 1
theorem bitG_eq (A j : Nat) : bitG A j = A.testBit j := by
  show Nat.beq (A >>> j &&& 1) 1 = _
  rw [Nat.testBit, Nat.and_comm]
  have : 1 &&& A >>> j = 0 ∨ 1 &&& A >>> j = 1 := by rw [Nat.one_and_eq_mod_two]; omega
  rcases this with h | h <;> rw [h] <;> rfl
noncomputable def entsG : List Oper → Nat → List (Nat × Nat) := List.rec (motive := fun _ => Nat → List (Nat × Nat)) (fun _ => [])
  (fun o _ ih i => Option.rec (motive := fun _ => List (Nat × Nat)) (ih (Nat.succ i)) (fun d => (d, i) :: ih (Nat.succ i)) o.dst)
noncomputable def lookG : List (Nat × Nat) → Nat → (Nat → Bool) → Bool := List.rec (motive := fun _ => Nat → (Nat → Bool) → Bool) (fun _ _ => true)
  (fun p _ ih t k => Prod.rec (motive := fun _ => (Nat → (Nat → Bool) → Bool) → Nat → (Nat → Bool) → Bool) (fun d j ih t k => Bool.rec (motive := fun _ => Bool) (ih t k) (k j) (Nat.beq d t)) p ih t k)
noncomputable def tmpsG : List Operand → (Nat → Bool) → Bool := List.rec (motive := fun _ => (Nat → Bool) → Bool) (fun _ => true)
  (fun x _ ih k => Operand.rec (motive := fun _ => ((Nat → Bool) → Bool) → (Nat → Bool) → Bool) (fun t ih k => ifB (k t) (ih k) false) (fun _ ih k => ih k) (fun _ ih k => ih k) (fun _ ih k => ih k) x ih k)
noncomputable def edgesLt : List Edge → Nat → Bool := List.rec (motive := fun _ => Nat → Bool) (fun _ => true) (fun e _ ih i => ifB (Region.binds .any e) (ifB (Nat.ble (Nat.succ e.on) i) (ih i) false) (ih i))
noncomputable def okOne (ops : Array Oper) (anc : List Nat) (E : List (Nat × Nat)) (A i : Nat) (t : Nat) : Bool := lookG E t fun j => ifB (Nat.beq i j) true (ifB (bitG A j) true (bitG (nthN anc j) i))
noncomputable def shapeG (ops : Array Oper) (anc : List Nat) (E : List (Nat × Nat)) : List Oper → Nat → Bool := List.rec (motive := fun _ => Nat → Bool) (fun _ => true)
  (fun o _ ih i => ifB (edgesLt o.after.toList i) (ifB (Option.rec (motive := fun _ => Bool) true (fun d => lookG E d fun j => Nat.beq j i) o.dst)
    (ifB (tmpsG o.op.operands.toList fun t => okOne ops anc E (nthN anc i) i t) (ifB (Option.rec (motive := fun _ => Bool) true (fun p => Option.rec (motive := fun _ => Bool) true (fun d => okOne ops anc E (nthN anc i) i d) ((ops[p.1]?).bind (·.dst))) o.guard) (ih (Nat.succ i)) false) false) false) false)
noncomputable def drawOkG (ops : Array Oper) : Bool := shapeG ops (ancG ops) (entsG ops.toList 0) ops.toList 0

theorem ifB_and {x y : Bool} (h : ifB x y false = true) : x = true ∧ y = true := by
  rcases ifB_true h with h | ⟨_, h⟩
  · exact h
  · cases h
theorem lookG_of {k : Nat → Bool} {t : Nat} : ∀ (l : List Oper) (s : Nat), lookG (entsG l s) t k = true → (∀ j o, l[j]? = some o → o.dst = some t → (∃ j' o', j' ≤ j ∧ l[j']? = some o' ∧ o'.dst = some t ∧ k (s + j') = true))
  | [], s, _, j, o, ho, _ => by simp at ho
  | p :: l, s, h, j, o, ho, hd => by
    have rec' : lookG (entsG l (s + 1)) t k = true → (∀ j, j + 1 ≤ 0 → False) → j ≠ 0 → ∃ j' o', j' ≤ j ∧ (p :: l)[j']? = some o' ∧ o'.dst = some t ∧ k (s + j') = true := by
      intro h _ hj
      obtain ⟨i, rfl⟩ : ∃ i, j = i + 1 := ⟨j - 1, by omega⟩
      obtain ⟨j', o', h1, h2, h3, h4⟩ := lookG_of l (s + 1) h i o (by simpa using ho) hd
      exact ⟨j' + 1, o', by omega, by simpa using h2, h3, by rw [show s + (j' + 1) = s + 1 + j' by omega]; exact h4⟩
    cases hp : p.dst with
    | none =>
      have e : entsG (p :: l) s = entsG l (s + 1) := by
        show Option.rec (motive := fun _ => List (Nat × Nat)) (entsG l (Nat.succ s)) (fun d => (d, s) :: entsG l (Nat.succ s)) p.dst = _
        rw [hp]
      rw [e] at h
      refine rec' h (fun j hj => by omega) ?_
      rintro rfl
      simp at ho; subst ho; rw [hp] at hd; cases hd
    | some d =>
      have e : entsG (p :: l) s = (d, s) :: entsG l (s + 1) := by
        show Option.rec (motive := fun _ => List (Nat × Nat)) (entsG l (Nat.succ s)) (fun d => (d, s) :: entsG l (Nat.succ s)) p.dst = _
        rw [hp]
      rw [e] at h
      have h : Bool.rec (motive := fun _ => Bool) (lookG (entsG l (s + 1)) t k) (k s) (Nat.beq d t) = true := h
      cases hq : Nat.beq d t with
      | true =>
        rw [hq] at h
        have := Nat.eq_of_beq_eq_true hq
        subst this
        exact ⟨0, p, Nat.zero_le _, rfl, hp, by simpa using h⟩
      | false =>
        rw [hq] at h
        refine rec' h (fun j hj => by omega) ?_
        rintro rfl
        simp at ho; subst ho; rw [hp] at hd; cases hd
        rw [Nat.beq_refl] at hq; cases hq
theorem tmpsG_of {k : Nat → Bool} : ∀ (l : List Operand), tmpsG l k = true → ∀ t, Operand.tmp t ∈ l → k t = true
  | [], _, t, ht => by cases ht
  | x :: l, h, t, ht => by
    cases x with
    | tmp u =>
      have h : ifB (k u) (tmpsG l k) false = true := h
      obtain ⟨h1, h2⟩ := ifB_and h
      rcases List.mem_cons.1 ht with e | e
      · cases e; exact h1
      · exact tmpsG_of l h2 t e
    | const v => rcases List.mem_cons.1 ht with e | e
                 · cases e
                 · exact tmpsG_of l h t e
    | global g => rcases List.mem_cons.1 ht with e | e
                  · cases e
                  · exact tmpsG_of l h t e
    | func f => rcases List.mem_cons.1 ht with e | e
                · cases e
                · exact tmpsG_of l h t e
theorem edgesLt_of : ∀ (l : List Edge) (i : Nat), edgesLt l i = true → ∀ e, e ∈ l → Region.binds .any e = true → Nat.blt e.on i = true
  | [], i, _, e, he, _ => by cases he
  | x :: l, i, h, e, he, hb => by
    have h : ifB (Region.binds .any x) (ifB (Nat.ble (Nat.succ x.on) i) (edgesLt l i) false) (edgesLt l i) = true := h
    rcases ifB_true h with ⟨h1, h2⟩ | ⟨h1, h2⟩
    · obtain ⟨h3, h4⟩ := ifB_and h2
      rcases List.mem_cons.1 he with rfl | he
      · exact h3
      · exact edgesLt_of l i h4 e he hb
    · rcases List.mem_cons.1 he with rfl | he
      · rw [h1] at hb; cases hb
      · exact edgesLt_of l i h2 e he hb
theorem shapeG_of {ops : Array Oper} {anc : List Nat} {E : List (Nat × Nat)} : ∀ (l : List Oper) (s : Nat), shapeG ops anc E l s = true → ∀ j o, l[j]? = some o →
    edgesLt o.after.toList (s + j) = true ∧ (∀ d, o.dst = some d → lookG E d (fun i => Nat.beq i (s + j)) = true) ∧ ∀ t, t ∈ tmpsOf ops o → okOne ops anc E (nthN anc (s + j)) (s + j) t = true
  | [], s, _, j, o, ho => by simp at ho
  | p :: l, s, h, j, o, ho => by
    have h : ifB (edgesLt p.after.toList s) (ifB (Option.rec (motive := fun _ => Bool) true (fun d => lookG E d fun j => Nat.beq j s) p.dst)
      (ifB (tmpsG p.op.operands.toList fun t => okOne ops anc E (nthN anc s) s t) (ifB (Option.rec (motive := fun _ => Bool) true (fun q => Option.rec (motive := fun _ => Bool) true (fun d => okOne ops anc E (nthN anc s) s d) ((ops[q.1]?).bind (·.dst))) p.guard) (shapeG ops anc E l (s + 1)) false) false) false) false = true := h
    obtain ⟨h1, h⟩ := ifB_and h
    obtain ⟨h2, h⟩ := ifB_and h
    obtain ⟨h3, h⟩ := ifB_and h
    obtain ⟨h4, h⟩ := ifB_and h
    cases j with
    | zero =>
      simp at ho
      subst ho
      refine ⟨h1, fun d hd => by rw [hd] at h2; exact h2, fun t ht => ?_⟩
      unfold tmpsOf at ht
      rw [List.mem_append] at ht
      rcases ht with ht | ht
      · rw [List.mem_filterMap] at ht
        obtain ⟨x, hx, hxt⟩ := ht
        cases x <;> simp at hxt
        subst hxt
        exact tmpsG_of _ h3 _ hx
      · cases hg : p.guard with
        | none => rw [hg] at ht; cases ht
        | some q =>
          rw [hg] at ht h4
          dsimp only at ht h4
          cases hd : (ops[q.1]?).bind (·.dst) with
          | none => rw [hd] at ht; cases ht
          | some d =>
            rw [hd] at ht h4
            simp at ht
            subst ht
            exact h4
    | succ j =>
      have := shapeG_of l (s + 1) h j o (by simpa using ho)
      rw [show s + (j + 1) = s + 1 + j by omega]
      exact this
theorem drawOkG_true {ops : Array Oper} (h : drawOkG ops = true) : drawOk ops = true := by
  have hs := shapeG_of ops.toList 0 h
  simp only [Nat.zero_add] at hs
  have uniq : ∀ (i j : Nat) (p q : Oper) (t : Nat), ops.toList[i]? = some p → ops.toList[j]? = some q → p.dst = some t → q.dst = some t → i = j := by
    intro i j p q t hp hq h1 h2
    have key : ∀ (i : Nat) (p : Oper), ops.toList[i]? = some p → p.dst = some t → ∃ f, (∀ k, lookG (entsG ops.toList 0) t k = true → k f = true) ∧ f = i := by
      intro i p hp h1
      have hl := (hs i p hp).2.1 t h1
      obtain ⟨j', o', h3, h4, h5, h6⟩ := lookG_of ops.toList 0 hl i p hp h1
      rw [Nat.zero_add] at h6
      have := Nat.eq_of_beq_eq_true h6
      subst this
      refine ⟨j', fun k hk => ?_, rfl⟩
      obtain ⟨j2, o2, h7, h8, h9, h10⟩ := lookG_of ops.toList 0 hk j' p hp h1
      obtain ⟨j3, o3, h11, h12, h13, h14⟩ := lookG_of ops.toList 0 ((hs j2 o2 h8).2.1 t h9) j2 o2 h8 h9
      rw [Nat.zero_add] at h14 h10
      have e1 := Nat.eq_of_beq_eq_true h14
      subst e1
      obtain ⟨j4, o4, h15, h16, h17, h18⟩ := lookG_of ops.toList 0 hl j3 o3 h12 h13
      rw [Nat.zero_add] at h18
      have e2 := Nat.eq_of_beq_eq_true h18
      have : j3 = j' := by omega
      rw [this] at h10
      exact h10
    obtain ⟨f, hf, rfl⟩ := key i p hp h1
    have := hf _ ((hs j q hq).2.1 t h2)
    exact Nat.eq_of_beq_eq_true this
  have hanc : ∀ i, nthN (ancG ops) i = (Region.before ops).getD i 0 := by
    intro i
    rw [nthN_eq, before_anc, Array.getD_eq_getD_getElem?]
    simp
  unfold drawOk
  simp only [List.all_eq_true]
  rintro ⟨p, i⟩ hp
  rw [List.mem_zipIdx_iff_getElem?] at hp
  dsimp only at hp
  have hpi := hs i p hp
  rw [Bool.and_eq_true]
  refine ⟨?_, ?_⟩
  · rw [List.all_eq_true]
    intro e he
    cases hb : Region.binds .any e with
    | false => rfl
    | true => exact edgesLt_of _ _ hpi.1 e he hb
  · rw [List.all_eq_true]
    rintro ⟨q, j⟩ hq
    rw [List.mem_zipIdx_iff_getElem?] at hq
    dsimp only at hq ⊢
    rw [Bool.and_eq_true]
    refine ⟨?_, ?_⟩
    · cases h1 : p.dst with
      | none => rfl
      | some a =>
        cases h2 : q.dst with
        | none => rfl
        | some b =>
          dsimp only
          cases hab : Nat.beq a b with
          | false => rfl
          | true =>
            have := Nat.eq_of_beq_eq_true hab
            subst this
            have := uniq i j p q a hp hq h1 h2
            subst this
            simp
    · cases h2 : q.dst with
      | none => rfl
      | some d =>
        dsimp only
        cases hc : (tmpsOf ops p).contains d with
        | false => rfl
        | true =>
          have hm := List.contains_iff_mem.1 hc
          have hl := hpi.2.2 d hm
          unfold okOne at hl
          obtain ⟨j', o', h3, h4, h5, h6⟩ := lookG_of ops.toList 0 hl j q hq h2
          rw [Nat.zero_add] at h6
          have := uniq j' j o' q d h4 hq h5 h2
          subst this
          rcases ifB_true h6 with ⟨h7, _⟩ | ⟨_, h6⟩
          · rw [h7]; simp
          · rcases ifB_true h6 with ⟨h7, _⟩ | ⟨_, h6⟩
            · rw [bitG_eq, hanc] at h7; rw [h7]; simp
            · rw [bitG_eq, hanc] at h6; rw [h6]; simp
end Go.Vm
