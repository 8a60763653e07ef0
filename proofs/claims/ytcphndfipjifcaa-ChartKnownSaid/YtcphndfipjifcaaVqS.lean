/- A region that draws its order: which operations wait for which; the states of some of them. -/
import Derived.Test.YtcphndfipjifcaaVqR
namespace Go.Vm

def ancF (acc : Array Nat) (o : Oper) : Nat := o.after.foldl (fun s e => if Region.binds .any e then s ||| 2 ^ e.on ||| acc.getD e.on 0 else s) 0
theorem before_eq (ops : Array Oper) : Region.before ops = ops.toList.foldl (fun acc o => acc.push (ancF acc o)) #[] := by
  unfold Region.before
  rw [← Array.foldl_toList]
  rfl
theorem anc_list : ∀ (l : List Oper) (acc : Array Nat), (l.foldl (fun acc o => acc.push (ancF acc o)) acc).size = acc.size + l.length ∧
    (∀ i, i < acc.size → (l.foldl (fun acc o => acc.push (ancF acc o)) acc).getD i 0 = acc.getD i 0) ∧
    ∀ k o, l[k]? = some o → ∃ acc', (l.foldl (fun acc o => acc.push (ancF acc o)) acc).getD (acc.size + k) 0 = ancF acc' o ∧ acc'.size = acc.size + k ∧ ∀ i, i < acc.size + k → acc'.getD i 0 = (l.foldl (fun acc o => acc.push (ancF acc o)) acc).getD i 0
  | [], acc => ⟨by simp, fun _ _ => rfl, fun k o h => by simp at h⟩
  | x :: l, acc => by
    obtain ⟨h1, h2, h3⟩ := anc_list l (acc.push (ancF acc x))
    simp only [List.foldl_cons]
    have hpush : ∀ i, i < acc.size → (acc.push (ancF acc x)).getD i 0 = acc.getD i 0 := by
      intro i hi
      simp only [Array.getD_eq_getD_getElem?, Array.getElem?_push, if_neg (Nat.ne_of_lt hi)]
    refine ⟨by rw [h1]; simp; omega, fun i hi => by rw [h2 i (by simp; omega), hpush i hi], fun k o hk => ?_⟩
    cases k with
    | zero =>
      simp at hk
      subst hk
      refine ⟨acc, ?_, rfl, fun i hi => ?_⟩
      · rw [Nat.add_zero, h2 _ (by simp)]; simp [Array.getD_eq_getD_getElem?]
      · rw [h2 i (by simp; omega), hpush i (by simpa using hi)]
    | succ k =>
      obtain ⟨acc', e1, e2, e3⟩ := h3 k o (by simpa using hk)
      refine ⟨acc', ?_, ?_, fun i hi => ?_⟩
      · rw [← e1]; congr 1; simp; omega
      · rw [e2]; simp; omega
      · exact e3 i (by simp; omega)
theorem bits_fold (acc : Array Nat) (j : Nat) : ∀ (l : List Edge) (s : Nat), (l.foldl (fun s e => if Region.binds .any e then s ||| 2 ^ e.on ||| acc.getD e.on 0 else s) s).testBit j = true ↔
    s.testBit j = true ∨ ∃ e, e ∈ l ∧ Region.binds .any e = true ∧ (e.on = j ∨ (acc.getD e.on 0).testBit j = true)
  | [], s => by simp
  | e :: l, s => by
    simp only [List.foldl_cons]
    rw [bits_fold acc j l]
    by_cases hb : Region.binds .any e = true
    · simp only [hb, if_true, Nat.testBit_or, Nat.testBit_two_pow, Bool.or_eq_true, decide_eq_true_eq]
      constructor
      · rintro (((h | h) | h) | ⟨e', h1, h2⟩)
        · exact .inl h
        · exact .inr ⟨e, by simp, hb, .inl h⟩
        · exact .inr ⟨e, by simp, hb, .inr h⟩
        · exact .inr ⟨e', by simp [h1], h2⟩
      · rintro (h | ⟨e', h1, h2, h3⟩)
        · exact .inl (.inl (.inl h))
        · rcases List.mem_cons.1 h1 with rfl | h1
          · rcases h3 with h3 | h3
            · exact .inl (.inl (.inr h3))
            · exact .inl (.inr h3)
          · exact .inr ⟨e', h1, h2, h3⟩
    · simp only [hb, Bool.false_eq_true, if_false]
      constructor
      · rintro (h | ⟨e', h1, h2⟩)
        · exact .inl h
        · exact .inr ⟨e', by simp [h1], h2⟩
      · rintro (h | ⟨e', h1, h2, h3⟩)
        · exact .inl h
        · rcases List.mem_cons.1 h1 with rfl | h1
          · exact absurd h2 hb
          · exact .inr ⟨e', h1, h2, h3⟩
/-- which operations the i-th one waits for -/
theorem anc_spec {ops : Array Oper} (hlt : ∀ (i : Nat) (o : Oper) (e : Edge), ops[i]? = some o → e ∈ o.after → Region.binds .any e = true → e.on < i) {i : Nat} {o : Oper} (ho : ops[i]? = some o) (j : Nat) :
    ((Region.before ops).getD i 0).testBit j = true ↔ ∃ e, e ∈ o.after ∧ Region.binds .any e = true ∧ (e.on = j ∨ ((Region.before ops).getD e.on 0).testBit j = true) := by
  rw [before_eq]
  obtain ⟨acc', e1, e2, e3⟩ := (anc_list ops.toList #[]).2.2 i o (by simpa using ho)
  simp only [Array.size_empty, Nat.zero_add] at e1 e2 e3
  have hF : ancF acc' o = o.after.toList.foldl (fun s e => if Region.binds .any e then s ||| 2 ^ e.on ||| acc'.getD e.on 0 else s) 0 := by
    unfold ancF; rw [← Array.foldl_toList]
  rw [e1, hF, bits_fold]
  simp only [Nat.zero_testBit, Bool.false_eq_true, false_or, Array.mem_toList_iff]
  constructor
  · rintro ⟨e, h1, h2, h3⟩
    exact ⟨e, h1, h2, h3.imp id fun h => by rw [← e3 _ (hlt i o e ho h1 h2)]; exact h⟩
  · rintro ⟨e, h1, h2, h3⟩
    exact ⟨e, h1, h2, h3.imp id fun h => by rw [e3 _ (hlt i o e ho h1 h2)]; exact h⟩

structure Shape (ops : Array Oper) : Prop where
  edge : ∀ (i : Nat) (o : Oper) (e : Edge), ops[i]? = some o → e ∈ o.after → Region.binds .any e = true → e.on < i
  dst : ∀ (i j : Nat) (p q : Oper) (t : Tmp), ops[i]? = some p → ops[j]? = some q → p.dst = some t → q.dst = some t → i = j
  tmp : ∀ (i j : Nat) (p q : Oper) (t : Tmp), ops[i]? = some p → ops[j]? = some q → q.dst = some t → t ∈ tmpsOf ops p → i = j ∨ ((Region.before ops).getD i 0).testBit j = true ∨ ((Region.before ops).getD j 0).testBit i = true
theorem shape_of {ops : Array Oper} (h : drawOk ops = true) : Shape ops := by
  unfold drawOk at h
  simp only [List.all_eq_true, Bool.and_eq_true] at h
  have mem : ∀ (i : Nat) (o : Oper), ops[i]? = some o → (o, i) ∈ ops.toList.zipIdx := by
    intro i o ho
    rw [List.mem_zipIdx_iff_getElem?]
    simpa using ho
  refine ⟨fun i o e ho he hb => ?_, fun i j p q t hp hq h1 h2 => ?_, fun i j p q t hp hq h1 h2 => ?_⟩
  · have := (h (o, i) (mem i o ho)).1 e (by simpa using he)
    simpa [hb] using this
  · have := ((h (p, i) (mem i p hp)).2 (q, j) (mem j q hq)).1
    simp only [h1, h2, Nat.beq_refl, Bool.not_true, Bool.false_or] at this
    exact Nat.eq_of_beq_eq_true this
  · have := ((h (p, i) (mem i p hp)).2 (q, j) (mem j q hq)).2
    simp only [h1, Bool.or_eq_true, Bool.not_eq_true'] at this
    rcases this with ((h3 | h3) | h3) | h3
    · rw [List.contains_iff_mem.2 h2] at h3; cases h3
    · exact .inl (Nat.eq_of_beq_eq_true h3)
    · exact .inr (.inl h3)
    · exact .inr (.inr h3)

variable {ops : Array Oper}
theorem anc_lt (hs : Shape ops) : ∀ (i j : Nat), i < ops.size → ((Region.before ops).getD i 0).testBit j = true → j < i := by
  intro i
  induction i using Nat.strongRecOn with
  | _ i ih =>
    intro j hi h
    have ho : ops[i]? = some ops[i] := Array.getElem?_eq_getElem hi
    obtain ⟨e, h1, h2, h3⟩ := (anc_spec hs.edge ho j).1 h
    have hlt := hs.edge i _ e ho h1 h2
    rcases h3 with rfl | h3
    · exact hlt
    · exact Nat.lt_trans (ih e.on hlt j (by omega) h3) hlt
/-- what is closed holds all that its members wait for -/
theorem anc_closed (hs : Shape ops) {S : Nat → Bool} (hc : ∀ (i : Nat) (o : Oper) (e : Edge), S i = true → ops[i]? = some o → e ∈ o.after → Region.binds .any e = true → S e.on = true) :
    ∀ (i j : Nat), i < ops.size → (∀ (o : Oper) (e : Edge), ops[i]? = some o → e ∈ o.after → Region.binds .any e = true → S e.on = true) → ((Region.before ops).getD i 0).testBit j = true → S j = true := by
  intro i
  induction i using Nat.strongRecOn with
  | _ i ih =>
    intro j hi hall h
    have ho : ops[i]? = some ops[i] := Array.getElem?_eq_getElem hi
    obtain ⟨e, h1, h2, h3⟩ := (anc_spec hs.edge ho j).1 h
    have hlt := hs.edge i _ e ho h1 h2
    have hS := hall _ e ho h1 h2
    rcases h3 with rfl | h3
    · exact hS
    · exact ih e.on hlt j (by omega) (fun o' e' ho' he' hb' => hc e.on o' e' hS ho' he' hb') h3

def stT (ops : Array Oper) (S : Nat → Bool) (ts0 : List Value) : List Rec → List Value
  | [] => ts0
  | r :: rest => match S rest.length with
    | true => lput (stT ops S ts0 rest) ((ops[rest.length]?).bind (·.dst)) r.val
    | false => stT ops S ts0 rest
def stG (S : Nat → Bool) (g0 : Nat → Option Obj) : List Rec → Nat → Option Obj
  | [], b => g0 b
  | r :: rest, b => match S rest.length && touch r b with
    | true => find r.vo.objs b
    | false => stG S g0 rest b
def stD (S : Nat → Bool) (D : Nat → Prop) : List Rec → Nat → Prop
  | [], b => D b
  | r :: rest, b => stD S D rest b ∨ (S rest.length = true ∧ r.vi.next ≤ b ∧ b < r.vo.next)
end Go.Vm
