/- Calls that read some slices: what is shown of them in a small memory holds in every world, and is known to the machine wherever they are called. -/
import Derived.Test.YtomokhdkagedpaaVjT2
set_option linter.unusedVariables false
namespace Go.Vm
set_option maxRecDepth 100000
variable {memo : Job → Option Out} {K : List Nat} {W : Nat}

/-- old memory that is only read: lists of cells -/
def roL : Nat → List (List Value × TypeId) → List (Nat × Obj)
  | _, [] => []
  | i, (c, e) :: r => roL (i + 1) r ++ [(i, .cells ⟨c⟩ e (0, 1))]
def roV (cs : List (List Value × TypeId)) : View := ⟨cs.length, roL 0 cs⟩
theorem find_roL : ∀ (cs : List (List Value × TypeId)) (i b : Nat) (o : Obj), find (roL i cs) b = some o → ∃ j c e, b = i + j ∧ cs[j]? = some (c, e) ∧ o = .cells ⟨c⟩ e (0, 1)
  | [], i, b, o, h => by cases h
  | (c, e) :: r, i, b, o, h => by
    simp only [roL] at h
    have app : ∀ (l m : List (Nat × Obj)), find (l ++ m) b = some o → find l b = some o ∨ find m b = some o := by
      intro l m
      induction l with
      | nil => intro h; exact .inr h
      | cons p l ih =>
        obtain ⟨k, q⟩ := p
        intro h
        simp only [List.cons_append, find] at h ⊢
        split at h
        · exact .inl h
        · exact ih h
    rcases app _ _ h with h | h
    · obtain ⟨j, c', e', h1, h2, h3⟩ := find_roL r (i + 1) b o h
      exact ⟨j + 1, c', e', by omega, h2, h3⟩
    · simp only [find] at h
      split at h
      · rename_i hb
        have := Nat.eq_of_beq_eq_true hb
        cases h
        exact ⟨0, c, e, by omega, rfl, rfl⟩
      · cases h
/-- where a value lies, cell by cell -/
def shiftC (bs offs : Nat → Nat) : Value → Value
  | .slice (some a) n c => .slice (some ⟨bs a.block, offs a.block + a.off, a.spot⟩) n c
  | v => v
def shiftS (bs offs : Nat → Nat) : Value → Value
  | .agg xs => .agg ⟨xs.toList.map (shiftC bs offs)⟩
  | v => shiftC bs offs v
def okC (m : Nat) : Value → Bool
  | .slice (some a) _ c => Nat.blt a.block m && Nat.blt c big
  | v => flatN 2 v
def okS (m : Nat) : Value → Bool
  | .agg xs => xs.toList.all (okC m)
  | v => okC m v
def renS (bs offs : Nat → Nat) : Ren := ⟨bs, offs, fun _ => 0, fun _ => 0⟩
theorem shiftC_rel {m : Nat} {bs offs : Nat → Nat} {v : Value} (h : okC m v = true) : VRel (renS bs offs) (fun x => x < m) v (shiftC bs offs v) := by
  unfold okC at h
  split at h
  · rename_i a n c
    simp only [Bool.and_eq_true, Nat.blt_eq] at h
    exact .slice (ρ := renS bs offs) h.1 h.2
  · rename_i hne
    have : shiftC bs offs v = v := by
      unfold shiftC
      split
      · exact absurd rfl (hne _ _ _)
      · rfl
    rw [this]
    exact VRel.of_flatN 2 v h
theorem shiftS_rel {m : Nat} {bs offs : Nat → Nat} {v : Value} (h : okS m v = true) : VRel (renS bs offs) (fun x => x < m) v (shiftS bs offs v) := by
  unfold okS at h
  split at h
  · rename_i xs
    unfold shiftS
    refine .agg (by simp) fun i x y hx hy => ?_
    have hx2 : xs.toList[i]? = some x := by simpa using hx
    have hy : (xs.toList.map (shiftC bs offs))[i]? = some y := by simpa using hy
    rw [List.getElem?_map, hx2] at hy
    cases hy
    exact shiftC_rel (List.all_eq_true.1 h x (List.mem_of_getElem? hx2))
  · rename_i hne
    have : shiftS bs offs v = shiftC bs offs v := by
      unfold shiftS
      split
      · exact absurd rfl (hne _)
      · rfl
    rw [this]
    exact shiftC_rel h
/-- all lists lie there -/
def AllAt (w : World) (bs offs : Nat → Nat) (cs : List (List Value × TypeId)) : Prop := ∀ (i : Nat) (c : List Value) (e : TypeId), cs[i]? = some (c, e) → RowsAt w (bs i) (offs i) c
theorem call_viewsT {adv : AdvT} (hs : SelfOK TP memo) (hm : ∀ ar c ts df V, memo (.code ar c ts df V) = none) {N : Nat} {f : FuncId} {args : List Value} {k : Value → Prop} {cs : List (List Value × TypeId)} (hc : cs.all (fun p => p.1.all (flatN 3)) = true)
    (hf : memo (.call f args (roV cs)) = none) (ha : args.all (okS cs.length) = true) (hk : ∀ v, k v → flatN 3 v = true) (h : callT memo K W adv N f args (roV cs) k) (w : World) (bs offs : Nat → Nat) (hr : AllAt w bs offs cs) :
    Calls TP f (args.map (shiftS bs offs)).toArray w fun e w' => (∃ v, e = .returned v ∧ k v) ∧ RowKit.Below w.heap.size w w' := by
  obtain ⟨v, V2, h3, h2⟩ := call_runT hm hf h
  have hkv := hk v h2
  obtain ⟨_, ok⟩ := (rmQ_ok (K := K) (W := W) hs hm (N + 1)).call _ _ _ _ _ h3
  have hV : ∀ x o, (roV cs).get x = some o → ∃ c e, cs[x]? = some (c, e) ∧ o = .cells ⟨c⟩ e (0, 1) := fun x o hx => by
    obtain ⟨j, c, e, h1, h2, h3⟩ := find_roL cs 0 x o hx
    exact ⟨c, e, by rw [h1, Nat.zero_add]; exact h2, h3⟩
  have hl : LRel (VRel (renS bs offs) (fun x => x < cs.length)) args (args.map (shiftS bs offs)) := LRel.of_get (by simp) fun i x y hx hy => by
    rw [List.getElem?_map, hx] at hy
    cases hy
    exact shiftS_rel (List.all_eq_true.1 ha x (List.mem_of_getElem? hx))
  have hw : WRel TP (renS bs offs) (fun x => x < cs.length) (roV cs).get w := by
    refine ⟨fun x o hx => ?_, fun x o hx => ?_, fun x o hx ho => ?_, fun x c e fz hx hz i v hi => ?_, fun x es c hx => ?_, fun x y o o' hx hy ho => ?_⟩
    · obtain ⟨c, e, h1, _⟩ := hV x o hx; exact (List.getElem?_eq_some_iff.1 h1).1
    · obtain ⟨c, e, h1, _⟩ := hV x o hx; exact (hr x c e h1).1
    · obtain ⟨c, e, _, rfl⟩ := hV x o hx; cases ho
    · obtain ⟨c', e', h1, h4⟩ := hV x _ hx
      cases h4
      have hi : c'[i]? = some v := by simpa using hi
      have hall := List.all_eq_true.1 hc _ (List.mem_of_getElem? h1)
      exact ⟨v, (hr x c' e h1).2 i v hi, VRel.of_flatN 3 v (List.all_eq_true.1 hall v (List.mem_of_getElem? hi))⟩
    · obtain ⟨c', e', _, h4⟩ := hV x _ hx; cases h4
    · obtain ⟨c, e, _, rfl⟩ := hV x o hx; cases ho
  have := ok _ _ w (args.map (shiftS bs offs)).toArray 5 hw hl (fun x h1 _ h => by
    have h : x < cs.length := h
    have h1 : cs.length ≤ x := h1
    omega)
  refine (callsIn_wide.1 this).mono ?_
  rintro e w' ⟨ρ1, v', rfl, st, hrel⟩
  have hv' := hrel.flatN_eq 3 hkv
  subst hv'
  exact ⟨⟨_, rfl, h2⟩, st.os, st.tape, st.output, st.size, fun k hk => st.frame k hk fun x o hx ho => by obtain ⟨c, e, _, rfl⟩ := hV x o hx; cases ho⟩

/-! what is known of such calls, wherever they are made: each slice of the arguments has a block of its own, in their order -/
def canC (d k : Nat) : Value → Value × List (Nat × Bool)
  | .slice (some a) n c => (.slice (some ⟨k, a.off, none⟩) n c, [(a.block, true)])
  | .slice none n c => (.slice none n c, [(d, false)])
  | v => (v, [])
def canL (d : Nat) : Nat → List Value → List Value × List (Nat × Bool)
  | _, [] => ([], [])
  | k, v :: r => match canC d k v with
    | (v', l) => match canL d (k + l.length) r with
      | (r', l') => (v' :: r', l ++ l')
def canS (d k : Nat) : Value → Value × List (Nat × Bool)
  | .agg xs => match canL d k xs.toList with
    | (r, l) => (.agg ⟨r⟩, l)
  | v => canC d k v
def canA (d : Nat) : Nat → List Value → List Value × List (Nat × Bool)
  | _, [] => ([], [])
  | k, v :: r => match canS d k v with
    | (v', l) => match canA d (k + l.length) r with
      | (r', l') => (v' :: r', l ++ l')
def okK : Value → Bool
  | .slice (some a) _ c => Nat.blt c big && a.spot.isNone
  | v => flatN 2 v
def okKS : Value → Bool
  | .agg xs => xs.toList.all okK
  | v => okK v
def cellsAll (V : View) : List (Nat × Bool) → Option (List (List Value))
  | [] => some []
  | (b, true) :: r => match find V.objs b with
    | some (.cells c _ _) => match cellsAll V r with
      | some l => some (c.toList :: l)
      | none => none
    | _ => none
  | (_, false) :: r => match cellsAll V r with
    | some l => some ([] :: l)
    | none => none
def firstId : List (Nat × Obj) → Option Nat
  | [] => none
  | (k, _) :: _ => some k
def oracleS (F : FuncId → List Value → List (List Value) → Option Value) (j : Job) : Option Out := match j with
  | .call f args V => match args.all okKS with
    | true => match firstId V.objs with
      | some d => match canA d 0 args with
        | (args0, bl) => match cellsAll V bl with
          | some cs => match F f args0 cs with
            | some v => some (.value v V)
            | none => none
          | none => none
      | none => none
    | false => none
  | _ => none
theorem oracleS_code (F : FuncId → List Value → List (List Value) → Option Value) : ∀ ar c ts df V, oracleS F (.code ar c ts df V) = none := fun _ _ _ _ _ => rfl
section
variable {ρ : Ren} {D : Nat → Prop} {d : Nat}
theorem canC_rel {bs offs : Nat → Nat} {k : Nat} {v v' : Value} (hv : VRel ρ D v v') (hok : okK v = true) (h : ∀ i p, (canC d k v).2[i]? = some p → bs (k + i) = ρ.b p.1 ∧ offs (k + i) = ρ.o p.1) : v' = shiftC bs offs (canC d k v).1 := by
  unfold okK at hok
  split at hok
  · rename_i a n c
    simp only [Bool.and_eq_true, Nat.blt_eq] at hok
    have hs : a.spot = none := by cases hq : a.spot <;> simp_all
    obtain ⟨e1, e2⟩ := h 0 (a.block, true) rfl
    rcases hv.sliceInv with ⟨e, _⟩ | ⟨a0, c2, e, hD, rfl, ⟨rfl, _⟩ | ⟨e2, _⟩⟩
    · cases e
    · cases e
      obtain ⟨blk, off, spot⟩ := a
      simp only at hs e1 e2
      subst hs
      simp only [canC, shiftC, Nat.add_zero] at e1 e2 ⊢
      rw [e1, e2]
      rfl
    · have := hok.1; subst e2; omega
  · rename_i hne
    have e1 := hv.flatN_eq 2 hok
    subst e1
    cases v' with
    | slice o n c => cases o with
      | none => rfl
      | some a => exact absurd rfl (hne a n c)
    | _ => rfl
theorem canL_rel {bs offs : Nat → Nat} : ∀ {l l' : List Value} {k : Nat}, LRel (VRel ρ D) l l' → l.all okK = true → (∀ i p, (canL d k l).2[i]? = some p → bs (k + i) = ρ.b p.1 ∧ offs (k + i) = ρ.o p.1) → l' = (canL d k l).1.map (shiftC bs offs) := by
  intro l l' k h
  induction h generalizing k with
  | nil => intro _ _; rfl
  | @cons x y xs ys hx _ ih =>
    intro hok hh
    simp only [List.all_cons, Bool.and_eq_true] at hok
    simp only [canL] at hh ⊢
    rw [List.map_cons]
    congr 1
    · refine canC_rel hx hok.1 fun i p hi => hh i p ?_
      rw [List.getElem?_append_left (List.getElem?_eq_some_iff.1 hi).1]
      exact hi
    · refine ih hok.2 fun i p hi => ?_
      have := hh ((canC d k x).2.length + i) p (by rw [List.getElem?_append_right (by omega), Nat.add_sub_cancel_left]; exact hi)
      rwa [← Nat.add_assoc] at this
theorem canS_rel {bs offs : Nat → Nat} {k : Nat} {v v' : Value} (hv : VRel ρ D v v') (hok : okKS v = true) (h : ∀ i p, (canS d k v).2[i]? = some p → bs (k + i) = ρ.b p.1 ∧ offs (k + i) = ρ.o p.1) : v' = shiftS bs offs (canS d k v).1 := by
  cases v with
  | agg xs =>
    have hok : xs.toList.all okK = true := hok
    have key : ∀ ys : Array Value, xs.size = ys.size → (∀ (i : Nat) (x y : Value), xs[i]? = some x → ys[i]? = some y → VRel ρ D x y) → Value.agg ys = shiftS bs offs (canS d k (.agg xs)).1 := by
      intro ys h1 h2
      have hl : LRel (VRel ρ D) xs.toList ys.toList := LRel.of_get (by simpa using h1) fun i x y hx hy => h2 i x y (by simpa using hx) (by simpa using hy)
      have := canL_rel (d := d) (bs := bs) (offs := offs) (k := k) hl hok h
      show Value.agg ys = .agg ⟨(canL d k xs.toList).1.map (shiftC bs offs)⟩
      rw [← this]
    cases hv with
    | agg h1 h2 => exact key _ h1 h2
    | flat hf => simp [Vm.flat] at hf
  | slice o a b => cases o <;> exact canC_rel (d := d) hv hok h
  | _ => exact canC_rel (d := d) hv hok h
theorem canA_rel {bs offs : Nat → Nat} : ∀ {l l' : List Value} {k : Nat}, LRel (VRel ρ D) l l' → l.all okKS = true → (∀ i p, (canA d k l).2[i]? = some p → bs (k + i) = ρ.b p.1 ∧ offs (k + i) = ρ.o p.1) → l' = (canA d k l).1.map (shiftS bs offs) := by
  intro l l' k h
  induction h generalizing k with
  | nil => intro _ _; rfl
  | @cons x y xs ys hx _ ih =>
    intro hok hh
    simp only [List.all_cons, Bool.and_eq_true] at hok
    simp only [canA] at hh ⊢
    rw [List.map_cons]
    congr 1
    · refine canS_rel hx hok.1 fun i p hi => hh i p ?_
      rw [List.getElem?_append_left (List.getElem?_eq_some_iff.1 hi).1]
      exact hi
    · refine ih hok.2 fun i p hi => ?_
      have := hh ((canS d k x).2.length + i) p (by rw [List.getElem?_append_right (by omega), Nat.add_sub_cancel_left]; exact hi)
      rwa [← Nat.add_assoc] at this
end
theorem cellsAll_get {V : View} : ∀ {bl : List (Nat × Bool)} {cs : List (List Value)}, cellsAll V bl = some cs → ∀ (i : Nat) (c : List Value), cs[i]? = some c → ∃ p, bl[i]? = some p ∧ ((p.2 = false ∧ c = []) ∨ ∃ cc e fz, find V.objs p.1 = some (.cells cc e fz) ∧ c = cc.toList)
  | [], cs, h, i, c, hi => by cases h; simp at hi
  | (b, true) :: r, cs, h, i, c, hi => by
    simp only [cellsAll] at h
    split at h
    · rename_i cc e fz hf
      split at h
      · rename_i l hl
        cases h
        cases i with
        | zero => simp at hi; subst hi; exact ⟨_, rfl, .inr ⟨cc, e, fz, hf, rfl⟩⟩
        | succ i => simp at hi; simpa using cellsAll_get hl i c hi
      · cases h
    · cases h
  | (b, false) :: r, cs, h, i, c, hi => by
    simp only [cellsAll] at h
    split at h
    · rename_i l hl
      cases h
      cases i with
      | zero => simp at hi; subst hi; exact ⟨_, rfl, .inl ⟨rfl, rfl⟩⟩
      | succ i => simp at hi; simpa using cellsAll_get hl i c hi
    · cases h
theorem canC_off {d k : Nat} {v : Value} : ∀ p, p ∈ (canC d k v).2 → p.2 = false → p.1 = d := by
  intro p hp hf
  unfold canC at hp
  split at hp
  · simp at hp; subst hp; cases hf
  · simp at hp; subst hp; rfl
  · cases hp
theorem canL_off {d : Nat} : ∀ {l : List Value} {k : Nat}, ∀ p, p ∈ (canL d k l).2 → p.2 = false → p.1 = d
  | [], k, p, hp, hf => by cases hp
  | v :: r, k, p, hp, hf => by
    simp only [canL, List.mem_append] at hp
    rcases hp with hp | hp
    · exact canC_off p hp hf
    · exact canL_off p hp hf
theorem canS_off {d k : Nat} {v : Value} : ∀ p, p ∈ (canS d k v).2 → p.2 = false → p.1 = d := by
  intro p hp hf
  unfold canS at hp
  split at hp
  · exact canL_off p hp hf
  · exact canC_off p hp hf
theorem canA_off {d : Nat} : ∀ {l : List Value} {k : Nat}, ∀ p, p ∈ (canA d k l).2 → p.2 = false → p.1 = d
  | [], k, p, hp, hf => by cases hp
  | v :: r, k, p, hp, hf => by
    simp only [canA, List.mem_append] at hp
    rcases hp with hp | hp
    · exact canS_off p hp hf
    · exact canA_off p hp hf
theorem oracleS_ok {F : FuncId → List Value → List (List Value) → Option Value} (h : ∀ f args cs v, F f args cs = some v → cs.all (fun c => c.all (flatN 3)) = true ∧ flatN 3 v = true ∧
    ∀ w (bs offs : Nat → Nat), (∀ i c, cs[i]? = some c → RowsAt w (bs i) (offs i) c) → Calls TP f (args.map (shiftS bs offs)).toArray w fun e w' => e = .returned v ∧ RowKit.Below w.heap.size w w') : SelfOK TP (oracleS F) := by
  refine ⟨(fun _ _ _ _ _ _ _ _ _ h => by cases h), (fun _ _ _ _ _ _ _ _ _ h => by cases h), fun f args V v V1 hj => ?_⟩
  simp only [oracleS] at hj
  split at hj
  case h_2 => cases hj
  rename_i hargs
  split at hj
  case h_2 => cases hj
  rename_i d hd0
  split at hj
  case h_2 => cases hj
  rename_i cs hcs
  split at hj
  case h_2 => cases hj
  rename_i x hF
  cases hj
  obtain ⟨hc, hv, hcall⟩ := h _ _ _ _ hF
  refine ⟨Nat.le_refl _, ?_⟩
  intro ρ D w args' n hw hl hd
  obtain ⟨o0, ho0⟩ : ∃ o, find V.objs d = some o := by
    cases hq : V.objs with
    | nil => rw [hq] at hd0; cases hd0
    | cons p r => obtain ⟨k, o⟩ := p; rw [hq] at hd0; cases hd0; exact ⟨o, by simp [find]⟩
  let bs : Nat → Nat := fun i => ρ.b (((canA d 0 args).2.getD i (0, false)).1)
  let offs : Nat → Nat := fun i => ρ.o (((canA d 0 args).2.getD i (0, false)).1)
  have e1 : args'.toList = (canA d 0 args).1.map (shiftS bs offs) := canA_rel (bs := bs) (offs := offs) hl hargs fun i p hi => by
    simp only [bs, offs, Nat.zero_add, List.getD_eq_getElem?_getD, hi, Option.getD_some, and_self]
  have e2 : args' = ((canA d 0 args).1.map (shiftS bs offs)).toArray := by cases args'; simp only at e1; rw [e1]
  rw [e2]
  refine (callsIn_wide.2 (hcall w bs offs fun i c hi => ?_)).mono ?_
  · obtain ⟨p, hp, hp2⟩ := cellsAll_get hcs i c hi
    have hb : bs i = ρ.b p.1 := by simp only [bs, List.getD_eq_getElem?_getD, hp, Option.getD_some]
    have ho : offs i = ρ.o p.1 := by simp only [offs, List.getD_eq_getElem?_getD, hp, Option.getD_some]
    rw [hb, ho]
    rcases hp2 with ⟨h1, rfl⟩ | ⟨cc, e, fz, h1, rfl⟩
    · have := canA_off p (List.mem_of_getElem? hp) h1
      rw [this]
      exact ⟨hw.real d _ ho0, fun i v hi => by simp at hi⟩
    · refine ⟨hw.real p.1 _ h1, fun j v hj => ?_⟩
      obtain ⟨v', h2, h3⟩ := hw.cell (a := ⟨p.1, j, none⟩) (v := v) (by unfold Vm.cell; rw [h1]; simpa using hj)
      have hall := List.all_eq_true.1 hc _ (List.mem_of_getElem? hi)
      have := h3.flatN_eq 3 (List.all_eq_true.1 hall v (List.mem_of_getElem? hj))
      subst this
      exact h2
  · rintro e w' ⟨he, hbl⟩
    exact ⟨ρ, _, he, .below hw hbl, VRel.of_flatN 3 _ hv⟩
end Go.Vm
