/- Maps whose keys are two numbers each, and arrays of numbers. -/
import Derived.Test.YtpbcbjjofgnmlaaVjU9
set_option linter.unusedVariables false
namespace Go.Vm
set_option maxRecDepth 100000
set_option maxHeartbeats 4000000
theorem key68 : keyKind TP 68 = some ((26, .struct (TP.fieldsOf 26)), 3) := by kernel_rfl
theorem ck68 (b : Bool) (x y : Int) : pureRun TP (Instr.checkKey b 10000 26 (stV x y)) = some () := by cases b <;> kernel_rfl
noncomputable abbrev fl (t i : Nat) : Field := (TP.fieldsOf t)[i]!
theorem ty2 : TP.underlying 2 = some (.int .i64) := by kernel_rfl
theorem ty3 : TP.underlying 3 = some (.int .i64) := by kernel_rfl
theorem eqInt2 (d : Nat) (k : IntKind) (a b : Int) (V : View) : runV TP (Op.equalIn (d + 1) 2 (.int k a) (.int k b)) V = some (a == b, V) := by
  simp only [Op.equalIn, runV_bind, run_under ty2, Option.bind_some, if_true]
  rfl
theorem eqInt3 (d : Nat) (k : IntKind) (a b : Int) (V : View) : runV TP (Op.equalIn (d + 1) 3 (.int k a) (.int k b)) V = some (a == b, V) := by
  simp only [Op.equalIn, runV_bind, run_under ty3, Option.bind_some, if_true]
  rfl
theorem eqK (d : Nat) (a b a' b' : Int) (V : View) : runV TP (Op.equalIn (d + 1 + 1) 26 (stV a b) (stV a' b')) V = some ((a == a') && (b == b'), V) := by
  have hl : (TP.fieldsOf 26).toList = [fl 26 0, fl 26 1] := by kernel_rfl
  have t0 : (fl 26 0).type = 3 := by kernel_rfl
  have t1 : (fl 26 1).type = 2 := by kernel_rfl
  have n0 : decide ((fl 26 0).name = "_") = false := by kernel_rfl
  have n1 : decide ((fl 26 1).name = "_") = false := by kernel_rfl
  have p0 : ∀ (x y : Int) V, runV TP (part 3 #[.int .i64 x, .int .i64 y] (fl 26 0).offset) V = some (.int .i64 x, V) := fun x y V => by kernel_rfl
  have p1 : ∀ (x y : Int) V, runV TP (part 2 #[.int .i64 x, .int .i64 y] (fl 26 1).offset) V = some (.int .i64 y, V) := fun x y V => by kernel_rfl
  rw [runV_struct _ _ _ _ _ (by kernel_rfl) (by kernel_rfl), hl]
  simp only [Op.eqFields, t0, t1, of_decide_eq_false n0, of_decide_eq_false n1, ne_eq, not_false_eq_true, if_true, runV_bind, p0, p1, Option.bind_some, eqInt2, eqInt3]
  cases h0 : (a == a') with
  | false => rfl
  | true =>
    simp only [Bool.not_true, Bool.false_eq_true, if_false, runV_bind, p1, Option.bind_some, eqInt2]
    cases h1 : (b == b') <;> rfl
theorem pureK (a b a' b' : Int) : pureRun TP (Op.equal 26 (stV a b) (stV a' b')) = some ((a == a') && (b == b')) := by
  have : Op.equal 26 (stV a b) (stV a' b') = Op.equalIn (9998 + 1 + 1) 26 (stV a b) (stV a' b') := rfl
  rw [this]
  simp only [pureRun, eqK]
/-- all keys are two numbers -/
def KeysOK (es : List MapEntry) : Prop := ∀ e, e ∈ es → ∃ a b, e.key = stV a b
def EntOK (es : List MapEntry) : Prop := KeysOK es ∧ ∀ e, e ∈ es → ∃ z, e.val = .int .i64 z
theorem flat_st (a b : Int) : flatN 3 (stV a b) = true := rfl
theorem findQ_st {x y : Int} : ∀ {es : List MapEntry} {i : Nat}, KeysOK es → ∃ r, findQ TP 26 (stV x y) es i = some r ∧ ∀ j v, r = some (j, v) → ∃ k e, j = i + k ∧ es[k]? = some e ∧ e.key = stV x y
  | [], i, _ => ⟨none, rfl, fun j v h => by cases h⟩
  | e :: es, i, h => by
    obtain ⟨a, b, hk⟩ := h e (by simp)
    simp only [findQ, hk, flat_st, pureK]
    cases hq : ((x == a) && (y == b)) with
    | true =>
      refine ⟨_, rfl, fun j v hj => ?_⟩
      cases hj
      simp only [Bool.and_eq_true, beq_iff_eq] at hq
      exact ⟨0, e, rfl, rfl, by rw [hk, hq.1, hq.2]⟩
    | false =>
      obtain ⟨r, h1, h2⟩ := findQ_st (x := x) (y := y) (es := es) (i := i + 1) fun e he => h e (by simp [he])
      refine ⟨r, h1, fun j v hj => ?_⟩
      obtain ⟨k, e', h3, h4, h5⟩ := h2 j v hj
      exact ⟨k + 1, e', by omega, h4, h5⟩
theorem findV_st {x y : Int} {es : List MapEntry} (h : KeysOK es) : ∃ r, findV TP (26, .struct (TP.fieldsOf 26)) (stV x y) es = some r ∧ ∀ j v, r = some (j, v) → ∃ e, es[j]? = some e ∧ e.key = stV x y := by
  obtain ⟨r, h1, h2⟩ := findQ_st (x := x) (y := y) (i := 0) h
  refine ⟨r, ?_, fun j v hj => ?_⟩
  · have e1 : simpleKey (.struct (TP.fieldsOf 26)) = false := rfl
    have e2 : wideKey (.struct (TP.fieldsOf 26)) = true := rfl
    simp only [findV, e1, e2, ck68, h1]
  · obtain ⟨k, e, h3, h4, h5⟩ := h2 j v hj
    exact ⟨e, by rw [h3, Nat.zero_add]; exact h4, h5⟩
theorem own_at {V : View} {r c : Nat} {es : Array MapEntry} (hf : find V.objs r = some (.map es c)) (hc : c + 1 < big) : ownMap V r = some (es, c) := by
  have : Nat.blt (c + 1) big = true := by rw [Nat.blt_eq]; exact hc
  simp only [ownMap, hf, this]
theorem del_st {V : View} {r c : Nat} {es : Array MapEntry} {x y : Int} (hf : find V.objs r = some (.map es c)) (hc : c + 1 < big) (h : EntOK es.toList) :
    ∃ es1 : Array MapEntry, EntOK es1.toList ∧ ∀ V' : View, find V'.objs r = some (.map es c) → ODel 68 (.map (some r)) (stV x y) V' (.tuple #[]) ⟨V'.next, put V'.objs r (.map es1 c)⟩ := by
  obtain ⟨q, h1, h2⟩ := findV_st (x := x) (y := y) h.1
  cases q with
  | none => exact ⟨⟨es.toList⟩, h, fun V' hf' => ⟨rfl, rfl, by simp only [deleteV, key68, own_at hf' hc, h1, setMap]⟩⟩
  | some p =>
    obtain ⟨j, v⟩ := p
    exact ⟨⟨es.toList.eraseIdx j⟩, ⟨fun e he => h.1 e (List.mem_of_mem_eraseIdx he), fun e he => h.2 e (List.mem_of_mem_eraseIdx he)⟩, fun V' hf' => ⟨rfl, rfl, by simp only [deleteV, key68, own_at hf' hc, h1, setMap]⟩⟩
theorem same_st (x y : Int) : Instr.sameBits 10000 (stV x y) (stV x y) = true := by
  show Instr.sameBits (9999 + 1) (stV x y) (stV x y) = true
  simp [Instr.sameBits]
theorem upd_st {V : View} {r c : Nat} {es : Array MapEntry} {x y z : Int} (hf : find V.objs r = some (.map es c)) (hc : c + 1 < big) (h : EntOK es.toList) :
    ∃ (es1 : Array MapEntry) (c1 : Nat), EntOK es1.toList ∧ (c1 = c ∨ c1 = c + 1) ∧ ∀ V' : View, find V'.objs r = some (.map es c) → OUpd 68 (.map (some r)) (stV x y) (.int .i64 z) V' undef ⟨V'.next, put V'.objs r (.map es1 c1)⟩ := by
  obtain ⟨q, h1, h2⟩ := findV_st (x := x) (y := y) h.1
  cases q with
  | none =>
    refine ⟨⟨es.toList ++ [{ key := stV x y, val := .int .i64 z, born := c }]⟩, c + 1, ⟨fun e he => ?_, fun e he => ?_⟩, .inr rfl, fun V' hf' => ⟨rfl, by simp only [mapUpdateV, key68, own_at hf' hc, h1, flat_st, setMap]⟩⟩
    · rcases List.mem_append.1 he with he | he
      · exact h.1 e he
      · simp at he; rw [he]; exact ⟨x, y, rfl⟩
    · rcases List.mem_append.1 he with he | he
      · exact h.2 e he
      · simp at he; rw [he]; exact ⟨z, rfl⟩
  | some p =>
    obtain ⟨j, v⟩ := p
    obtain ⟨e, h3, h4⟩ := h2 j v rfl
    refine ⟨⟨es.toList.set j { e with key := stV x y, val := .int .i64 z }⟩, c, ⟨fun e' he => ?_, fun e' he => ?_⟩, .inl rfl, fun V' hf' => ⟨rfl, by simp only [mapUpdateV, key68, own_at hf' hc, h1, h3, h4, flat_st, same_st, Bool.and_self, setMap]⟩⟩
    · rcases List.mem_or_eq_of_mem_set he with he | he
      · exact h.1 e' he
      · rw [he]; exact ⟨x, y, rfl⟩
    · rcases List.mem_or_eq_of_mem_set he with he | he
      · exact h.2 e' he
      · rw [he]; exact ⟨z, rfl⟩
/-! arrays of twenty numbers -/
theorem ar67 : TP.underlying 67 = some (.array 20 2) := by kernel_rfl
theorem part2 {a : List Int} {i : Nat} (h : i < a.length) (V : View) : runV TP (part 2 ⟨ints a⟩ i) V = some (.int .i64 (a.getD i 0), V) := by
  have hg : (Array.mk (ints a))[i]? = some (.int .i64 (a.getD i 0)) := by simpa using ints_get h
  unfold part
  simp only [runV_bind, run_under ty2, Option.bind_some, hg]
  rfl
theorem eqArr (d : Nat) (a b : List Int) (ha : a.length = 20) (hb : b.length = 20) (V : View) : runV TP (Op.equalIn (d + 1 + 1) 67 (.agg ⟨ints a⟩) (.agg ⟨ints b⟩)) V = some (decide (a = b), V) := by
  have hsz : ∃ info, TP.info? 2 = some info ∧ info.size = 1 := by
    have h2 := si2
    cases hi : TP.info? 2 with
    | none => rw [hi] at h2; cases h2
    | some info => rw [hi] at h2; exact ⟨info, rfl, by simpa using h2⟩
  obtain ⟨info, hi, hs⟩ := hsz
  unfold Op.equalIn
  simp only [runV_bind, run_under ar67, Option.bind_some, run_size hi, hs]
  rw [Std.Legacy.Range.forIn_eq_forIn_range']
  have key : ∀ (m k : Nat) (V : View), k + m = 20 → (runV TP (forIn (List.range' k m 1) ((none, ()) : Option Bool × Unit) fun i _ => do
      let x ← part 2 ⟨ints a⟩ (i * 1)
      let y ← part 2 ⟨ints b⟩ (i * 1)
      let z ← Op.equalIn (d + 1) 2 x y
      if (!z) = true then pure (ForInStep.done (some false, ())) else pure (ForInStep.yield (none, ()))) V).bind (fun x => runV TP (match x.fst.fst with | some r => pure r | none => pure true) x.snd) = some (decide (a.drop k = b.drop k), V) := by
    intro m
    induction m with
    | zero =>
      intro k V h
      rw [List.drop_eq_nil_of_le (by omega : a.length ≤ k), List.drop_eq_nil_of_le (by omega : b.length ≤ k)]
      rfl
    | succ m ih =>
      intro k V h
      rw [List.range'_succ]
      simp only [List.forIn_cons, runV_bind, Nat.mul_one, part2 (a := a) (i := k) (by omega), part2 (a := b) (i := k) (by omega), Option.bind_some, eqInt2]
      rw [drop_cons (l := a) (i := k) (by omega), drop_cons (l := b) (i := k) (by omega)]
      cases hq : (a.getD k 0 == b.getD k 0) with
      | false =>
        have hne : ¬ a.getD k 0 = b.getD k 0 := by rw [← beq_iff_eq, hq]; simp
        have : decide (a.getD k 0 :: a.drop (k + 1) = b.getD k 0 :: b.drop (k + 1)) = false := by
          rw [decide_eq_false_iff_not]; exact fun h2 => hne (List.cons.inj h2).1
        rw [this]
        rfl
      | true =>
        have heq : a.getD k 0 = b.getD k 0 := eq_of_beq hq
        have e := ih (k + 1) V (by omega)
        simp only [Nat.mul_one] at e
        have : decide (a.getD k 0 :: a.drop (k + 1) = b.getD k 0 :: b.drop (k + 1)) = decide (a.drop (k + 1) = b.drop (k + 1)) := by
          apply decide_eq_decide.2
          rw [heq]
          exact ⟨fun h2 => (List.cons.inj h2).2, fun h2 => by rw [h2]⟩
        rw [this]
        exact e
  simp only [Std.Legacy.Range.size, Nat.sub_zero, Nat.add_one_sub_one, Nat.div_one]
  have k0 := key 20 0 V rfl
  simp only [List.drop_zero] at k0
  rw [← k0]
  congr 1
  funext x
  obtain ⟨⟨o, u⟩, V2⟩ := x
  cases o <;> rfl
theorem eql67 (x y : Operand) (a b : List Int) (ha : a.length = 20) (hb : b.length = 20) : OBin .eql 67 x y (.agg ⟨ints a⟩) (.agg ⟨ints b⟩) (.bool (decide (a = b))) := by
  have hfl : ∀ l : List Int, flatN 3 (.agg ⟨ints l⟩) = true := fun l => by
    show (ints l).all (flatN 2) = true
    refine List.all_eq_true.2 fun v hv => ?_
    unfold ints at hv
    obtain ⟨x, _, rfl⟩ := List.mem_map.1 hv
    rfl
  refine ⟨by rw [hfl, hfl]; rfl, ?_⟩
  have hg : TP.eqGuardType TP.depth 67 = false := by kernel_rfl
  have e1 : runV TP (do eqGuard .eql 67 x y (.agg ⟨ints a⟩) (.agg ⟨ints b⟩); binOp .eql 67 (.agg ⟨ints a⟩) (.agg ⟨ints b⟩)) ⟨0, []⟩ = some (.bool (decide (a = b)), ⟨0, []⟩) := by
    have hpr : ∀ V, runV TP Go.program V = some (TP, V) := fun V => rfl
    have g1 : runV TP (eqGuard .eql 67 x y (.agg ⟨ints a⟩) (.agg ⟨ints b⟩)) ⟨0, []⟩ = some ((), ⟨0, []⟩) := by
      simp only [eqGuard, runV_bind, hpr, Option.bind_some, hg]
      rfl
    rw [runV_bind, g1]
    have e2 : (binOp .eql 67 (.agg ⟨ints a⟩) (.agg ⟨ints b⟩)) = (do let r ← Op.equalIn (9998 + 1 + 1) 67 (.agg ⟨ints a⟩) (.agg ⟨ints b⟩); pure (Value.bool r)) := rfl
    simp only [Option.bind_some, e2, runV_bind, eqArr _ a b ha hb]
    rfl
  simp only [pureRun, e1]
end Go.Vm
