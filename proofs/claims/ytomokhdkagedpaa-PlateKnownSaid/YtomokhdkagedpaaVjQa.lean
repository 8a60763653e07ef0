/- Arrays of 36 numbers. -/
import Derived.Test.YtomokhdkagedpaaVjQ4
set_option linter.unusedVariables false
namespace Go.Vm
set_option maxRecDepth 100000
set_option maxHeartbeats 4000000
theorem ty2 : TP.underlying 2 = some (.int .i64) := by kernel_rfl
theorem eqInt2 (d : Nat) (k : IntKind) (a b : Int) (V : View) : runV TP (Op.equalIn (d + 1) 2 (.int k a) (.int k b)) V = some (a == b, V) := by
  simp only [Op.equalIn, runV_bind, run_under ty2, Option.bind_some, if_true]
  rfl
theorem drop_cons {l : List Int} {i : Nat} (h : i < l.length) : l.drop i = l.getD i 0 :: l.drop (i + 1) := by
  rw [List.drop_eq_getElem_cons h, List.getD_eq_getElem?_getD, List.getElem?_eq_getElem h]
  rfl
theorem ar64 : TP.underlying 64 = some (.array 36 2) := by kernel_rfl
theorem ag64 : aggB TP 64 = some true := by kernel_rfl
theorem si64 : (TP.info? 64).map (·.size) = some 36 := by kernel_rfl
theorem cut_eq : ∀ (n : Nat) (l : List Value), n ≤ l.length → cut n l = some (l.take n)
  | 0, l, _ => by simp [cut]
  | n + 1, [], h => by simp at h
  | n + 1, x :: r, h => by
    simp only [List.length_cons] at h
    rw [cut, cut_eq n r (by omega)]
    simp
theorem setAll_eq : ∀ {cs : List Value} {n : Nat} {l : List Value}, n + cs.length ≤ l.length → setAll cs n l = l.take n ++ cs ++ l.drop (n + cs.length)
  | [], n, l, h => by simp [setAll]
  | v :: cs, n, l, h => by
    simp only [List.length_cons] at h
    rw [setAll, setAll_eq (by rw [List.length_set]; omega)]
    rw [List.drop_set_of_lt (by omega), List.length_cons]
    have : (l.set n v).take (n + 1) = l.take n ++ [v] := by
      have h1 : n < (l.set n v).length := by rw [List.length_set]; omega
      rw [List.take_add_one, List.getElem?_eq_getElem h1, List.getElem_set_self, List.take_set_of_le (Nat.le_refl n)]
      rfl
    rw [this]
    simp [List.append_assoc, Nat.add_assoc, Nat.add_comm 1]
theorem part2 {a : List Int} {i : Nat} (h : i < a.length) (V : View) : runV TP (part 2 ⟨ints a⟩ i) V = some (.int .i64 (a.getD i 0), V) := by
  have hg : (Array.mk (ints a))[i]? = some (.int .i64 (a.getD i 0)) := by simpa using ints_get h
  unfold part
  simp only [runV_bind, run_under ty2, Option.bind_some, hg]
  rfl
theorem eqArr (d : Nat) (a b : List Int) (ha : a.length = 36) (hb : b.length = 36) (V : View) : runV TP (Op.equalIn (d + 1 + 1) 64 (.agg ⟨ints a⟩) (.agg ⟨ints b⟩)) V = some (decide (a = b), V) := by
  have hsz : ∃ info, TP.info? 2 = some info ∧ info.size = 1 := by
    have h2 := si2
    cases hi : TP.info? 2 with
    | none => rw [hi] at h2; cases h2
    | some info => rw [hi] at h2; exact ⟨info, rfl, by simpa using h2⟩
  obtain ⟨info, hi, hs⟩ := hsz
  unfold Op.equalIn
  simp only [runV_bind, run_under ar64, Option.bind_some, run_size hi, hs]
  rw [Std.Legacy.Range.forIn_eq_forIn_range']
  have key : ∀ (m k : Nat) (V : View), k + m = 36 → (runV TP (forIn (List.range' k m 1) ((none, ()) : Option Bool × Unit) fun i _ => do
      let x ← part 2 ⟨ints a⟩ (i * 1)
      let y ← part 2 ⟨ints b⟩ (i * 1)
      let z ← Op.equalIn (d + 1) 2 x y
      if (!z) = true then pure (ForInStep.done (some false, ())) else pure (ForInStep.yield (none, ()))) V).bind (fun x => runV TP (match x.fst.fst with | some r => pure r | none => pure true) x.snd) = some (decide (a.drop k = b.drop k), V) := by
    intro m
    induction m with
    | zero =>
      intro k V h
      rw [List.drop_eq_nil_of_le (by omega : a.length ≤ k), List.drop_eq_nil_of_le (by omega : b.length ≤ k)]
      rfl
    | succ m ih =>
      intro k V h
      rw [List.range'_succ]
      simp only [List.forIn_cons, runV_bind, Nat.mul_one, part2 (a := a) (i := k) (by omega), part2 (a := b) (i := k) (by omega), Option.bind_some, eqInt2]
      rw [drop_cons (l := a) (i := k) (by omega), drop_cons (l := b) (i := k) (by omega)]
      cases hq : (a.getD k 0 == b.getD k 0) with
      | false =>
        have hne : ¬ a.getD k 0 = b.getD k 0 := by rw [← beq_iff_eq, hq]; simp
        have : decide (a.getD k 0 :: a.drop (k + 1) = b.getD k 0 :: b.drop (k + 1)) = false := by
          rw [decide_eq_false_iff_not]; exact fun h2 => hne (List.cons.inj h2).1
        rw [this]
        rfl
      | true =>
        have heq : a.getD k 0 = b.getD k 0 := eq_of_beq hq
        have e := ih (k + 1) V (by omega)
        simp only [Nat.mul_one] at e
        have : decide (a.getD k 0 :: a.drop (k + 1) = b.getD k 0 :: b.drop (k + 1)) = decide (a.drop (k + 1) = b.drop (k + 1)) := by
          apply decide_eq_decide.2
          rw [heq]
          exact ⟨fun h2 => (List.cons.inj h2).2, fun h2 => by rw [h2]⟩
        rw [this]
        exact e
  simp only [Std.Legacy.Range.size, Nat.sub_zero, Nat.add_one_sub_one, Nat.div_one]
  have k0 := key 36 0 V rfl
  simp only [List.drop_zero] at k0
  rw [← k0]
  congr 1
  funext x
  obtain ⟨⟨o, u⟩, V2⟩ := x
  cases o <;> rfl
theorem eql64 (x y : Operand) (a b : List Int) (ha : a.length = 36) (hb : b.length = 36) : OBin .eql 64 x y (.agg ⟨ints a⟩) (.agg ⟨ints b⟩) (.bool (decide (a = b))) := by
  have hfl : ∀ l : List Int, flatN 3 (.agg ⟨ints l⟩) = true := fun l => by
    show (ints l).all (flatN 2) = true
    refine List.all_eq_true.2 fun v hv => ?_
    unfold ints at hv
    obtain ⟨x, _, rfl⟩ := List.mem_map.1 hv
    rfl
  refine ⟨by rw [hfl, hfl]; rfl, ?_⟩
  have hg : TP.eqGuardType TP.depth 64 = false := by kernel_rfl
  have e1 : runV TP (do eqGuard .eql 64 x y (.agg ⟨ints a⟩) (.agg ⟨ints b⟩); binOp .eql 64 (.agg ⟨ints a⟩) (.agg ⟨ints b⟩)) ⟨0, []⟩ = some (.bool (decide (a = b)), ⟨0, []⟩) := by
    have hpr : ∀ V, runV TP Go.program V = some (TP, V) := fun V => rfl
    have g1 : runV TP (eqGuard .eql 64 x y (.agg ⟨ints a⟩) (.agg ⟨ints b⟩)) ⟨0, []⟩ = some ((), ⟨0, []⟩) := by
      simp only [eqGuard, runV_bind, hpr, Option.bind_some, hg]
      rfl
    rw [runV_bind, g1]
    have e2 : (binOp .eql 64 (.agg ⟨ints a⟩) (.agg ⟨ints b⟩)) = (do let r ← Op.equalIn (9998 + 1 + 1) 64 (.agg ⟨ints a⟩) (.agg ⟨ints b⟩); pure (Value.bool r)) := rfl
    simp only [Option.bind_some, e2, runV_bind, eqArr _ a b ha hb]
    rfl
  simp only [pureRun, e1]
theorem ld_arr {b o : Nat} {c : List Value} {l : List Int} {e : TypeId} {fz : Nat × Nat} (hl : l.length = 36) (h : ∃ r, c.drop o = ints l ++ r) : OLoad 64 (.pointer (some ⟨b, o, none⟩)) (some (.cells ⟨c⟩ e fz)) (.agg ⟨ints l⟩) := ⟨by
  obtain ⟨r, h⟩ := h
  have h2 := si64
  simp only [loadO, fLoadA, ag64]
  cases hi : TP.info? 64 with
  | none => rw [hi] at h2; cases h2
  | some info =>
    rw [hi] at h2
    have hs : info.size = 36 := by simpa using h2
    simp only [hs, fLoadN]
    rw [h]
    have ht : (ints l ++ r).take 36 = ints l := by
      rw [List.take_append_of_le_length (by rw [ints_len]; omega), List.take_of_length_le (by rw [ints_len]; omega)]
    rw [cut_eq 36 _ (by rw [List.length_append, ints_len]; omega), ht]⟩
theorem ix64 {b o : Nat} {a : Int} (h0 : 0 ≤ a) (h : a < 36) : OIx 64 (.pointer (some ⟨b, o, none⟩)) (.int .i64 a) (.pointer (some ⟨b, o + a.toNat, none⟩)) := ⟨fun V => by
  obtain ⟨k, rfl⟩ := Int.eq_ofNat_of_zero_le h0
  have h2 := si2
  cases hi : TP.info? 2 with
  | none => rw [hi] at h2; cases h2
  | some info =>
    rw [hi] at h2
    have hs : info.size = 1 := by simpa using h2
    have h1 := index_run (P := TP) hi (n := 36) (j := k) (b := b) (o := o) (by omega) (.inr ⟨ar64, rfl⟩) V
    rw [hs, Nat.mul_one] at h1
    unfold val at h1
    split at h1
    · rename_i v V2 hv
      cases h1
      exact hv
    · cases h1⟩
theorem st_arr {b : Nat} {e : TypeId} {l : List Value} {a : List Int} {V : View} (ha : a.length = 36) (hl : l.length = 36) (hf : find V.objs b = some (.cells ⟨l⟩ e (0, 0))) :
    OSt 64 (.pointer (some ⟨b, 0, none⟩)) (.agg ⟨ints a⟩) V undef ⟨V.next, put V.objs b (.cells ⟨ints a⟩ e (0, 0))⟩ := by
  have h1 := st_any (t := 64) (sz := 36) (o := 0) (x := .agg ⟨ints a⟩) si64 (by show (ints a).length = 36; rw [ints_len, ha]) (by omega) hf (by omega) (fun v hv => by
    have hv : v ∈ ints a := hv
    unfold ints at hv
    obtain ⟨x, _, rfl⟩ := List.mem_map.1 hv
    rfl)
  have e1 : setAll (Value.agg ⟨ints a⟩).cells.toList 0 l = ints a := by
    show setAll (ints a) 0 l = ints a
    rw [setAll_eq (by rw [ints_len]; omega), ints_len, ha, List.drop_eq_nil_of_le (by omega)]
    simp
  rw [e1] at h1
  exact h1
end Go.Vm
