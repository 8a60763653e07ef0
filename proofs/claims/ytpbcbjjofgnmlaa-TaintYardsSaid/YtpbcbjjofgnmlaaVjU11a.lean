/- A spread in memory: what its loads and stores do. -/
import Derived.Test.YtpbcbjjofgnmlaaVjU10
set_option linter.unusedVariables false
namespace Go.Vm
set_option maxRecDepth 100000
set_option maxHeartbeats 4000000
theorem cut_eq : ∀ (n : Nat) (l : List Value), n ≤ l.length → cut n l = some (l.take n)
  | 0, l, _ => by simp [cut]
  | n + 1, [], h => by simp at h
  | n + 1, x :: r, h => by
    simp only [List.length_cons] at h
    rw [cut, cut_eq n r (by omega)]
    simp
noncomputable def withL {α : Type} (l : List Int) (x : α) : α := List.rec (motive := fun _ => α) x (fun _ _ _ => x) l
theorem withL_eq {α : Type} (l : List Int) (x : α) : withL l x = x := by cases l <;> rfl
/-- the cells of a spread -/
noncomputable def spC (V : Int) (s : Value) (cm : List Int) (mb : Nat) : List Value := withL cm (.int .i64 V :: s :: (ints cm ++ (.map (some mb) :: List.replicate 20 (.bool false))))
theorem spC_eq (V : Int) (s : Value) (cm : List Int) (mb : Nat) : spC V s cm mb = .int .i64 V :: s :: (ints cm ++ (.map (some mb) :: List.replicate 20 (.bool false))) := withL_eq _ _
theorem ints_len (l : List Int) : (ints l).length = l.length := by simp [ints]
theorem spC_get {V : Int} {s : Value} {cm : List Int} {mb k : Nat} (h : k < cm.length) : (spC V s cm mb)[2 + k]? = some (.int .i64 (cm.getD k 0)) := by
  rw [spC_eq, show 2 + k = k + 1 + 1 by omega, List.getElem?_cons_succ, List.getElem?_cons_succ, List.getElem?_append_left (by rw [ints_len]; exact h)]
  exact ints_get h
theorem ld_come {V : Int} {s : Value} {cm : List Int} {mb k b : Nat} {e : TypeId} {fz : Nat × Nat} {x : Int} (h : k < cm.length) (hx : cm.getD k 0 = x) : OLoad 2 (.pointer (some ⟨b, 2 + k, none⟩)) (some (.cells ⟨spC V s cm mb⟩ e fz)) (.int .i64 x) := by
  subst hx
  exact ob_load ag2 (spC_get h)
theorem ag22 : aggB TP 22 = some false := by kernel_rfl
theorem ag68 : aggB TP 68 = some false := by kernel_rfl
theorem ag67 : aggB TP 67 = some true := by kernel_rfl
theorem si67 : (TP.info? 67).map (·.size) = some 20 := by kernel_rfl
theorem ld_moves {V : Int} {s : Value} {cm : List Int} {mb b : Nat} {e : TypeId} {fz : Nat × Nat} : OLoad 22 (.pointer (some ⟨b, 1, none⟩)) (some (.cells ⟨spC V s cm mb⟩ e fz)) s := ob_load ag22 (by rw [spC_eq]; rfl)
theorem ld_map {V : Int} {s : Value} {cm : List Int} {mb b : Nat} {e : TypeId} {fz : Nat × Nat} (h : cm.length = 20) : OLoad 68 (.pointer (some ⟨b, 22, none⟩)) (some (.cells ⟨spC V s cm mb⟩ e fz)) (.map (some mb)) := ob_load ag68 (by
  rw [spC_eq, show 22 = 20 + 1 + 1 from rfl, List.getElem?_cons_succ, List.getElem?_cons_succ, List.getElem?_append_right (by rw [ints_len]; omega), ints_len, h]
  rfl)
theorem ld_arr {b o : Nat} {c : List Value} {l : List Int} {e : TypeId} {fz : Nat × Nat} (hl : l.length = 20) (h : ∃ r, c.drop o = ints l ++ r) : OLoad 67 (.pointer (some ⟨b, o, none⟩)) (some (.cells ⟨c⟩ e fz)) (.agg ⟨ints l⟩) := ⟨by
  obtain ⟨r, h⟩ := h
  have h2 := si67
  simp only [loadO, fLoadA, ag67]
  cases hi : TP.info? 67 with
  | none => rw [hi] at h2; cases h2
  | some info =>
    rw [hi] at h2
    have hs : info.size = 20 := by simpa using h2
    simp only [hs, fLoadN]
    rw [h]
    have ht : (ints l ++ r).take 20 = ints l := by
      rw [List.take_append_of_le_length (by rw [ints_len]; omega), List.take_of_length_le (by rw [ints_len]; omega)]
    rw [cut_eq 20 _ (by rw [List.length_append, ints_len]; omega), ht]⟩
theorem ix67 {b o : Nat} {a : Int} (h0 : 0 ≤ a) (h : a < 20) : OIx 67 (.pointer (some ⟨b, o, none⟩)) (.int .i64 a) (.pointer (some ⟨b, o + a.toNat, none⟩)) := ⟨fun V => by
  obtain ⟨k, rfl⟩ := Int.eq_ofNat_of_zero_le h0
  have h2 := si2
  cases hi : TP.info? 2 with
  | none => rw [hi] at h2; cases h2
  | some info =>
    rw [hi] at h2
    have hs : info.size = 1 := by simpa using h2
    have h1 := index_run (P := TP) hi (n := 20) (j := k) (b := b) (o := o) (by omega) (.inr ⟨ar67, rfl⟩) V
    rw [hs, Nat.mul_one] at h1
    unfold val at h1
    split at h1
    · rename_i v V2 hv
      cases h1
      exact hv
    · cases h1⟩
def setAll : List Value → Nat → List Value → List Value
  | [], _, l => l
  | v :: cs, n, l => setAll cs (n + 1) (l.set n v)
theorem setAll_eq : ∀ {cs : List Value} {n : Nat} {l : List Value}, n + cs.length ≤ l.length → setAll cs n l = l.take n ++ cs ++ l.drop (n + cs.length)
  | [], n, l, h => by simp [setAll]
  | v :: cs, n, l, h => by
    simp only [List.length_cons] at h
    rw [setAll, setAll_eq (by rw [List.length_set]; omega)]
    rw [List.drop_set_of_lt (by omega), List.length_cons]
    have : (l.set n v).take (n + 1) = l.take n ++ [v] := by
      have h1 : n < (l.set n v).length := by rw [List.length_set]; omega
      rw [List.take_add_one, List.getElem?_eq_getElem h1, List.getElem_set_self, List.take_set_of_le (Nat.le_refl n)]
      rfl
    rw [this]
    simp [List.append_assoc, Nat.add_assoc, Nat.add_comm 1]
theorem cells_st {b : Nat} {e : TypeId} : ∀ (cs : List Value) (i o : Nat) (l : List Value) (V : View), cs ≠ [] → find V.objs b = some (.cells ⟨l⟩ e (0, 0)) → o + i + cs.length ≤ l.length → (∀ v, v ∈ cs → one v = true) →
    runV TP (Go.storeCells ⟨b, o, none⟩ cs i) V = some ((), ⟨V.next, put V.objs b (.cells ⟨setAll cs (o + i) l⟩ e (0, 0))⟩)
  | [], i, o, l, V, hne, _, _, _ => absurd rfl hne
  | v :: cs, i, o, l, V, _, hf, hl, ho => by
    simp only [List.length_cons] at hl
    have h1 := ho v (by simp)
    have h3 : o + i < l.length := by omega
    have hst : runV TP (Go.store (Addr.add ⟨b, o, none⟩ i) v) V = some ((), ⟨V.next, put V.objs b (.cells ⟨l.set (o + i) v⟩ e (0, 0))⟩) := by
      have hok : okStore (⟨l⟩ : Array Value) 0 ⟨b, o + i, none⟩ v = true := by
        simp [okStore, h1, h3, Nat.blt_eq]
      rw [add_none]
      simp only [Go.store, runV, hf, hok, Array.setIfInBounds]
      simp [h3]
    unfold Go.storeCells
    rw [runV_bind, hst]
    simp only [Option.bind_some]
    cases cs with
    | nil => rfl
    | cons u cs =>
      have hf2 : find (put V.objs b (.cells ⟨l.set (o + i) v⟩ e (0, 0))) b = some (.cells ⟨l.set (o + i) v⟩ e (0, 0)) := by rw [find_put, if_pos rfl, hf]; rfl
      rw [cells_st (u :: cs) (i + 1) o _ ⟨V.next, put V.objs b (.cells ⟨l.set (o + i) v⟩ e (0, 0))⟩ (by simp) hf2 (by rw [List.length_set]; omega) (fun w hw => ho w (by simp [hw]))]
      simp only [put_put]
      rfl
theorem run_place (a : Addr) (V : View) : runV TP (Instr.sureAddr (.pointer (some a))) V = some (a, V) := rfl
/-- a store of some cells into a block -/
theorem st_any {t : TypeId} {sz b o : Nat} {e : TypeId} {x : Value} {l : List Value} {V : View} (hi : (TP.info? t).map (·.size) = some sz) (hx : x.cells.size = sz) (hz : sz ≠ 0) (hf : find V.objs b = some (.cells ⟨l⟩ e (0, 0))) (hl : o + sz ≤ l.length) (ho : ∀ v, v ∈ x.cells.toList → one v = true) :
    OSt t (.pointer (some ⟨b, o, none⟩)) x V undef ⟨V.next, put V.objs b (.cells ⟨setAll x.cells.toList o l⟩ e (0, 0))⟩ := ⟨rfl, by
  cases hq : TP.info? t with
  | none => rw [hq] at hi; cases hi
  | some info =>
    rw [hq] at hi
    have hs : info.size = sz := by simpa using hi
    unfold Instr.storeAt Go.storeVar
    rw [runV_bind, run_place]
    simp only [Option.bind_some]
    rw [runV_bind, run_size hq]
    simp only [Option.bind_some]
    rw [hs, if_neg (by simp [hx])]
    have hlen : x.cells.toList.length = sz := by rw [Array.length_toList, hx]
    have := cells_st (b := b) (e := e) x.cells.toList 0 o l V (by intro e; rw [e] at hlen; exact hz hlen.symm) hf (by omega) ho
    exact this⟩
theorem st_come {V0 : Int} {s : Value} {cm : List Int} {mb b k : Nat} {e : TypeId} {x : Int} {V : View} (h : k < cm.length) (hf : find V.objs b = some (.cells ⟨spC V0 s cm mb⟩ e (0, 0))) :
    OSt 2 (.pointer (some ⟨b, 2 + k, none⟩)) (.int .i64 x) V undef ⟨V.next, put V.objs b (.cells ⟨spC V0 s (cm.set k x) mb⟩ e (0, 0))⟩ := by
  have h1 := st_any (t := 2) (sz := 1) (o := 2 + k) (x := .int .i64 x) si2 rfl (by omega) hf (by rw [spC_eq]; simp only [List.length_cons, List.length_append, ints_len]; omega) (fun v hv => by
    have hv : v ∈ [Value.int .i64 x] := hv
    simp at hv; rw [hv]; rfl)
  have e1 : setAll (Value.int .i64 x).cells.toList (2 + k) (spC V0 s cm mb) = spC V0 s (cm.set k x) mb := by
    show (spC V0 s cm mb).set (2 + k) (.int .i64 x) = _
    rw [spC_eq, spC_eq, show 2 + k = k + 1 + 1 by omega, List.set_cons_succ, List.set_cons_succ, List.set_append_left _ _ (by rw [ints_len]; exact h)]
    congr 3
    unfold ints
    rw [List.map_set]
  rw [e1] at h1
  exact h1
theorem st_arr {b : Nat} {e : TypeId} {l : List Value} {a : List Int} {V : View} (ha : a.length = 20) (hl : l.length = 20) (hf : find V.objs b = some (.cells ⟨l⟩ e (0, 0))) :
    OSt 67 (.pointer (some ⟨b, 0, none⟩)) (.agg ⟨ints a⟩) V undef ⟨V.next, put V.objs b (.cells ⟨ints a⟩ e (0, 0))⟩ := by
  have h1 := st_any (t := 67) (sz := 20) (o := 0) (x := .agg ⟨ints a⟩) si67 (by show (ints a).length = 20; rw [ints_len, ha]) (by omega) hf (by omega) (fun v hv => by
    have hv : v ∈ ints a := hv
    unfold ints at hv
    obtain ⟨x, _, rfl⟩ := List.mem_map.1 hv
    rfl)
  have e1 : setAll (Value.agg ⟨ints a⟩).cells.toList 0 l = ints a := by
    show setAll (ints a) 0 l = ints a
    rw [setAll_eq (by rw [ints_len]; omega), ints_len, ha, List.drop_eq_nil_of_le (by omega)]
    simp
  rw [e1] at h1
  exact h1
theorem run_first {V : View} {gl : List Int} {b n : Nat} {e : TypeId} {fz : Nat × Nat} {m c : Nat} (hf : find V.objs b = some (.cells ⟨ints gl⟩ e fz)) (h : n ≤ gl.length) : runV TP (Builtin.firstCells 1 n (.slice (some ⟨b, 0, none⟩) m c)) V = some (⟨(ints gl).take n⟩, V) := by
  have hc : cellAt V ⟨b, 0, none⟩ = some ⟨ints gl⟩ := by unfold cellAt; rw [hf]
  have h1 := cut_load (P := TP) hc (n * 1) 0 #[] ((ints gl).take (n * 1)) (by
    show cut (n * 1) ((ints gl).drop 0) = _
    rw [List.drop_zero]
    exact cut_eq _ _ (by rw [ints_len]; omega))
  rw [Nat.mul_one] at h1
  show runV TP (Go.loadCells _ (n * 1)) V = _
  unfold Go.loadCells
  rw [Nat.mul_one, h1]
  simp
theorem un28 : TP.underlying 28 = some (.slice 2) := by kernel_rfl
theorem ob_copy {V : View} {gl : List Int} {b1 b o : Nat} {e1 e : TypeId} {fz : Nat × Nat} {L : List Value} {c : Nat} (hf1 : find V.objs b1 = some (.cells ⟨ints gl⟩ e1 fz)) (hf : find V.objs b = some (.cells ⟨L⟩ e (0, 0))) (h0 : 0 < gl.length) (h : gl.length ≤ 20) (hl : o + 20 ≤ L.length) :
    OCpy #[28, 28] 3 (.slice (some ⟨b, o, none⟩) 20 20) (.slice (some ⟨b1, 0, none⟩) gl.length c) V (.int .i64 gl.length) ⟨V.next, put V.objs b (.cells ⟨setAll (ints gl) o L⟩ e (0, 0))⟩ := ⟨⟨_, _, _, rfl⟩, by
  have hm : Nat.min gl.length 20 = gl.length := Nat.min_eq_left h
  have hu : runV TP (Go.underlying 28) V = some (.slice 2, V) := run_under un28 V
  have hz : runV TP (Go.sizeOf 2) V = some (1, V) := by
    have h2 := si2
    cases hi : TP.info? 2 with
    | none => rw [hi] at h2; cases h2
    | some info =>
      rw [hi] at h2
      have hs : info.size = 1 := by simpa using h2
      rw [run_size hi, hs]
  have hne : ints gl ≠ [] := by intro hh; rw [← ints_len, hh] at h0; simp at h0
  have hst := cells_st (b := b) (e := e) (ints gl) 0 o L V hne hf (by rw [ints_len]; omega) (fun v hv => by
    unfold ints at hv
    obtain ⟨x, _, rfl⟩ := List.mem_map.1 hv
    rfl)
  have hfc := run_first (m := gl.length) (c := c) hf1 (Nat.le_refl gl.length)
  rw [List.take_of_length_le (by rw [ints_len]; omega)] at hfc
  unfold Builtin.copy_
  simp only [List.getElem?_toArray, List.getElem?_cons_zero, List.getElem?_cons_succ]
  rw [runV_bind, hu]
  simp only [Option.bind_some]
  rw [runV_bind]
  have hln : runV TP (Builtin.lenOf (.slice (some ⟨b1, 0, none⟩) gl.length c)) V = some (gl.length, V) := rfl
  rw [hln]
  simp only [Option.bind_some]
  rw [hm, runV_bind, hz]
  simp only [Option.bind_some]
  rw [runV_bind, hfc]
  simp only [Option.bind_some]
  rw [runV_bind, hst]
  rfl⟩
theorem cpy_sp {V0 : Int} {s : Value} {gl : List Int} {mb : Nat} (h : gl.length ≤ 20) : setAll (ints gl) 2 (spC V0 s (List.replicate 20 0) mb) = spC V0 s (gl ++ List.replicate (20 - gl.length) 0) mb := by
  rw [setAll_eq (by rw [spC_eq, ints_len]; simp only [List.length_cons, List.length_append, ints_len, List.length_replicate]; omega), spC_eq, spC_eq, ints_len]
  have e1 : (Value.int IntKind.i64 V0 :: s :: (ints (List.replicate 20 0) ++ Value.map (some mb) :: List.replicate 20 (Value.bool false))).take 2 = [.int .i64 V0, s] := rfl
  rw [e1, show 2 + gl.length = gl.length + 1 + 1 by omega, List.drop_succ_cons, List.drop_succ_cons, List.drop_append_of_le_length (by rw [ints_len, List.length_replicate]; exact h)]
  have e2 : (ints (List.replicate 20 0)).drop gl.length = ints (List.replicate (20 - gl.length) 0) := by
    unfold ints
    rw [← List.map_drop, List.drop_replicate]
  rw [e2]
  simp [ints, List.append_assoc]
end Go.Vm
