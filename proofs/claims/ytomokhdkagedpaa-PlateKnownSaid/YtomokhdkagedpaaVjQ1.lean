/- Cells in blocks: stores; lists of letters that look alike; the number of a letter. -/
import Derived.Test.YtomokhdkagedpaaVjU1
set_option linter.unusedVariables false
namespace Go.Vm
set_option maxRecDepth 100000
set_option maxHeartbeats 4000000
abbrev Al := Int × Int × Int
def alC : List Al → List Value
  | [] => []
  | (a, b, c) :: r => .int .u8 a :: .int .u8 b :: .int .i64 c :: alC r
def alZ : Al := (0, 0, 0)
theorem alC_len : ∀ A : List Al, (alC A).length = 3 * A.length
  | [] => rfl
  | (a, b, c) :: r => by simp only [alC, List.length_cons, alC_len r]; omega
theorem alC_get : ∀ (A : List Al) (i : Nat), i < A.length → (alC A)[3 * i]? = some (.int .u8 (A.getD i alZ).1) ∧ (alC A)[3 * i + 1]? = some (.int .u8 (A.getD i alZ).2.1) ∧ (alC A)[3 * i + 2]? = some (.int .i64 (A.getD i alZ).2.2)
  | [], i, h => by simp at h
  | (a, b, c) :: r, 0, h => ⟨rfl, rfl, rfl⟩
  | (a, b, c) :: r, i + 1, h => by
    have := alC_get r i (by simpa using h)
    rw [show 3 * (i + 1) = 3 * i + 1 + 1 + 1 by omega, show 3 * i + 1 + 1 + 1 + 1 = (3 * i + 1) + 1 + 1 + 1 by omega, show 3 * i + 1 + 1 + 1 + 2 = (3 * i + 2) + 1 + 1 + 1 by omega]
    simpa [alC] using this
theorem alC_flat : ∀ A : List Al, (alC A).all (flatN 3) = true
  | [] => rfl
  | (a, b, c) :: r => by
    simp only [alC, List.all_cons, alC_flat r]
    rfl
/-- a book: letters that look alike, and what it costs to skip one -/
abbrev bkV (s : Value) (k : Int) : Value := .agg #[s, .int .i64 k]
/-- the number of a letter -/
def ixF (c : Int) : Int := if 65 ≤ c ∧ c ≤ 90 then c - 65 else if 48 ≤ c ∧ c ≤ 57 then 26 + (c - 48) else -1
theorem ix_closed : (List.range 256).all (fun c => (runG (memoOf []) 200).f 32 [.int .u8 (Int.ofNat c)] 0 [] fun v n m => beqV 4 v (.int .i64 (ixF (Int.ofNat c)))) = true := by decide +kernel
theorem closedA {memo : Job → Option Out} (hs : SelfOK TP memo) (hm : ∀ ar c ts df V, memo (.code ar c ts df V) = none) {N : Nat} {f : FuncId} {args : List Value} {v : Value} (ha : args.all (flatN 3) = true) (hv : flatN 3 v = true)
    (h : (runG memo N).f f args 0 [] (fun x _ _ => beqV 4 x v) = true) (w : World) : Calls TP f args.toArray w fun e w' => e = .returned v ∧ RowKit.Below w.heap.size w w' := by
  obtain ⟨x, V1, h1, _, h2⟩ := (runG_ok hm N).call f args 0 [] _ rfl h
  have hx := beqV_eq _ _ _ h2
  subst hx
  obtain ⟨_, ok⟩ := (rmS_ok hs N).call _ _ _ _ _ h1
  have hl : LRel (VRel ⟨id, fun _ => 0, fun _ => 0, fun _ => 0⟩ (fun _ => False)) args args.toArray.toList := LRel.of_get (by simp) fun i x y hx hy => by
    have hy : args[i]? = some y := by simpa using hy
    rw [hx] at hy
    cases hy
    exact VRel.of_flatN 3 _ (List.all_eq_true.1 ha x (List.mem_of_getElem? hx))
  have := ok ⟨id, fun _ => 0, fun _ => 0, fun _ => 0⟩ (fun _ => False) w args.toArray 5 ⟨fun b o h => (by cases h), fun b o h => (by cases h), fun b o h => (by cases h), fun b cs e fz h => (by cases h), fun b es c h => (by cases h), fun b c x y h => (by cases h)⟩ hl (fun b _ _ h => h.elim)
  refine (callsIn_wide.1 this).mono ?_
  rintro e w' ⟨ρ1, v', rfl, st, hr⟩
  have e := hr.flatN_eq 3 hv
  exact ⟨by rw [e], st.os, st.tape, st.output, st.size, fun k hk => st.frame k hk fun b o hb => by cases hb⟩
theorem nb_closed : (List.range 256).all (fun c => !decide (0 ≤ ixF (Int.ofNat c)) || (runG (memoOf []) 200).f 31 [.int .u8 (Int.ofNat c)] 0 [] fun v n m => beqV 4 v (.int .i64 (ixF (Int.ofNat c)))) = true := by decide +kernel
def FI (f : FuncId) (args : List Value) : Option Value := match args with
  | [.int .u8 c] => match decide (0 ≤ c ∧ c < 256) with
    | true => match Nat.beq f 32 with
      | true => some (.int .i64 (ixF c))
      | false => match Nat.beq f 31 && decide (0 ≤ ixF c) with
        | true => some (.int .i64 (ixF c))
        | false => none
    | false => none
  | _ => none
def memoI : Job → Option Out := oracle FI
theorem memoI_code : ∀ ar c ts df V, memoI (.code ar c ts df V) = none := fun _ _ _ _ _ => rfl
theorem memoI_ok : SelfOK TP memoI := oracle_ok fun f args v h => by
  unfold FI at h
  split at h
  case h_2 => cases h
  rename_i c
  split at h
  case h_2 => cases h
  rename_i hc
  have hc := of_decide_eq_true hc
  obtain ⟨n, rfl⟩ := Int.eq_ofNat_of_zero_le hc.1
  have hn : n < 256 := by omega
  split at h
  · rename_i hf
    have := Nat.eq_of_beq_eq_true hf
    subst this
    cases h
    refine ⟨rfl, rfl, fun w => closedA memo_nil (memoOf_code []) rfl rfl (N := 200) ?_ w⟩
    exact List.all_eq_true.1 ix_closed n (by simpa using hn)
  · split at h
    case h_2 => cases h
    rename_i hf
    simp only [Bool.and_eq_true] at hf
    have := Nat.eq_of_beq_eq_true hf.1
    subst this
    cases h
    refine ⟨rfl, rfl, fun w => closedA memo_nil (memoOf_code []) rfl rfl (N := 200) ?_ w⟩
    have h2 := List.all_eq_true.1 nb_closed n (by simpa using hn)
    have h3 : decide (0 ≤ ixF (Int.ofNat n)) = true := hf.2
    rw [h3] at h2
    exact h2
theorem FI_at {c : Int} (h : 0 ≤ c ∧ c < 256) : FI 32 [.int .u8 c] = some (.int .i64 (ixF c)) := by
  unfold FI
  simp [h]
theorem FI_at31 {c : Int} (h : 0 ≤ c ∧ c < 256) (hx : 0 ≤ ixF c) : FI 31 [.int .u8 c] = some (.int .i64 (ixF c)) := by
  unfold FI
  simp [h, hx]
theorem ixF_lt (c : Int) : ixF c < 36 := by
  unfold ixF
  split
  · omega
  · split <;> omega
theorem cok32 : callOk TP 32 = true := by kernel_rfl
theorem oc_ix {c x : Int} (h : 0 ≤ c ∧ c < 256) (hx : ixF c = x) (V : View) : OCall memoI 32 [.int .u8 c] V (.int .i64 x) := ob_oracle cok32 (by rw [FI_at h, hx]) V
theorem cok31 : callOk TP 31 = true := by kernel_rfl
theorem oc_nb {c x : Int} (h : 0 ≤ c ∧ c < 256) (h0 : 0 ≤ ixF c) (hx : ixF c = x) (V : View) : OCall memoI 31 [.int .u8 c] V (.int .i64 x) := ob_oracle cok31 (by rw [FI_at31 h h0, hx]) V
theorem ints_len (l : List Int) : (ints l).length = l.length := by simp [ints]
def setAll : List Value → Nat → List Value → List Value
  | [], _, l => l
  | v :: cs, n, l => setAll cs (n + 1) (l.set n v)
theorem cells_st {b : Nat} {e : TypeId} : ∀ (cs : List Value) (i o : Nat) (l : List Value) (V : View), cs ≠ [] → find V.objs b = some (.cells ⟨l⟩ e (0, 0)) → o + i + cs.length ≤ l.length → (∀ v, v ∈ cs → one v = true) →
    runV TP (Go.storeCells ⟨b, o, none⟩ cs i) V = some ((), ⟨V.next, put V.objs b (.cells ⟨setAll cs (o + i) l⟩ e (0, 0))⟩)
  | [], i, o, l, V, hne, _, _, _ => absurd rfl hne
  | v :: cs, i, o, l, V, _, hf, hl, ho => by
    simp only [List.length_cons] at hl
    have h1 := ho v (by simp)
    have h3 : o + i < l.length := by omega
    have hst : runV TP (Go.store (Addr.add ⟨b, o, none⟩ i) v) V = some ((), ⟨V.next, put V.objs b (.cells ⟨l.set (o + i) v⟩ e (0, 0))⟩) := by
      have hok : okStore (⟨l⟩ : Array Value) 0 ⟨b, o + i, none⟩ v = true := by
        simp [okStore, h1, h3, Nat.blt_eq]
      rw [add_none]
      simp only [Go.store, runV, hf, hok, Array.setIfInBounds]
      simp [h3]
    unfold Go.storeCells
    rw [runV_bind, hst]
    simp only [Option.bind_some]
    cases cs with
    | nil => rfl
    | cons u cs =>
      have hf2 : find (put V.objs b (.cells ⟨l.set (o + i) v⟩ e (0, 0))) b = some (.cells ⟨l.set (o + i) v⟩ e (0, 0)) := by rw [find_put, if_pos rfl, hf]; rfl
      rw [cells_st (u :: cs) (i + 1) o _ ⟨V.next, put V.objs b (.cells ⟨l.set (o + i) v⟩ e (0, 0))⟩ (by simp) hf2 (by rw [List.length_set]; omega) (fun w hw => ho w (by simp [hw]))]
      simp only [put_put]
      rfl
theorem run_place (a : Addr) (V : View) : runV TP (Instr.sureAddr (.pointer (some a))) V = some (a, V) := rfl
/-- a store of some cells into a block -/
theorem st_any {t : TypeId} {sz b o : Nat} {e : TypeId} {x : Value} {l : List Value} {V : View} (hi : (TP.info? t).map (·.size) = some sz) (hx : x.cells.size = sz) (hz : sz ≠ 0) (hf : find V.objs b = some (.cells ⟨l⟩ e (0, 0))) (hl : o + sz ≤ l.length) (ho : ∀ v, v ∈ x.cells.toList → one v = true) :
    OSt t (.pointer (some ⟨b, o, none⟩)) x V undef ⟨V.next, put V.objs b (.cells ⟨setAll x.cells.toList o l⟩ e (0, 0))⟩ := ⟨rfl, by
  cases hq : TP.info? t with
  | none => rw [hq] at hi; cases hi
  | some info =>
    rw [hq] at hi
    have hs : info.size = sz := by simpa using hi
    unfold Instr.storeAt Go.storeVar
    rw [runV_bind, run_place]
    simp only [Option.bind_some]
    rw [runV_bind, run_size hq]
    simp only [Option.bind_some]
    rw [hs, if_neg (by simp [hx])]
    have hlen : x.cells.toList.length = sz := by rw [Array.length_toList, hx]
    have := cells_st (b := b) (e := e) x.cells.toList 0 o l V (by intro e; rw [e] at hlen; exact hz hlen.symm) hf (by omega) ho
    exact this⟩
theorem si2 : (TP.info? 2).map (·.size) = some 1 := by kernel_rfl
theorem ag2 : aggB TP 2 = some false := by kernel_rfl
theorem st_int {b o : Nat} {e : TypeId} {x : Int} {l : List Int} {V : View} (hf : find V.objs b = some (.cells ⟨ints l⟩ e (0, 0))) (h : o < l.length) :
    OSt 2 (.pointer (some ⟨b, o, none⟩)) (.int .i64 x) V undef ⟨V.next, put V.objs b (.cells ⟨ints (l.set o x)⟩ e (0, 0))⟩ := by
  have h1 := st_any (t := 2) (sz := 1) (o := o) (x := .int .i64 x) si2 rfl (by omega) hf (by rw [ints_len]; omega) (fun v hv => by
    have hv : v ∈ [Value.int .i64 x] := hv
    simp at hv; rw [hv]; rfl)
  have e1 : setAll (Value.int .i64 x).cells.toList o (ints l) = ints (l.set o x) := by
    show (ints l).set o (.int .i64 x) = _
    unfold ints
    rw [List.map_set]
  rw [e1] at h1
  exact h1
end Go.Vm
