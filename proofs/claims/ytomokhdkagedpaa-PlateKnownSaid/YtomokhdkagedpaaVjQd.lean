/- Tables of calls that are known; one letter's costs among them; a camera's cells. -/
import Derived.Test.YtomokhdkagedpaaVjQc
set_option linter.unusedVariables false
namespace Go.Vm
set_option maxRecDepth 100000
abbrev Fam := List Value → List (List Value) → Option Value
def FamOK (g : FuncId) (F : Fam) : Prop := ∀ args cs v, F args cs = some v → cs.all (fun c => c.all (flatN 3)) = true ∧ flatN 3 v = true ∧
  ∀ w (bs offs : Nat → Nat), (∀ i c, cs[i]? = some c → RowsAt w (bs i) (offs i) c) → Calls TP g (args.map (shiftS bs offs)).toArray w fun e w' => e = .returned v ∧ RowKit.Below w.heap.size w w'
def tabF : List (FuncId × Fam) → FuncId → List Value → List (List Value) → Option Value
  | [], _, _, _ => none
  | (g, F) :: r, f, args, cs => match Nat.beq g f with
    | true => F args cs
    | false => tabF r f args cs
theorem tab_ok : ∀ {tbl : List (FuncId × Fam)}, (∀ p, p ∈ tbl → FamOK p.1 p.2) → SelfOK TP (oracleS (tabF tbl)) := by
  intro tbl h
  refine oracleS_ok fun f args cs v hv => ?_
  induction tbl with
  | nil => cases hv
  | cons p r ih =>
    obtain ⟨g, F⟩ := p
    simp only [tabF] at hv
    split at hv
    · rename_i hg
      have := Nat.eq_of_beq_eq_true hg
      subst this
      exact h (g, F) (by simp) args cs v hv
    · exact ih (fun p hp => h p (by simp [hp])) hv
open Classical in
/-- a family: for data d that are so, these arguments with these cells give this -/
noncomputable def fam {δ : Type} (A : δ → List Value) (B : δ → List (List Value)) (P : δ → Prop) (res : δ → Value) : Fam := fun args cs => if h : ∃ d, P d ∧ args = A d ∧ cs = B d then some (res h.choose) else none
theorem fam_ok {δ : Type} {A : δ → List Value} {B : δ → List (List Value)} {P : δ → Prop} {res : δ → Value} {g : FuncId} (h : ∀ d, P d → (B d).all (fun c => c.all (flatN 3)) = true ∧ flatN 3 (res d) = true ∧
    ∀ w (bs offs : Nat → Nat), (∀ i c, (B d)[i]? = some c → RowsAt w (bs i) (offs i) c) → Calls TP g ((A d).map (shiftS bs offs)).toArray w fun e w' => e = .returned (res d) ∧ RowKit.Below w.heap.size w w') : FamOK g (fam A B P res) := by
  intro args cs v hv
  unfold fam at hv
  split at hv
  · rename_i hh
    obtain ⟨h1, h2, h3⟩ := hh.choose_spec
    cases hv
    have := h hh.choose h1
    rw [← h2, ← h3] at this
    exact this
  · cases hv
theorem fam_at {δ : Type} {A : δ → List Value} {B : δ → List (List Value)} {P : δ → Prop} {res : δ → Value} (hinj : ∀ d d', A d = A d' → B d = B d' → res d = res d') {d : δ} (hP : P d) : fam A B P res (A d) (B d) = some (res d) := by
  unfold fam
  have hh : ∃ d', P d' ∧ A d = A d' ∧ B d = B d' := ⟨d, hP, rfl, rfl⟩
  rw [dif_pos hh]
  obtain ⟨_, h2, h3⟩ := hh.choose_spec
  rw [hinj _ _ h2 h3]
theorem oc_tab {tbl : List (FuncId × Fam)} {g : FuncId} {args args0 : List Value} {V : View} {d0 : Nat} {bl : List (Nat × Bool)} {cs : List (List Value)} {v : Value} (hok : callOk TP g = true) (hall : args.all okKS = true) (hd : firstId V.objs = some d0)
    (hcan : canA d0 0 args = (args0, bl)) (hcs : cellsAll V bl = some cs) (hF : tabF tbl g args0 cs = some v) : OCall (oracleS (tabF tbl)) g args V v := ⟨hok, by
  simp only [oracleS, hall, hd, hcan, hcs, hF]⟩
theorem tab_none {tbl : List (FuncId × Fam)} {f : FuncId} {args : List Value} {V : View} (h : ∀ args cs, tabF tbl f args cs = none) : oracleS (tabF tbl) (.call f args V) = none := by
  simp only [oracleS, h]
  repeat' split
  all_goals first | rfl | (rename_i hq; cases hq)
theorem ints_inj {l l' : List Int} (h : ints l = ints l') : l = l' := by
  have := congrArg unInts h
  rw [unInts_ints, unInts_ints] at this
  exact Option.some.inj this

theorem alC_inj : ∀ {A A' : List Al}, alC A = alC A' → A = A'
  | [], [], _ => rfl
  | [], (a, b, c) :: r, h => by cases h
  | (a, b, c) :: r, [], h => by cases h
  | (a, b, c) :: r, (a', b', c') :: r', h => by
    simp only [alC, List.cons.injEq, Value.int.injEq, true_and] at h
    rw [h.1, h.2.1, h.2.2.1, alC_inj h.2.2.2]
structure D30 where
  sk : Int
  num : Nat
  s : Value
  A : List Al
noncomputable def fam30 : Fam := fam (δ := D30) (fun d => [bkV d.s d.sk, .int .i64 ((d.num : Nat) : Int)]) (fun d => [alC d.A]) (fun d => (∃ cap, SLh 0 d.A.length cap d.s) ∧ (0 ≤ d.sk ∧ d.sk ≤ 1000) ∧ AlOK d.A ∧ d.A.length ≤ 1000 ∧ d.num < 36) fun d => .agg ⟨ints (rowR d.sk d.A d.num)⟩
theorem fam30_ok : FamOK 30 fam30 := fam_ok fun d ⟨⟨cap, h1⟩, h2, h3, h4, h5⟩ => ⟨by simp only [List.all_cons, List.all_nil, alC_flat]; rfl, row_flat _, fun w bs offs hr => row_any h2 h1 rfl h3 h4 h5 w bs offs (hr 0 _ rfl)⟩
theorem fam30_at {sk : Int} {num cap : Nat} {s : Value} {A : List Al} (h1 : SLh 0 A.length cap s) (h2 : 0 ≤ sk ∧ sk ≤ 1000) (h3 : AlOK A) (h4 : A.length ≤ 1000) (h5 : num < 36) : fam30 [bkV s sk, .int .i64 ((num : Nat) : Int)] [alC A] = some (.agg ⟨ints (rowR sk A num)⟩) :=
  fam_at (δ := D30) (d := ⟨sk, num, s, A⟩) (fun d d' h1 h2 => by
    simp only [bkV, List.cons.injEq, Value.agg.injEq, Array.mk.injEq, Value.int.injEq, true_and, and_true] at h1 h2
    have e1 : d.num = d'.num := by omega
    rw [h1.1.2, e1, alC_inj h2]) ⟨⟨cap, h1⟩, h2, h3, h4, h5⟩
noncomputable def tJ : List (FuncId × Fam) := [(30, fam30)]
noncomputable def memoJ : Job → Option Out := oracleS (tabF tJ)
theorem memoJ_ok : SelfOK TP memoJ := tab_ok fun p hp => by
  simp only [tJ, List.mem_cons, List.not_mem_nil, or_false] at hp
  rw [hp]
  exact fam30_ok
theorem memoJ_code : ∀ ar c ts df V, memoJ (.code ar c ts df V) = none := fun _ _ _ _ _ => rfl
theorem cok30 : callOk TP 30 = true := by kernel_rfl
theorem oc_row {sk : Int} {num cap : Nat} {s : Value} {A : List Al} {V : View} {d0 : Nat} {fz : Nat × Nat} (h1 : SLh 0 A.length cap s) (h2 : 0 ≤ sk ∧ sk ≤ 1000) (h3 : AlOK A) (h4 : A.length ≤ 1000) (h5 : num < 36) (hd : firstId V.objs = some d0) (hf : find V.objs 0 = some (.cells ⟨alC A⟩ 78 fz)) :
    OCall memoJ 30 [bkV s sk, .int .i64 ((num : Nat) : Int)] V (.agg ⟨ints (rowR sk A num)⟩) := by
  have hall : [bkV s sk, .int .i64 ((num : Nat) : Int)].all okKS = true := by
    show (([s, Value.int .i64 sk].all okK) && (true && true)) = true
    simp only [List.all_cons, List.all_nil, h1.okK]
    rfl
  rcases h1 with ⟨rfl, hc⟩ | ⟨rfl, hn⟩
  · exact oc_tab cok30 hall hd (args0 := [bkV (.slice (some ⟨0, 0, none⟩) A.length cap) sk, .int .i64 ((num : Nat) : Int)]) (bl := [(0, true)]) rfl (cs := [alC A]) (by simp only [cellsAll, hf]) (fam30_at (.inl ⟨rfl, hc⟩) h2 h3 h4 h5)
  · have hA : A = [] := List.length_eq_zero_iff.1 hn
    exact oc_tab cok30 hall hd (args0 := [bkV (.slice none 0 0) sk, .int .i64 ((num : Nat) : Int)]) (bl := [(d0, false)]) rfl (cs := [alC A]) (by rw [hA]; rfl) (fam30_at (cap := 0) (.inr ⟨rfl, hn⟩) h2 h3 h4 h5)
noncomputable def withL {α : Type} (l : List Int) (x : α) : α := List.rec (motive := fun _ => α) x (fun _ _ _ => x) l
theorem withL_eq {α : Type} (l : List Int) (x : α) : withL l x = x := by cases l <;> rfl
/-- the cells of a camera -/
noncomputable def caC (s : Value) (sk : Int) (l : List Int) : List Value := withL l (s :: .int .i64 sk :: ints l)
theorem caC_eq (s : Value) (sk : Int) (l : List Int) : caC s sk l = s :: .int .i64 sk :: ints l := withL_eq _ _
/-- one row that is laid in -/
def stRow (l : List Int) (i : Nat) (r : List Int) : List Int := l.take (36 * i) ++ r ++ l.drop (36 * i + 36)
theorem caC_len (s : Value) (sk : Int) (l : List Int) : (caC s sk l).length = l.length + 2 := by rw [caC_eq]; simp [ints_len]
theorem st_row {s : Value} {sk : Int} {l r : List Int} {i b : Nat} {e : TypeId} {V : View} (hr : r.length = 36) (hl : 36 * i + 36 ≤ l.length) (hf : find V.objs b = some (.cells ⟨caC s sk l⟩ e (0, 0))) :
    OSt 64 (.pointer (some ⟨b, 2 + 36 * i, none⟩)) (.agg ⟨ints r⟩) V undef ⟨V.next, put V.objs b (.cells ⟨caC s sk (stRow l i r)⟩ e (0, 0))⟩ := by
  have h1 := st_any (t := 64) (sz := 36) (o := 2 + 36 * i) (x := .agg ⟨ints r⟩) si64 (by show (ints r).length = 36; rw [ints_len, hr]) (by omega) hf (by rw [caC_len]; omega) (fun v hv => by
    have hv : v ∈ ints r := hv
    unfold ints at hv
    obtain ⟨x, _, rfl⟩ := List.mem_map.1 hv
    rfl)
  have e1 : setAll (Value.agg ⟨ints r⟩).cells.toList (2 + 36 * i) (caC s sk l) = caC s sk (stRow l i r) := by
    show setAll (ints r) (2 + 36 * i) (caC s sk l) = _
    rw [setAll_eq (by rw [ints_len, caC_len]; omega), ints_len, hr, caC_eq, caC_eq]
    rw [show 2 + 36 * i = 36 * i + 1 + 1 by omega, show 36 * i + 1 + 1 + 36 = (36 * i + 36) + 1 + 1 by omega]
    simp [stRow, ints, List.map_append, List.map_take, List.map_drop]
  rw [e1] at h1
  exact h1
end Go.Vm
