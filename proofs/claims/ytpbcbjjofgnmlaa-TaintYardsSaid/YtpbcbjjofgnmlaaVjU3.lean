/- Tables of calls that are known: each a family of arguments with what comes back. -/
import Derived.Test.YtpbcbjjofgnmlaaVjU2
set_option linter.unusedVariables false
namespace Go.Vm
set_option maxRecDepth 100000
abbrev Fam := List Value → List (List Value) → Option Value
def FamOK (g : FuncId) (F : Fam) : Prop := ∀ args cs v, F args cs = some v → cs.all (fun c => c.all (flatN 3)) = true ∧ flatN 3 v = true ∧
  ∀ w (bs offs : Nat → Nat), (∀ i c, cs[i]? = some c → RowsAt w (bs i) (offs i) c) → Calls TP g (args.map (shiftS bs offs)).toArray w fun e w' => e = .returned v ∧ RowKit.Below w.heap.size w w'
def tabF : List (FuncId × Fam) → FuncId → List Value → List (List Value) → Option Value
  | [], _, _, _ => none
  | (g, F) :: r, f, args, cs => match Nat.beq g f with
    | true => F args cs
    | false => tabF r f args cs
theorem tab_ok : ∀ {tbl : List (FuncId × Fam)}, (∀ p, p ∈ tbl → FamOK p.1 p.2) → SelfOK TP (oracleS (tabF tbl)) := by
  intro tbl h
  refine oracleS_ok fun f args cs v hv => ?_
  induction tbl with
  | nil => cases hv
  | cons p r ih =>
    obtain ⟨g, F⟩ := p
    simp only [tabF] at hv
    split at hv
    · rename_i hg
      have := Nat.eq_of_beq_eq_true hg
      subst this
      exact h (g, F) (by simp) args cs v hv
    · exact ih (fun p hp => h p (by simp [hp])) hv
open Classical in
/-- a family: for data d that are so, these arguments with these cells give this -/
noncomputable def fam {δ : Type} (A : δ → List Value) (B : δ → List (List Value)) (P : δ → Prop) (res : δ → Value) : Fam := fun args cs => if h : ∃ d, P d ∧ args = A d ∧ cs = B d then some (res h.choose) else none
theorem fam_ok {δ : Type} {A : δ → List Value} {B : δ → List (List Value)} {P : δ → Prop} {res : δ → Value} {g : FuncId} (h : ∀ d, P d → (B d).all (fun c => c.all (flatN 3)) = true ∧ flatN 3 (res d) = true ∧
    ∀ w (bs offs : Nat → Nat), (∀ i c, (B d)[i]? = some c → RowsAt w (bs i) (offs i) c) → Calls TP g ((A d).map (shiftS bs offs)).toArray w fun e w' => e = .returned (res d) ∧ RowKit.Below w.heap.size w w') : FamOK g (fam A B P res) := by
  intro args cs v hv
  unfold fam at hv
  split at hv
  · rename_i hh
    obtain ⟨h1, h2, h3⟩ := hh.choose_spec
    cases hv
    have := h hh.choose h1
    rw [← h2, ← h3] at this
    exact this
  · cases hv
theorem fam_at {δ : Type} {A : δ → List Value} {B : δ → List (List Value)} {P : δ → Prop} {res : δ → Value} (hinj : ∀ d d', A d = A d' → B d = B d' → res d = res d') {d : δ} (hP : P d) : fam A B P res (A d) (B d) = some (res d) := by
  unfold fam
  have hh : ∃ d', P d' ∧ A d = A d' ∧ B d = B d' := ⟨d, hP, rfl, rfl⟩
  rw [dif_pos hh]
  obtain ⟨_, h2, h3⟩ := hh.choose_spec
  rw [hinj _ _ h2 h3]
theorem oc_tab {tbl : List (FuncId × Fam)} {g : FuncId} {args args0 : List Value} {V : View} {d0 : Nat} {bl : List (Nat × Bool)} {cs : List (List Value)} {v : Value} (hok : callOk TP g = true) (hall : args.all okKS = true) (hd : firstId V.objs = some d0)
    (hcan : canA d0 0 args = (args0, bl)) (hcs : cellsAll V bl = some cs) (hF : tabF tbl g args0 cs = some v) : OCall (oracleS (tabF tbl)) g args V v := ⟨hok, by
  simp only [oracleS, hall, hd, hcan, hcs, hF]⟩
theorem tab_none {tbl : List (FuncId × Fam)} {f : FuncId} {args : List Value} {V : View} (h : ∀ args cs, tabF tbl f args cs = none) : oracleS (tabF tbl) (.call f args V) = none := by
  simp only [oracleS, h]
  repeat' split
  all_goals first | rfl | (rename_i hq; cases hq)
theorem ints_inj {l l' : List Int} (h : ints l = ints l') : l = l' := by
  have := congrArg unInts h
  rw [unInts_ints, unInts_ints] at this
  exact Option.some.inj this

noncomputable def ixB (c : Int) (l : List Int) : Bool := allB (fun x => 0 ≤ x ∧ x < c) l
noncomputable def wiB (lo hi : Int) (l : List Int) : Bool := allB (fun x => lo ≤ x ∧ x ≤ hi) l
/-- two numbers, a slice -/
structure D28 where
  lo : Int
  hi : Int
  s : Value
  l : List Int
noncomputable def fam28 : Fam := fam (δ := D28) (fun d => [.int .i64 d.lo, .int .i64 d.hi, d.s]) (fun d => [ints d.l]) (fun d => (∃ cap, SLh 0 d.l.length cap d.s) ∧ d.l.length ≤ 1000) fun d => .bool (wiB d.lo d.hi d.l)
theorem fam28_ok : FamOK 28 fam28 := fam_ok fun d ⟨⟨cap, h1⟩, h2⟩ => ⟨by simp only [List.all_cons, List.all_nil, ints_flat]; rfl, rfl, fun w bs offs hr => within_any d.lo d.hi d.s d.l cap h1 h2 w bs offs (hr 0 _ rfl)⟩
theorem fam28_at (lo hi : Int) (s : Value) (l : List Int) {cap : Nat} (h : SLh 0 l.length cap s) (hn : l.length ≤ 1000) : fam28 [.int .i64 lo, .int .i64 hi, s] [ints l] = some (.bool (wiB lo hi l)) :=
  fam_at (δ := D28) (d := ⟨lo, hi, s, l⟩) (fun d d' h1 h2 => by
    simp only [List.cons.injEq, Value.int.injEq, true_and, and_true] at h1 h2
    rw [h1.1, h1.2.1, ints_inj h2]) ⟨⟨cap, h⟩, hn⟩
noncomputable def fam32 : Fam := fam (δ := D28) (fun d => [.int .i64 d.lo, d.s]) (fun d => [ints d.l]) (fun d => (∃ cap, SLh 0 d.l.length cap d.s) ∧ d.l.length ≤ 1000) fun d => .bool (ixB d.lo d.l)
theorem fam32_ok : FamOK 32 fam32 := fam_ok fun d ⟨⟨cap, h1⟩, h2⟩ => ⟨by simp only [List.all_cons, List.all_nil, ints_flat]; rfl, rfl, fun w bs offs hr => indexes_any d.lo d.s d.l cap h1 h2 w bs offs (hr 0 _ rfl)⟩
theorem fam32_at (lo : Int) (s : Value) (l : List Int) {cap : Nat} (h : SLh 0 l.length cap s) (hn : l.length ≤ 1000) : fam32 [.int .i64 lo, s] [ints l] = some (.bool (ixB lo l)) :=
  fam_at (δ := D28) (d := ⟨lo, 0, s, l⟩) (fun d d' h1 h2 => by
    simp only [List.cons.injEq, Value.int.injEq, true_and, and_true] at h1 h2
    rw [h1.1, ints_inj h2]) ⟨⟨cap, h⟩, hn⟩
noncomputable def tA : List (FuncId × Fam) := [(28, fam28), (32, fam32)]
noncomputable def memoA : Job → Option Out := oracleS (tabF tA)
theorem memoA_ok : SelfOK TP memoA := tab_ok fun p hp => by
  simp only [tA, List.mem_cons, List.not_mem_nil, or_false] at hp
  rcases hp with rfl | rfl
  · exact fam28_ok
  · exact fam32_ok
theorem memoA_code : ∀ ar c ts df V, memoA (.code ar c ts df V) = none := fun _ _ _ _ _ => rfl
theorem cok28 : callOk TP 28 = true := by kernel_rfl
theorem cok32 : callOk TP 32 = true := by kernel_rfl
theorem big_1000 : 1000 < big := by unfold big; omega
theorem okK_new {id n : Nat} (hn : n ≤ 1000) : okKS (.slice (some ⟨id, 0, none⟩) n n) = true := by
  have h1 : Nat.blt n big = true := by rw [Nat.blt_eq]; have := big_1000; omega
  show (Nat.blt n big && true) = true
  rw [h1]; rfl
/-- within of a few numbers that were laid anew -/
theorem oc28 {tbl : List (FuncId × Fam)} {lo hi : Int} {l : List Int} {id d0 n : Nat} {V : View} {t : TypeId} {fz : Nat × Nat} (ht : tabF tbl 28 = fam28) (hd : firstId V.objs = some d0) (hf : find V.objs id = some (.cells ⟨ints l⟩ t fz)) (hl : l.length = n) (hn : n ≤ 1000) :
    OCall (oracleS (tabF tbl)) 28 [.int .i64 lo, .int .i64 hi, .slice (some ⟨id, 0, none⟩) n n] V (.bool (wiB lo hi l)) := by
  subst hl
  refine oc_tab (args0 := [.int .i64 lo, .int .i64 hi, .slice (some ⟨0, 0, none⟩) l.length l.length]) (bl := [(id, true)]) (cs := [ints l]) cok28 ?_ hd rfl ?_ ?_
  · simp only [List.all_cons, List.all_nil, okK_new hn]; rfl
  · simp only [cellsAll, hf]
  · rw [ht]; exact fam28_at lo hi _ l (.inl ⟨rfl, by have := big_1000; omega⟩) hn
theorem oc32 {tbl : List (FuncId × Fam)} {c : Int} {l : List Int} {id d0 n : Nat} {V : View} {t : TypeId} {fz : Nat × Nat} (ht : tabF tbl 32 = fam32) (hd : firstId V.objs = some d0) (hf : find V.objs id = some (.cells ⟨ints l⟩ t fz)) (hl : l.length = n) (hn : n ≤ 1000) :
    OCall (oracleS (tabF tbl)) 32 [.int .i64 c, .slice (some ⟨id, 0, none⟩) n n] V (.bool (ixB c l)) := by
  subst hl
  refine oc_tab (args0 := [.int .i64 c, .slice (some ⟨0, 0, none⟩) l.length l.length]) (bl := [(id, true)]) (cs := [ints l]) cok32 ?_ hd rfl ?_ ?_
  · simp only [List.all_cons, List.all_nil, okK_new hn]; rfl
  · simp only [cellsAll, hf]
  · rw [ht]; exact fam32_at c _ l (.inl ⟨rfl, by have := big_1000; omega⟩) hn
theorem mA28 : tabF tA 28 = fam28 := rfl
theorem mA32 : tabF tA 32 = fam32 := rfl
end Go.Vm
