/- The machine of the small memory is sound: regions in the order of the text. -/
import Derived.Test.YtcphndfipjifcaaVqN
namespace Go.Vm
variable {P : Program} {ρ ρ1 ρ2 : Ren} {D D1 : Nat → Prop} {V V1 V2 : View} {w w1 w2 : World}

theorem wanted_rel {ops : Array Oper} {ts : List Value} {a : Act} (h : TRel ρ D ts a.tmps) {o : Oper} {b : Bool} (hw : wantedL ops ts o = some b) : Region.wanted o (yielded ops a.tmps) = b := by
  unfold wantedL at hw
  unfold Region.wanted
  split at hw
  · rename_i hg; rw [hg]; cases hw; rfl
  · rename_i j want hg
    rw [hg]
    dsimp only
    split at hw
    · rename_i d hd
      split at hw
      · rename_i c hc
        cases hw
        have hr := lget_rel h d
        rw [hc] at hr
        have e := hr.flatEq rfl
        have : a.tmps[d]? = some (.bool c) := by
          rw [Array.getD_eq_getD_getElem?] at e
          cases hq : a.tmps[d]? with
          | none => rw [hq] at e; simp [undef] at e
          | some y => rw [hq] at e; simpa using e
        unfold yielded
        rw [hd]
        simp [this]
      · rename_i hc
        cases hw
        have hr := lget_rel h d
        rw [hc] at hr
        have e := hr.flatN_eq 3 rfl
        have e2 : yielded ops a.tmps j = none := by
          unfold yielded
          rw [hd, Option.bind_some]
          rw [Array.getD_eq_getD_getElem?] at e
          cases hq : a.tmps[d]? with
          | none => rfl
          | some y => rw [hq] at e; simp at e; rw [e]
        rw [e2]; rfl
      · cases hw
    · cases hw

theorem runOps_sound (hP : Good P) {sf : Job → Option Out} (hs : SelfOK P sf) (ops : Array Oper) : ∀ (l : List Oper) (ts : List Value) (V : View) (ts1 : List Value) (V1 : View), runOps P sf ops l ts V = some (ts1, V1) →
    V.next ≤ V1.next ∧ ∀ (ρ : Ren) (D : Nat → Prop) (w : World) (a : Act) (n : Nat) (Q : Exit → Act → World → Prop) (ro : Option Nat) (start : Nat) (df : List Nat), (∀ k o, l[k]? = some o → ops[start + k]? = some o) → WRel P ρ D V.get w → TRel ρ D ts a.tmps → DRel ρ D df a.defers →
      (∀ b, V.next ≤ b → b < V1.next → ¬ D b) →
      (∀ ρ1 a1 w1, Stepped P ρ D V.get V.next w ρ1 V1.get V1.next w1 → TRel ρ1 (grow D V.next V1.next) ts1 a1.tmps → DRel ρ1 (grow D V.next V1.next) df a1.defers → Q .normal a1 w1) →
      wpOpsIn (fence ro) n P ops Q (List.range' start l.length) a w := by
  intro l
  induction l with
  | nil =>
    intro ts V ts1 V1 hr
    simp only [runOps] at hr
    cases hr
    refine ⟨Nat.le_refl _, fun ρ D w a n Q ro start df _ hw ht hdf _ hk => ?_⟩
    exact hk ρ a w (.refl hw) (by rw [grow_nil]; exact ht) (by rw [grow_nil]; exact hdf)
  | cons o rest ih =>
    intro ts V ts1 V1 hr
    simp only [runOps] at hr
    split at hr
    case h_2 => cases hr
    rename_i hok
    split at hr
    · rename_i hwant
      split at hr
      · rename_i v V2 hop
        obtain ⟨n2, ih⟩ := ih _ _ _ _ hr
        have n1 : V.next ≤ V2.next := by
          cases h1 : runOp P (ev ts) o V with
          | none => rw [h1] at hop; cases hop
          | some p => rw [h1] at hop; exact Nat.le_trans (runOp_next h1) (after_next hs hop)
        refine ⟨Nat.le_trans n1 n2, fun ρ D w a n Q ro start df hl hw ht hdf hd hk => ?_⟩
        rw [List.length_cons, List.range'_succ, wpOpsIn_cons]
        have ho : ops[start]? = some o := by simpa using hl 0 o rfl
        unfold wpOpIn
        rw [ho]
        simp only [wanted_rel ht hwant, if_true]
        refine op_wp hP hs hop (ops_rel ht hok) hw (fun b hb hb' => hd b hb (by omega)) ?_
        intro ρ2 v' w2 st hv
        have hag := st.agree (fun b hb hb' => hd b hb (by omega))
        refine ih ρ2 _ w2 _ n Q ro (start + 1) df (fun k o' hk' => by rw [show start + 1 + k = start + (k + 1) by omega]; exact hl (k + 1) o' (by simpa using hk')) st.rel (lput_rel (ht.ext hag fun _ h => .inl h) _ hv) (by rw [put_defers]; exact hdf.ext hag fun _ h => .inl h) ?_ ?_
        · intro b hb hb' hD
          rcases hD with hD | hD
          · exact hd b (by omega) hb' hD
          · omega
        · intro ρ3 a3 w3 st3 ht3 hdf3
          rw [grow_grow n1 n2] at ht3 hdf3
          exact hk ρ3 a3 w3 (st.trans st3 hw) ht3 hdf3
      · cases hr
    · rename_i hwant
      obtain ⟨n2, ih⟩ := ih _ _ _ _ hr
      refine ⟨n2, fun ρ D w a n Q ro start df hl hw ht hdf hd hk => ?_⟩
      rw [List.length_cons, List.range'_succ, wpOpsIn_cons]
      have ho : ops[start]? = some o := by simpa using hl 0 o rfl
      unfold wpOpIn
      rw [ho]
      simp only [wanted_rel ht hwant, Bool.false_eq_true, if_false]
      refine ⟨fun f _ => trivial, ?_⟩
      exact ih ρ D w _ n Q ro (start + 1) df (fun k o' hk' => by rw [show start + 1 + k = start + (k + 1) by omega]; exact hl (k + 1) o' (by simpa using hk')) hw (lput_rel ht _ undef_rel) (by rw [put_defers]; exact hdf) hd hk
    · cases hr

/-- what a region that draws its order must be -/
def DrawOK (P : Program) (sf : Job → Option Out) : Prop :=
  ∀ (ops : Array Oper) (ts : List Value) (V : View) (ts1 : List Value) (V1 : View), (drawOk ops && inb V.next V.objs) = true → drawGo P sf ops (Region.before ops) ops.toList [] ts V = some (ts1, V1) →
    V.next ≤ V1.next ∧ ∀ (ρ : Ren) (D : Nat → Prop) (w : World) (a : Act) (n : Nat) (Q : Exit → Act → World → Prop) (ro : Option Nat) (df : List Nat), WRel P ρ D V.get w → TRel ρ D ts a.tmps → DRel ρ D df a.defers →
      (∀ b, V.next ≤ b → b < V1.next → ¬ D b) →
      (∀ ρ1 a1 w1, Stepped P ρ D V.get V.next w ρ1 V1.get V1.next w1 → TRel ρ1 (grow D V.next V1.next) ts1 a1.tmps → DRel ρ1 (grow D V.next V1.next) df a1.defers → Q .normal a1 w1) →
      wpAnyIn (fence ro) n P .any ops Q ops.size (Array.replicate ops.size false) a w.drew

theorem seq_disj {n m k : Nat} (h1 : n ≤ m) (h2 : m ≤ k) (hd : ∀ b, n ≤ b → b < k → ¬ D b) : (∀ b, n ≤ b → b < m → ¬ D b) ∧ (∀ b, m ≤ b → b < k → ¬ grow D n m b) :=
  ⟨fun b hb hb' => hd b hb (by omega), fun b hb hb' hD => by
    rcases hD with hD | hD
    · exact hd b (by omega) hb' hD
    · omega⟩
theorem ar_grow {ar : Option Nat} (h : ∀ l, ar = some l → D l) (n m : Nat) : ∀ l, ar = some l → grow D n m l := fun l hl => .inl (h l hl)
theorem ar_same {ar : Option Nat} (h : ∀ l, ar = some l → D l) (hag : Agree ρ ρ1 D) : ar.map ρ1.b = ar.map ρ.b := by
  cases ar with
  | none => rfl
  | some l => simp [hag.b _ (h l rfl)]

theorem seq_ok {ar : Option Nat} {x y : Code} {ts ts1 ts2 : List Value} {df df1 df2 : List Nat} {e : Ex} (n1 : V.next ≤ V1.next) (h1 : CodeOK P ar x ts df V .normal ts1 df1 V1) (n2 : V1.next ≤ V2.next) (h2 : CodeOK P ar y ts1 df1 V1 e ts2 df2 V2) :
    CodeOK P ar (.seq x y) ts df V e ts2 df2 V2 := by
  intro ρ D w a n Q hw ht hdf har hd hk
  obtain ⟨d1, d2⟩ := seq_disj n1 n2 hd
  refine wpIn_seq (h1 ρ D w a n _ hw ht hdf har d1 ?_)
  intro ρ1 a1 w1 st1 ht1 hdf1
  have hag := st1.agree d1
  show y.wpIn (fence (ar.map ρ.b)) n P Q a1 w1
  rw [← ar_same har hag]
  refine h2 ρ1 _ w1 a1 n Q st1.rel ht1 hdf1 (ar_grow har _ _) d2 ?_
  intro ρ2 a2 w2 st2 ht2 hdf2
  rw [grow_grow n1 n2] at ht2 hdf2
  exact hk ρ2 a2 w2 (st1.trans st2 hw) ht2 hdf2
end Go.Vm
