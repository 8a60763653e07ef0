/- A region that draws its order: what the run in the text's order has told. -/
import Derived.Test.YtcphndfipjifcaaVqS
namespace Go.Vm
variable {P : Program} {sf : Job → Option Out} {ops : Array Oper} {k0 : Nat} {ts0 : List Value} {V0 : View}

inductive Coll (P : Program) (sf : Job → Option Out) (ops : Array Oper) (k0 : Nat) (ts0 : List Value) (V0 : View) : List Rec → List Value → View → Prop
  | nil (k : Nat) (hk : k ≤ k0) : Coll P sf ops k0 ts0 V0 (dummies ops ts0 V0 k) ts0 V0
  | run {recs : List Rec} {ts : List Value} {V : View} {o : Oper} {vi vo : View} {wr : Option Nat} {v : Value} (hc : Coll P sf ops k0 ts0 V0 recs ts V) (hk : k0 ≤ recs.length) (ho : ops[recs.length]? = some o) (hok : okOps o = true) (hw : wantedL ops ts o = some true)
      (hv : viewFor ((Region.before ops).getD recs.length 0) recs V (footOf (ev ts) o) = some (vi, wr)) (ha : after sf (runOp P (ev ts) o vi) = some (v, vo)) (hg : goodOut V.next wr vo.next vo.objs = true) (hi : inb V.next V.objs = true) (hn : vi.next ≤ vo.next) :
      Coll P sf ops k0 ts0 V0 (⟨vi, v, vo, wr⟩ :: recs) (lput ts o.dst v) ⟨vo.next, newer V.next vo.objs (turned wr vo V.objs)⟩
  | skip {recs : List Rec} {ts : List Value} {V : View} {o : Oper} (hc : Coll P sf ops k0 ts0 V0 recs ts V) (hk : k0 ≤ recs.length) (ho : ops[recs.length]? = some o) (hok : okOps o = true) (hw : wantedL ops ts o = some false) :
      Coll P sf ops k0 ts0 V0 (⟨⟨V.next, []⟩, undef, ⟨V.next, []⟩, none⟩ :: recs) (lput ts o.dst undef) V

theorem touch_none (n : Nat) (v : Value) (b : Nat) : touch ⟨⟨n, []⟩, v, ⟨n, []⟩, none⟩ b = false := by
  cases hq : touch ⟨⟨n, []⟩, v, ⟨n, []⟩, none⟩ b with
  | false => rfl
  | true =>
    simp only [touch, isWr, Bool.false_or, Bool.and_eq_true, Nat.blt_eq] at hq
    have := Nat.le_of_ble_eq_true hq.1
    omega
theorem dummies_length (ops : Array Oper) (ts : List Value) (V : View) : ∀ k, (dummies ops ts V k).length = k
  | 0 => rfl
  | k + 1 => by simp [dummies, dummies_length ops ts V k]
theorem lset_same : ∀ (ts : List Value) (d : Nat), lset ts d (lget ts d) = ts
  | [], _ => rfl
  | x :: r, 0 => rfl
  | x :: r, d + 1 => by simp only [lset, lget, lset_same r d]
theorem stT_dummies {S : Nat → Bool} : ∀ k, stT ops S ts0 (dummies ops ts0 V0 k) = ts0
  | 0 => rfl
  | k + 1 => by
    simp only [dummies, stT, dummies_length, stT_dummies k]
    split
    · unfold valAt
      cases (ops[k]?).bind (·.dst) with
      | none => rfl
      | some d => exact lset_same ts0 d
    · rfl
theorem stG_dummies {S : Nat → Bool} {g0 : Nat → Option Obj} (b : Nat) : ∀ k, stG S g0 (dummies ops ts0 V0 k) b = g0 b
  | 0 => rfl
  | k + 1 => by simp only [dummies, stG, touch_none, Bool.and_false, stG_dummies b k]
theorem stD_dummies {S : Nat → Bool} {D : Nat → Prop} (b : Nat) : ∀ k, stD S D (dummies ops ts0 V0 k) b ↔ D b
  | 0 => Iff.rfl
  | k + 1 => by
    simp only [dummies, stD]
    rw [stD_dummies b k]
    constructor
    · rintro (h | ⟨_, h1, h2⟩)
      · exact h
      · omega
    · exact .inl
theorem dummies_cons {x : Rec} {l : List Rec} {k : Nat} (h : x :: l = dummies ops ts0 V0 k) : ∃ j, k = j + 1 ∧ l = dummies ops ts0 V0 j ∧ x.vi.next = V0.next ∧ x.vo.next = V0.next ∧ ∀ b, touch x b = false := by
  cases k with
  | zero => cases h
  | succ j =>
    simp only [dummies] at h
    injection h with h1 h2
    subst h1
    exact ⟨j, rfl, h2, rfl, rfl, touch_none _ _⟩

/-- parts of a region, with an operation on the whole memory between them -/
inductive Segs (P : Program) (sf : Job → Option Out) (ops : Array Oper) (ts1 : List Value) (V1 : View) : Nat → List Value → View → Prop
  | last {k0 : Nat} {ts0 : List Value} {V0 : View} {full : List Rec} (hc : Coll P sf ops k0 ts0 V0 full ts1 V1) (hl : full.length = ops.size) : Segs P sf ops ts1 V1 k0 ts0 V0
  | tot {k0 : Nat} {ts0 : List Value} {V0 : View} {full : List Rec} {ts : List Value} {V : View} {o : Oper} {v : Value} {V2 : View} (hc : Coll P sf ops k0 ts0 V0 full ts V) (hk : k0 ≤ full.length) (ho : ops[full.length]? = some o) (hok : okOps o = true)
      (hw : wantedL ops ts o = some true) (ht : totalAt (Region.before ops) full.length = true) (ha : after sf (runOp P (ev ts) o V) = some (v, V2)) (hn : V.next ≤ V2.next) (hi : inb V2.next V2.objs = true)
      (hr : Segs P sf ops ts1 V1 (full.length + 1) (lput ts o.dst v) V2) : Segs P sf ops ts1 V1 k0 ts0 V0

theorem drawGo_segs (hs : SelfOK P sf) : ∀ (l : List Oper) (k0 : Nat) (ts0 : List Value) (V0 : View) (recs : List Rec) (ts : List Value) (V : View) (ts1 : List Value) (V1 : View), Coll P sf ops k0 ts0 V0 recs ts V → k0 ≤ recs.length →
    (∀ k o, l[k]? = some o → ops[recs.length + k]? = some o) → recs.length + l.length = ops.size → drawGo P sf ops (Region.before ops) l recs ts V = some (ts1, V1) → Segs P sf ops ts1 V1 k0 ts0 V0 := by
  intro l
  induction l with
  | nil => intro k0 ts0 V0 recs ts V ts1 V1 hc _ _ hz h; simp only [drawGo] at h; cases h; exact .last hc (by simpa using hz)
  | cons o l ih =>
    intro k0 ts0 V0 recs ts V ts1 V1 hc hk hl hz h
    simp only [drawGo] at h
    have ho : ops[recs.length]? = some o := by simpa using hl 0 o rfl
    have hl' : ∀ (rs : List Rec), rs.length = recs.length + 1 → ∀ k o', l[k]? = some o' → ops[rs.length + k]? = some o' := fun rs hrs k o' hk => by
      rw [show rs.length + k = recs.length + (k + 1) by omega]; exact hl (k + 1) o' (by simpa using hk)
    have hz' : ∀ (rs : List Rec), rs.length = recs.length + 1 → rs.length + l.length = ops.size := fun rs hrs => by simp at hz; omega
    split at h
    case h_2 => cases h
    rename_i hok
    split at h
    · rename_i hw
      split at h
      · rename_i htot
        rw [Bool.and_eq_true] at htot
        split at h
        case h_2 => cases h
        rename_i v V2 ha
        split at h
        case h_2 => cases h
        rename_i hi
        have hn : V.next ≤ V2.next := by
          cases h1 : runOp P (ev ts) o V with
          | none => rw [h1] at ha; cases ha
          | some p => rw [h1] at ha; exact Nat.le_trans (runOp_next h1) (after_next hs ha)
        refine .tot hc hk ho hok hw htot.2 ha hn hi ?_
        have hlen := dummies_length ops (lput ts o.dst v) V2 (recs.length + 1)
        exact ih _ _ _ _ _ _ _ _ (.nil (recs.length + 1) (Nat.le_refl _)) (by rw [hlen]; exact Nat.le_refl _) (hl' _ hlen) (hz' _ hlen) h
      · split at h
        case h_2 => cases h
        rename_i vi wr hv
        split at h
        case h_2 => cases h
        rename_i v vo ha
        split at h
        case h_2 => cases h
        rename_i hg
        simp only [Bool.and_eq_true] at hg
        have hn : vi.next ≤ vo.next := by
          cases h1 : runOp P (ev ts) o vi with
          | none => rw [h1] at ha; cases ha
          | some p => rw [h1] at ha; exact Nat.le_trans (runOp_next h1) (after_next hs ha)
        exact ih _ _ _ _ _ _ _ _ (.run hc hk ho hok hw hv ha hg.1 hg.2 hn) (by simp; omega) (hl' _ (by simp)) (hz' _ (by simp)) h
    · rename_i hw
      exact ih _ _ _ _ _ _ _ _ (.skip hc hk ho hok hw) (by simp; omega) (hl' _ (by simp)) (hz' _ (by simp)) h
    · cases h

theorem isWr_iff {wr : Option Nat} {b : Nat} : isWr wr b = true ↔ wr = some b := by
  cases wr with
  | none => simp [isWr]
  | some x => simp only [isWr, Option.some.injEq]; exact ⟨Nat.eq_of_beq_eq_true, fun h => by rw [h]; exact Nat.beq_refl _⟩

def Frz (o0 o : Obj) : Prop := ∃ c e fz, o0 = .cells c e fz ∧ o = .cells c e (0, 1)
theorem mem_inb : ∀ (l : List (Nat × Obj)) (m : Nat), inb m l = true → ∀ b o, (b, o) ∈ l → b < m ∧ find l b = some o
  | [], m, _, b, o, h => by cases h
  | (k, x) :: r, m, hi, b, o, h => by
    simp only [inb, Bool.and_eq_true, Nat.blt_eq] at hi
    rcases List.mem_cons.1 h with h | h
    · cases h; exact ⟨hi.1, by simp [find]⟩
    · obtain ⟨h1, h2⟩ := mem_inb r k hi.2 b o h
      refine ⟨by omega, ?_⟩
      simp only [find]
      rw [beq_ne (by omega)]
      exact h2
theorem find_mem : ∀ (l : List (Nat × Obj)) (b : Nat) (o : Obj), find l b = some o → (b, o) ∈ l
  | [], b, o, h => by cases h
  | (k, x) :: r, b, o, h => by
    simp only [find] at h
    split at h
    · rename_i hk
      have := Nat.eq_of_beq_eq_true hk
      subst this; cases h; simp
    · exact List.mem_cons_of_mem _ (find_mem r b o h)
theorem mem_freeze : ∀ (l : List (Nat × Obj)) (b : Nat) (o : Obj), (b, o) ∈ freezeAll l → ∃ o0, (b, o0) ∈ l ∧ Frz o0 o
  | [], b, o, h => by cases h
  | (k, x) :: r, b, o, h => by
    have rec' : (b, o) ∈ freezeAll r → ∃ o0, (b, o0) ∈ (k, x) :: r ∧ Frz o0 o := fun h =>
      let ⟨o0, h1, h2⟩ := mem_freeze r b o h; ⟨o0, List.mem_cons_of_mem _ h1, h2⟩
    cases x with
    | cells c e fz =>
      simp only [freezeAll] at h
      rcases List.mem_cons.1 h with h | h
      · cases h; exact ⟨_, by simp, c, e, fz, rfl, rfl⟩
      · exact rec' h
    | _ => simp only [freezeAll] at h; exact rec' h
theorem mem_visible {A : Nat} {recs : List Rec} : ∀ (l : List (Nat × Obj)) (b : Nat) (o : Obj), (b, o) ∈ visible A recs l → (b, o) ∈ l ∧ hid A recs b = false
  | [], b, o, h => by cases h
  | (k, x) :: r, b, o, h => by
    simp only [visible] at h
    split at h
    · obtain ⟨h1, h2⟩ := mem_visible r b o h; exact ⟨List.mem_cons_of_mem _ h1, h2⟩
    · rename_i hh
      rcases List.mem_cons.1 h with h | h
      · cases h; exact ⟨by simp, hh⟩
      · obtain ⟨h1, h2⟩ := mem_visible r b o h; exact ⟨List.mem_cons_of_mem _ h1, h2⟩
theorem mem_pick {V : View} {wr : Option Nat} : ∀ (l : List Nat) (b : Nat) (o : Obj), (b, o) ∈ pick1 V wr l → memN b l = true ∧ ∃ o0, find V.objs b = some o0 ∧ ((isWr wr b = true ∧ o = o0) ∨ (isWr wr b = false ∧ Frz o0 o))
  | [], b, o, h => by cases h
  | x :: r, b, o, h => by
    have rec' : (b, o) ∈ pick1 V wr r → memN b (x :: r) = true ∧ ∃ o0, find V.objs b = some o0 ∧ ((isWr wr b = true ∧ o = o0) ∨ (isWr wr b = false ∧ Frz o0 o)) := fun h =>
      let ⟨h1, h2⟩ := mem_pick r b o h; ⟨by simp [memN, h1], h2⟩
    simp only [pick1] at h
    split at h
    · rename_i o0 hf
      split at h
      · rename_i hw
        rcases List.mem_cons.1 h with h | h
        · cases h; exact ⟨by simp [memN], _, hf, .inl ⟨hw, rfl⟩⟩
        · exact rec' h
      · rename_i hw
        rcases List.mem_append.1 h with h | h
        · obtain ⟨o1, h1, h2⟩ := mem_freeze _ _ _ h
          simp at h1
          obtain ⟨rfl, rfl⟩ := h1
          exact ⟨by simp [memN], _, hf, .inr ⟨hw, h2⟩⟩
        · exact rec' h
    · exact rec' h
theorem pick_wr {V : View} {wr : Option Nat} {b : Nat} (hb : wr = some b) (hf : (find V.objs b).isSome = true) : ∀ (l : List Nat), memN b l = true → (find (pick1 V wr l) b).isSome = true
  | [], h => by cases h
  | x :: r, h => by
    have skipOne : ∀ (p : List (Nat × Obj)), (∀ k o, (k, o) ∈ p → k ≠ b) → (find (pick1 V wr r) b).isSome = true → (find (p ++ pick1 V wr r) b).isSome = true := by
      intro p
      induction p with
      | nil => intro _ h; exact h
      | cons q p ih =>
        obtain ⟨k, o⟩ := q
        intro hp h
        simp only [List.cons_append, find]
        rw [beq_ne (hp k o (by simp))]
        exact ih (fun k o hm => hp k o (List.mem_cons_of_mem _ hm)) h
    simp only [pick1]
    by_cases hx : x = b
    · subst hx
      cases hq : find V.objs x with
      | none => rw [hq] at hf; cases hf
      | some o =>
        simp only [isWr_iff.2 hb, find, Nat.beq_refl]
        rfl
    · have hm : memN b r = true := by simpa [memN, beq_ne hx] using h
      have ih := pick_wr hb hf r hm
      split
      · rename_i o hq
        split
        · simp only [find]; rw [beq_ne hx]; exact ih
        · refine skipOne _ (fun k o' hk => ?_) ih
          obtain ⟨o1, h1, _⟩ := mem_freeze _ _ _ hk
          simp at h1
          rw [h1.1]; exact hx
      · exact ih
theorem anyHid_false {A : Nat} {recs : List Rec} : ∀ (l : List Nat) (b : Nat), anyHid A recs l = false → memN b l = true → hid A recs b = false
  | [], b, _, h => by cases h
  | x :: r, b, h, hm => by
    simp only [anyHid, Bool.or_eq_false_iff] at h
    simp only [memN, Bool.or_eq_true] at hm
    rcases hm with hm | hm
    · rw [← Nat.eq_of_beq_eq_true hm]; exact h.1
    · exact anyHid_false r b h.2 hm
theorem view_spec {A : Nat} {recs : List Rec} {V vi : View} {wr : Option Nat} {foot : Foot} (hi : inb V.next V.objs = true) (h : viewFor A recs V foot = some (vi, wr)) :
    vi.next = V.next ∧ (∀ b o, find vi.objs b = some o → hid A recs b = false ∧ ∃ o0, V.get b = some o0 ∧ ((isWr wr b = true ∧ o = o0) ∨ (isWr wr b = false ∧ Frz o0 o))) ∧
      (∀ b, wr = some b → hid A recs b = false ∧ clash A recs b = false ∧ (find vi.objs b).isSome = true) := by
  cases foot with
  | none =>
    simp only [viewFor] at h
    cases h
    exact ⟨rfl, (fun b o h => by cases h), (fun b h => by cases h)⟩
  | all =>
    simp only [viewFor] at h
    cases h
    refine ⟨rfl, fun b o h => ?_, (fun b h => by cases h)⟩
    obtain ⟨o0, h1, h2⟩ := mem_freeze _ _ _ (find_mem _ _ _ h)
    obtain ⟨h3, h4⟩ := mem_visible _ _ _ h1
    exact ⟨h4, o0, (mem_inb _ _ hi _ _ h3).2, .inr ⟨rfl, h2⟩⟩
  | some l wr' =>
    simp only [viewFor] at h
    split at h
    · cases h
    · rename_i hc
      cases h
      simp only [Bool.or_eq_false_iff] at hc
      refine ⟨rfl, fun b o h => ?_, fun b hb => ?_⟩
      · obtain ⟨h1, h2⟩ := mem_pick _ _ _ (find_mem _ _ _ h)
        exact ⟨anyHid_false l b hc.1 h1, h2⟩
      · subst hb
        have h2 := hc.2
        simp only [Bool.or_eq_false_iff, Bool.not_eq_false'] at h2
        exact ⟨anyHid_false l b hc.1 h2.2, h2.1.1, pick_wr rfl h2.1.2 l h2.2⟩

theorem goodOut_spec {n m : Nat} {wr : Option Nat} : ∀ (l : List (Nat × Obj)), goodOut n wr m l = true → ∀ b o, find l b = some o → b < m ∧ (owned o = true ∨ (b < n ∧ isWr wr b = false))
  | [], _, b, o, h => by cases h
  | (k, x) :: r, hg, b, o, h => by
    simp only [goodOut, Bool.and_eq_true, Nat.blt_eq] at hg
    simp only [find] at h
    split at h
    · rename_i hk
      have := Nat.eq_of_beq_eq_true hk
      subst this; cases h
      refine ⟨hg.1.1, ?_⟩
      have h2 := hg.1.2
      simp only [Bool.or_eq_true, Bool.not_eq_true', Bool.or_eq_false_iff] at h2
      rcases h2 with h2 | ⟨h2, h3⟩
      · exact .inl h2
      · refine .inr ⟨?_, h3⟩
        rcases Nat.lt_or_ge k n with h4 | h4
        · exact h4
        · rw [Nat.ble_eq_true_of_le h4] at h2; cases h2
    · exact goodOut_spec r hg.2 b o h
theorem find_newer (n : Nat) (base : List (Nat × Obj)) : ∀ (l : List (Nat × Obj)) (b : Nat), find (newer n l base) b = if n ≤ b then (find l b).or (find base b) else find base b
  | [], b => by simp [newer, find]
  | (k, x) :: r, b => by
    simp only [newer]
    split
    · rename_i hk
      have hk := Nat.le_of_ble_eq_true hk
      simp only [find]
      by_cases hkb : k = b
      · subst hkb; simp [hk]
      · rw [beq_ne hkb]; simp only [find_newer n base r b]
    · rename_i hk
      rw [find_newer n base r b]
      have hk : ¬ n ≤ k := fun h => by rw [Nat.ble_eq_true_of_le h] at hk; cases hk
      by_cases hnb : n ≤ b
      · rw [if_pos hnb, if_pos hnb]
        simp only [find]
        rw [beq_ne (by omega)]
      · rw [if_neg hnb, if_neg hnb]

/-- the state behind some operations, as the text's order has it -/
theorem coll_state {recs : List Rec} {ts : List Value} {V : View} (hV0 : ∀ b o, V0.get b = some o → b < V0.next) (hc : Coll P sf ops k0 ts0 V0 recs ts V) :
    ts = stT ops (fun _ => true) ts0 recs ∧ (∀ b, V.get b = stG (fun _ => true) V0.get recs b) ∧ (∀ b o, V.get b = some o → b < V.next) ∧ V0.next ≤ V.next := by
  induction hc with
  | nil k hk => exact ⟨(stT_dummies k).symm, fun b => (stG_dummies b k).symm, hV0, Nat.le_refl _⟩
  | @run recs ts V o vi vo wr v hc hk ho hok hw hv ha hg hi hn ih =>
    obtain ⟨h1, h2, h3, h4⟩ := ih
    obtain ⟨e1, e2, e3⟩ := view_spec hi hv
    have hget : ∀ b, View.get ⟨vo.next, newer V.next vo.objs (turned wr vo V.objs)⟩ b = if touch ⟨vi, v, vo, wr⟩ b = true then find vo.objs b else V.get b := by
      intro b
      show find _ b = _
      rw [find_newer]
      have hVn : V.next ≤ b → V.get b = none := by
        intro hb
        cases hq : V.get b with
        | none => rfl
        | some o => have := h3 b o hq; omega
      have hvo : vo.next ≤ b → find vo.objs b = none := by
        intro hb
        cases hq : find vo.objs b with
        | none => rfl
        | some o => have := (goodOut_spec _ hg b o hq).1; omega
      have hturn : find (turned wr vo V.objs) b = if isWr wr b = true then find vo.objs b else V.get b := by
        unfold turned
        cases wr with
        | none => simp [isWr]; rfl
        | some x =>
          dsimp only
          by_cases hx : x = b
          · subst hx
            have hw1 : isWr (some x) x = true := by simp [isWr]
            rw [if_pos hw1]
            have hin : (find V.objs x).isSome = true := by
              obtain ⟨_, _, hsome⟩ := e3 x rfl
              cases hq : find vi.objs x with
              | none => rw [hq] at hsome; cases hsome
              | some o' =>
                obtain ⟨_, o0, h5, _⟩ := e2 x o' hq
                have h5 : find V.objs x = some o0 := h5
                rw [h5]; rfl
            cases hq : find vo.objs x with
            | none => simp [find_drop]
            | some o' =>
              rw [find_put, if_pos rfl]
              cases hq2 : find V.objs x with
              | none => rw [hq2] at hin; cases hin
              | some o2 => rfl
          · have hw1 : ¬ isWr (some x) b = true := by simp [isWr, hx]
            rw [if_neg hw1]
            cases hq : find vo.objs x with
            | none => simp only; rw [find_drop, if_neg (fun e => hx e.symm)]; rfl
            | some o' => simp only; rw [find_put, if_neg (fun e => hx e.symm)]; rfl
      rw [hturn]
      by_cases hnb : V.next ≤ b
      · rw [if_pos hnb]
        by_cases hw1 : isWr wr b = true
        · have : touch ⟨vi, v, vo, wr⟩ b = true := by simp [touch, hw1]
          rw [if_pos hw1, if_pos this]; cases find vo.objs b <;> rfl
        · rw [if_neg hw1, hVn hnb]
          by_cases hvb : b < vo.next
          · have : touch ⟨vi, v, vo, wr⟩ b = true := by simp [touch, e1, hnb, hvb]
            rw [if_pos this]; cases find vo.objs b <;> rfl
          · rw [hvo (by omega)]; simp
      · rw [if_neg hnb]
        by_cases hw1 : isWr wr b = true
        · have : touch ⟨vi, v, vo, wr⟩ b = true := by simp [touch, hw1]
          rw [if_pos hw1, if_pos this]
        · have : ¬ touch ⟨vi, v, vo, wr⟩ b = true := by
            simp [touch, hw1, e1]; omega
          rw [if_neg hw1, if_neg this]
    refine ⟨?_, fun b => ?_, fun b o hb => ?_, by show V0.next ≤ vo.next; omega⟩
    · simp only [stT, ← h1]
      rw [ho]; rfl
    · rw [hget b]
      simp only [stG, Bool.true_and]
      by_cases ht : touch ⟨vi, v, vo, wr⟩ b = true
      · rw [if_pos ht, ht]
      · rw [if_neg ht, h2 b]
        rw [show touch ⟨vi, v, vo, wr⟩ b = false by simpa using ht]
    · rw [hget b] at hb
      show b < vo.next
      split at hb
      · exact (goodOut_spec _ hg b o hb).1
      · have := h3 b o hb; omega
  | @skip recs ts V o hc hk ho hok hw ih =>
    obtain ⟨h1, h2, h3, h4⟩ := ih
    refine ⟨?_, fun b => ?_, h3, h4⟩
    · simp only [stT, ← h1]
      rw [ho]; rfl
    · simp only [stG, Bool.true_and]
      have : touch ⟨⟨V.next, []⟩, undef, ⟨V.next, []⟩, none⟩ b = false := by
        cases hq : touch ⟨⟨V.next, []⟩, undef, ⟨V.next, []⟩, none⟩ b with
        | false => rfl
        | true =>
          simp only [touch, isWr, Bool.false_or, Bool.and_eq_true, Nat.blt_eq] at hq
          have := Nat.le_of_ble_eq_true hq.1
          omega
      rw [this]; exact h2 b
end Go.Vm
