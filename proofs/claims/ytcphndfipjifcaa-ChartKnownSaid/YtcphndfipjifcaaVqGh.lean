/- The quick machine: regions that draw their order. -/
import Derived.Test.YtcphndfipjifcaaVqGg
namespace Go.Vm
abbrev Wrs := List (Nat × Rec)
/-- a record without its value -/
def strip (r : Rec) : Rec := ⟨r.vi, undef, r.vo, r.wr⟩
theorem hid_strip (A : Nat) (b : Nat) : ∀ (recs : List Rec), hid A (recs.map strip) b = hid A recs b
  | [] => rfl
  | r :: l => by simp only [List.map_cons, hid, List.length_map, hid_strip A b l]; rfl
theorem clash_strip (A : Nat) (b : Nat) : ∀ (recs : List Rec), clash A (recs.map strip) b = clash A recs b
  | [] => rfl
  | r :: l => by simp only [List.map_cons, clash, List.length_map, clash_strip A b l]; rfl
theorem visible_strip (A : Nat) (recs : List Rec) : ∀ (l : Objs), visible A (recs.map strip) l = visible A recs l
  | [] => rfl
  | (k, o) :: l => by simp only [visible, hid_strip, visible_strip A recs l]
theorem anyHid_strip (A : Nat) (recs : List Rec) : ∀ (l : List Nat), anyHid A (recs.map strip) l = anyHid A recs l
  | [] => rfl
  | b :: l => by simp only [anyHid, hid_strip, anyHid_strip A recs l]
theorem view_strip (A : Nat) (recs : List Rec) (V : View) (f : Foot) : viewFor A (recs.map strip) V f = viewFor A recs V f := by
  cases f with
  | none => rfl
  | all => simp only [viewFor, visible_strip]
  | some l wr => simp only [viewFor, anyHid_strip, clash_strip]
def dl (n : Nat) : Rec := ⟨⟨n, []⟩, undef, ⟨n, []⟩, none⟩
noncomputable def repD (n : Nat) : Nat → List Rec := Nat.rec (motive := fun _ => List Rec) [] (fun _ ih => dl n :: ih)
theorem strip_dummies (ops : Array Oper) (ts : List Value) (V : View) : ∀ k, (dummies ops ts V k).map strip = repD V.next k
  | 0 => rfl
  | k + 1 => by simp only [dummies, List.map_cons, strip_dummies ops ts V k]; rfl
theorem keep_rep (n : Nat) : ∀ k, keep (repD n k) = []
  | 0 => rfl
  | k + 1 => by
    have : dull (dl n) = true := Nat.ble_eq_true_of_le (Nat.le_refl _)
    show keep (dl n :: repD n k) = []
    simp only [keep, this, keep_rep n k]
noncomputable def hidG : Wrs → Nat → Nat → Bool := List.rec (motive := fun _ => Nat → Nat → Bool) (fun _ _ => false) (fun p _ ih A b => ifB (!(A.testBit p.1) && touch p.2 b) true (ih A b))
theorem hidG_eq (A b : Nat) : ∀ (recs : List Rec), hidG (keep recs) A b = hid A recs b := by
  intro recs
  rw [← hidS_eq]
  generalize keep recs = w
  induction w with
  | nil => rfl
  | cons p w ih =>
    obtain ⟨k, r⟩ := p
    show ifB (!(A.testBit k) && touch r b) true (hidG w A b) = _
    rw [ih, hidS]
    cases (!(A.testBit k) && touch r b) <;> rfl
noncomputable def frzO (o : Obj) (k : List Value → TypeId → Bool) (s : Bool) : Bool := Obj.rec (motive := fun _ => (List Value → TypeId → Bool) → Bool → Bool)
  (fun c e _ k _ => k c.toList e) (fun _ _ _ s => s) (fun _ _ _ s => s) (fun _ _ _ s => s) (fun _ _ _ s => s) (fun _ _ _ _ _ _ _ s => s) (fun _ _ _ s => s) (fun _ _ _ _ _ s => s) (fun _ _ s => s) (fun _ _ s => s) (fun _ _ s => s) (fun _ _ _ s => s) o k s
/-- what is frozen of it -/
noncomputable def frzK : Objs → Wrs → Nat → (Objs → Bool) → Bool := List.rec (motive := fun _ => Wrs → Nat → (Objs → Bool) → Bool) (fun _ _ k => k [])
  (fun p _ ih w A k => Prod.rec (motive := fun _ => (Wrs → Nat → (Objs → Bool) → Bool) → Wrs → Nat → (Objs → Bool) → Bool) (fun key o ih w A k => ifB (hidG w A key) (ih w A k) (frzO o (fun l e => ih w A fun r => k ((key, .cells (Array.mk l) e (0, 1)) :: r)) (ih w A k))) p ih w A k)
theorem frzO_eq (o : Obj) (k : List Value → TypeId → Bool) (s : Bool) : frzO o k s = match o with | .cells c e _ => k c.toList e | _ => s := by cases o <;> rfl
theorem frzK_eq (A : Nat) (recs : List Rec) : ∀ (l : Objs) (k : Objs → Bool), frzK l (keep recs) A k = k (freezeAll (visible A recs l))
  | [], k => rfl
  | (key, o) :: l, k => by
    show ifB (hidG (keep recs) A key) (frzK l (keep recs) A k) (frzO o (fun c e => frzK l (keep recs) A fun r => k ((key, .cells (Array.mk c) e (0, 1)) :: r)) (frzK l (keep recs) A k)) = _
    rw [hidG_eq, frzK_eq A recs l]
    simp only [visible]
    cases hid A recs key with
    | true => rfl
    | false =>
      show frzO o _ _ = _
      rw [frzO_eq]
      cases o with
      | cells c e fz => exact frzK_eq A recs l _
      | _ => rfl
theorem inb_visible (A : Nat) (recs : List Rec) : ∀ (l : Objs) (m : Nat), inb m l = true → inb m (visible A recs l) = true
  | [], m, _ => rfl
  | (key, o) :: r, m, h => by
    simp only [inb, Bool.and_eq_true, Nat.blt_eq] at h
    simp only [visible]
    split
    · exact inb_up _ (Nat.le_of_lt h.1) (inb_visible A recs r key h.2)
    · simp only [inb, Bool.and_eq_true, Nat.blt_eq]; exact ⟨h.1, inb_visible A recs r key h.2⟩
theorem inb_freeze : ∀ (l : Objs) (m : Nat), inb m l = true → inb m (freezeAll l) = true
  | [], m, _ => rfl
  | (key, o) :: r, m, h => by
    simp only [inb, Bool.and_eq_true, Nat.blt_eq] at h
    cases o with
    | cells c e fz => simp only [freezeAll, inb, Bool.and_eq_true, Nat.blt_eq]; exact ⟨h.1, inb_freeze r key h.2⟩
    | _ => exact inb_up _ (Nat.le_of_lt h.1) (inb_freeze r key h.2)
/-- new blocks are one's own -/
noncomputable def goodG : Objs → Nat → Bool := List.rec (motive := fun _ => Nat → Bool) (fun _ => true) (fun p _ ih n => ifB (Nat.ble (Nat.succ p.1) n) true (ifB (owned p.2) (ih n) false))
theorem good_old (n m : Nat) (hm : n ≤ m) : ∀ (l : Objs) (j : Nat), j ≤ n → inb j l = true → goodOut n none m l = true
  | [], _, _, _ => rfl
  | (key, o) :: r, j, hj, h => by
    simp only [inb, Bool.and_eq_true, Nat.blt_eq] at h
    have h1 : Nat.blt key m = true := by rw [Nat.blt_eq]; omega
    have h2 : Nat.ble n key = false := by
      cases hq : Nat.ble n key with
      | false => rfl
      | true => have := Nat.le_of_ble_eq_true hq; omega
    simp only [goodOut, h1, h2, isWr, Bool.or_self, Bool.not_false, Bool.or_true, Bool.true_and]
    exact good_old n m hm r key (by omega) h.2
theorem goodG_true (n m : Nat) (hm : n ≤ m) : ∀ (l : Objs) (j : Nat), j ≤ m → inb j l = true → goodG l n = true → goodOut n none m l = true
  | [], _, _, _, _ => rfl
  | (key, o) :: r, j, hj, h, hg => by
    have h' := h
    simp only [inb, Bool.and_eq_true, Nat.blt_eq] at h
    have hg : ifB (Nat.blt key n) true (ifB (owned o) (goodG r n) false) = true := hg
    rcases ifB_true hg with ⟨h1, _⟩ | ⟨h1, h2⟩
    · rw [Nat.blt_eq] at h1
      refine good_old n m hm ((key, o) :: r) (key + 1) (by omega) ?_
      simp only [inb, Bool.and_eq_true, Nat.blt_eq]
      exact ⟨by omega, h.2⟩
    · rcases ifB_true h2 with ⟨h3, h4⟩ | ⟨_, h4⟩
      · have h5 : Nat.blt key m = true := by rw [Nat.blt_eq]; omega
        simp only [goodOut, h5, h3, Bool.true_or, Bool.true_and]
        exact goodG_true n m hm r key (by omega) h.2 h4
      · cases h4
/-- new blocks, ahead of the others -/
noncomputable def newG : Objs → Nat → Objs → (Objs → Bool) → Bool := List.rec (motive := fun _ => Nat → Objs → (Objs → Bool) → Bool) (fun _ b k => k b)
  (fun p _ ih n b k => ifB (Nat.ble (Nat.succ p.1) n) (k b) (ih n b fun r => k (p :: r)))
theorem newer_old (n : Nat) (b : Objs) : ∀ (l : Objs) (j : Nat), j ≤ n → inb j l = true → newer n l b = b
  | [], _, _, _ => rfl
  | (key, o) :: r, j, hj, h => by
    simp only [inb, Bool.and_eq_true, Nat.blt_eq] at h
    have h2 : Nat.ble n key = false := by
      cases hq : Nat.ble n key with
      | false => rfl
      | true => have := Nat.le_of_ble_eq_true hq; omega
    simp only [newer, h2]
    exact newer_old n b r key (by omega) h.2
theorem newG_eq (n : Nat) (b : Objs) : ∀ (l : Objs) (j : Nat) (k : Objs → Bool), inb j l = true → newG l n b k = k (newer n l b)
  | [], _, k, _ => rfl
  | (key, o) :: r, j, k, h => by
    simp only [inb, Bool.and_eq_true, Nat.blt_eq] at h
    show ifB (Nat.blt key n) (k b) (newG r n b fun r => k ((key, o) :: r)) = _
    rw [newG_eq n b r key _ h.2]
    simp only [newer]
    cases hq : Nat.blt key n with
    | true =>
      rw [Nat.blt_eq] at hq
      have h2 : Nat.ble n key = false := by
        cases hq2 : Nat.ble n key with
        | false => rfl
        | true => have := Nat.le_of_ble_eq_true hq2; omega
      simp only [h2]
      rw [newer_old n b r key (by omega) h.2]; rfl
    | false =>
      have : n ≤ key := by
        rcases Nat.lt_or_ge key n with h1 | h1
        · rw [← Nat.blt_eq, hq] at h1; cases h1
        · exact h1
      simp only [Nat.ble_eq_true_of_le this]; rfl
theorem inb_newer (n : Nat) (b : Objs) (hb : inb n b = true) : ∀ (l : Objs) (m : Nat), n ≤ m → inb m l = true → inb m (newer n l b) = true
  | [], m, hm, _ => inb_up _ hm hb
  | (key, o) :: r, m, hm, h => by
    simp only [inb, Bool.and_eq_true, Nat.blt_eq] at h
    simp only [newer]
    split
    · rename_i hk
      simp only [inb, Bool.and_eq_true, Nat.blt_eq]
      exact ⟨h.1, inb_newer n b hb r key (Nat.le_of_ble_eq_true hk) h.2⟩
    · rename_i hk
      have hk : key < n := by
        rcases Nat.lt_or_ge key n with h1 | h1
        · exact h1
        · rw [Nat.ble_eq_true_of_le h1] at hk; cases hk
      rw [newer_old n b r key (by omega) h.2]
      exact inb_up _ hm hb

abbrev KD := List Rec → Wrs → Value → Nat → Objs → Bool
/-- an operation whose way is not made short, among others that come in any order -/
noncomputable def slowD (nt : Nat) (o : Oper) (A i : Nat) (recs : List Rec) (w : Wrs) (env : Env) (n : Nat) (m : Objs) (K : KD) : Bool := match isAll (footOf (evE nt env) o) with
  | true => false
  | false => match viewFor A recs ⟨n, m⟩ (footOf (evE nt env) o) with
    | some (Vi, wr) => match after (fun _ => none) (runOp TP (evE nt env) o Vi) with
      | some (v, Vo) => ifB (goodOut n wr Vo.next Vo.objs) (fV v fun v => fN Vo.next fun n1 => ifB (inbG (newer n Vo.objs (turned wr Vo m)) n1) (K (⟨Vi, undef, Vo, wr⟩ :: recs) (keepIf ⟨Vi, undef, Vo, wr⟩ recs w) v n1 (newer n Vo.objs (turned wr Vo m))) false) false
      | none => false
    | none => false
/-- a load of what others leave alone -/
noncomputable def ldD (a : Opd) (A : Nat) (recs : List Rec) (w : Wrs) (env : Env) (n : Nat) (m : Objs) (rd : Nat → List Value → (Value → Bool) → Bool) (K : KD) (s : Bool) : Bool :=
  asPtr (getO a env) (fun b o => ifB (hidG w A b) s (findK m b fun ob => asCells ob fun l e _ _ => rd o l fun v => K (⟨⟨n, [(b, .cells (Array.mk l) e (0, 1))]⟩, undef, ⟨n, [(b, .cells (Array.mk l) e (0, 1))]⟩, none⟩ :: recs) w v n m)) s
/-- a new block -/
def newRec (n : Nat) (o : Obj) : Rec := ⟨⟨n, []⟩, undef, ⟨n + 1, [(n, o)]⟩, none⟩
noncomputable def alD (o : Obj) (i : Nat) (recs : List Rec) (w : Wrs) (n : Nat) (m : Objs) (K : KD) : Bool :=
  fNr (Nat.succ n) fun n1 => K (newRec n o :: recs) ((i, newRec n o) :: w) (.pointer (some (Addr.mk n 0 none))) n1 ((n, o) :: m)
noncomputable def callD (f : Opd) (args : List Opd) (S : Sf) (A i : Nat) (tot : Bool) (recs : List Rec) (w : Wrs) (env : Env) (n : Nat) (m : Objs) (K : KD) : Bool :=
  ifB tot (callG f args S env n m fun v n1 m1 => K (repD n1 (Nat.succ i)) [] v n1 m1)
    (frzK m w A fun mi => callG f args S env n mi fun v n1 m1 => ifB (Nat.ble n n1) (ifB (goodG m1 n) (ifB (Nat.ble n1 n) (K (⟨⟨n, mi⟩, undef, ⟨n1, m1⟩, none⟩ :: recs) w v n1 m) (newG m1 n m fun m2 => K (⟨⟨n, mi⟩, undef, ⟨n1, m1⟩, none⟩ :: recs) ((i, ⟨⟨n, mi⟩, undef, ⟨n1, m1⟩, none⟩) :: w) v n1 m2)) false) false)
noncomputable def doD : GK → Oper → Sf → Nat → Nat → Nat → Bool → List Rec → Wrs → Env → Nat → Objs → KD → Bool := GK.rec (motive := fun _ => Oper → Sf → Nat → Nat → Nat → Bool → List Rec → Wrs → Env → Nat → Objs → KD → Bool)
  (fun x _ _ _ _ _ _ recs w env n m K => fVal (getO x env) fun v => K (dl n :: recs) w v n m)
  (fun op x y o _ nt A i _ recs w env n m K => pBin op x y env (fun v => K (dl n :: recs) w v n m) (slowD nt o A i recs w env n m K))
  (fun x o _ nt A i _ recs w env n m K => pNot x env (fun v => K (dl n :: recs) w v n m) (slowD nt o A i recs w env n m K))
  (fun c a b o _ nt A i _ recs w env n m K => pPick c a b env (fun v => K (dl n :: recs) w v n m) (slowD nt o A i recs w env n m K))
  (fun off x o _ nt A i _ recs w env n m K => pFa off x env (fun v => K (dl n :: recs) w v n m) (slowD nt o A i recs w env n m K))
  (fun size x j o _ nt A i _ recs w env n m K => pIxs size x j env (fun v => K (dl n :: recs) w v n m) (slowD nt o A i recs w env n m K))
  (fun size len x j o _ nt A i _ recs w env n m K => pIxa size len x j env (fun v => K (dl n :: recs) w v n m) (slowD nt o A i recs w env n m K))
  (fun j x o _ nt A i _ recs w env n m K => pExt j x env (fun v => K (dl n :: recs) w v n m) (slowD nt o A i recs w env n m K))
  (fun x o _ nt A i _ recs w env n m K => pNil x env (fun v => K (dl n :: recs) w v n m) (slowD nt o A i recs w env n m K))
  (fun g f c _ _ _ _ _ _ recs w env n m K => mapO f env fun l => mapO c env fun r => K (dl n :: recs) w (.func (.func g) (Array.mk l) (Array.mk r)) n m)
  (fun x o _ nt A i _ recs w env n m K => pLen x env (fun v => K (dl n :: recs) w v n m) (slowD nt o A i recs w env n m K))
  (fun a o _ nt A i _ recs w env n m K => ldD a A recs w env n m (fun off l k => nthK l off fun v => fVal v k) K (slowD nt o A i recs w env n m K))
  (fun size a o _ nt A i _ recs w env n m K => ldD a A recs w env n m (fun off l k => dropK off l fun l => cutK size l fun l => k (.agg (Array.mk l))) K (slowD nt o A i recs w env n m K))
  (fun _ _ _ o _ nt A i _ recs w env n m K => slowD nt o A i recs w env n m K)
  (fun z e _ _ _ _ i _ recs w _ n m K => alD (.cells (Array.mk z) e (0, 0)) i recs w n m K)
  (fun e x o _ nt A i _ recs w env n m K => cellsK (getO x env) (fun cs => alD (.cells (Array.mk cs) e (0, 0)) i recs w n m K) (slowD nt o A i recs w env n m K))
  (fun f args _ S _ A i tot recs w env n m K => callD f args S A i tot recs w env n m K)
  (fun o _ nt A i _ recs w env n m K => slowD nt o A i recs w env n m K)
end Go.Vm
