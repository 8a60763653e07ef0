/- The quick machine: memory, what values are. -/
import Derived.Test.YtcphndfipjifcaaVqGa
import Derived.Test.YtcphndfipjifcaaVqY
namespace Go.Vm
abbrev Objs := List (Nat × Obj)
noncomputable def findK : Objs → Nat → (Obj → Bool) → Bool := List.rec (motive := fun _ => Nat → (Obj → Bool) → Bool)
  (fun _ _ => false)
  (fun p _ ih b k => Prod.rec (motive := fun _ => (Nat → (Obj → Bool) → Bool) → Nat → (Obj → Bool) → Bool)
    (fun key o ih b k => Bool.rec (motive := fun _ => Obj → (Nat → (Obj → Bool) → Bool) → Nat → (Obj → Bool) → Bool) (fun _ ih b k => ih b k) (fun o _ _ k => k o) (Nat.beq key b) o ih b k) p ih b k)
noncomputable def putK : Objs → Nat → Obj → (Objs → Bool) → Bool := List.rec (motive := fun _ => Nat → Obj → (Objs → Bool) → Bool)
  (fun _ _ _ => false)
  (fun p r ih b x k => Prod.rec (motive := fun _ => Objs → (Nat → Obj → (Objs → Bool) → Bool) → Nat → Obj → (Objs → Bool) → Bool)
    (fun key o r ih b x k => Bool.rec (motive := fun _ => Nat → Obj → Objs → (Nat → Obj → (Objs → Bool) → Bool) → Nat → Obj → (Objs → Bool) → Bool)
      (fun key o _ ih b x k => ih b x fun r => k ((key, o) :: r)) (fun key _ r _ _ x k => k ((key, x) :: r)) (Nat.beq key b) key o r ih b x k) p r ih b x k)
theorem findK_true {l : Objs} {b : Nat} {k : Obj → Bool} (h : findK l b k = true) : ∃ o, find l b = some o ∧ k o = true := by
  induction l with
  | nil => cases h
  | cons p r ih =>
    obtain ⟨key, o⟩ := p
    have h : Bool.rec (motive := fun _ => Obj → (Nat → (Obj → Bool) → Bool) → Nat → (Obj → Bool) → Bool) (fun _ ih b k => ih b k) (fun o _ _ k => k o) (Nat.beq key b) o (findK r) b k = true := h
    simp only [find]
    cases hq : Nat.beq key b with
    | true => rw [hq] at h; exact ⟨o, rfl, h⟩
    | false => rw [hq] at h; exact ih h
theorem putK_true {l : Objs} {b : Nat} {x : Obj} {k : Objs → Bool} (h : putK l b x k = true) : (find l b).isSome = true ∧ k (put l b x) = true := by
  induction l generalizing k with
  | nil => cases h
  | cons p r ih =>
    obtain ⟨key, o⟩ := p
    have h : Bool.rec (motive := fun _ => Nat → Obj → Objs → (Nat → Obj → (Objs → Bool) → Bool) → Nat → Obj → (Objs → Bool) → Bool)
      (fun key o _ ih b x k => ih b x fun r => k ((key, o) :: r)) (fun key _ r _ _ x k => k ((key, x) :: r)) (Nat.beq key b) key o r (putK r) b x k = true := h
    simp only [find, put]
    cases hq : Nat.beq key b with
    | true => rw [hq] at h; exact ⟨rfl, h⟩
    | false => rw [hq] at h; exact ih h
theorem inb_put (b : Nat) (x : Obj) : ∀ (l : Objs) (m : Nat), inb m (put l b x) = inb m l
  | [], m => rfl
  | (key, o) :: r, m => by
    simp only [put]
    cases hq : Nat.beq key b with
    | true => rfl
    | false => simp only [inb]; rw [inb_put b x r]
theorem inb_up : ∀ (l : Objs) {m n : Nat}, m ≤ n → inb m l = true → inb n l = true
  | [], m, n, _, _ => rfl
  | (key, o) :: r, m, n, hmn, h => by
    simp only [inb, Bool.and_eq_true, Nat.blt_eq] at h ⊢
    exact ⟨by omega, h.2⟩
theorem inb_new {l : Objs} {n : Nat} (o : Obj) (h : inb n l = true) : inb (n + 1) ((n, o) :: l) = true := by
  simp only [inb, Bool.and_eq_true, Nat.blt_eq]
  exact ⟨by omega, h⟩
theorem inb_find {l : Objs} {n b : Nat} {o : Obj} (h : inb n l = true) (hf : find l b = some o) : b < n := (mem_inb l n h b o (find_mem l b o hf)).1

/-- what is left behind a call -/
noncomputable def dropG : Objs → Nat → (Objs → Bool) → Bool := List.rec (motive := fun _ => Nat → (Objs → Bool) → Bool)
  (fun _ k => k [])
  (fun p r ih n k => Bool.rec (motive := fun _ => (Nat × Obj) → Objs → (Nat → (Objs → Bool) → Bool) → Nat → (Objs → Bool) → Bool) (fun _ _ ih n k => ih n k) (fun p r _ _ k => k (p :: r)) (Nat.ble (Nat.succ p.1) n) p r ih n k)
noncomputable def memG : List Nat → Nat → Bool := List.rec (motive := fun _ => Nat → Bool) (fun _ => false) (fun x _ ih b => Bool.rec (motive := fun _ => Bool) (ih b) true (Nat.beq x b))
noncomputable def keepG : Objs → Nat → List Nat → (Objs → Bool) → Bool := List.rec (motive := fun _ => Nat → List Nat → (Objs → Bool) → Bool)
  (fun _ _ k => k [])
  (fun p r ih n l k => Bool.rec (motive := fun _ => (Nat × Obj) → Objs → (Nat → List Nat → (Objs → Bool) → Bool) → Nat → List Nat → (Objs → Bool) → Bool)
    (fun p _ ih n l k => Bool.rec (motive := fun _ => (Nat × Obj) → (Nat → List Nat → (Objs → Bool) → Bool) → Nat → List Nat → (Objs → Bool) → Bool) (fun _ ih n l k => ih n l k) (fun p ih n l k => ih n l fun r => k (p :: r)) (memG l p.1) p ih n l k)
    (fun p r _ _ _ k => k (p :: r)) (Nat.ble (Nat.succ p.1) n) p r ih n l k)
theorem memG_eq (l : List Nat) (b : Nat) : memG l b = memN b l := by
  induction l with
  | nil => rfl
  | cons x r ih =>
    show Bool.rec (motive := fun _ => Bool) (memG r b) true (Nat.beq x b) = _
    simp only [memN, ih]
    cases Nat.beq x b <;> rfl
theorem keepR_all (n : Nat) (l : List Nat) : ∀ (L : Objs) (m : Nat), m ≤ n → inb m L = true → keepR n l L = L
  | [], _, _, _ => rfl
  | (key, o) :: r, m, hm, h => by
    simp only [inb, Bool.and_eq_true, Nat.blt_eq] at h
    have : Nat.blt key n = true := by rw [Nat.blt_eq]; omega
    simp only [keepR, this, Bool.true_or]
    rw [keepR_all n l r key (by omega) h.2]
theorem keepG_eq (n : Nat) (l : List Nat) : ∀ (L : Objs) (m : Nat) (k : Objs → Bool), inb m L = true → keepG L n l k = k (keepR n l L)
  | [], m, k, _ => rfl
  | (key, o) :: r, m, k, h => by
    simp only [inb, Bool.and_eq_true, Nat.blt_eq] at h
    have hr : inb key r = true := h.2
    have e : keepG ((key, o) :: r) n l k = Bool.rec (motive := fun _ => (Nat × Obj) → Objs → (Nat → List Nat → (Objs → Bool) → Bool) → Nat → List Nat → (Objs → Bool) → Bool)
      (fun p _ ih n l k => Bool.rec (motive := fun _ => (Nat × Obj) → (Nat → List Nat → (Objs → Bool) → Bool) → Nat → List Nat → (Objs → Bool) → Bool) (fun _ ih n l k => ih n l k) (fun p ih n l k => ih n l fun r => k (p :: r)) (memG l p.1) p ih n l k)
      (fun p r _ _ _ k => k (p :: r)) (Nat.ble (Nat.succ key) n) (key, o) r (keepG r) n l k := rfl
    rw [e]
    have eb : Nat.ble (Nat.succ key) n = Nat.blt key n := rfl
    rw [eb]
    simp only [keepR]
    cases hq : Nat.blt key n with
    | true =>
      rw [Nat.blt_eq] at hq
      simp only [Bool.true_or]
      rw [keepR_all n l r key (by omega) hr]
    | false =>
      simp only [Bool.false_or]
      rw [memG_eq]
      cases memN key l with
      | true => exact keepG_eq n l r key _ hr
      | false => exact keepG_eq n l r key _ hr
theorem dropG_eq (n : Nat) : ∀ (L : Objs) (m : Nat) (k : Objs → Bool), inb m L = true → dropG L n k = k (keepR n [] L)
  | [], m, k, _ => rfl
  | (key, o) :: r, m, k, h => by
    simp only [inb, Bool.and_eq_true, Nat.blt_eq] at h
    have hr : inb key r = true := h.2
    have e : dropG ((key, o) :: r) n k = Bool.rec (motive := fun _ => (Nat × Obj) → Objs → (Nat → (Objs → Bool) → Bool) → Nat → (Objs → Bool) → Bool) (fun _ _ ih n k => ih n k) (fun p r _ _ k => k (p :: r)) (Nat.ble (Nat.succ key) n) (key, o) r (dropG r) n k := rfl
    rw [e]
    have eb : Nat.ble (Nat.succ key) n = Nat.blt key n := rfl
    rw [eb]
    simp only [keepR]
    cases hq : Nat.blt key n with
    | true =>
      rw [Nat.blt_eq] at hq
      simp only [Bool.true_or]
      rw [keepR_all n [] r key (by omega) hr]
    | false =>
      simp only [Bool.false_or, memN]
      exact dropG_eq n r key k hr
theorem inb_keepR (n : Nat) (l : List Nat) : ∀ (L : Objs) (m : Nat), inb m L = true → inb m (keepR n l L) = true
  | [], m, _ => rfl
  | (key, o) :: r, m, h => by
    simp only [inb, Bool.and_eq_true, Nat.blt_eq] at h
    simp only [keepR]
    split
    · simp only [inb, Bool.and_eq_true, Nat.blt_eq]; exact ⟨h.1, inb_keepR n l r key h.2⟩
    · exact inb_up _ (Nat.le_of_lt h.1) (inb_keepR n l r key h.2)
noncomputable def inbG : Objs → Nat → Bool := List.rec (motive := fun _ => Nat → Bool) (fun _ => true) (fun p _ ih m => Bool.rec (motive := fun _ => (Nat × Obj) → (Nat → Bool) → Bool) (fun _ _ => false) (fun p ih => ih p.1) (Nat.ble (Nat.succ p.1) m) p ih)
theorem inbG_eq : ∀ (l : Objs) (m : Nat), inbG l m = inb m l
  | [], m => rfl
  | (key, o) :: r, m => by
    have e : inbG ((key, o) :: r) m = Bool.rec (motive := fun _ => (Nat × Obj) → (Nat → Bool) → Bool) (fun _ _ => false) (fun p ih => ih p.1) (Nat.blt key m) (key, o) (inbG r) := rfl
    rw [e]
    simp only [inb]
    cases Nat.blt key m with
    | true => exact inbG_eq r key
    | false => rfl

/-! lists -/
noncomputable def nthK : List Value → Nat → (Value → Bool) → Bool := List.rec (motive := fun _ => Nat → (Value → Bool) → Bool) (fun _ _ => false)
  (fun x _ ih i k => Nat.rec (motive := fun _ => Value → (Nat → (Value → Bool) → Bool) → (Value → Bool) → Bool) (fun x _ k => k x) (fun j _ _ ih k => ih j k) i x ih k)
noncomputable def setK : List Value → Nat → Value → (List Value → Bool) → Bool := List.rec (motive := fun _ => Nat → Value → (List Value → Bool) → Bool) (fun _ _ _ => false)
  (fun x r ih i v k => Nat.rec (motive := fun _ => Value → List Value → (Nat → Value → (List Value → Bool) → Bool) → Value → (List Value → Bool) → Bool) (fun _ r _ v k => k (v :: r)) (fun j _ x _ ih v k => ih j v fun r => k (x :: r)) i x r ih v k)
noncomputable def dropK : Nat → List Value → (List Value → Bool) → Bool := Nat.rec (motive := fun _ => List Value → (List Value → Bool) → Bool) (fun l k => k l)
  (fun _ ih l k => List.rec (motive := fun _ => (List Value → (List Value → Bool) → Bool) → (List Value → Bool) → Bool) (fun _ k => k []) (fun _ r _ ih k => ih r k) l ih k)
noncomputable def cutK : Nat → List Value → (List Value → Bool) → Bool := Nat.rec (motive := fun _ => List Value → (List Value → Bool) → Bool) (fun _ k => k [])
  (fun _ ih l k => List.rec (motive := fun _ => (List Value → (List Value → Bool) → Bool) → (List Value → Bool) → Bool) (fun _ _ => false) (fun x r _ ih k => ih r fun r => k (x :: r)) l ih k)
theorem nthK_true : ∀ {l : List Value} {i : Nat} {k : Value → Bool}, nthK l i k = true → ∃ v, l[i]? = some v ∧ k v = true
  | [], i, k, h => by cases h
  | x :: r, 0, k, h => ⟨x, rfl, h⟩
  | x :: r, i + 1, k, h => by
    have h : nthK r i k = true := h
    obtain ⟨v, h1, h2⟩ := nthK_true h
    exact ⟨v, by simpa using h1, h2⟩
theorem setK_true : ∀ {l : List Value} {i : Nat} {v : Value} {k : List Value → Bool}, setK l i v k = true → i < l.length ∧ k (l.set i v) = true
  | [], i, v, k, h => by cases h
  | x :: r, 0, v, k, h => ⟨by simp, h⟩
  | x :: r, i + 1, v, k, h => by
    have h : setK r i v (fun r => k (x :: r)) = true := h
    obtain ⟨h1, h2⟩ := setK_true h
    exact ⟨by simpa using h1, h2⟩
theorem dropK_eq : ∀ (n : Nat) (l : List Value) (k : List Value → Bool), dropK n l k = k (l.drop n)
  | 0, l, k => rfl
  | n + 1, [], k => rfl
  | n + 1, x :: r, k => dropK_eq n r k
theorem cutK_true : ∀ {n : Nat} {l : List Value} {k : List Value → Bool}, cutK n l k = true → ∃ m, cut n l = some m ∧ k m = true
  | 0, l, k, h => ⟨[], by cases l <;> rfl, h⟩
  | n + 1, [], k, h => by cases h
  | n + 1, x :: r, k, h => by
    have h : cutK n r (fun r => k (x :: r)) = true := h
    obtain ⟨m, h1, h2⟩ := cutK_true h
    exact ⟨x :: m, by simp only [cut, h1], h2⟩
noncomputable def fNr (n : Nat) (k : Nat → Bool) : Bool := Nat.rec (motive := fun _ => (Nat → Bool) → Bool) (fun k => k 0) (fun m _ k => k (Nat.succ m)) n k
theorem fNr_eq (n : Nat) (k : Nat → Bool) : fNr n k = k n := by cases n <;> rfl
/-- either of two -/
noncomputable def ifB (b : Bool) (x y : Bool) : Bool := Bool.rec (motive := fun _ => Bool) y x b

/-! what an object is -/
noncomputable def asCells : Obj → (List Value → TypeId → Nat → Nat → Bool) → Bool := Obj.rec (motive := fun _ => (List Value → TypeId → Nat → Nat → Bool) → Bool)
  (fun c e fz k => Array.rec (motive := fun _ => TypeId → Nat × Nat → (List Value → TypeId → Nat → Nat → Bool) → Bool) (fun l e fz k => Prod.rec (motive := fun _ => List Value → TypeId → (List Value → TypeId → Nat → Nat → Bool) → Bool) (fun x y l e k => k l e x y) fz l e k) c e fz k)
  (fun _ _ k => false)
  (fun _ _ k => false)
  (fun _ _ k => false)
  (fun _ _ k => false)
  (fun _ _ _ _ _ _ k => false)
  (fun _ _ k => false)
  (fun _ _ _ _ k => false)
  (fun _ k => false)
  (fun _ k => false)
  (fun _ k => false)
  (fun _ _ k => false)
noncomputable def asLoop : Obj → (Loop → Bool) → Bool := Obj.rec (motive := fun _ => (Loop → Bool) → Bool)
  (fun _ _ _ k => false)
  (fun _ _ k => false)
  (fun _ _ k => false)
  (fun _ _ k => false)
  (fun _ _ k => false)
  (fun _ _ _ _ _ _ k => false)
  (fun _ _ k => false)
  (fun _ _ _ _ k => false)
  (fun r k => k r)
  (fun _ k => false)
  (fun _ k => false)
  (fun _ _ k => false)
theorem asCells_true {o : Obj} {k : List Value → TypeId → Nat → Nat → Bool} (h : asCells o k = true) : ∃ l e x y, o = .cells ⟨l⟩ e (x, y) ∧ k l e x y = true := by
  cases o with
  | cells c e fz => obtain ⟨l⟩ := c; obtain ⟨x, y⟩ := fz; exact ⟨l, e, x, y, rfl, h⟩
  | _ => cases h
theorem asLoop_true {o : Obj} {k : Loop → Bool} (h : asLoop o k = true) : ∃ r, o = .loop r ∧ k r = true := by
  cases o with
  | loop r => exact ⟨r, rfl, h⟩
  | _ => cases h

/-! what a value is: a way on, and another one if it is something else -/
noncomputable def asI64 : Value → (Int → Bool) → Bool → Bool := Value.rec (motive_1 := fun _ => (Int → Bool) → Bool → Bool) (motive_2 := fun _ => Unit) (motive_3 := fun _ => Unit)
  (fun _ _ s => s)
  (fun kd n k s => IntKind.rec (motive := fun _ => Int → (Int → Bool) → Bool → Bool) (fun _ _ s => s) (fun _ _ s => s) (fun _ _ s => s) (fun n k _ => k n) (fun _ _ s => s) (fun _ _ s => s) (fun _ _ s => s) (fun _ _ s => s) kd n k s)
  (fun _ _ k s => s)
  (fun _ _ _ k s => s)
  (fun _ _ s => s)
  (fun _ _ s => s)
  (fun _ _ _ k s => s)
  (fun _ _ s => s)
  (fun _ _ s => s)
  (fun _ _ _ _ _ k s => s)
  (fun k s => s)
  (fun _ _ _ k s => s)
  (fun k s => s)
  (fun _ _ k s => s)
  (fun _ _ k s => s)
  (fun _ _ => ()) () (fun _ _ _ _ => ())
noncomputable def asB : Value → (Bool → Bool) → Bool → Bool := Value.rec (motive_1 := fun _ => (Bool → Bool) → Bool → Bool) (motive_2 := fun _ => Unit) (motive_3 := fun _ => Unit)
  (fun b k s => k b)
  (fun _ _ k s => s)
  (fun _ _ k s => s)
  (fun _ _ _ k s => s)
  (fun _ k s => s)
  (fun _ k s => s)
  (fun _ _ _ k s => s)
  (fun _ k s => s)
  (fun _ k s => s)
  (fun _ _ _ _ _ k s => s)
  (fun k s => s)
  (fun _ _ _ k s => s)
  (fun k s => s)
  (fun _ _ k s => s)
  (fun _ _ k s => s)
  (fun _ _ => ()) () (fun _ _ _ _ => ())
noncomputable def asPtr : Value → (Nat → Nat → Bool) → Bool → Bool := Value.rec (motive_1 := fun _ => (Nat → Nat → Bool) → Bool → Bool) (motive_2 := fun _ => Unit) (motive_3 := fun _ => Unit)
  (fun _ k s => s)
  (fun _ _ k s => s)
  (fun _ _ k s => s)
  (fun _ _ _ k s => s)
  (fun _ k s => s)
  (fun a k s => Option.rec (motive := fun _ => (Nat → Nat → Bool) → Bool → Bool) (fun _ s => s) (fun a k s => Addr.rec (motive := fun _ => (Nat → Nat → Bool) → Bool → Bool) (fun b o sp k s => Option.rec (motive := fun _ => Nat → Nat → (Nat → Nat → Bool) → Bool → Bool) (fun b o k _ => k b o) (fun _ _ _ _ s => s) sp b o k s) a k s) a k s)
  (fun _ _ _ k s => s)
  (fun _ k s => s)
  (fun _ k s => s)
  (fun _ _ _ _ _ k s => s)
  (fun k s => s)
  (fun _ _ _ k s => s)
  (fun k s => s)
  (fun _ _ k s => s)
  (fun _ _ k s => s)
  (fun _ _ => ()) () (fun _ _ _ _ => ())
noncomputable def asSl : Value → (Nat → Nat → Nat → Nat → Bool) → Bool → Bool := Value.rec (motive_1 := fun _ => (Nat → Nat → Nat → Nat → Bool) → Bool → Bool) (motive_2 := fun _ => Unit) (motive_3 := fun _ => Unit)
  (fun _ k s => s)
  (fun _ _ k s => s)
  (fun _ _ k s => s)
  (fun _ _ _ k s => s)
  (fun _ k s => s)
  (fun _ k s => s)
  (fun a n c k s => Option.rec (motive := fun _ => Nat → Nat → (Nat → Nat → Nat → Nat → Bool) → Bool → Bool) (fun _ _ _ s => s) (fun a n c k s => Addr.rec (motive := fun _ => Nat → Nat → (Nat → Nat → Nat → Nat → Bool) → Bool → Bool) (fun b o sp n c k s => Option.rec (motive := fun _ => Nat → Nat → Nat → Nat → (Nat → Nat → Nat → Nat → Bool) → Bool → Bool) (fun b o n c k _ => k b o n c) (fun _ _ _ _ _ _ s => s) sp b o n c k s) a n c k s) a n c k s)
  (fun _ k s => s)
  (fun _ k s => s)
  (fun _ _ _ _ _ k s => s)
  (fun k s => s)
  (fun _ _ _ k s => s)
  (fun k s => s)
  (fun _ _ k s => s)
  (fun _ _ k s => s)
  (fun _ _ => ()) () (fun _ _ _ _ => ())
noncomputable def asTup : Value → (List Value → Bool) → Bool → Bool := Value.rec (motive_1 := fun _ => (List Value → Bool) → Bool → Bool) (motive_2 := fun _ => Unit) (motive_3 := fun _ => Unit)
  (fun _ k s => s)
  (fun _ _ k s => s)
  (fun _ _ k s => s)
  (fun _ _ _ k s => s)
  (fun _ k s => s)
  (fun _ k s => s)
  (fun _ _ _ k s => s)
  (fun _ k s => s)
  (fun _ k s => s)
  (fun _ _ _ _ _ k s => s)
  (fun k s => s)
  (fun _ _ _ k s => s)
  (fun k s => s)
  (fun _ _ k s => s)
  (fun c _ k s => Array.rec (motive := fun _ => (List Value → Bool) → Bool) (fun l k => k l) c k)
  (fun _ _ => ()) () (fun _ _ _ _ => ())
noncomputable def asAgg : Value → (List Value → Bool) → Bool → Bool := Value.rec (motive_1 := fun _ => (List Value → Bool) → Bool → Bool) (motive_2 := fun _ => Unit) (motive_3 := fun _ => Unit)
  (fun _ k s => s)
  (fun _ _ k s => s)
  (fun _ _ k s => s)
  (fun _ _ _ k s => s)
  (fun _ k s => s)
  (fun _ k s => s)
  (fun _ _ _ k s => s)
  (fun _ k s => s)
  (fun _ k s => s)
  (fun _ _ _ _ _ k s => s)
  (fun k s => s)
  (fun _ _ _ k s => s)
  (fun k s => s)
  (fun c _ k s => Array.rec (motive := fun _ => (List Value → Bool) → Bool) (fun l k => k l) c k)
  (fun _ _ k s => s)
  (fun _ _ => ()) () (fun _ _ _ _ => ())
noncomputable def asOne : Value → Bool → Bool → Bool := Value.rec (motive_1 := fun _ => Bool → Bool → Bool) (motive_2 := fun _ => Unit) (motive_3 := fun _ => Unit)
  (fun _ k s => k)
  (fun _ _ k s => k)
  (fun _ _ k s => k)
  (fun _ _ _ k s => k)
  (fun _ k s => k)
  (fun _ k s => k)
  (fun _ _ _ k s => k)
  (fun _ k s => k)
  (fun _ k s => k)
  (fun _ _ _ _ _ k s => k)
  (fun k s => k)
  (fun _ _ _ k s => k)
  (fun k s => k)
  (fun _ _ k s => s)
  (fun _ _ k s => s)
  (fun _ _ => ()) () (fun _ _ _ _ => ())
noncomputable def asFn : Value → (Nat → List Value → List Value → Bool) → (Nat → List Value → Bool) → Bool → Bool := Value.rec (motive_1 := fun _ => (Nat → List Value → List Value → Bool) → (Nat → List Value → Bool) → Bool → Bool) (motive_2 := fun _ => Unit) (motive_3 := fun _ => Unit)
  (fun _ k y s => s)
  (fun _ _ k y s => s)
  (fun _ _ k y s => s)
  (fun _ _ _ k y s => s)
  (fun _ k y s => s)
  (fun _ k y s => s)
  (fun _ _ _ k y s => s)
  (fun _ k y s => s)
  (fun _ k y s => s)
  (fun fn a b _ _ k y s => Array.rec (motive := fun _ => Fn → Array Value → (Nat → List Value → List Value → Bool) → (Nat → List Value → Bool) → Bool → Bool) (fun la fn b k y s => Array.rec (motive := fun _ => Fn → List Value → (Nat → List Value → List Value → Bool) → (Nat → List Value → Bool) → Bool → Bool) (fun lb fn la k y s => Fn.rec (motive := fun _ => List Value → List Value → (Nat → List Value → List Value → Bool) → (Nat → List Value → Bool) → Bool → Bool) (fun g la lb k _ _ => k g la lb) (fun _ _ _ _ _ s => s) (fun _ _ _ _ _ _ s => s) (fun _ _ _ _ _ _ _ _ s => s) (fun l la _ _ y _ => y l la) fn la lb k y s) b fn la k y s) a fn b k y s)
  (fun k y s => s)
  (fun _ _ _ k y s => s)
  (fun k y s => s)
  (fun _ _ k y s => s)
  (fun _ _ k y s => s)
  (fun _ _ => ()) () (fun _ _ _ _ => ())
theorem asI64_true {v : Value} {k : Int → Bool} {s : Bool} (h : asI64 v k s = true) : (∃ n, v = .int .i64 n ∧ k n = true) ∨ s = true := by
  cases v with
  | int kd n => cases kd <;> first | exact .inl ⟨n, rfl, h⟩ | exact .inr h
  | _ => exact .inr h
theorem asB_true {v : Value} {k : Bool → Bool} {s : Bool} (h : asB v k s = true) : (∃ b, v = .bool b ∧ k b = true) ∨ s = true := by
  cases v with
  | bool b => exact .inl ⟨b, rfl, h⟩
  | _ => exact .inr h
theorem asPtr_true {v : Value} {k : Nat → Nat → Bool} {s : Bool} (h : asPtr v k s = true) : (∃ b o, v = .pointer (some ⟨b, o, none⟩) ∧ k b o = true) ∨ s = true := by
  cases v with
  | pointer a =>
    cases a with
    | none => exact .inr h
    | some a =>
      obtain ⟨b, o, sp⟩ := a
      cases sp with
      | none => exact .inl ⟨b, o, rfl, h⟩
      | some x => exact .inr h
  | _ => exact .inr h
theorem asSl_true {v : Value} {k : Nat → Nat → Nat → Nat → Bool} {s : Bool} (h : asSl v k s = true) : (∃ b o n c, v = .slice (some ⟨b, o, none⟩) n c ∧ k b o n c = true) ∨ s = true := by
  cases v with
  | slice a n c =>
    cases a with
    | none => exact .inr h
    | some a =>
      obtain ⟨b, o, sp⟩ := a
      cases sp with
      | none => exact .inl ⟨b, o, n, c, rfl, h⟩
      | some x => exact .inr h
  | _ => exact .inr h
theorem asTup_true {v : Value} {k : List Value → Bool} {s : Bool} (h : asTup v k s = true) : (∃ l, v = .tuple ⟨l⟩ ∧ k l = true) ∨ s = true := by
  cases v with
  | tuple c => obtain ⟨l⟩ := c; exact .inl ⟨l, rfl, h⟩
  | _ => exact .inr h
theorem asAgg_true {v : Value} {k : List Value → Bool} {s : Bool} (h : asAgg v k s = true) : (∃ l, v = .agg ⟨l⟩ ∧ k l = true) ∨ s = true := by
  cases v with
  | agg c => obtain ⟨l⟩ := c; exact .inl ⟨l, rfl, h⟩
  | _ => exact .inr h
theorem asOne_true {v : Value} {k s : Bool} (h : asOne v k s = true) : (one v = true ∧ v.cells = #[v] ∧ k = true) ∨ s = true := by
  cases v <;> first | exact .inl ⟨rfl, rfl, h⟩ | exact .inr h
theorem asFn_true {v : Value} {k : Nat → List Value → List Value → Bool} {y : Nat → List Value → Bool} {s : Bool} (h : asFn v k y s = true) :
    (∃ g a b, v = .func (.func g) ⟨a⟩ ⟨b⟩ ∧ k g a b = true) ∨ (∃ l a b, v = .func (.yield l) ⟨a⟩ b ∧ y l a = true) ∨ s = true := by
  cases v with
  | func fn a b =>
    obtain ⟨a⟩ := a
    obtain ⟨b⟩ := b
    cases fn with
    | func g => exact .inl ⟨g, a, b, rfl, h⟩
    | yield l => exact .inr (.inl ⟨l, a, _, rfl, h⟩)
    | _ => exact .inr (.inr h)
  | _ => exact .inr (.inr h)
end Go.Vm
