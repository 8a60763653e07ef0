/- The small memory, what runs in it, and that a run in it is one in each world that is related to it. -/
import Derived.Test.YtcphndfipjifcaaVqA
import Derived.Laws.Sem
namespace Go.Vm

theorem beq_ne {a b : Nat} (h : a ≠ b) : Nat.beq a b = false := by
  cases e : Nat.beq a b
  · rfl
  · exact absurd (Nat.eq_of_beq_eq_true e) h

def find : List (Nat × Obj) → Nat → Option Obj
  | [], _ => none
  | (k, o) :: r, b => match Nat.beq k b with
    | true => some o
    | false => find r b
def put : List (Nat × Obj) → Nat → Obj → List (Nat × Obj)
  | [], _, _ => []
  | (k, o) :: r, b, x => match Nat.beq k b with
    | true => (k, x) :: r
    | false => (k, o) :: put r b x
def drop : List (Nat × Obj) → Nat → List (Nat × Obj)
  | [], _ => []
  | (k, o) :: r, b => match Nat.beq k b with
    | true => drop r b
    | false => (k, o) :: drop r b

structure View where
  next : Nat
  objs : List (Nat × Obj)

def View.get (V : View) (b : Nat) : Option Obj := find V.objs b

theorem find_put (l : List (Nat × Obj)) (b : Nat) (x : Obj) (k : Nat) : find (put l b x) k = if k = b then (find l b).map (fun _ => x) else find l k := by
  induction l with
  | nil => simp [put, find]
  | cons p r ih =>
    obtain ⟨j, o⟩ := p
    by_cases hj : j = b
    · subst hj
      simp only [put, Nat.beq_refl, find]
      by_cases hk : k = j
      · subst hk; simp
      · rw [if_neg hk, beq_ne (fun e => hk e.symm)]
    · have h1 : Nat.beq j b = false := beq_ne hj
      simp only [put, h1, find]
      by_cases hk : j = k
      · subst hk; simp [hj]
      · have h2 : Nat.beq j k = false := beq_ne hk
        simp only [h2]
        exact ih
theorem find_drop (l : List (Nat × Obj)) (b : Nat) (k : Nat) : find (drop l b) k = if k = b then none else find l k := by
  induction l with
  | nil => simp [drop, find]
  | cons p r ih =>
    obtain ⟨j, o⟩ := p
    by_cases hj : j = b
    · subst hj
      simp only [drop, Nat.beq_refl, find, ih]
      by_cases hk : k = j
      · simp [hk]
      · rw [if_neg hk, if_neg hk, beq_ne (fun e => hk e.symm)]
    · have h1 : Nat.beq j b = false := beq_ne hj
      simp only [drop, h1, find]
      by_cases hk : j = k
      · subst hk; simp [hj]
      · have h2 : Nat.beq j k = false := beq_ne hk
        simp only [h2]
        exact ih

def owned : Obj → Bool
  | .cells _ _ (_, hi) => Nat.beq hi 0
  | _ => true

/-- the world w holds what the small memory g says, where ρ says -/
structure WRel (P : Program) (ρ : Ren) (D : Nat → Prop) (g : Nat → Option Obj) (w : World) : Prop where
  dom : ∀ b o, g b = some o → D b
  real : ∀ b o, g b = some o → ρ.b b < w.heap.size
  own : ∀ b o, g b = some o → owned o = true → ρ.o b = 0 ∧ ∃ o', w.heap[ρ.b b]? = some o' ∧ ORel P ρ D b o o'
  ro : ∀ b cs e fz, g b = some (.cells cs e fz) → fz.2 ≠ 0 → ∀ (i : Nat) (v : Value), cs[i]? = some v → ∃ v', w.cell? ⟨ρ.b b, ρ.o b + i, none⟩ = some v' ∧ VRel ρ D v v'
  inj : ∀ b c x y, g b = some x → g c = some y → owned x = true → b ≠ c → ρ.b b ≠ ρ.b c

/-- ids from n to m are new -/
def grow (D : Nat → Prop) (n m : Nat) : Nat → Prop := fun b => D b ∨ (n ≤ b ∧ b < m)

structure Stepped (P : Program) (ρ : Ren) (D : Nat → Prop) (g : Nat → Option Obj) (n : Nat) (w : World) (ρ1 : Ren) (g1 : Nat → Option Obj) (m : Nat) (w1 : World) : Prop where
  next : n ≤ m
  b : ∀ k, ¬ (n ≤ k ∧ k < m) → ρ1.b k = ρ.b k
  o : ∀ k, ¬ (n ≤ k ∧ k < m) → ρ1.o k = ρ.o k
  sz : ∀ k, ¬ (n ≤ k ∧ k < m) → ρ1.sz k = ρ.sz k
  es : ∀ k, ¬ (n ≤ k ∧ k < m) → ρ1.es k = ρ.es k
  rel : WRel P ρ1 (grow D n m) g1 w1
  os : w1.os = w.os
  tape : w1.tape = w.tape
  output : w1.output = w.output
  size : w.heap.size ≤ w1.heap.size
  frame : ∀ k, k < w.heap.size → (∀ b o, g b = some o → owned o = true → ρ.b b ≠ k) → w1.heap[k]? = w.heap[k]?
  fresh : ∀ b o, g1 b = some o → owned o = true → w.heap.size ≤ ρ1.b b ∨ ∃ b0 o0, g b0 = some o0 ∧ owned o0 = true ∧ ρ1.b b = ρ.b b0

variable {P : Program} {ρ ρ1 ρ2 : Ren} {D : Nat → Prop} {g g1 g2 : Nat → Option Obj} {n m m2 : Nat} {w w1 w2 : World}

theorem Stepped.agree (h : Stepped P ρ D g n w ρ1 g1 m w1) (hd : ∀ b, n ≤ b → b < m → ¬ D b) : Agree ρ ρ1 D :=
  ⟨fun k hk => h.b k fun e => hd k e.1 e.2 hk, fun k hk => h.o k fun e => hd k e.1 e.2 hk, fun k hk => h.sz k fun e => hd k e.1 e.2 hk, fun k hk => h.es k fun e => hd k e.1 e.2 hk⟩
theorem grow_le {D : Nat → Prop} {n m : Nat} {b : Nat} (h : D b) : grow D n m b := .inl h
theorem grow_nil {D : Nat → Prop} {n : Nat} : grow D n n = D := by
  funext b; apply propext; unfold grow; constructor
  · rintro (h | h)
    · exact h
    · omega
  · exact .inl
theorem grow_grow {D : Nat → Prop} {a b c : Nat} (h1 : a ≤ b) (h2 : b ≤ c) : grow (grow D a b) b c = grow D a c := by
  funext k; apply propext; unfold grow; constructor
  · rintro ((h | h) | h)
    · exact .inl h
    · exact .inr (by omega)
    · exact .inr (by omega)
  · rintro (h | h)
    · exact .inl (.inl h)
    · by_cases hk : k < b
      · exact .inl (.inr (by omega))
      · exact .inr (by omega)
theorem Stepped.refl (h : WRel P ρ D g w) : Stepped P ρ D g n w ρ g n w :=
  ⟨Nat.le_refl _, fun _ _ => rfl, fun _ _ => rfl, fun _ _ => rfl, fun _ _ => rfl, by rw [grow_nil]; exact h, rfl, rfl, rfl, Nat.le_refl _, fun _ _ _ => rfl, fun b o hb ho => .inr ⟨b, o, hb, ho, rfl⟩⟩
theorem Stepped.trans (h : Stepped P ρ D g n w ρ1 g1 m w1) (k : Stepped P ρ1 (grow D n m) g1 m w1 ρ2 g2 m2 w2) (hr : WRel P ρ D g w) : Stepped P ρ D g n w ρ2 g2 m2 w2 where
  next := Nat.le_trans h.next k.next
  b j hj := by have := h.next; have := k.next; rw [k.b j (by omega), h.b j (by omega)]
  o j hj := by have := h.next; have := k.next; rw [k.o j (by omega), h.o j (by omega)]
  sz j hj := by have := h.next; have := k.next; rw [k.sz j (by omega), h.sz j (by omega)]
  es j hj := by have := h.next; have := k.next; rw [k.es j (by omega), h.es j (by omega)]
  rel := by have := k.rel; rwa [grow_grow h.next k.next] at this
  os := k.os.trans h.os
  tape := k.tape.trans h.tape
  output := k.output.trans h.output
  size := Nat.le_trans h.size k.size
  frame j hj hn := by
    have h1 := h.frame j hj hn
    rw [← h1]
    refine k.frame j (Nat.lt_of_lt_of_le hj h.size) fun b o hb ho e => ?_
    rcases h.fresh b o hb ho with h2 | ⟨b0, o0, h3, h4, h5⟩
    · omega
    · exact hn b0 o0 h3 h4 (by rw [← h5]; exact e)
  fresh b o hb ho := by
    rcases k.fresh b o hb ho with h2 | ⟨b0, o0, h3, h4, h5⟩
    · exact .inl (Nat.le_trans h.size h2)
    · rcases h.fresh b0 o0 h3 h4 with h6 | ⟨b1, o1, h7, h8, h9⟩
      · exact .inl (by rw [h5]; exact h6)
      · exact .inr ⟨b1, o1, h7, h8, h5.trans h9⟩

/-- less is known -/
theorem WRel.sub (h : WRel P ρ D g w) (hs : ∀ b o, g1 b = some o → g b = some o) : WRel P ρ D g1 w :=
  ⟨fun b o e => h.dom b o (hs _ _ e), fun b o e => h.real b o (hs _ _ e), fun b o e ho => h.own b o (hs _ _ e) ho, fun b cs e fz hb hz => h.ro b cs e fz (hs _ _ hb) hz,
   fun b c x y e1 e2 ho hne => h.inj b c x y (hs _ _ e1) (hs _ _ e2) ho hne⟩
theorem Stepped.sub (h : Stepped P ρ D g n w ρ1 g1 m w1) (hs : ∀ b o, g2 b = some o → g1 b = some o) : Stepped P ρ D g n w ρ1 g2 m w1 :=
  { h with rel := h.rel.sub hs, fresh := fun b o e => h.fresh b o (hs _ _ e) }

/-- a run in the small memory -/
def cell (V : View) (a : Addr) : Option Value := match find V.objs a.block with
  | some (.cells c _ _) => if a.spot.isSome then none else c[a.off]?
  | _ => none
def okSet : Obj → Bool
  | .map _ _ | .loop _ | .deferred (some []) => true
  | _ => false
def okNew : Obj → Bool
  | .cells _ _ (lo, hi) => Nat.beq lo 0 && Nat.beq hi 0
  | o => okSet o
def isRow : Obj → Bool
  | .cells _ _ _ => true
  | _ => false
def one : Value → Bool
  | .agg _ | .tuple _ => false
  | _ => true
def okStore (c : Array Value) (hi : Nat) (a : Addr) (v : Value) : Bool := Nat.beq hi 0 && !a.spot.isSome && Nat.blt a.off c.size && one v
def runV {α : Type} (P : Program) : Sem α → View → Option (α × View)
  | .pure a, V => some (a, V)
  | .load _ a k, V => match cell V a with
    | some v => runV P (k v) V
    | none => none
  | .store _ a v k, V => match find V.objs a.block with
    | some (.cells c e (_, hi)) => match okStore c hi a v with
      | true => runV P k ⟨V.next, put V.objs a.block (.cells (c.setIfInBounds a.off v) e (0, 0))⟩
      | false => none
    | _ => none
  | .new o k, V => match okNew o with
    | true => runV P (k V.next) ⟨V.next + 1, (V.next, o) :: V.objs⟩
    | false => none
  | .shape _ _, _ => none
  | .freeze _ _ _, _ => none
  | .frozen _ _, _ => none
  | .getObj r k, V => match find V.objs r with
    | some o => match isRow o with
      | true => none
      | false => runV P (k o) V
    | none => none
  | .setObj r o k, V => match find V.objs r with
    | some o0 => match isRow o0 || !okSet o with
      | true => none
      | false => runV P k ⟨V.next, put V.objs r o⟩
    | none => none
  | .choose q k, V => match q.forced with
    | true => runV P (k 0) V
    | false => none
  | .sys _ _, _ => none
  | .program k, V => runV P (k P) V
  | .mark _ k, V => runV P k V
  | .halt _, _ => none
end Go.Vm
