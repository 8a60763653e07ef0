/- A small memory to compute in: renamings, views, loads, stores, instructions. -/
import Derived.CallsIn
import Derived.RangeFuncIn
import Derived.RowKit
import Derived.Laws.Sem
import Derived.OrdersIn
set_option linter.unusedVariables false
/- Memory up to the names of its blocks: values, objects and worlds, related to a small memory that is computed with. -/
namespace Go.Vm

/-- where the blocks of the small memory lie -/
structure Ren where
  b : Nat → Nat
  o : Nat → Nat
  sz : Nat → Nat
  es : Nat → Nat

def Ren.addr (ρ : Ren) (a : Addr) : Addr := { block := ρ.b a.block, off := ρ.o a.block + a.off, spot := a.spot }

/-- the capacity that stands for one that is not known -/
def big : Nat := 2 ^ 80

def flat : Value → Bool
  | .bool _ | .int _ _ | .float _ _ | .complex _ _ _ | .string _ | .nilFunc | .nilIface => true
  | .pointer none | .map none | .chan none => true
  | .slice none _ _ => true
  | _ => false

inductive FRel (ρ : Ren) (D : Nat → Prop) : Fn → Fn → Prop
  | same {f} (h : ∀ l, f ≠ .yield l) : FRel ρ D f f
  | yield {l} (h : D l) : FRel ρ D (.yield l) (.yield (ρ.b l))

/-- a value of one cell -/
def scalar : Value → Bool
  | .agg _ | .tuple _ => false
  | _ => true
inductive VRel (ρ : Ren) (D : Nat → Prop) : Value → Value → Prop
  | flat {v} (h : flat v = true) : VRel ρ D v v
  | ptr {a} (h : D a.block) : VRel ρ D (.pointer (some a)) (.pointer (some (ρ.addr a)))
  | slice {a len cap} (h : D a.block) (hc : cap < big) : VRel ρ D (.slice (some a) len cap) (.slice (some (ρ.addr a)) len cap)
  | grown {a len cap'} (h : D a.block) (hl : len ≤ cap') (hs : a.off + cap' * ρ.es a.block ≤ ρ.sz a.block) :
      VRel ρ D (.slice (some a) len big) (.slice (some (ρ.addr a)) len cap')
  | map {r} (h : D r) : VRel ρ D (.map (some r)) (.map (some (ρ.b r)))
  | func {fn fn' : Fn} {xs xs' ys ys' : Array Value} (hf : FRel ρ D fn fn') (h1 : xs.size = xs'.size) (h2 : ∀ (i : Nat) (v v' : Value), xs[i]? = some v → xs'[i]? = some v' → VRel ρ D v v')
      (h3 : ys.size = ys'.size) (h4 : ∀ (i : Nat) (v v' : Value), ys[i]? = some v → ys'[i]? = some v' → VRel ρ D v v') : VRel ρ D (.func fn xs ys) (.func fn' xs' ys')
  | agg {xs xs' : Array Value} (h1 : xs.size = xs'.size) (h2 : ∀ (i : Nat) (v v' : Value), xs[i]? = some v → xs'[i]? = some v' → VRel ρ D v v') : VRel ρ D (.agg xs) (.agg xs')
  | tuple {xs xs' : Array Value} (h1 : xs.size = xs'.size) (h2 : ∀ (i : Nat) (v v' : Value), xs[i]? = some v → xs'[i]? = some v' → VRel ρ D v v') : VRel ρ D (.tuple xs) (.tuple xs')
  | iface {t v v'} (h : VRel ρ D v v') : VRel ρ D (.iface t v) (.iface t v')
  /-- what is not known any more, and is not asked for -/
  | junk {v'} (h : scalar v' = true) : VRel ρ D (.iface 0 (.chan (some 0))) v'

def ARel (ρ : Ren) (D : Nat → Prop) (xs ys : Array Value) : Prop := xs.size = ys.size ∧ ∀ (i : Nat) (v v' : Value), xs[i]? = some v → ys[i]? = some v' → VRel ρ D v v'

structure Agree (ρ ρ1 : Ren) (D : Nat → Prop) : Prop where
  b : ∀ k, D k → ρ1.b k = ρ.b k
  o : ∀ k, D k → ρ1.o k = ρ.o k
  sz : ∀ k, D k → ρ1.sz k = ρ.sz k
  es : ∀ k, D k → ρ1.es k = ρ.es k

variable {ρ ρ1 ρ2 : Ren} {D D1 : Nat → Prop} {xs ys : Array Value}

theorem Agree.trans' {D2 : Nat → Prop} (h : Agree ρ ρ1 D) (k : Agree ρ1 ρ2 D2) (hD : ∀ b, D b → D2 b := by intro b hb; exact .inl hb) : Agree ρ ρ2 D :=
  ⟨fun b hb => (k.b b (hD b hb)).trans (h.b b hb), fun b hb => (k.o b (hD b hb)).trans (h.o b hb), fun b hb => (k.sz b (hD b hb)).trans (h.sz b hb), fun b hb => (k.es b (hD b hb)).trans (h.es b hb)⟩
theorem Agree.addr (h : Agree ρ ρ1 D) {a : Addr} (ha : D a.block) : ρ1.addr a = ρ.addr a := by
  simp [Ren.addr, h.b _ ha, h.o _ ha]
theorem FRel.ext (h : Agree ρ ρ1 D) (hD : ∀ k, D k → D1 k) {f f' : Fn} (r : FRel ρ D f f') : FRel ρ1 D1 f f' := by
  cases r with
  | same hn => exact .same hn
  | yield hl => rw [← h.b _ hl]; exact .yield (hD _ hl)
theorem VRel.ext (h : Agree ρ ρ1 D) (hD : ∀ k, D k → D1 k) {v v' : Value} (r : VRel ρ D v v') : VRel ρ1 D1 v v' := by
  induction r with
  | flat hv => exact .flat hv
  | ptr ha => rw [← h.addr ha]; exact .ptr (hD _ ha)
  | slice ha hc => rw [← h.addr ha]; exact .slice (hD _ ha) hc
  | grown ha hl hs => rw [← h.addr ha]; exact .grown (hD _ ha) hl (by rw [h.es _ ha, h.sz _ ha]; exact hs)
  | map hr => rw [← h.b _ hr]; exact .map (hD _ hr)
  | func hf h1 _ h3 _ ih1 ih2 => exact .func (hf.ext h hD) h1 ih1 h3 ih2
  | agg h1 _ ih => exact .agg h1 ih
  | tuple h1 _ ih => exact .tuple h1 ih
  | iface _ ih => exact .iface ih
  | junk h => exact .junk h
theorem ARel.ext (h : Agree ρ ρ1 D) (hD : ∀ k, D k → D1 k) {v v' : Array Value} (r : ARel ρ D v v') : ARel ρ1 D1 v v' :=
  ⟨r.1, fun i x y hx hy => (r.2 i x y hx hy).ext h hD⟩
theorem ARel.get (r : ARel ρ D xs ys) {i : Nat} {v : Value} (h : xs[i]? = some v) : ∃ v', ys[i]? = some v' ∧ VRel ρ D v v' := by
  have hi : i < ys.size := r.1 ▸ (Array.getElem?_eq_some_iff.1 h).1
  exact ⟨ys[i], Array.getElem?_eq_getElem hi, r.2 i _ _ h (Array.getElem?_eq_getElem hi)⟩
theorem ARel.none (r : ARel ρ D xs ys) {i : Nat} (h : xs[i]? = none) : ys[i]? = none := by
  rw [Array.getElem?_eq_none_iff] at *; rw [← r.1]; exact h
theorem ARel.nil : ARel ρ D #[] #[] := ⟨rfl, fun i v v' h => by simp at h⟩
theorem ARel.push (r : ARel ρ D xs ys) {v v' : Value} (h : VRel ρ D v v') : ARel ρ D (xs.push v) (ys.push v') := by
  refine ⟨by simp [r.1], fun i x y hx hy => ?_⟩
  rw [Array.getElem?_push] at hx hy
  rw [r.1] at hx
  split at hx
  · rename_i hi; rw [if_pos hi] at hy; cases hx; cases hy; exact h
  · rename_i hi; rw [if_neg hi] at hy; exact r.2 i x y hx hy
theorem ARel.append {xs' ys' : Array Value} (r : ARel ρ D xs ys) (r' : ARel ρ D xs' ys') : ARel ρ D (xs ++ xs') (ys ++ ys') := by
  refine ⟨by simp [r.1, r'.1], fun i x y hx hy => ?_⟩
  rw [Array.getElem?_append] at hx hy
  rw [r.1] at hx
  split at hx
  · rename_i hi; rw [if_pos hi] at hy; exact r.2 i x y hx hy
  · rename_i hi; rw [if_neg hi] at hy; exact r'.2 _ x y hx hy
theorem ARel.extract (r : ARel ρ D xs ys) (i j : Nat) : ARel ρ D (xs.extract i j) (ys.extract i j) := by
  refine ⟨by simp [r.1], fun k x y hx hy => ?_⟩
  rw [Array.getElem?_extract] at hx hy
  rw [r.1] at hx
  split at hx
  · rename_i hi; rw [if_pos hi] at hy; exact r.2 _ x y hx hy
  · cases hx
theorem ARel.set (r : ARel ρ D xs ys) (i : Nat) {v v' : Value} (h : VRel ρ D v v') : ARel ρ D (xs.setIfInBounds i v) (ys.setIfInBounds i v') := by
  refine ⟨by simp [r.1], fun k x y hx hy => ?_⟩
  rw [Array.getElem?_setIfInBounds] at hx hy
  rw [r.1] at hx
  split at hx
  · rename_i hi
    rw [if_pos hi] at hy
    split at hx
    · rename_i hj; rw [if_pos hj] at hy; cases hx; cases hy; exact h
    · cases hx
  · rename_i hi; rw [if_neg hi] at hy; exact r.2 _ x y hx hy
theorem ARel.one {v v' : Value} (h : VRel ρ D v v') : ARel ρ D #[v] #[v'] := by
  have := (ARel.nil (ρ := ρ) (D := D)).push h; simpa using this

/-- relations of lists, one by one -/
inductive LRel {α β : Type} (R : α → β → Prop) : List α → List β → Prop
  | nil : LRel R [] []
  | cons {x y} {xs ys} (h : R x y) (t : LRel R xs ys) : LRel R (x :: xs) (y :: ys)
theorem LRel.mono {α β : Type} {R S : α → β → Prop} (h : ∀ x y, R x y → S x y) {xs : List α} {ys : List β} (r : LRel R xs ys) : LRel S xs ys := by
  induction r with
  | nil => exact .nil
  | cons a _ ih => exact .cons (h _ _ a) ih
theorem LRel.length {α β : Type} {R : α → β → Prop} {xs : List α} {ys : List β} (r : LRel R xs ys) : xs.length = ys.length := by
  induction r with
  | nil => rfl
  | cons _ _ ih => simp [ih]
theorem LRel.get {α β : Type} {R : α → β → Prop} {xs : List α} {ys : List β} (r : LRel R xs ys) : ∀ (i : Nat) (x : α), xs[i]? = some x → ∃ y, ys[i]? = some y ∧ R x y := by
  induction r with
  | nil => intro i x h; simp at h
  | cons a _ ih =>
    intro i x h
    cases i with
    | zero => simp at h; subst h; exact ⟨_, rfl, a⟩
    | succ i => simp at h; simpa using ih i x h
theorem LRel.of_get {α β : Type} {R : α → β → Prop} : ∀ {xs : List α} {ys : List β}, xs.length = ys.length → (∀ (i : Nat) (x : α) (y : β), xs[i]? = some x → ys[i]? = some y → R x y) → LRel R xs ys
  | [], [], _, _ => .nil
  | x :: xs, y :: ys, h, g => .cons (g 0 x y rfl rfl) (LRel.of_get (by simpa using h) fun i a b ha hb => g (i + 1) a b (by simpa using ha) (by simpa using hb))
theorem ARel.list (r : ARel ρ D xs ys) : LRel (VRel ρ D) xs.toList ys.toList :=
  LRel.of_get (by simpa using r.1) fun i x y hx hy => r.2 i x y (by simpa using hx) (by simpa using hy)
theorem LRel.arr {xs ys : List Value} (r : LRel (VRel ρ D) xs ys) : ARel ρ D xs.toArray ys.toArray := by
  refine ⟨by simp [r.length], fun i v v' h h' => ?_⟩
  obtain ⟨y, hy, hr⟩ := r.get i v (by simpa using h)
  have : y = v' := by have h' : ys[i]? = some v' := by simpa using h'
                      rw [hy] at h'; simpa using h'
  exact this ▸ hr

/-- closed values: no address in them -/
def flatN : Nat → Value → Bool
  | n + 1, .agg cs => cs.toList.all (flatN n)
  | n + 1, .tuple cs => cs.toList.all (flatN n)
  | _ + 1, .func (.func _) xs ys => xs.isEmpty && ys.isEmpty
  | _, v => flat v
theorem VRel.of_flatN : ∀ (n : Nat) (v : Value), flatN n v = true → VRel ρ D v v := by
  intro n
  induction n with
  | zero => intro v h; exact .flat (by cases v <;> simpa [flatN] using h)
  | succ n ih =>
    intro v h
    unfold flatN at h
    split at h
    · rename_i m cs heq
      cases heq
      refine .agg rfl fun i x y hx hy => ?_
      rw [hx] at hy; cases hy
      exact ih x (List.all_eq_true.1 h x (by have := Array.mem_of_getElem? hx; simpa using this))
    · rename_i m cs heq
      cases heq
      refine .tuple rfl fun i x y hx hy => ?_
      rw [hx] at hy; cases hy
      exact ih x (List.all_eq_true.1 h x (by have := Array.mem_of_getElem? hx; simpa using this))
    · rename_i xs ys
      simp only [Bool.and_eq_true, Array.isEmpty_iff] at h
      obtain ⟨rfl, rfl⟩ := h
      exact .func (.same fun l => by simp) rfl (fun i x y hx => by simp at hx) rfl (fun i x y hx => by simp at hx)
    · exact .flat h
theorem VRel.flatEq {v v' : Value} (h : VRel ρ D v v') (hf : Vm.flat v = true) : v' = v := by
  cases h <;> first | rfl | (simp [Vm.flat] at hf)
theorem VRel.flatN_eq : ∀ (n : Nat) {v v' : Value}, VRel ρ D v v' → flatN n v = true → v' = v := by
  intro n
  induction n with
  | zero => intro v v' h hf; exact h.flatEq (by cases v <;> simpa [flatN] using hf)
  | succ n ih =>
    intro v v' h hf
    unfold flatN at hf
    split at hf
    · rename_i m cs heq
      cases heq
      cases h with
      | flat h => simp [Vm.flat] at h
      | agg h1 h2 =>
        congr 1
        refine (Array.ext (by simpa using h1) fun i hi hi' => ?_).symm
        exact (ih (h2 i _ _ (Array.getElem?_eq_getElem hi) (Array.getElem?_eq_getElem hi')) (List.all_eq_true.1 hf _ (by simp))).symm
    · rename_i m cs heq
      cases heq
      cases h with
      | flat h => simp [Vm.flat] at h
      | tuple h1 h2 =>
        congr 1
        refine (Array.ext (by simpa using h1) fun i hi hi' => ?_).symm
        exact (ih (h2 i _ _ (Array.getElem?_eq_getElem hi) (Array.getElem?_eq_getElem hi')) (List.all_eq_true.1 hf _ (by simp))).symm
    · rename_i xs ys
      simp only [Bool.and_eq_true, Array.isEmpty_iff] at hf
      obtain ⟨rfl, rfl⟩ := hf
      cases h with
      | flat h => simp [Vm.flat] at h
      | @func _ _ _ xs' _ ys' hf h1 h2 h3 h4 =>
        cases hf
        have e1 : xs' = #[] := by apply Array.eq_empty_of_size_eq_zero; simpa using h1.symm
        have e2 : ys' = #[] := by apply Array.eq_empty_of_size_eq_zero; simpa using h3.symm
        rw [e1, e2]
    · exact h.flatEq hf

structure MRel (ρ : Ren) (D : Nat → Prop) (x y : MapEntry) : Prop where
  key : VRel ρ D x.key y.key
  val : VRel ρ D x.val y.val
  born : x.born = y.born

structure LoopRel (ρ : Ren) (D : Nat → Prop) (x y : Loop) : Prop where
  state : x.state = y.state
  pending : x.pending = y.pending
  tmps : ARel ρ D x.tmps y.tmps
  params : x.params = y.params
  assign : x.assign = y.assign
  body : x.body = y.body
  defers : D x.defers ∧ y.defers = ρ.b x.defers

inductive ORel (P : Program) (ρ : Ren) (D : Nat → Prop) (k : Nat) : Obj → Obj → Prop
  | cells {c c' : Array Value} {elem : TypeId} (hsz : c'.size = ρ.sz k) (hes : P.cellsOf elem = ρ.es k) (hle : c.size ≤ c'.size)
      (h : ∀ (i : Nat) (v : Value), c[i]? = some v → ∃ v', c'[i]? = some v' ∧ VRel ρ D v v') : ORel P ρ D k (.cells c elem (0, 0)) (.cells c' elem (0, 0))
  | map {es es' : Array MapEntry} {clock : Nat} (h : LRel (MRel ρ D) es.toList es'.toList) : ORel P ρ D k (.map es clock) (.map es' clock)
  | loop {l l'} (h : LoopRel ρ D l l') : ORel P ρ D k (.loop l) (.loop l')
  | deferred : ORel P ρ D k (.deferred (some [])) (.deferred (some []))

theorem MRel.ext (h : Agree ρ ρ1 D) (hD : ∀ k, D k → D1 k) {x y : MapEntry} (r : MRel ρ D x y) : MRel ρ1 D1 x y := ⟨r.key.ext h hD, r.val.ext h hD, r.born⟩
theorem LoopRel.ext (h : Agree ρ ρ1 D) (hD : ∀ k, D k → D1 k) {x y : Loop} (r : LoopRel ρ D x y) : LoopRel ρ1 D1 x y :=
  ⟨r.state, r.pending, r.tmps.ext h hD, r.params, r.assign, r.body, hD _ r.defers.1, by rw [h.b _ r.defers.1]; exact r.defers.2⟩
theorem ORel.ext {P : Program} {k : Nat} (h : Agree ρ ρ1 D) (hD : ∀ k, D k → D1 k) (hk : D k) {x y : Obj} (r : ORel P ρ D k x y) : ORel P ρ1 D1 k x y := by
  cases r with
  | cells hsz hes hle hv => exact .cells (by rw [h.sz _ hk]; exact hsz) (by rw [h.es _ hk]; exact hes) hle fun i v hi => let ⟨v', a, b⟩ := hv i v hi; ⟨v', a, b.ext h hD⟩
  | map hm => exact .map (hm.mono fun _ _ r => r.ext h hD)
  | loop hl => exact .loop (hl.ext h hD)
  | deferred => exact .deferred
end Go.Vm
/- The small memory, what runs in it, and that a run in it is one in each world that is related to it. -/
namespace Go.Vm

theorem beq_ne {a b : Nat} (h : a ≠ b) : Nat.beq a b = false := by
  cases e : Nat.beq a b
  · rfl
  · exact absurd (Nat.eq_of_beq_eq_true e) h

def find : List (Nat × Obj) → Nat → Option Obj
  | [], _ => none
  | (k, o) :: r, b => match Nat.beq k b with
    | true => some o
    | false => find r b
def put : List (Nat × Obj) → Nat → Obj → List (Nat × Obj)
  | [], _, _ => []
  | (k, o) :: r, b, x => match Nat.beq k b with
    | true => (k, x) :: r
    | false => (k, o) :: put r b x
def drop : List (Nat × Obj) → Nat → List (Nat × Obj)
  | [], _ => []
  | (k, o) :: r, b => match Nat.beq k b with
    | true => drop r b
    | false => (k, o) :: drop r b

structure View where
  next : Nat
  objs : List (Nat × Obj)

def View.get (V : View) (b : Nat) : Option Obj := find V.objs b

theorem find_put (l : List (Nat × Obj)) (b : Nat) (x : Obj) (k : Nat) : find (put l b x) k = if k = b then (find l b).map (fun _ => x) else find l k := by
  induction l with
  | nil => simp [put, find]
  | cons p r ih =>
    obtain ⟨j, o⟩ := p
    by_cases hj : j = b
    · subst hj
      simp only [put, Nat.beq_refl, find]
      by_cases hk : k = j
      · subst hk; simp
      · rw [if_neg hk, beq_ne (fun e => hk e.symm)]
    · have h1 : Nat.beq j b = false := beq_ne hj
      simp only [put, h1, find]
      by_cases hk : j = k
      · subst hk; simp [hj]
      · have h2 : Nat.beq j k = false := beq_ne hk
        simp only [h2]
        exact ih
theorem find_drop (l : List (Nat × Obj)) (b : Nat) (k : Nat) : find (drop l b) k = if k = b then none else find l k := by
  induction l with
  | nil => simp [drop, find]
  | cons p r ih =>
    obtain ⟨j, o⟩ := p
    by_cases hj : j = b
    · subst hj
      simp only [drop, Nat.beq_refl, find, ih]
      by_cases hk : k = j
      · simp [hk]
      · rw [if_neg hk, if_neg hk, beq_ne (fun e => hk e.symm)]
    · have h1 : Nat.beq j b = false := beq_ne hj
      simp only [drop, h1, find]
      by_cases hk : j = k
      · subst hk; simp [hj]
      · have h2 : Nat.beq j k = false := beq_ne hk
        simp only [h2]
        exact ih

def owned : Obj → Bool
  | .cells _ _ (_, hi) => Nat.beq hi 0
  | .map _ c => Nat.blt c big
  | _ => true

/-- the world w holds what the small memory g says, where ρ says -/
structure WRel (P : Program) (ρ : Ren) (D : Nat → Prop) (g : Nat → Option Obj) (w : World) : Prop where
  dom : ∀ b o, g b = some o → D b
  real : ∀ b o, g b = some o → ρ.b b < w.heap.size
  own : ∀ b o, g b = some o → owned o = true → ρ.o b = 0 ∧ ∃ o', w.heap[ρ.b b]? = some o' ∧ ORel P ρ D b o o'
  ro : ∀ b cs e fz, g b = some (.cells cs e fz) → fz.2 ≠ 0 → ∀ (i : Nat) (v : Value), cs[i]? = some v → ∃ v', w.cell? ⟨ρ.b b, ρ.o b + i, none⟩ = some v' ∧ VRel ρ D v v'
  rom : ∀ b es c, g b = some (.map es c) → ∃ es' c', w.heap[ρ.b b]? = some (.map es' c') ∧ LRel (MRel ρ D) es.toList es'.toList
  inj : ∀ b c x y, g b = some x → g c = some y → owned x = true → b ≠ c → ρ.b b ≠ ρ.b c

/-- ids from n to m are new -/
def grow (D : Nat → Prop) (n m : Nat) : Nat → Prop := fun b => D b ∨ (n ≤ b ∧ b < m)

structure Stepped (P : Program) (ρ : Ren) (D : Nat → Prop) (g : Nat → Option Obj) (n : Nat) (w : World) (ρ1 : Ren) (g1 : Nat → Option Obj) (m : Nat) (w1 : World) : Prop where
  next : n ≤ m
  b : ∀ k, ¬ (n ≤ k ∧ k < m) → ρ1.b k = ρ.b k
  o : ∀ k, ¬ (n ≤ k ∧ k < m) → ρ1.o k = ρ.o k
  sz : ∀ k, ¬ (n ≤ k ∧ k < m) → ρ1.sz k = ρ.sz k
  es : ∀ k, ¬ (n ≤ k ∧ k < m) → ρ1.es k = ρ.es k
  rel : WRel P ρ1 (grow D n m) g1 w1
  os : w1.os = w.os
  tape : w1.tape = w.tape
  output : w1.output = w.output
  size : w.heap.size ≤ w1.heap.size
  frame : ∀ k, k < w.heap.size → (∀ b o, g b = some o → owned o = true → ρ.b b ≠ k) → w1.heap[k]? = w.heap[k]?
  fresh : ∀ b o, g1 b = some o → owned o = true → w.heap.size ≤ ρ1.b b ∨ ∃ b0 o0, g b0 = some o0 ∧ owned o0 = true ∧ ρ1.b b = ρ.b b0

variable {P : Program} {ρ ρ1 ρ2 : Ren} {D : Nat → Prop} {g g1 g2 : Nat → Option Obj} {n m m2 : Nat} {w w1 w2 : World}

theorem Stepped.agree (h : Stepped P ρ D g n w ρ1 g1 m w1) (hd : ∀ b, n ≤ b → b < m → ¬ D b) : Agree ρ ρ1 D :=
  ⟨fun k hk => h.b k fun e => hd k e.1 e.2 hk, fun k hk => h.o k fun e => hd k e.1 e.2 hk, fun k hk => h.sz k fun e => hd k e.1 e.2 hk, fun k hk => h.es k fun e => hd k e.1 e.2 hk⟩
theorem grow_le {D : Nat → Prop} {n m : Nat} {b : Nat} (h : D b) : grow D n m b := .inl h
theorem grow_nil {D : Nat → Prop} {n : Nat} : grow D n n = D := by
  funext b; apply propext; unfold grow; constructor
  · rintro (h | h)
    · exact h
    · omega
  · exact .inl
theorem grow_grow {D : Nat → Prop} {a b c : Nat} (h1 : a ≤ b) (h2 : b ≤ c) : grow (grow D a b) b c = grow D a c := by
  funext k; apply propext; unfold grow; constructor
  · rintro ((h | h) | h)
    · exact .inl h
    · exact .inr (by omega)
    · exact .inr (by omega)
  · rintro (h | h)
    · exact .inl (.inl h)
    · by_cases hk : k < b
      · exact .inl (.inr (by omega))
      · exact .inr (by omega)
theorem Stepped.refl (h : WRel P ρ D g w) : Stepped P ρ D g n w ρ g n w :=
  ⟨Nat.le_refl _, fun _ _ => rfl, fun _ _ => rfl, fun _ _ => rfl, fun _ _ => rfl, by rw [grow_nil]; exact h, rfl, rfl, rfl, Nat.le_refl _, fun _ _ _ => rfl, fun b o hb ho => .inr ⟨b, o, hb, ho, rfl⟩⟩
theorem Stepped.trans (h : Stepped P ρ D g n w ρ1 g1 m w1) (k : Stepped P ρ1 (grow D n m) g1 m w1 ρ2 g2 m2 w2) (hr : WRel P ρ D g w) : Stepped P ρ D g n w ρ2 g2 m2 w2 where
  next := Nat.le_trans h.next k.next
  b j hj := by have := h.next; have := k.next; rw [k.b j (by omega), h.b j (by omega)]
  o j hj := by have := h.next; have := k.next; rw [k.o j (by omega), h.o j (by omega)]
  sz j hj := by have := h.next; have := k.next; rw [k.sz j (by omega), h.sz j (by omega)]
  es j hj := by have := h.next; have := k.next; rw [k.es j (by omega), h.es j (by omega)]
  rel := by have := k.rel; rwa [grow_grow h.next k.next] at this
  os := k.os.trans h.os
  tape := k.tape.trans h.tape
  output := k.output.trans h.output
  size := Nat.le_trans h.size k.size
  frame j hj hn := by
    have h1 := h.frame j hj hn
    rw [← h1]
    refine k.frame j (Nat.lt_of_lt_of_le hj h.size) fun b o hb ho e => ?_
    rcases h.fresh b o hb ho with h2 | ⟨b0, o0, h3, h4, h5⟩
    · omega
    · exact hn b0 o0 h3 h4 (by rw [← h5]; exact e)
  fresh b o hb ho := by
    rcases k.fresh b o hb ho with h2 | ⟨b0, o0, h3, h4, h5⟩
    · exact .inl (Nat.le_trans h.size h2)
    · rcases h.fresh b0 o0 h3 h4 with h6 | ⟨b1, o1, h7, h8, h9⟩
      · exact .inl (by rw [h5]; exact h6)
      · exact .inr ⟨b1, o1, h7, h8, h5.trans h9⟩

/-- less is known -/
theorem WRel.sub (h : WRel P ρ D g w) (hs : ∀ b o, g1 b = some o → g b = some o) : WRel P ρ D g1 w :=
  ⟨fun b o e => h.dom b o (hs _ _ e), fun b o e => h.real b o (hs _ _ e), fun b o e ho => h.own b o (hs _ _ e) ho, fun b cs e fz hb hz => h.ro b cs e fz (hs _ _ hb) hz, fun b es c hb => h.rom b es c (hs _ _ hb),
   fun b c x y e1 e2 ho hne => h.inj b c x y (hs _ _ e1) (hs _ _ e2) ho hne⟩
theorem Stepped.sub (h : Stepped P ρ D g n w ρ1 g1 m w1) (hs : ∀ b o, g2 b = some o → g1 b = some o) : Stepped P ρ D g n w ρ1 g2 m w1 :=
  { h with rel := h.rel.sub hs, fresh := fun b o e => h.fresh b o (hs _ _ e) }

/-- a run in the small memory -/
def cell (V : View) (a : Addr) : Option Value := match find V.objs a.block with
  | some (.cells c _ _) => if a.spot.isSome then none else c[a.off]?
  | _ => none
def okSet : Obj → Bool
  | .map _ c => Nat.blt c big
  | .loop _ | .deferred (some []) => true
  | _ => false
def okNew : Obj → Bool
  | .cells _ _ (lo, hi) => Nat.beq lo 0 && Nat.beq hi 0
  | o => okSet o
def isRow : Obj → Bool
  | .cells _ _ _ => true
  | _ => false
def one : Value → Bool
  | .agg _ | .tuple _ => false
  | _ => true
def okStore (c : Array Value) (hi : Nat) (a : Addr) (v : Value) : Bool := Nat.beq hi 0 && !a.spot.isSome && Nat.blt a.off c.size && one v
def runV {α : Type} (P : Program) : Sem α → View → Option (α × View)
  | .pure a, V => some (a, V)
  | .load _ a k, V => match cell V a with
    | some v => runV P (k v) V
    | none => none
  | .store _ a v k, V => match find V.objs a.block with
    | some (.cells c e (_, hi)) => match okStore c hi a v with
      | true => runV P k ⟨V.next, put V.objs a.block (.cells (c.setIfInBounds a.off v) e (0, 0))⟩
      | false => none
    | _ => none
  | .new o k, V => match okNew o with
    | true => runV P (k V.next) ⟨V.next + 1, (V.next, o) :: V.objs⟩
    | false => none
  | .shape _ _, _ => none
  | .freeze _ _ _, _ => none
  | .frozen _ _, _ => none
  | .getObj r k, V => match find V.objs r with
    | some o => match isRow o || !owned o with
      | true => none
      | false => runV P (k o) V
    | none => none
  | .setObj r o k, V => match find V.objs r with
    | some o0 => match isRow o0 || !owned o0 || !okSet o with
      | true => none
      | false => runV P k ⟨V.next, put V.objs r o⟩
    | none => none
  | .choose q k, V => match q.forced with
    | true => runV P (k 0) V
    | false => none
  | .sys _ _, _ => none
  | .program k, V => runV P (k P) V
  | .mark _ k, V => runV P k V
  | .halt _, _ => none
end Go.Vm
/- A run in the small memory is one in each related world: the simple steps. -/
namespace Go.Vm
variable {P : Program} {ρ ρ1 ρ2 : Ren} {D D1 : Nat → Prop} {g g1 g2 : Nat → Option Obj} {n m m2 : Nat} {w w1 w2 : World}

theorem runV_bind {α β : Type} (s : Sem α) (f : α → Sem β) (V : View) : runV P (s >>= f) V = (runV P s V).bind fun x => runV P (f x.1) x.2 := by
  show runV P (s.bind f) V = _
  induction s generalizing V with
  | pure a => rfl
  | load md a k ih => simp only [Sem.bind, runV]; split <;> simp [ih]
  | store md a v k ih => simp only [Sem.bind, runV]; (repeat' split) <;> simp [ih]
  | new o k ih => simp only [Sem.bind, runV]; split <;> simp [ih]
  | shape r k ih => rfl
  | freeze a n k ih => rfl
  | frozen a k ih => rfl
  | getObj r k ih => simp only [Sem.bind, runV]; (repeat' split) <;> simp [ih]
  | setObj r o k ih => simp only [Sem.bind, runV]; (repeat' split) <;> simp [ih]
  | choose q k ih => simp only [Sem.bind, runV]; split <;> simp [ih]
  | sys c k ih => rfl
  | program k ih => simp only [Sem.bind, runV]; exact ih _ _
  | mark m k ih => simp only [Sem.bind, runV]; exact ih _
  | halt h => rfl

theorem runV_next {α : Type} (s : Sem α) : ∀ (V V1 : View) (a : α), runV P s V = some (a, V1) → V.next ≤ V1.next := by
  induction s with
  | pure a => intro V V1 b h; simp only [runV] at h; cases h; exact Nat.le_refl _
  | load md a k ih =>
    intro V V1 b h; simp only [runV] at h
    split at h
    · exact ih _ _ _ _ h
    · cases h
  | store md a v k ih =>
    intro V V1 b h; simp only [runV] at h
    split at h
    · split at h
      · exact (ih _ _ _ h :)
      · cases h
    · cases h
  | new o k ih =>
    intro V V1 b h; simp only [runV] at h
    split at h
    · have := ih _ _ _ _ h; exact Nat.le_trans (Nat.le_succ _) this
    · cases h
  | getObj r k ih =>
    intro V V1 b h; simp only [runV] at h
    split at h
    · split at h
      · cases h
      · exact ih _ _ _ _ h
    · cases h
  | setObj r o k ih =>
    intro V V1 b h; simp only [runV] at h
    split at h
    · split at h
      · cases h
      · exact (ih _ _ _ h :)
    · cases h
  | choose q k ih =>
    intro V V1 b h; simp only [runV] at h
    split at h
    · exact ih _ _ _ _ h
    · cases h
  | program k ih => intro V V1 b h; simp only [runV] at h; exact ih _ _ _ _ h
  | mark mk k ih => intro V V1 b h; simp only [runV] at h; exact ih _ _ _ h
  | _ => intro V V1 b h; simp only [runV] at h; cases h

theorem runV_none {α β : Type} {s : Sem α} {f : α → Sem β} (h : ∀ a V, runV P (f a) V = none) (V : View) : runV P (s >>= f) V = none := by
  rw [runV_bind]
  cases runV P s V with
  | none => rfl
  | some p => exact h _ _
theorem runV_panic {α : Type} (e : RuntimeError) (V : View) : runV P (Go.runtimePanic e : Sem α) V = none := by
  unfold runtimePanic
  refine runV_none (fun p V => ?_) V
  cases e
  case typeAssertion => exact runV_none (fun _ V => runV_none (fun _ V => rfl) V) V
  case panicNil => exact runV_none (fun _ V => runV_none (fun _ V => rfl) V) V
  all_goals rfl

def Sim (P : Program) (ρ : Ren) (D : Nat → Prop) (V : View) {α β : Type} (s : Sem α) (s' : Sem β) (Φ : Ren → (Nat → Prop) → α → β → Prop) : Prop :=
  ∀ w, WRel P ρ D V.get w → ∀ a V1, runV P s V = some (a, V1) → (∀ b, V.next ≤ b → b < V1.next → ¬ D b) →
    ∃ ρ1 a' w1, s'.run P w = .ok a' w1 ∧ Stepped P ρ D V.get V.next w ρ1 V1.get V1.next w1 ∧ Φ ρ1 (grow D V.next V1.next) a a'

section
variable {V : View} {α β γ δ : Type} {Φ : Ren → (Nat → Prop) → α → β → Prop} {Ψ : Ren → (Nat → Prop) → γ → δ → Prop}
theorem Sim.bind {s : Sem α} {s' : Sem β} {f : α → Sem γ} {f' : β → Sem δ} (h : Sim P ρ D V s s' Φ)
    (k : ∀ ρ1 D1 V1 a a', Agree ρ ρ1 D → (∀ b, D b → D1 b) → Φ ρ1 D1 a a' → Sim P ρ1 D1 V1 (f a) (f' a') Ψ) : Sim P ρ D V (s >>= f) (s' >>= f') Ψ := by
  intro w hw c V2 hr hd
  rw [runV_bind] at hr
  cases h1 : runV P s V with
  | none => rw [h1] at hr; cases hr
  | some p =>
    obtain ⟨a, V1⟩ := p
    rw [h1] at hr
    simp only [Option.bind_some] at hr
    have n1 := runV_next _ _ _ _ h1
    have n2 := runV_next _ _ _ _ hr
    obtain ⟨ρ1, a', w1, e1, st1, hφ⟩ := h w hw a V1 h1 (fun b hb hb' => hd b hb (by omega))
    have hag := st1.agree (fun b hb hb' => hd b hb (by omega))
    obtain ⟨ρ2, c', w2, e2, st2, hψ⟩ := k ρ1 _ V1 a a' hag (fun b hb => .inl hb) hφ w1 st1.rel c V2 hr (fun b hb hb' hD => by
      rcases hD with hD | hD
      · exact hd b (by omega) hb' hD
      · omega)
    refine ⟨ρ2, c', w2, ?_, st1.trans st2 hw, ?_⟩
    · rw [Sem.run_bind]; simp [e1, e2, Result.andThen]
    · rwa [grow_grow n1 n2] at hψ
theorem Sim.mono {Φ' : Ren → (Nat → Prop) → α → β → Prop} {s : Sem α} {s' : Sem β} (h : Sim P ρ D V s s' Φ) (hm : ∀ ρ1 D1 a a', Agree ρ ρ1 D → (∀ b, D b → D1 b) → Φ ρ1 D1 a a' → Φ' ρ1 D1 a a') : Sim P ρ D V s s' Φ' :=
  fun w hw a V1 hr hd => let ⟨ρ1, a', w1, e, st, hφ⟩ := h w hw a V1 hr hd; ⟨ρ1, a', w1, e, st, hm _ _ _ _ (st.agree hd) (fun _ h => .inl h) hφ⟩
theorem Sim.pure {a : α} {b : β} (h : Φ ρ D a b) : Sim P ρ D V (Pure.pure a) (Pure.pure b) Φ := by
  intro w hw c V1 hr hd
  have hr : some (a, V) = some (c, V1) := hr
  cases hr
  exact ⟨ρ, b, w, rfl, .refl hw, by rwa [grow_nil]⟩
theorem Sim.halt {h : Halt} {s' : Sem β} : Sim P ρ D V (Sem.halt h : Sem α) s' Φ := by
  intro w hw c V1 hr hd; cases hr
theorem Sim.stuck {why : String} {s' : Sem β} : Sim P ρ D V (Go.stuck why : Sem α) s' Φ := Sim.halt
theorem Sim.unsupported {u : Unsupported} {s' : Sem β} : Sim P ρ D V (Go.unsupported u : Sem α) s' Φ := Sim.halt
theorem Sim.program {f : Program → Sem α} {f' : Program → Sem β} (h : Sim P ρ D V (f P) (f' P) Φ) : Sim P ρ D V (Go.program >>= f) (Go.program >>= f') Φ := by
  intro w hw c V1 hr hd
  rw [runV_bind] at hr
  simp only [Go.program, runV, Option.bind_some] at hr
  obtain ⟨ρ1, a', w1, e, r⟩ := h w hw c V1 hr hd
  refine ⟨ρ1, a', w1, ?_, r⟩
  rw [Sem.run_bind]; simp [Go.program, Sem.run, Result.andThen, e]
theorem Sim.panic {e : RuntimeError} {s' : Sem β} : Sim P ρ D V (Go.runtimePanic e : Sem α) s' Φ := by
  intro w hw c V1 hr hd
  rw [runV_panic] at hr; cases hr
end
end Go.Vm
/- Loads, stores, new blocks. -/
namespace Go.Vm
variable {P : Program} {ρ ρ1 ρ2 : Ren} {D D1 : Nat → Prop} {g g1 g2 : Nat → Option Obj} {n m m2 : Nat} {w w1 w2 : World} {V : View}

theorem owned_set {o : Obj} (h : okSet o = true) : owned o = true := by
  unfold okSet at h
  split at h
  · exact h
  · rfl
  · rfl
  · cases h
theorem owned_new {o : Obj} (h : okNew o = true) : owned o = true := by
  unfold okNew at h
  split at h
  · simp only [Bool.and_eq_true] at h; exact h.2
  · exact owned_set h
theorem owned_cells {c : Array Value} {e : TypeId} {lo hi : Nat} : owned (.cells c e (lo, hi)) = Nat.beq hi 0 := rfl

theorem WRel.cell (h : WRel P ρ D V.get w) {a : Addr} {v : Value} (hc : cell V a = some v) : ∃ v', w.cell? (ρ.addr a) = some v' ∧ VRel ρ D v v' := by
  unfold Vm.cell at hc
  split at hc
  · rename_i c e fz hf
    obtain ⟨lo, hi⟩ := fz
    split at hc
    · cases hc
    · rename_i hs
      have hsp : a.spot = none := by cases hq : a.spot <;> simp_all
      by_cases h0 : hi = 0
      · subst h0
        obtain ⟨ho, o', hw, hr⟩ := h.own a.block _ hf rfl
        cases hr with
        | cells hsz hes hle hv =>
          obtain ⟨v', h1, h2⟩ := hv a.off v hc
          refine ⟨v', ?_, h2⟩
          simp [Ren.addr, World.cell?, hw, hsp, ho, h1]
      · obtain ⟨v', h1, h2⟩ := h.ro a.block c e (lo, hi) hf h0 a.off v hc
        refine ⟨v', ?_, h2⟩
        rw [← h1]; simp [Ren.addr, hsp]
  · cases hc

/-- a block of one's own is turned -/
theorem Stepped.update (h : WRel P ρ D g w) {b : Nat} {o0 o o' : Obj} (hb : g b = some o0) (ho : owned o0 = true) (hr : ORel P ρ D b o o') (ho1 : owned o = true)
    (hz : w1.heap.size = w.heap.size) (hw : w1.heap[ρ.b b]? = some o') (hs : ∀ k, k ≠ ρ.b b → w1.heap[k]? = w.heap[k]?) (h1 : w1.os = w.os) (h2 : w1.tape = w.tape) (h3 : w1.output = w.output) :
    Stepped P ρ D g n w ρ (fun k => if k = b then some o else g k) n w1 where
  next := Nat.le_refl _
  b _ _ := rfl
  o _ _ := rfl
  sz _ _ := rfl
  es _ _ := rfl
  rel := by
    rw [grow_nil]
    refine ⟨fun k x hk => ?_, fun k x hk => ?_, fun k x hk hx => ?_, fun k cs e fz hk hfz i v hi => ?_, fun k es c hk => ?_, fun k c x y hk hc hx hne => ?_⟩
    · (try dsimp only at hk); split at hk
      · subst_vars; exact h.dom _ _ hb
      · exact h.dom _ _ hk
    · rw [hz]; (try dsimp only at hk); split at hk
      · subst_vars; exact h.real _ _ hb
      · exact h.real _ _ hk
    · (try dsimp only at hk); split at hk
      · subst_vars; cases hk; exact ⟨(h.own _ _ hb ho).1, o', hw, hr⟩
      · rename_i hne
        obtain ⟨h4, x', h5, h6⟩ := h.own _ _ hk hx
        exact ⟨h4, x', by rw [hs _ (h.inj k b _ _ hk hb hx hne)]; exact h5, h6⟩
    · (try dsimp only at hk); split at hk
      · cases hk; simp [owned] at ho1; exact absurd ho1 hfz
      · rename_i hne
        obtain ⟨v', h4, h5⟩ := h.ro _ _ _ _ hk hfz i v hi
        refine ⟨v', ?_, h5⟩
        rw [← h4]; unfold World.cell?; rw [hs _ (fun e => h.inj b k _ _ hb hk ho (fun e2 => hne e2.symm) e.symm)]
    · (try dsimp only at hk); split at hk
      · subst_vars; cases hk
        cases hr with
        | map hm => exact ⟨_, _, hw, hm⟩
      · rename_i hne
        obtain ⟨es', c', h4, h5⟩ := h.rom _ _ _ hk
        exact ⟨es', c', by rw [hs _ (fun e => h.inj b k _ _ hb hk ho (fun e2 => hne e2.symm) e.symm)]; exact h4, h5⟩
    · (try dsimp only at hk hc)
      split at hk
      · split at hc
        · subst_vars; exact absurd rfl hne
        · subst_vars; exact h.inj _ _ _ _ hb hc ho hne
      · split at hc
        · subst_vars; exact h.inj _ _ _ _ hk hb hx hne
        · exact h.inj _ _ _ _ hk hc hx hne
  os := h1
  tape := h2
  output := h3
  size := by omega
  frame k hk hn := hs k (fun e => hn b o0 hb ho e.symm)
  fresh k x hk hx := by
    (try dsimp only at hk); split at hk
    · subst_vars; exact .inr ⟨_, o0, hb, ho, rfl⟩
    · exact .inr ⟨k, x, hk, hx, rfl⟩

def Ren.put (ρ : Ren) (n b sz es : Nat) : Ren :=
  ⟨fun k => if k = n then b else ρ.b k, fun k => if k = n then 0 else ρ.o k, fun k => if k = n then sz else ρ.sz k, fun k => if k = n then es else ρ.es k⟩
theorem agree_put {b sz es : Nat} (hd : ¬ D n) : Agree ρ (ρ.put n b sz es) D :=
  ⟨fun k hk => if_neg (fun (e : k = n) => hd (e ▸ hk)), fun k hk => if_neg (fun (e : k = n) => hd (e ▸ hk)), fun k hk => if_neg (fun (e : k = n) => hd (e ▸ hk)), fun k hk => if_neg (fun (e : k = n) => hd (e ▸ hk))⟩

/-- a new block -/
theorem Stepped.alloc (h : WRel P ρ D g w) (hd : ¬ D n) {o o' : Obj} {sz es : Nat} (hr : ORel P (ρ.put n w.heap.size sz es) (grow D n (n + 1)) n o o') (ho : owned o = true) (ho2 : ∀ (c : Array Value) (e : TypeId) (fz : Nat × Nat), o = .cells c e fz → fz = (0, 0)) :
    Stepped P ρ D g n w (ρ.put n w.heap.size sz es) (fun k => if k = n then some o else g k) (n + 1) { w with heap := w.heap.push o' } := by
  have hag : Agree ρ (ρ.put n w.heap.size sz es) D := agree_put hd
  have hg : ∀ k, D k → grow D n (n + 1) k := fun k hk => .inl hk
  have hgn : g n = none := by
    cases hq : g n with
    | none => rfl
    | some x => exact absurd (h.dom _ _ hq) hd
  refine { next := by omega, b := fun k hk => if_neg (by omega), o := fun k hk => if_neg (by omega), sz := fun k hk => if_neg (by omega), es := fun k hk => if_neg (by omega), rel := ?_, os := rfl, tape := rfl, output := rfl, size := by simp, frame := fun k hk _ => by simp [Array.getElem?_push, Nat.ne_of_lt hk], fresh := ?_ }
  · refine ⟨fun k x hk => ?_, fun k x hk => ?_, fun k x hk hx => ?_, fun k cs e fz hk hfz i v hi => ?_, fun k es c hk => ?_, fun k c x y hk hc hx hne => ?_⟩
    · (try dsimp only at hk); split at hk
      · exact .inr (by omega)
      · exact .inl (h.dom _ _ hk)
    · (try dsimp only at hk); split at hk
      · subst_vars; simp [Ren.put]
      · rw [hag.b _ (h.dom _ _ hk)]; have := h.real _ _ hk; simp; omega
    · (try dsimp only at hk); split at hk
      · subst_vars; cases hk; refine ⟨by simp [Ren.put], o', by simp [Ren.put], hr⟩
      · obtain ⟨h4, x', h5, h6⟩ := h.own _ _ hk hx
        refine ⟨by rw [hag.o _ (h.dom _ _ hk)]; exact h4, x', ?_, h6.ext hag hg (h.dom _ _ hk)⟩
        rw [hag.b _ (h.dom _ _ hk)]
        have := h.real _ _ hk
        simp [Array.getElem?_push, Nat.ne_of_lt this]; exact h5
    · (try dsimp only at hk); split at hk
      · cases hk; exact absurd (by rw [ho2 _ _ _ rfl]) hfz
      · obtain ⟨v', h4, h5⟩ := h.ro _ _ _ _ hk hfz i v hi
        refine ⟨v', ?_, h5.ext hag hg⟩
        rw [hag.b _ (h.dom _ _ hk), hag.o _ (h.dom _ _ hk), ← h4]
        have := h.real _ _ hk
        unfold World.cell?
        simp [Array.getElem?_push, Nat.ne_of_lt this]
    · (try dsimp only at hk); split at hk
      · subst_vars; cases hk
        cases hr with
        | map hm => exact ⟨_, c, by simp [Ren.put], hm⟩
      · obtain ⟨es', c', h4, h5⟩ := h.rom _ _ _ hk
        refine ⟨es', c', ?_, h5.mono fun _ _ r => r.ext hag hg⟩
        rw [hag.b _ (h.dom _ _ hk), ← h4]
        have := h.real _ _ hk
        simp [Array.getElem?_push, Nat.ne_of_lt this]
    · (try dsimp only at hk hc)
      split at hk
      · split at hc
        · subst_vars; exact absurd rfl hne
        · subst_vars
          rw [hag.b _ (h.dom _ _ hc)]
          have := h.real _ _ hc
          simp [Ren.put]; omega
      · split at hc
        · subst_vars
          rw [hag.b _ (h.dom _ _ hk)]
          have := h.real _ _ hk
          simp [Ren.put]; omega
        · rw [hag.b _ (h.dom _ _ hk), hag.b _ (h.dom _ _ hc)]; exact h.inj _ _ _ _ hk hc hx hne
  · intro k x hk hx
    (try dsimp only at hk); split at hk
    · subst_vars; exact .inl (by simp [Ren.put])
    · exact .inr ⟨k, x, hk, hx, hag.b _ (h.dom _ _ hk)⟩

/-- a new block that is only read from here on -/
theorem Stepped.allocRo (h : WRel P ρ D g w) (hd : ¬ D n) {cs : Array Value} {e : TypeId} {sz es : Nat} {w1 : World} (hz : w1.heap.size = w.heap.size + 1) (hold : ∀ k, k < w.heap.size → w1.heap[k]? = w.heap[k]?)
    (hnew : ∀ (i : Nat) (v : Value), cs[i]? = some v → flat v = true ∧ w1.cell? ⟨w.heap.size, i, none⟩ = some v) (h1 : w1.os = w.os) (h2 : w1.tape = w.tape) (h3 : w1.output = w.output) :
    Stepped P ρ D g n w (ρ.put n w.heap.size sz es) (fun k => if k = n then some (.cells cs e (0, 1)) else g k) (n + 1) w1 := by
  have hag : Agree ρ (ρ.put n w.heap.size sz es) D := agree_put hd
  have hg : ∀ k, D k → grow D n (n + 1) k := fun k hk => .inl hk
  refine { next := by omega, b := fun k hk => if_neg (by omega), o := fun k hk => if_neg (by omega), sz := fun k hk => if_neg (by omega), es := fun k hk => if_neg (by omega), rel := ?_, os := h1, tape := h2, output := h3, size := by omega, frame := fun k hk _ => hold k hk, fresh := ?_ }
  · refine ⟨fun k x hk => ?_, fun k x hk => ?_, fun k x hk hx => ?_, fun k cs' e' fz hk hfz i v hi => ?_, fun k es c hk => ?_, fun k c x y hk hc hx hne => ?_⟩
    · (try dsimp only at hk); split at hk
      · exact .inr (by omega)
      · exact .inl (h.dom _ _ hk)
    · (try dsimp only at hk); split at hk
      · subst_vars; simp [Ren.put]; omega
      · rw [hag.b _ (h.dom _ _ hk)]; have := h.real _ _ hk; omega
    · (try dsimp only at hk); split at hk
      · cases hk; cases hx
      · obtain ⟨h4, x', h5, h6⟩ := h.own _ _ hk hx
        refine ⟨by rw [hag.o _ (h.dom _ _ hk)]; exact h4, x', ?_, h6.ext hag hg (h.dom _ _ hk)⟩
        rw [hag.b _ (h.dom _ _ hk), hold _ (h.real _ _ hk)]
        exact h5
    · (try dsimp only at hk); split at hk
      · subst_vars
        cases hk
        obtain ⟨h4, h5⟩ := hnew i v hi
        refine ⟨v, ?_, .flat h4⟩
        simpa [Ren.put] using h5
      · obtain ⟨v', h4, h5⟩ := h.ro _ _ _ _ hk hfz i v hi
        refine ⟨v', ?_, h5.ext hag hg⟩
        rw [hag.b _ (h.dom _ _ hk), hag.o _ (h.dom _ _ hk), ← h4]
        unfold World.cell?
        rw [hold _ (h.real _ _ hk)]
    · (try dsimp only at hk); split at hk
      · cases hk
      · obtain ⟨es', c', h4, h5⟩ := h.rom _ _ _ hk
        refine ⟨es', c', ?_, h5.mono fun _ _ r => r.ext hag hg⟩
        rw [hag.b _ (h.dom _ _ hk), hold _ (h.real _ _ hk)]
        exact h4
    · (try dsimp only at hk hc)
      split at hk
      · cases hk; cases hx
      · split at hc
        · subst_vars
          rw [hag.b _ (h.dom _ _ hk)]
          have := h.real _ _ hk
          simp [Ren.put]; omega
        · rw [hag.b _ (h.dom _ _ hk), hag.b _ (h.dom _ _ hc)]; exact h.inj _ _ _ _ hk hc hx hne
  · intro k x hk hx
    (try dsimp only at hk); split at hk
    · cases hk; cases hx
    · exact .inr ⟨k, x, hk, hx, hag.b _ (h.dom _ _ hk)⟩

section
variable {α β : Type} {Φ : Ren → (Nat → Prop) → α → β → Prop}
abbrev VR : Ren → (Nat → Prop) → Value → Value → Prop := VRel

theorem Sim.load {a : Addr} : Sim P ρ D V (Go.load a) (Go.load (ρ.addr a)) VR := by
  intro w hw v V1 hr hd
  simp only [Go.load, runV] at hr
  split at hr
  · rename_i v0 hv
    (try simp only [runV] at hr)
    cases hr
    obtain ⟨v', h1, h2⟩ := hw.cell hv
    exact ⟨ρ, v', w, by simp [Go.load, Sem.run, h1], .refl hw, by rw [grow_nil]; exact h2⟩
  · cases hr

theorem Sim.store {a : Addr} {v v' : Value} (hv : VRel ρ D v v') : Sim P ρ D V (Go.store a v) (Go.store (ρ.addr a) v') (fun _ _ _ _ => True) := by
  intro w hw u V1 hr hd
  simp only [Go.store, runV] at hr
  split at hr
  · rename_i c e lo hi hf
    split at hr
    · rename_i hok
      (try simp only [runV] at hr)
      cases hr
      simp only [okStore, Bool.and_eq_true, Bool.not_eq_true', Nat.blt_eq] at hok
      obtain ⟨⟨⟨h0, hs⟩, hlt⟩, h1⟩ := hok
      have h0 : hi = 0 := Nat.eq_of_beq_eq_true h0
      subst h0
      obtain ⟨ho, o', hw', hr'⟩ := hw.own a.block _ hf rfl
      cases hr' with
      | @cells _ c' _ hsz hes hle hvv =>
        have hsp : a.spot = none := by cases hq : a.spot <;> simp_all
        have hlt' : a.off < c'.size := by omega
        have hcell : w.cell? (ρ.addr a) = some c'[a.off] := by simp [Ren.addr, World.cell?, hw', hsp, ho, hlt']
        have hfr : w.frozen? (ρ.addr a) = false := by simp [Ren.addr, World.frozen?, hw']
        have hset : (w.setCell (ρ.addr a) v').heap = w.heap.setIfInBounds (ρ.b a.block) (.cells (c'.setIfInBounds a.off v') e (0, 0)) := by
          apply Array.ext_getElem?
          intro i
          simp only [World.setCell, Ren.addr, ho, Nat.zero_add, hsp, Array.getElem?_modify, Array.getElem?_setIfInBounds]
          split
          · rename_i hi
            subst hi
            obtain ⟨hlt2, hv2⟩ := Array.getElem?_eq_some_iff.1 hw'
            simp [hlt2, hv2]
          · rfl
        have hob : one v' = true := by
          cases hv with
          | junk h => cases v' <;> first | rfl | (simp [scalar] at h)
          | _ => simp_all [one]
        have hlt2 := (Array.getElem?_eq_some_iff.1 hw').1
        refine ⟨ρ, (), w.setCell (ρ.addr a) v', ?_, ?_, trivial⟩
        · have : v' ≠ .agg #[] := by rintro rfl; simp [one] at hob
          cases v' <;> first | (simp [one] at hob; done) | simp [Go.store, Sem.run, hcell, hfr]
        · have hst := Stepped.update (n := V.next) (w1 := w.setCell (ρ.addr a) v') (o := .cells (c.setIfInBounds a.off v) e (0, 0)) (o' := .cells (c'.setIfInBounds a.off v') e (0, 0)) hw hf rfl
            (.cells (by simpa using hsz) hes (by simpa using hle) (fun i x hx => by
              rw [Array.getElem?_setIfInBounds] at hx ⊢
              split at hx
              · rename_i hi
                subst hi
                (try rw [if_pos hlt] at hx)
                cases hx
                exact ⟨v', by simp [hlt'], hv⟩
              · rename_i hi
                rw [if_neg hi]; exact hvv i x hx)) rfl
            (by rw [hset]; simp) (by rw [hset]; simp [hlt2]) (fun k hk => by rw [hset]; simp [Ne.symm hk]) rfl rfl rfl
          refine (funext fun k => ?_ : (View.get ⟨V.next, put V.objs a.block (.cells (c.setIfInBounds a.off v) e (0, 0))⟩) = _) ▸ hst
          show find (put V.objs a.block _) k = _
          rw [find_put, hf]
          rfl
    · cases hr
  · cases hr

theorem Sim.newCells {c c' : Array Value} {e : TypeId} (hc : ARel ρ D c c') : Sim P ρ D V (newObj (.cells c e)) (newObj (.cells c' e)) (fun ρ1 D1 r r' => D1 r ∧ r' = ρ1.b r ∧ ρ1.o r = 0 ∧ ρ1.sz r = c'.size ∧ ρ1.es r = P.cellsOf e) := by
  intro w hw r V1 hr hd
  simp only [newObj, runV, okNew, Nat.beq_refl, Bool.and_self] at hr
  cases hr
  have hn : ¬ D V.next := hd _ (Nat.le_refl _) (Nat.lt_succ_self _)
  have hag : Agree ρ (ρ.put V.next w.heap.size c'.size (P.cellsOf e)) D := agree_put hn
  refine ⟨ρ.put V.next w.heap.size c'.size (P.cellsOf e), w.heap.size, { w with heap := w.heap.push (.cells c' e) }, by simp [newObj, Sem.run], ?_, ?_⟩
  · have := Stepped.alloc (n := V.next) (o := .cells c e) (o' := .cells c' e) (sz := c'.size) (es := P.cellsOf e) hw hn
      (.cells (by simp [Ren.put]) (by simp [Ren.put]) (by rw [hc.1]; exact Nat.le_refl _) (fun i v hi => by
        obtain ⟨v', h1, h2⟩ := hc.get hi
        exact ⟨v', h1, h2.ext hag (fun k hk => .inl hk)⟩)) rfl (fun _ _ _ h => by cases h; rfl)
    refine (funext fun k => ?_ : (View.get ⟨V.next + 1, (V.next, .cells c e) :: V.objs⟩) = _) ▸ this
    show find (_ :: _) k = _
    simp only [find]
    by_cases hk : k = V.next
    · subst hk; simp
    · rw [beq_ne (Ne.symm hk), if_neg hk]; rfl
  · exact ⟨.inr (by simp), by simp [Ren.put], by simp [Ren.put], by simp [Ren.put], by simp [Ren.put]⟩

theorem Sim.newObj {o o' : Obj} (hn : isRow o = false) (ho : ∀ ρ1 D1 k, Agree ρ ρ1 D → (∀ b, D b → D1 b) → ORel P ρ1 D1 k o o') : Sim P ρ D V (Go.newObj o) (Go.newObj o') (fun ρ1 D1 r r' => D1 r ∧ r' = ρ1.b r) := by
  intro w hw r V1 hr hd
  simp only [Go.newObj, runV] at hr
  split at hr
  · rename_i hnew
    cases hr
    have hnn : ¬ D V.next := hd _ (Nat.le_refl _) (Nat.lt_succ_self _)
    have hag : Agree ρ (ρ.put V.next w.heap.size 0 0) D := agree_put hnn
    refine ⟨ρ.put V.next w.heap.size 0 0, w.heap.size, { w with heap := w.heap.push o' }, by simp [Go.newObj, Sem.run], ?_, ?_⟩
    · have := Stepped.alloc (n := V.next) (o := o) (o' := o') (sz := 0) (es := 0) hw hnn (ho _ _ _ hag fun k hk => .inl hk) (owned_new hnew) (fun _ _ _ h => by subst h; simp [isRow] at hn)
      refine (funext fun k => ?_ : (View.get ⟨V.next + 1, (V.next, o) :: V.objs⟩) = _) ▸ this
      show find (_ :: _) k = _
      simp only [find]
      by_cases hk : k = V.next
      · subst hk; simp
      · rw [beq_ne (Ne.symm hk), if_neg hk]; rfl
    · exact ⟨.inr (by simp), by simp [Ren.put]⟩
  · cases hr

theorem Sim.getObj {r : Nat} : Sim P ρ D V (Go.getObj r) (Go.getObj (ρ.b r)) (fun ρ1 D1 o o' => isRow o = false ∧ ORel P ρ1 D1 r o o' ∧ find V.objs r = some o) := by
  intro w hw o V1 hr hd
  simp only [Go.getObj, runV] at hr
  split at hr
  · rename_i o0 hf
    split at hr
    · cases hr
    · rename_i hrow
      (try simp only [runV] at hr)
      cases hr
      simp only [Bool.or_eq_false_iff, Bool.not_eq_false'] at hrow
      have hro : isRow o = false := hrow.1
      obtain ⟨h1, o', h2, h3⟩ := hw.own r o hf hrow.2
      refine ⟨ρ, o', w, ?_, .refl hw, by rw [grow_nil]; exact ⟨hro, h3, hf⟩⟩
      cases h3 <;> simp [isRow] at hro <;> simp [Go.getObj, Sem.run, h2]
  · cases hr

theorem Sim.setObj {r : Nat} {o o' : Obj} (hn : isRow o = false) (ho : ORel P ρ D r o o') : Sim P ρ D V (Go.setObj r o) (Go.setObj (ρ.b r) o') (fun _ _ _ _ => True) := by
  intro w hw u V1 hr hd
  simp only [Go.setObj, runV] at hr
  split at hr
  · rename_i o0 hf
    split at hr
    · cases hr
    · rename_i hrow
      (try simp only [runV] at hr)
      cases hr
      simp only [Bool.or_eq_false_iff, Bool.not_eq_false'] at hrow
      have hrow0 : isRow o0 = false := hrow.1.1
      have hown : owned o0 = true := hrow.1.2
      obtain ⟨h1, x', h2, h3⟩ := hw.own r o0 hf hown
      have hlt := (Array.getElem?_eq_some_iff.1 h2).1
      refine ⟨ρ, (), { w with heap := w.heap.setIfInBounds (ρ.b r) o' }, ?_, ?_, trivial⟩
      · cases h3 <;> simp [isRow] at hrow0 <;> simp [Go.setObj, Sem.run, h2]
      · have := Stepped.update (n := V.next) (w1 := { w with heap := w.heap.setIfInBounds (ρ.b r) o' }) hw hf hown ho (owned_set hrow.2) (by simp) (by simp [hlt]) (fun k hk => by simp [Ne.symm hk]) rfl rfl rfl
        refine (funext fun k => ?_ : (View.get ⟨V.next, put V.objs r o⟩) = _) ▸ this
        show find (put V.objs r o) k = _
        rw [find_put, hf]
        rfl
  · cases hr
end
end Go.Vm
/- The instructions, one by one. -/
namespace Go.Vm
variable {P : Program} {ρ ρ1 ρ2 : Ren} {D D1 : Nat → Prop} {V : View} {α β γ δ : Type}
  {Φ : Ren → (Nat → Prop) → α → β → Prop} {Ψ : Ren → (Nat → Prop) → γ → δ → Prop}

/-- what is asked of a program's tables -/
structure Good (P : Program) : Prop where
  zero : ∀ t i z, P.info? t = some i → i.zero = some z → flatN 3 z = true
  zsize : ∀ t i z, P.info? t = some i → i.zero = some z → z.cells.size = i.size
  mixed : P.follows .mixedOrders = true

abbrev Eq2 (α : Type) : Ren → (Nat → Prop) → α → α → Prop := fun _ _ a b => a = b
abbrev Any2 (α β : Type) : Ren → (Nat → Prop) → α → β → Prop := fun _ _ _ _ => True

theorem Sim.map {f : α → γ} {f' : β → δ} {s : Sem α} {s' : Sem β} (h : Sim P ρ D V s s' Φ)
    (k : ∀ ρ1 D1 a a', Agree ρ ρ1 D → (∀ b, D b → D1 b) → Φ ρ1 D1 a a' → Ψ ρ1 D1 (f a) (f' a')) : Sim P ρ D V (do let a ← s; Pure.pure (f a)) (do let a ← s'; Pure.pure (f' a)) Ψ :=
  .bind h fun ρ1 D1 V1 a a' hag hD hφ => .pure (k _ _ _ _ hag hD hφ)

theorem Sim.stops {s : Sem α} {s' : Sem β} (h : ∀ V, runV P s V = none) : Sim P ρ D V s s' Φ := by
  intro w hw a V1 hr hd; rw [h] at hr; cases hr
theorem Sim.underlying {t : TypeId} : Sim P ρ D V (Go.underlying t) (Go.underlying t) (fun _ _ a b => a = b ∧ P.underlying t = some a) := by
  unfold Go.underlying
  refine .program ?_
  cases h : P.underlying t with
  | none => exact .stuck
  | some d => exact .pure ⟨rfl, rfl⟩
theorem Sim.typeInfo {t : TypeId} : Sim P ρ D V (Go.typeInfo t) (Go.typeInfo t) (fun _ _ a b => a = b ∧ P.info? t = some a) := by
  unfold Go.typeInfo
  refine .program ?_
  cases h : P.info? t with
  | none => exact .stuck
  | some d => exact .pure ⟨rfl, rfl⟩
theorem Sim.sizeOf {t : TypeId} : Sim P ρ D V (Go.sizeOf t) (Go.sizeOf t) (fun _ _ a b => a = b ∧ P.cellsOf t = a) := by
  unfold Go.sizeOf
  refine .map .typeInfo ?_
  rintro ρ1 D1 a _ _ _ ⟨rfl, h⟩
  exact ⟨rfl, by simp [Program.cellsOf, h]⟩
theorem Sim.zeroValue (hP : Good P) {t : TypeId} : Sim P ρ D V (Go.zeroValue t) (Go.zeroValue t) (fun _ _ a b => a = b ∧ flatN 3 a = true) := by
  unfold Go.zeroValue
  refine .bind .typeInfo ?_
  rintro ρ1 D1 V1 a _ _ _ ⟨rfl, h⟩
  (try dsimp only)
  cases hz : a.zero with
  | none => exact .unsupported
  | some z => exact .pure ⟨rfl, hP.zero _ _ _ h hz⟩
theorem Sim.isAgg {t : TypeId} : Sim P ρ D V (Go.isAgg t) (Go.isAgg t) (Eq2 Bool) := by
  unfold Go.isAgg
  refine .bind .underlying ?_
  rintro ρ1 D1 V1 a _ _ _ ⟨rfl, h⟩
  (try dsimp only)
  cases a <;> exact .pure rfl

theorem Ren.addr_add (a : Addr) (k : Nat) : (ρ.addr a).add k = ρ.addr (a.add k) := by
  unfold Addr.add Ren.addr
  split
  · rfl
  · simp [Nat.add_assoc]
theorem add_block (a : Addr) (k : Nat) : (a.add k).block = a.block := by unfold Addr.add; split <;> rfl

theorem Sim.loadCellsFrom (n : Nat) : ∀ {ρ : Ren} {D : Nat → Prop} {V : View} {a : Addr} (i : Nat) {acc acc' : Array Value}, D a.block → ARel ρ D acc acc' →
    Sim P ρ D V (Go.loadCellsFrom a i n acc) (Go.loadCellsFrom (ρ.addr a) i n acc') ARel := by
  induction n with
  | zero => intro ρ D V a i acc acc' _ h; exact .pure h
  | succ n ih =>
    intro ρ D V a i acc acc' ha h
    unfold Go.loadCellsFrom
    rw [Ren.addr_add]
    refine .bind .load ?_
    intro ρ1 D1 V1 v v' hag hD hv
    rw [← hag.addr ha]
    exact ih _ (hD _ ha) ((h.ext hag hD).push hv)
theorem Sim.loadCells {a : Addr} (n : Nat) (ha : D a.block) : Sim P ρ D V (Go.loadCells a n) (Go.loadCells (ρ.addr a) n) ARel := Sim.loadCellsFrom n 0 ha .nil
theorem Sim.loadVar {t : TypeId} {a : Addr} (ha : D a.block) : Sim P ρ D V (Go.loadVar t a) (Go.loadVar t (ρ.addr a)) VR := by
  unfold Go.loadVar
  refine .bind .isAgg ?_
  rintro ρ1 D1 V1 b' _ hag hD rfl
  rw [← hag.addr ha]
  have ha := hD _ ha
  cases b' with
  | false => exact .load
  | true =>
    simp only [if_true]
    refine .bind .sizeOf ?_
    rintro ρ2 D2 V2 n _ hag2 hD2 ⟨rfl, _⟩
    rw [← hag2.addr ha]
    refine .map (.loadCells n (hD2 _ ha)) ?_
    rintro _ _ _ _ _ _ h
    exact .agg h.1 h.2
theorem Sim.storeCells {vs vs' : List Value} : ∀ {ρ : Ren} {D : Nat → Prop} {V : View} {a : Addr} (i : Nat), D a.block → LRel (VRel ρ D) vs vs' →
    Sim P ρ D V (Go.storeCells a vs i) (Go.storeCells (ρ.addr a) vs' i) (Any2 Unit Unit) := by
  induction vs generalizing vs' with
  | nil => intro ρ D V a i _ h; cases h; exact .pure trivial
  | cons v vs ih =>
    intro ρ D V a i ha h
    cases h with
    | cons hv ht =>
      unfold Go.storeCells
      rw [Ren.addr_add]
      refine .bind (.store hv) ?_
      intro ρ1 D1 V1 _ _ hag hD _
      rw [← hag.addr ha]
      exact ih _ (hD _ ha) (ht.mono fun _ _ r => r.ext hag hD)
theorem VRel.cells {v v' : Value} (h : VRel ρ D v v') : ARel ρ D v.cells v'.cells := by
  cases h with
  | agg h1 h2 => exact ⟨h1, h2⟩
  | flat hf => cases v <;> first | exact ARel.one (.flat hf) | simp [Vm.flat] at hf
  | ptr h => exact ARel.one (.ptr h)
  | slice h hc => exact ARel.one (.slice h hc)
  | grown h hl hs => exact ARel.one (.grown h hl hs)
  | map h => exact ARel.one (.map h)
  | func a b c d e => exact ARel.one (.func a b c d e)
  | tuple a b => exact ARel.one (.tuple a b)
  | iface a => exact ARel.one (.iface a)
  | junk h =>
    have e : v'.cells = #[v'] := by cases v' <;> first | rfl | (simp [scalar] at h)
    rw [e]
    exact ARel.one (.junk h)
theorem Sim.storeVar {t : TypeId} {a : Addr} {v v' : Value} (ha : D a.block) (hv : VRel ρ D v v') : Sim P ρ D V (Go.storeVar t a v) (Go.storeVar t (ρ.addr a) v') (Any2 Unit Unit) := by
  unfold Go.storeVar
  refine .bind .sizeOf ?_
  rintro ρ1 D1 V1 n _ hag hD ⟨rfl, _⟩
  have hc := (hv.ext hag hD).cells
  rw [← hc.1, ← hag.addr ha]
  split
  · exact .stops fun V => by rw [runV_bind]; rfl
  · exact .storeCells 0 (hD _ ha) hc.list
theorem Sim.newRow {c c' : Array Value} {e : TypeId} (hc : ARel ρ D c c') : Sim P ρ D V (Go.newRow e c) (Go.newRow e c')
    (fun ρ1 D1 a a' => D1 a.block ∧ a' = ρ1.addr a ∧ a.off = 0 ∧ a.spot = none ∧ ρ1.sz a.block = c'.size ∧ ρ1.es a.block = P.cellsOf e) := by
  unfold Go.newRow
  refine .map (.newCells hc) ?_
  rintro ρ1 D1 r r' hag hD ⟨h1, rfl, h3, h4, h5⟩
  exact ⟨h1, by simp [Ren.addr, h3], rfl, rfl, h4, h5⟩
theorem Sim.newVar {t : TypeId} {v v' : Value} (hv : VRel ρ D v v') : Sim P ρ D V (Go.newVar t v) (Go.newVar t v') (fun ρ1 D1 a a' => D1 a.block ∧ a' = ρ1.addr a) := by
  unfold Go.newVar
  exact (Sim.newRow hv.cells).mono fun _ _ _ _ _ _ h => ⟨h.1, h.2.1⟩

theorem Sim.sureAddr {v v' : Value} (hv : VRel ρ D v v') : Sim P ρ D V (Instr.sureAddr v) (Instr.sureAddr v') (fun ρ1 D1 a a' => D1 a.block ∧ a' = ρ1.addr a) := by
  cases hv with
  | ptr h => exact .pure ⟨h, rfl⟩
  | flat hf =>
    cases v <;> first | exact .stuck | skip
    rename_i a; cases a <;> first | exact .stuck | simp [Vm.flat] at hf
  | _ => exact .stuck
theorem Sim.asAddr {v v' : Value} (hv : VRel ρ D v v') : Sim P ρ D V (Go.asAddr v) (Go.asAddr v') (fun ρ1 D1 a a' => D1 a.block ∧ a' = ρ1.addr a) := by
  cases hv with
  | ptr h => exact .pure ⟨h, rfl⟩
  | flat hf =>
    cases v <;> first | exact .stuck | skip
    rename_i a; cases a <;> first | exact Sim.panic (e := .nilDeref) | simp [Vm.flat] at hf
  | _ => exact .stuck
theorem Sim.asIntOf {v v' : Value} (hv : VRel ρ D v v') : Sim P ρ D V (Go.asIntOf v) (Go.asIntOf v') (fun _ _ a b => a = b ∧ v = .int a.1 a.2) := by
  cases hv with
  | flat hf =>
    cases v <;> first | exact .stuck | skip
    · exact .pure ⟨rfl, rfl⟩
    · rename_i a; cases a <;> first | exact .stuck | simp [Vm.flat] at hf
  | ptr => exact .unsupported
  | _ => exact .stuck
theorem Sim.asInt {v v' : Value} (hv : VRel ρ D v v') : Sim P ρ D V (Go.asInt v) (Go.asInt v') (Eq2 Int) := by
  unfold Go.asInt
  refine .map (.asIntOf hv) ?_
  rintro _ _ _ _ _ _ ⟨rfl, _⟩; rfl
theorem Sim.bounds {k : IntKind} {x y : Int} {c : BoundsCode} {s' : Sem β} : Sim P ρ D V (Go.boundsPanic k x y c : Sem α) s' Φ := by
  intro w hw a V1 hr hd
  exfalso
  unfold boundsPanic at hr
  dsimp only at hr
  have : ∀ (q : Sem Bool) V, runV P (q >>= fun signed => (Go.runtimePanic (.bounds (IntKind.i64.wrap x) y signed c) : Sem α)) V = none := fun q V => runV_none (fun _ V => runV_panic _ V) V
  split at hr
  · rw [this] at hr; cases hr
  · rw [this] at hr; cases hr

/-- an operation that touches no memory, computed without any -/
def pureRun {α : Type} (P : Program) (s : Sem α) : Option α := match runV P s ⟨0, []⟩ with
  | some (a, ⟨0, _⟩) => some a
  | _ => none
theorem pure_run {α : Type} (s : Sem α) : ∀ (n : Nat) (a : α) (V1 : View), runV P s ⟨n, []⟩ = some (a, V1) → V1.next = n → V1 = ⟨n, []⟩ ∧ ∀ w, s.run P w = .ok a w := by
  induction s with
  | pure b => intro n a V1 h hn; simp only [runV] at h; cases h; exact ⟨rfl, fun w => rfl⟩
  | load m b k ih => intro n a V1 h hn; simp [runV, Vm.cell, find] at h
  | store m b v k ih => intro n a V1 h hn; simp [runV, find] at h
  | new o k ih =>
    intro n a V1 h hn; simp only [runV] at h
    split at h
    · have := runV_next _ _ _ _ h; simp at this; omega
    · cases h
  | getObj r k ih => intro n a V1 h hn; simp [runV, find] at h
  | setObj r o k ih => intro n a V1 h hn; simp [runV, find] at h
  | choose q k ih =>
    intro n a V1 h hn; simp only [runV] at h
    split at h
    · rename_i hq
      obtain ⟨h1, h2⟩ := ih _ _ _ _ h hn
      exact ⟨h1, fun w => by simp [Sem.run, hq, h2]⟩
    · cases h
  | program k ih =>
    intro n a V1 h hn; simp only [runV] at h
    obtain ⟨h1, h2⟩ := ih _ _ _ _ h hn
    exact ⟨h1, fun w => by simp [Sem.run, h2]⟩
  | mark m k ih =>
    intro n a V1 h hn; simp only [runV] at h
    obtain ⟨h1, h2⟩ := ih _ _ _ h hn
    exact ⟨h1, fun w => by simp [Sem.run, h2]⟩
  | _ => intro n a V1 h hn; simp only [runV] at h; cases h
theorem pureRun_run {α : Type} {s : Sem α} {a : α} (h : pureRun P s = some a) (w : World) : s.run P w = .ok a w := by
  unfold pureRun at h
  split at h
  · rename_i b r hb
    cases h
    exact (pure_run s 0 _ _ hb rfl).2 w
  · cases h
end Go.Vm
/- The instructions that make addresses and parts. -/
namespace Go.Vm
variable {P : Program} {ρ ρ1 ρ2 : Ren} {D D1 : Nat → Prop} {V : View} {α β γ δ : Type}
  {Φ : Ren → (Nat → Prop) → α → β → Prop} {Ψ : Ren → (Nat → Prop) → γ → δ → Prop}

theorem runV_shape {α : Type} (r : Nat) (f : Option (TypeId × Nat) → Sem α) (V : View) : runV P (Go.shape r >>= f) V = none := by rw [runV_bind]; rfl
theorem runV_program {α : Type} (f : Program → Sem α) (V : View) : runV P (Go.program >>= f) V = runV P (f P) V := by rw [runV_bind]; rfl
theorem runV_stuck {α β : Type} (why : String) (f : α → Sem β) (V : View) : runV P (Go.stuck why >>= f) V = none := by rw [runV_bind]; rfl
theorem runV_halt {α β : Type} (h : Halt) (f : α → Sem β) (V : View) : runV P ((Sem.halt h : Sem α) >>= f) V = none := by rw [runV_bind]; rfl
theorem runV_noView (a : Addr) (V : View) : runV P (Go.noView a) V = none := by
  unfold noView viewAt
  rw [runV_bind, runV_shape]; rfl
theorem runV_byteOf (a : Addr) (ha : a.spot = none) (V : View) : runV P (Go.byteOf a) V = none := by
  unfold byteOf
  rw [ha]
  dsimp only
  rw [runV_program, runV_bind, runV_noView]; rfl
theorem runV_partAt (a : Addr) (c b : Nat) (V : View) : runV P (Go.partAt a c b) V = none := by
  unfold partAt
  refine runV_none (fun x V => ?_) V
  dsimp only
  rw [runV_bind, runV_byteOf _ rfl]; rfl

theorem Sim.fieldPlace {a : Addr} {f : Field} (ha : D a.block) : Sim P ρ D V (Go.fieldPlace a f) (Go.fieldPlace (ρ.addr a) f) (fun ρ1 D1 a a' => D1 a.block ∧ a' = ρ1.addr a) := by
  unfold Go.fieldPlace
  refine .bind .sizeOf ?_
  rintro ρ1 D1 V1 n _ hag hD ⟨rfl, -⟩
  split
  · exact .stops fun V => runV_partAt _ _ _ V
  · refine .pure ⟨by rw [add_block]; exact hD _ ha, ?_⟩
    rw [← Ren.addr_add, hag.addr ha]
theorem Sim.fieldAt {s : TypeId} {v v' : Value} {k : Nat} (hv : VRel ρ D v v') : Sim P ρ D V (Instr.fieldAt s v k) (Instr.fieldAt s v' k) VR := by
  unfold Instr.fieldAt
  refine .bind .underlying ?_
  rintro ρ1 D1 V1 d _ hag hD ⟨rfl, -⟩
  have hv := hv.ext hag hD
  cases d <;> try exact .stuck
  rename_i fields
  (try dsimp only)
  cases hf : fields[k]? with
  | none => exact .stuck
  | some f =>
    refine .bind (.sureAddr hv) ?_
    rintro ρ2 D2 V2 a _ hag2 hD2 ⟨ha, rfl⟩
    refine .map (.fieldPlace ha) ?_
    rintro ρ3 D3 a' _ _ _ ⟨h1, rfl⟩
    exact .ptr h1

theorem VRel.sliceInv {x : Option Addr} {n c : Nat} {v' : Value} (h : VRel ρ D (.slice x n c) v') : (x = none ∧ v' = .slice none n c) ∨
    ∃ a c', x = some a ∧ D a.block ∧ v' = .slice (some (ρ.addr a)) n c' ∧ ((c' = c ∧ c < big) ∨ (c = big ∧ n ≤ c' ∧ a.off + c' * ρ.es a.block ≤ ρ.sz a.block)) := by
  cases h with
  | flat hf => cases x <;> first | exact .inl ⟨rfl, rfl⟩ | simp [Vm.flat] at hf
  | slice ha hc => exact .inr ⟨_, _, rfl, ha, rfl, .inl ⟨rfl, hc⟩⟩
  | grown ha hl hs => exact .inr ⟨_, _, rfl, ha, rfl, .inr ⟨rfl, hl, hs⟩⟩
theorem VRel.strInv {x : ByteArray} {v' : Value} (h : VRel ρ D (.string x) v') : v' = .string x := h.flatEq rfl
theorem VRel.aggInv {x : Array Value} {v' : Value} (h : VRel ρ D (.agg x) v') : ∃ y, v' = .agg y ∧ ARel ρ D x y := by
  cases h with
  | flat hf => simp [Vm.flat] at hf
  | agg h1 h2 => exact ⟨_, rfl, h1, h2⟩
theorem VRel.tupleInv {x : Array Value} {v' : Value} (h : VRel ρ D (.tuple x) v') : ∃ y, v' = .tuple y ∧ ARel ρ D x y := by
  cases h with
  | flat hf => simp [Vm.flat] at hf
  | tuple h1 h2 => exact ⟨_, rfl, h1, h2⟩
theorem idx_end {el : TypeId} {k : IntKind} {n : Int} {len : Nat} {b b' : Option Addr} {q : Bool} (hb : (b = none ∧ b' = none) ∨ ∃ a, D a.block ∧ b = some a ∧ b' = some (ρ.addr a)) (hag : Agree ρ ρ1 D) (hD : ∀ k, D k → D1 k) :
    Sim P ρ1 D1 V (match b with
      | some a => if 0 ≤ n ∧ n < len then do pure (.pointer (some (a.add (n.toNat * (← Go.sizeOf el)))))
        else if q = true then Go.unsupported (.noEntry "op/indexAddr.an index out of range at an array of length 0 or 1 (ledger 616)") else boundsPanic k n len .index
      | none => boundsPanic k n 0 .index)
     (match b' with
      | some a => if 0 ≤ n ∧ n < len then do pure (.pointer (some (a.add (n.toNat * (← Go.sizeOf el)))))
        else if q = true then Go.unsupported (.noEntry "op/indexAddr.an index out of range at an array of length 0 or 1 (ledger 616)") else boundsPanic k n len .index
      | none => boundsPanic k n 0 .index) VR := by
  rcases hb with ⟨rfl, rfl⟩ | ⟨a, ha, rfl, rfl⟩
  · exact .bounds
  · (try dsimp only)
    split
    · rw [← hag.addr ha]
      have ha := hD _ ha
      refine .map .sizeOf ?_
      rintro ρ4 D4 z _ hag4 hD4 ⟨rfl, -⟩
      rw [← hag4.addr ha, Ren.addr_add]
      exact .ptr (by rw [add_block]; exact hD4 _ ha)
    · split
      · exact .unsupported
      · exact .bounds
theorem Sim.indexAt {t : TypeId} {v v' i i' : Value} (hv : VRel ρ D v v') (hi : VRel ρ D i i') : Sim P ρ D V (Instr.indexAt t v i) (Instr.indexAt t v' i') VR := by
  unfold Instr.indexAt
  refine .bind (.asIntOf hi) ?_
  rintro ρ1 D1 V1 ⟨k, n⟩ _ hag hD ⟨rfl, -⟩
  have hv := hv.ext hag hD
  clear hi hag hD
  (try dsimp only)
  refine .bind .underlying ?_
  rintro ρ2 D2 V2 d _ hag2 hD2 ⟨rfl, -⟩
  have hv := hv.ext hag2 hD2
  clear hag2 hD2
  cases d <;> try exact .stuck
  case slice =>
    cases v <;> try exact .stuck
    rcases hv.sliceInv with ⟨rfl, rfl⟩ | ⟨a, c', rfl, ha, rfl, _⟩
    · refine .bind (.pure (Φ := fun ρ1 D1 (x y : Option Addr × Nat × TypeId) => x.2 = y.2 ∧ ((x.1 = none ∧ y.1 = none) ∨ ∃ a, D1 a.block ∧ x.1 = some a ∧ y.1 = some (ρ1.addr a))) ⟨rfl, .inl ⟨rfl, rfl⟩⟩) ?_
      rintro ρ2 D2 V2 ⟨b, len, el⟩ ⟨b', len', el'⟩ hag2 hD2 ⟨he, hb⟩
      obtain ⟨rfl, rfl⟩ := Prod.mk.inj he
      refine .bind .underlying ?_
      rintro ρ3 D3 V3 d _ hag3 hD3 ⟨rfl, -⟩
      exact idx_end hb hag3 hD3

    · refine .bind (.pure (Φ := fun ρ1 D1 (x y : Option Addr × Nat × TypeId) => x.2 = y.2 ∧ ((x.1 = none ∧ y.1 = none) ∨ ∃ a, D1 a.block ∧ x.1 = some a ∧ y.1 = some (ρ1.addr a))) ⟨rfl, .inr ⟨a, ha, rfl, rfl⟩⟩) ?_
      rintro ρ2 D2 V2 ⟨b, len, el⟩ ⟨b', len', el'⟩ hag2 hD2 ⟨he, hb⟩
      obtain ⟨rfl, rfl⟩ := Prod.mk.inj he
      refine .bind .underlying ?_
      rintro ρ3 D3 V3 d _ hag3 hD3 ⟨rfl, -⟩
      exact idx_end hb hag3 hD3

  case array =>
    refine .bind (.sureAddr hv) ?_
    rintro ρ3 D3 V3 a _ hag3 hD3 ⟨ha, rfl⟩
    clear hv hag3 hD3
    · refine .bind (.pure (Φ := fun ρ1 D1 (x y : Option Addr × Nat × TypeId) => x.2 = y.2 ∧ ((x.1 = none ∧ y.1 = none) ∨ ∃ a, D1 a.block ∧ x.1 = some a ∧ y.1 = some (ρ1.addr a))) ⟨rfl, .inr ⟨a, ha, rfl, rfl⟩⟩) ?_
      rintro ρ2 D2 V2 ⟨b, len, el⟩ ⟨b', len', el'⟩ hag2 hD2 ⟨he, hb⟩
      obtain ⟨rfl, rfl⟩ := Prod.mk.inj he
      refine .bind .underlying ?_
      rintro ρ3 D3 V3 d _ hag3 hD3 ⟨rfl, -⟩
      exact idx_end hb hag3 hD3


abbrev VRc : Ren → (Nat → Prop) → Value → Value → Prop := fun ρ D v v' => (match v with | .slice (some _) _ c => Nat.blt c big | _ => true) = true → VRel ρ D v v'

theorem Sim.sliceBound {v : Value} {y : Nat} {c : BoundsCode} : Sim P ρ D V (Instr.sliceBound v y c) (Instr.sliceBound v y c) (Eq2 Nat) := by
  unfold Instr.sliceBound
  refine .bind (Φ := Eq2 (IntKind × Int)) ?_ ?_
  · unfold Go.asIntOf
    split
    · exact .pure rfl
    · exact .unsupported
    · exact .stuck
  · rintro ρ1 D1 V1 ⟨k, n⟩ _ hag hD rfl
    (try dsimp only)
    split
    · exact .pure rfl
    · exact .bounds
theorem Sim.sliceBounds {b : Bool} {len cap : Nat} {l h m : Option Value} :
    Sim P ρ D V (Instr.sliceBounds b len cap l h m) (Instr.sliceBounds b len cap l h m) (Eq2 (Nat × Nat × Nat)) := by
  unfold Instr.sliceBounds
  cases m <;> cases h <;> cases l <;> (try dsimp only)
  all_goals
    repeat' first
      | exact .pure rfl
      | exact .stops fun V => runV_stuck _ _ V
      | exact .stuck
      | (refine .bind (Φ := Eq2 Nat) .sliceBound ?_; rintro _ _ _ _ _ _ _ rfl; (try dsimp only))
      | (refine .bind (Φ := Eq2 Nat) (.pure rfl) ?_; rintro _ _ _ _ _ _ _ rfl; (try dsimp only))
theorem Sim.slice {t : TypeId} {v v' : Value} {l h m : Option Value} (hv : VRel ρ D v v') (hne : ∀ a n, v ≠ .slice (some a) n big) :
    Sim P ρ D V (Instr.slice t v l h m) (Instr.slice t v' l h m) VRc := by
  unfold Instr.slice
  refine .bind .underlying ?_
  rintro ρ1 D1 V1 d _ hag hD ⟨rfl, -⟩
  have hv := hv.ext hag hD
  clear hag hD
  cases d <;> try exact .stuck
  case string =>
    cases v <;> try exact .stuck
    obtain rfl := hv.strInv
    (try dsimp only)
    split
    · exact .stops fun V => runV_stuck _ _ V
    · refine .map .sliceBounds ?_
      rintro _ _ ⟨x, y, z⟩ _ _ _ rfl _
      exact .flat rfl
  case pointer =>
    refine .bind (.asAddr hv) ?_
    rintro ρ2 D2 V2 a _ hag2 hD2 ⟨ha, rfl⟩
    refine .bind .underlying ?_
    rintro ρ3 D3 V3 d _ hag3 hD3 ⟨rfl, -⟩
    rw [← hag3.addr ha]
    have ha := hD3 _ ha
    cases d <;> try exact .stuck
    (try dsimp only)
    refine .bind .sliceBounds ?_
    rintro ρ2 D2 V2 ⟨x, y, z⟩ _ hag2 hD2 rfl
    rw [← hag2.addr ha]
    have ha := hD2 _ ha
    refine .map .sizeOf ?_
    rintro ρ3 D3 s _ hag3 hD3 ⟨rfl, -⟩ hcap
    rw [← hag3.addr ha]
    have ha := hD3 _ ha
    (try dsimp only at hcap ⊢)
    split
    · exact .slice ha (by rename_i e; simpa [e] using hcap)
    · rename_i e
      rw [Ren.addr_add]
      exact .slice (by rw [add_block]; exact ha) (by simpa [e] using hcap)
  case slice =>
    cases v <;> try exact .stuck
    rcases hv.sliceInv with ⟨rfl, rfl⟩ | ⟨a, c', rfl, ha, rfl, ⟨rfl, hc⟩ | ⟨rfl, _⟩⟩
    · refine .bind .sliceBounds ?_
      rintro ρ2 D2 V2 ⟨x, y, z⟩ _ hag2 hD2 rfl
      refine .map .sizeOf ?_
      rintro ρ3 D3 s _ hag3 hD3 ⟨rfl, -⟩ _
      (try dsimp only)
      split <;> exact .flat rfl
    · refine .bind .sliceBounds ?_
      rintro ρ2 D2 V2 ⟨x, y, z⟩ _ hag2 hD2 rfl
      rw [← hag2.addr ha]
      have ha := hD2 _ ha
      refine .map .sizeOf ?_
      rintro ρ3 D3 s _ hag3 hD3 ⟨rfl, -⟩ hcap
      rw [← hag3.addr ha]
      have ha := hD3 _ ha
      (try dsimp only at hcap ⊢)
      split
      · exact .slice ha (by rename_i e; simpa [e] using hcap)
      · rename_i e
        simp only [Option.map_some, Ren.addr_add]
        exact .slice (by rw [add_block]; exact ha) (by simpa [e] using hcap)
    · exact absurd rfl (hne _ _)
theorem Sim.sliceAt {t : TypeId} {v v' : Value} {l h m : Option Value} (hv : VRel ρ D v v') (hne : ∀ a n, v ≠ .slice (some a) n big) :
    Sim P ρ D V (Instr.sliceAt t v l h m) (Instr.sliceAt t v' l h m) VRc := by
  unfold Instr.sliceAt
  refine .bind .underlying ?_
  rintro ρ1 D1 V1 d _ hag hD ⟨rfl, -⟩
  have hv := hv.ext hag hD
  cases d <;> try exact .slice hv hne
  (try dsimp only)
  refine .bind (.sureAddr hv) ?_
  rintro ρ2 D2 V2 a _ hag2 hD2 ⟨ha, rfl⟩
  refine .bind .sliceBounds ?_
  rintro ρ3 D3 V3 ⟨x, y, z⟩ _ hag3 hD3 rfl
  rw [← hag3.addr ha]
  have ha := hD3 _ ha
  refine .map .sizeOf ?_
  rintro ρ4 D4 s _ hag4 hD4 ⟨rfl, -⟩ hcap
  rw [← hag4.addr ha]
  have ha := hD4 _ ha
  dsimp only at hcap ⊢
  split
  · exact .slice ha (by rename_i e; simpa [e] using hcap)
  · rename_i e
    rw [Ren.addr_add]
    exact .slice (by rw [add_block]; exact ha) (by simpa [e] using hcap)

theorem Sim.part {t : TypeId} {cs cs' : Array Value} {off : Nat} (hc : ARel ρ D cs cs') : Sim P ρ D V (Go.part t cs off) (Go.part t cs' off) VR := by
  unfold Go.part
  refine .bind .isAgg ?_
  rintro ρ1 D1 V1 b _ hag hD rfl
  have hc := hc.ext hag hD
  split
  · refine .map .sizeOf ?_
    rintro ρ2 D2 n _ hag2 hD2 ⟨rfl, -⟩
    have := (hc.ext hag2 hD2).extract off (off + n)
    exact .agg this.1 this.2
  · cases h : cs[off]? with
    | none => exact .stuck
    | some v =>
      obtain ⟨v', h1, h2⟩ := hc.get h
      rw [h1]
      exact .pure h2
theorem Sim.asAgg {v v' : Value} (hv : VRel ρ D v v') : Sim P ρ D V (Go.asAgg v) (Go.asAgg v') ARel := by
  cases v <;> try exact .stuck
  obtain ⟨y, rfl, hy⟩ := hv.aggInv
  exact .pure hy
theorem Sim.field {t : TypeId} {v v' : Value} {k : Nat} (hv : VRel ρ D v v') : Sim P ρ D V (Instr.field t v k) (Instr.field t v' k) VR := by
  unfold Instr.field
  refine .bind .underlying ?_
  rintro ρ1 D1 V1 d _ hag hD ⟨rfl, -⟩
  have hv := hv.ext hag hD
  cases d <;> try exact .stuck
  rename_i fields
  (try dsimp only)
  cases hf : fields[k]? with
  | none => exact .stuck
  | some f =>
    refine .bind (.asAgg hv) ?_
    intro ρ2 D2 V2 cs cs' _ _ hcs
    exact .part hcs
theorem Sim.index {t : TypeId} {v v' i i' : Value} (hv : VRel ρ D v v') (hi : VRel ρ D i i') : Sim P ρ D V (Instr.index t v i) (Instr.index t v' i') VR := by
  unfold Instr.index
  refine .bind (.asIntOf hi) ?_
  rintro ρ1 D1 V1 ⟨k, n⟩ _ hag hD ⟨rfl, -⟩
  have hv := hv.ext hag hD
  (try dsimp only)
  refine .bind .underlying ?_
  rintro ρ2 D2 V2 d _ hag2 hD2 ⟨rfl, -⟩
  have hv := hv.ext hag2 hD2
  cases d <;> try exact .stuck
  case string =>
    cases v <;> try exact .stuck
    obtain rfl := hv.strInv
    (try dsimp only)
    split
    · exact .pure (.flat rfl)
    · exact .bounds
  case array =>
    cases v <;> try exact .stuck
    obtain ⟨y, rfl, hy⟩ := hv.aggInv
    (try dsimp only)
    split
    · refine .bind .sizeOf ?_
      rintro ρ3 D3 V3 z _ hag3 hD3 ⟨rfl, -⟩
      exact .part (hy.ext hag3 hD3)
    · exact .bounds
theorem Sim.extract {v v' : Value} {k : Nat} (hv : VRel ρ D v v') : Sim P ρ D V (Instr.extract v k) (Instr.extract v' k) VR := by
  unfold Instr.extract
  cases v <;> try exact .stuck
  obtain ⟨y, rfl, hy⟩ := hv.tupleInv
  rename_i xs
  (try dsimp only)
  cases h : xs[k]? with
  | none => exact .stuck
  | some v =>
    obtain ⟨v', h3, h4⟩ := hy.get h
    rw [h3]; exact .pure h4
end Go.Vm
/- The instructions that make memory. -/
namespace Go.Vm
variable {P : Program} {ρ ρ1 ρ2 : Ren} {D D1 : Nat → Prop} {V : View} {α β γ δ : Type}
  {Φ : Ren → (Nat → Prop) → α → β → Prop} {Ψ : Ren → (Nat → Prop) → γ → δ → Prop}

theorem Sim.box {t : TypeId} {v v' : Value} (hv : VRel ρ D v v') : Sim P ρ D V (Instr.box t v) (Instr.box t v') VR := by
  unfold Instr.box
  refine .map (.newVar hv) ?_
  rintro ρ1 D1 a _ _ _ ⟨h1, rfl⟩
  exact .ptr h1
theorem Sim.alloc (hP : Good P) {t : TypeId} : Sim P ρ D V (Instr.alloc t true (.tuple #[])) (Instr.alloc t true (.tuple #[])) VR := by
  unfold Instr.alloc
  refine .bind (.zeroValue hP) ?_
  rintro ρ1 D1 V1 z _ hag hD ⟨rfl, hz⟩
  (try dsimp only)
  refine .map (.newVar (VRel.of_flatN 3 z hz)) ?_
  rintro ρ2 D2 a _ _ _ ⟨h1, rfl⟩
  exact .ptr h1

def PRel (ρ : Ren) (D : Nat → Prop) (x y : Nat × Value) : Prop := x.1 = y.1 ∧ VRel ρ D x.2 y.2
theorem PRel.ext (hag : Agree ρ ρ1 D) (hD : ∀ b, D b → D1 b) {x y} (h : PRel ρ D x y) : PRel ρ1 D1 x y := ⟨h.1, h.2.ext hag hD⟩

theorem ARel.setAll {xs ys : List (Value × Nat)} (h : LRel (fun x y => x.2 = y.2 ∧ VRel ρ D x.1 y.1) xs ys) (off : Nat) : ∀ {cs cs' : Array Value}, ARel ρ D cs cs' →
    ARel ρ D (xs.foldl (fun cs (p : Value × Nat) => cs.setIfInBounds (off + p.2) p.1) cs) (ys.foldl (fun cs (p : Value × Nat) => cs.setIfInBounds (off + p.2) p.1) cs') := by
  induction h with
  | nil => intro cs cs' h; exact h
  | cons hxy _ ih =>
    intro cs cs' h
    simp only [List.foldl_cons]
    rw [hxy.1]
    exact ih (h.set _ hxy.2)
theorem ARel.zipIdx {xs ys : Array Value} (h : ARel ρ D xs ys) : LRel (fun (x y : Value × Nat) => x.2 = y.2 ∧ VRel ρ D x.1 y.1) xs.zipIdx.toList ys.zipIdx.toList := by
  refine LRel.of_get (by simp [h.1]) fun i x y hx hy => ?_
  simp only [Array.toList_zipIdx, List.getElem?_zipIdx, Option.map_eq_some_iff] at hx hy
  obtain ⟨a, ha, rfl⟩ := hx
  obtain ⟨b, hb, rfl⟩ := hy
  exact ⟨rfl, h.2 i a b (by simpa using ha) (by simpa using hb)⟩
inductive OptRel {α β : Type} (R : α → β → Prop) : Option α → Option β → Prop
  | none : OptRel R none none
  | some {a b} (h : R a b) : OptRel R (some a) (some b)
theorem OptRel.elim {α β : Type} {R : α → β → Prop} {x : Option α} {y : Option β} (h : OptRel R x y) : (x = .none ∧ y = .none) ∨ ∃ a b, x = .some a ∧ y = .some b ∧ R a b := by
  cases h with
  | none => exact .inl ⟨rfl, rfl⟩
  | some h => exact .inr ⟨_, _, rfl, rfl, h⟩
theorem fill_rel (place : Nat → Option (Nat × Nat)) {ps qs : List (Nat × Value)} (h : LRel (PRel ρ D) ps qs) : ∀ {cs cs' : Array Value}, ARel ρ D cs cs' →
    OptRel (ARel ρ D) (Instr.fill place cs ps) (Instr.fill place cs' qs) := by
  induction h with
  | nil => intro cs cs' h; exact .some h
  | @cons x y xs ys hxy _ ih =>
    intro cs cs' h
    obtain ⟨i, v⟩ := x
    obtain ⟨j, v'⟩ := y
    obtain ⟨h0, hv⟩ := hxy
    obtain rfl : i = j := h0
    dsimp only at hv
    unfold Instr.fill
    cases place i with
    | none => exact .none
    | some p =>
      obtain ⟨off, size⟩ := p
      have hc := hv.cells
      dsimp only
      rw [hc.1, h.1]
      by_cases hq : (decide (v'.cells.size ≠ size) || decide (off + v'.cells.size > cs'.size)) = true
      · rw [if_pos hq, if_pos hq]; exact .none
      · rw [if_neg hq, if_neg hq]
        refine ih ?_
        rw [← Array.foldl_toList, ← Array.foldl_toList]
        exact ARel.setAll hc.zipIdx off h

theorem Sim.mapM {A : Type} {f : A → Sem α} (h : ∀ x {ρ : Ren} {D : Nat → Prop} {V : View}, Sim P ρ D V (f x) (f x) (Eq2 α)) : ∀ (l : List A) {ρ : Ren} {D : Nat → Prop} {V : View}, Sim P ρ D V (l.mapM f) (l.mapM f) (Eq2 (List α)) := by
  intro l
  induction l with
  | nil => intro ρ D V; exact .pure rfl
  | cons x l ih =>
    intro ρ D V
    rw [List.mapM_cons]
    refine .bind (h x) ?_
    rintro ρ1 D1 V1 a _ _ _ rfl
    refine .map ih ?_
    rintro ρ1 D1 a _ _ _ rfl
    rfl

/-- 'build', over lists -/
def buildL (t : TypeId) (parts : List (Nat × Value)) : Sem Value := do
  let zero := (← zeroValue t).cells
  match ← underlying t with
  | .struct fields =>
    let places ← fields.toList.mapM fun f => do pure (f.offset, ← sizeOf f.type)
    match Instr.fill (places[·]?) zero parts with
    | some cells => pure (.agg cells)
    | none => stuck ""
  | .array _ elem =>
    let size ← sizeOf elem
    match Instr.fill (fun i => some (i * size, size)) zero parts with
    | some cells => pure (.agg cells)
    | none => stuck ""
  | _ => stuck ""
theorem Sim.build (hP : Good P) {t : TypeId} {ps : List (Nat × Value)} {qs : Array (Nat × Value)} (h : LRel (PRel ρ D) ps qs.toList) : Sim P ρ D V (buildL t ps) (Instr.build t qs) VR := by
  unfold buildL Instr.build
  refine .bind (.zeroValue hP) ?_
  rintro ρ1 D1 V1 z _ hag hD ⟨rfl, hz⟩
  have h := h.mono fun _ _ r => r.ext hag hD
  (try dsimp only)
  refine .bind .underlying ?_
  rintro ρ2 D2 V2 d _ hag2 hD2 ⟨rfl, -⟩
  have h := h.mono fun _ _ r => r.ext hag2 hD2
  cases d <;> try exact .stuck
  case struct =>
    rename_i fields
    (try dsimp only)
    rw [Array.mapM_eq_mapM_toList]
    simp only [map_eq_pure_bind, bind_assoc, pure_bind]
    refine .bind (Sim.mapM (fun f _ _ _ => .map .sizeOf (fun _ _ a _ _ _ h => ?_)) _) ?_
    · obtain ⟨rfl, -⟩ := h; rfl
    · rintro ρ3 D3 V3 pl _ hag3 hD3 rfl
      have h := h.mono fun _ _ r => r.ext hag3 hD3
      have hf := fill_rel (fun i => pl[i]?) h ((VRel.of_flatN (ρ := ρ3) (D := D3) 3 z hz).cells)
      simp only [List.getElem?_toArray]
      rcases hf.elim with ⟨e1, e2⟩ | ⟨a, b, e1, e2, h⟩ <;> rw [e1, e2]
      · exact .stuck
      · exact .pure (.agg h.1 h.2)
  case array =>
    rename_i len elem
    (try dsimp only)
    refine .bind .sizeOf ?_
    rintro ρ3 D3 V3 size _ hag3 hD3 ⟨rfl, -⟩
    have h := h.mono fun _ _ r => r.ext hag3 hD3
    have hf := fill_rel (fun i => some (i * size, size)) h ((VRel.of_flatN (ρ := ρ3) (D := D3) 3 z hz).cells)
    rcases hf.elim with ⟨e1, e2⟩ | ⟨a, b, e1, e2, h⟩ <;> rw [e1, e2]
    · exact .stuck
    · exact .pure (.agg h.1 h.2)

def zerosL (zero : Array Value) (n : Nat) : Array Value := ((List.range n).map fun i => zero[i % zero.size]!).toArray
theorem zerosL_eq (zero : Array Value) (n : Nat) : (Array.range n).map (fun i => zero[i % zero.size]!) = zerosL zero n := by
  simp [zerosL, ← List.toArray_range]
theorem zerosL_rel {zero : Array Value} (h : ∀ (i : Nat) (v : Value), zero[i]? = some v → flatN 3 v = true) (n : Nat) : ARel ρ D (zerosL zero n) (zerosL zero n) := by
  refine ⟨rfl, fun i v v' h1 h2 => ?_⟩
  rw [h1] at h2; cases h2
  have : v ∈ (List.range n).map fun i => zero[i % zero.size]! := by
    have := Array.mem_of_getElem? h1
    simpa [zerosL] using this
  obtain ⟨j, _, rfl⟩ := List.mem_map.1 this
  refine VRel.of_flatN 3 _ ?_
  cases hz : zero[j % zero.size]? with
  | none => simp [Array.getElem!_eq_getD, Array.getD_eq_getD_getElem?, hz]; rfl
  | some v => simp [Array.getElem!_eq_getD, Array.getD_eq_getD_getElem?, hz]; exact h _ _ hz
theorem flatN_up : ∀ {n : Nat} {v : Value}, flatN n v = true → flatN (n + 1) v = true := by
  intro n
  induction n with
  | zero =>
    intro v h
    unfold flatN at h ⊢
    split <;> first | (simp [Vm.flat] at h; done) | exact h
  | succ n ih =>
    intro v h
    unfold flatN at h
    unfold flatN
    split at h
    · rename_i hq; cases hq
      simp only [List.all_eq_true] at h ⊢
      exact fun x hx => ih (h x hx)
    · rename_i hq; cases hq
      simp only [List.all_eq_true] at h ⊢
      exact fun x hx => ih (h x hx)
    · exact h
    · rename_i h1 h2 h3 h4
      split <;> first | exact h | (rename_i hq; cases hq; simp [Vm.flat] at h)
theorem flatN_cells {n : Nat} {v : Value} (h : flatN (n + 1) v = true) : ∀ (i : Nat) (x : Value), v.cells[i]? = some x → flatN (n + 1) x = true := by
  intro i x hx
  have one : ∀ u : Value, v.cells = #[u] → flatN (n + 1) u = true → flatN (n + 1) x = true := by
    intro u hu h2
    rw [hu] at hx
    have : x = u := by
      cases i with
      | zero => simpa using hx.symm
      | succ i => simp at hx
    rw [this]; exact h2
  cases v with
  | agg cs =>
    simp only [flatN, List.all_eq_true] at h
    have hm : x ∈ cs.toList := by
      have := Array.mem_of_getElem? (xs := cs) hx
      simpa using this
    have := h x hm
    exact flatN_up this
  | _ => exact one _ rfl h
/-- 'buildSlice', over lists -/
def buildSliceL (t : TypeId) (len : Nat) (parts : List (Nat × Value)) : Sem Value := do
  match ← underlying t with
  | .slice elem =>
    let size ← sizeOf elem
    if len * size > 2 ^ 24 then stuck "" else
    let zero ← if len * size = 0 then pure #[] else do pure (← zeroValue elem).cells
    match Instr.fill (fun i => some (i * size, size)) (zerosL zero (len * size)) parts with
    | some cells => pure (.slice (some (← newRow elem cells)) len len)
    | none => stuck ""
  | _ => stuck ""
theorem Sim.buildSlice (hP : Good P) {t : TypeId} {n : Nat} (hn : n < big) {ps : List (Nat × Value)} {qs : Array (Nat × Value)} (h : LRel (PRel ρ D) ps qs.toList) : Sim P ρ D V (buildSliceL t n ps) (Instr.buildSlice t n qs) VR := by
  unfold buildSliceL Instr.buildSlice
  refine .bind .underlying ?_
  rintro ρ2 D2 V2 d _ hag2 hD2 ⟨rfl, -⟩
  have h := h.mono fun _ _ r => r.ext hag2 hD2
  cases d <;> try exact .stuck
  rename_i elem
  refine .bind .sizeOf ?_
  rintro ρ3 D3 V3 size _ hag3 hD3 ⟨rfl, -⟩
  have h := h.mono fun _ _ r => r.ext hag3 hD3
  (try dsimp only)
  by_cases h1 : n * size > 2 ^ 24
  · rw [if_pos h1]; exact .stuck
  rw [if_neg h1, if_neg h1]
  by_cases h2 : n * size = 0
  · rw [if_pos h2, if_pos h2]
    refine .bind (.pure (Φ := fun _ _ a b => a = b ∧ a = #[]) ⟨rfl, rfl⟩) ?_
    rintro ρ4 D4 V4 z _ hag4 hD4 ⟨rfl, rfl⟩
    rw [zerosL_eq]
    rcases (fill_rel (fun i => some (i * size, size)) (h.mono fun _ _ r => r.ext hag4 hD4) (zerosL_rel (ρ := ρ4) (D := D4) (zero := #[]) (fun i v h => by simp at h) (n * size))).elim with ⟨e1, e2⟩ | ⟨a, b, e1, e2, h⟩ <;> rw [e1, e2]
    · exact .stuck
    · refine .map (.newRow h) ?_
      rintro ρ4 D4 a _ _ _ ⟨h1, rfl, _⟩
      exact .slice h1 hn
  · rw [if_neg h2, if_neg h2]
    refine .bind (.zeroValue hP) ?_
    rintro ρ4 D4 V4 z _ hag4 hD4 ⟨rfl, hz⟩
    refine .bind (.pure (Φ := fun _ _ a b => a = b ∧ a = z.cells) ⟨rfl, rfl⟩) ?_
    rintro ρ5 D5 V5 z' _ hag5 hD5 ⟨rfl, rfl⟩
    rw [zerosL_eq]
    rcases (fill_rel (fun i => some (i * size, size)) (h.mono fun _ _ r => (r.ext hag4 hD4).ext hag5 hD5) (zerosL_rel (ρ := ρ5) (D := D5) (flatN_cells hz) (n * size))).elim with ⟨e1, e2⟩ | ⟨a, b, e1, e2, h⟩ <;> rw [e1, e2]
    · exact .stuck
    · refine .map (.newRow h) ?_
      rintro ρ4 D4 a _ _ _ ⟨h1, rfl, _⟩
      exact .slice h1 hn

/-- 'makeSlice' of a size that is not great -/
def makeSliceL (t : TypeId) (n c : Nat) : Sem Value := do
  match ← underlying t with
  | .slice elem =>
    let info ← typeInfo elem
    if c ≤ 2 ^ 20 ∧ info.bytes ≤ 2 ^ 20 ∧ n ≤ c then
      let size ← sizeOf elem
      let zero ← if c * size = 0 then pure #[] else do pure (← zeroValue elem).cells
      let a ← newRow elem (zerosL zero (c * size))
      pure (.slice (some a) n c)
    else stuck ""
  | _ => stuck ""
theorem ms_end {n c size : Nat} {elem : TypeId} (hn : c < big) (zero : Array Value) (hz : ∀ (i : Nat) (v : Value), zero[i]? = some v → flatN 3 v = true) :
    Sim P ρ D V (do let a ← newRow elem (zerosL zero (c * size)); pure (Value.slice (some a) n c)) (do let a ← newRow elem ((Array.range (c * size)).map (zero[· % zero.size]!)); pure (Value.slice (some a) n c)) VR := by
  rw [zerosL_eq]
  refine .map (.newRow (zerosL_rel hz _)) ?_
  rintro ρ4 D4 a _ _ _ ⟨h1, rfl, _⟩
  exact .slice h1 hn
theorem wrap_small (c : Nat) (h : c ≤ 2 ^ 20) : IntKind.i64.wrap (c : Int) = c := by
  unfold IntKind.wrap
  simp [IntKind.bits, IntKind.signed]
  omega
theorem Sim.makeSlice (hP : Good P) {t : TypeId} {n c : Nat} {j k : IntKind} : Sim P ρ D V (makeSliceL t n c) (Instr.makeSlice t (.int j n) (.int k c)) VR := by
  unfold makeSliceL Instr.makeSlice
  refine .bind .underlying ?_
  rintro ρ2 D2 V2 d _ hag2 hD2 ⟨rfl, -⟩
  cases d <;> try exact .stuck
  rename_i elem
  have e1 : (Go.asInt (.int j n)) = Pure.pure (n : Int) := rfl
  have e2 : (Go.asInt (.int k c)) = Pure.pure (c : Int) := rfl
  (try dsimp only)
  rw [e1, e2, pure_bind, pure_bind]
  refine .bind .typeInfo ?_
  rintro ρ3 D3 V3 info _ hag3 hD3 ⟨rfl, -⟩
  (try dsimp only)
  split
  · rename_i hc
    obtain ⟨hc1, hc2, hc3⟩ := hc
    rw [wrap_small c hc1, wrap_small n (by omega)]
    have hb : ((info.bytes : Int) * c) ≤ 2 ^ 40 := by
      have : info.bytes * c ≤ 2 ^ 20 * 2 ^ 20 := Nat.mul_le_mul hc2 hc1
      have h2 : ((info.bytes * c : Nat) : Int) ≤ ((2 ^ 20 * 2 ^ 20 : Nat) : Int) := Int.ofNat_le.2 this
      simpa using h2
    have hq : ¬ (((decide ((c : Int) < 0) || decide ((info.bytes : Int) * c > 2 ^ 48)) || decide ((n : Int) < 0) || decide ((n : Int) > c)) = true) := by
      simp; omega
    rw [if_neg hq]
    simp only [Int.toNat_natCast]
    have ha : ∀ {α : Type} (k : Unit → Sem α), (Go.askRoom (c * info.bytes) >>= k) = k () := by
      intro α k
      unfold askRoom
      have : ¬ (c * info.bytes > roomBytes) := by
        unfold roomBytes
        have : info.bytes * c ≤ 2 ^ 20 * 2 ^ 20 := Nat.mul_le_mul hc2 hc1
        rw [Nat.mul_comm]; omega
      rw [if_neg this]; rfl
    rw [ha]
    refine .bind .sizeOf ?_
    rintro ρ4 D4 V4 size _ hag4 hD4 ⟨rfl, -⟩
    (try dsimp only)
    by_cases h2 : c * size = 0
    · rw [if_pos h2, if_pos h2]
      refine .bind (.pure (Φ := fun _ _ a b => a = b ∧ a = #[]) ⟨rfl, rfl⟩) ?_
      rintro ρ4 D4 V4 z _ hag4 hD4 ⟨rfl, rfl⟩
      exact ms_end (by unfold big; omega) #[] (fun i v h => by simp at h)
    · rw [if_neg h2, if_neg h2]
      refine .bind (.zeroValue hP) ?_
      rintro ρ4 D4 V4 z _ hag4 hD4 ⟨rfl, hz⟩
      refine .bind (.pure (Φ := fun _ _ a b => a = b ∧ a = z.cells) ⟨rfl, rfl⟩) ?_
      rintro ρ5 D5 V5 z' _ hag5 hD5 ⟨rfl, rfl⟩
      exact ms_end (by unfold big; omega) _ (flatN_cells hz)
  · exact .stuck

theorem Sim.makeFunc {fn : Fn} {xs xs' ys ys' : Array Value} (hf : ∀ l, fn ≠ .yield l) (hx : ARel ρ D xs xs') (hy : ARel ρ D ys ys') : Sim P ρ D V (Instr.makeFunc fn xs ys) (Instr.makeFunc fn xs' ys') VR :=
  .pure (.func (.same hf) hx.1 hx.2 hy.1 hy.2)
end Go.Vm
/- len, copy, append. -/
namespace Go.Vm
variable {P : Program} {ρ ρ1 ρ2 : Ren} {D D1 : Nat → Prop} {V : View} {α β γ δ : Type} {w w1 : World}
  {Φ : Ren → (Nat → Prop) → α → β → Prop} {Ψ : Ren → (Nat → Prop) → γ → δ → Prop}

theorem VRel.mapInv {x : Option Nat} {v' : Value} (h : VRel ρ D (.map x) v') : (x = none ∧ v' = .map none) ∨ ∃ r, x = some r ∧ D r ∧ v' = .map (some (ρ.b r)) := by
  cases h with
  | flat hf => cases x <;> first | exact .inl ⟨rfl, rfl⟩ | simp [Vm.flat] at hf
  | map hr => exact .inr ⟨_, rfl, hr, rfl⟩
theorem VRel.chanInv {x : Option Nat} {v' : Value} (h : VRel ρ D (.chan x) v') : x = none ∧ v' = .chan none := by
  cases h with
  | flat hf => cases x <;> first | exact ⟨rfl, rfl⟩ | simp [Vm.flat] at hf
theorem Sim.len {ts : Array TypeId} {t : TypeId} {xs ys : Array Value} (h : ARel ρ D xs ys) : Sim P ρ D V (Builtin.len_ ts t xs) (Builtin.len_ ts t ys) VR := by
  unfold Builtin.len_
  cases h0 : ts[0]? with
  | none => exact .stuck
  | some t0 =>
    cases h1 : xs[0]? with
    | none => exact .stuck
    | some x =>
      obtain ⟨y, h2, hv⟩ := h.get h1
      rw [h2]
      (try dsimp only)
      refine .bind .underlying ?_
      rintro ρ1 D1 V1 d _ hag hD ⟨rfl, -⟩
      have hv := hv.ext hag hD
      cases d <;> try exact .stuck
      case string => cases x <;> try exact .stuck
                     obtain rfl := hv.strInv
                     exact .pure (.flat rfl)
      case array => exact .pure (.flat rfl)
      case pointer =>
        (try dsimp only)
        refine .bind .underlying ?_
        rintro ρ1 D1 V1 d _ hag hD ⟨rfl, -⟩
        cases d <;> try exact .stuck
        exact .pure (.flat rfl)
      case slice =>
        cases x <;> try exact .stuck
        rcases hv.sliceInv with ⟨rfl, rfl⟩ | ⟨a, c', rfl, ha, rfl, _⟩ <;> exact .pure (.flat rfl)
      case map =>
        cases x <;> try exact .stuck
        rcases hv.mapInv with ⟨rfl, rfl⟩ | ⟨r, rfl, hr, rfl⟩
        · exact .pure (.flat rfl)
        · (try dsimp only)
          refine .bind .getObj ?_
          rintro ρ1 D1 V1 o o' hag hD ⟨hro, ho, -⟩
          cases ho with
          | map hm =>
            refine .pure ?_
            rw [show ∀ (a b : Array MapEntry), a.toList.length = b.toList.length → a.size = b.size from fun a b h => by simpa using h]
            · exact .flat rfl
            · exact hm.length
          | _ => exact .stuck
      case chan =>
        cases x <;> try exact .stuck
        obtain ⟨rfl, rfl⟩ := hv.chanInv
        exact .pure (.flat rfl)

theorem loadFrom_run {w : World} (hw : WRel P ρ D V.get w) {a : Addr} : ∀ (n i : Nat) {acc acc' cs : Array Value} {V1 : View}, ARel ρ D acc acc' → runV P (Go.loadCellsFrom a i n acc) V = some (cs, V1) →
    V1 = V ∧ ∃ cs', (Go.loadCellsFrom (ρ.addr a) i n acc').run P w = .ok cs' w ∧ ARel ρ D cs cs' ∧ cs.size = acc.size + n := by
  intro n
  induction n with
  | zero => intro i acc acc' cs V1 h hr; simp only [Go.loadCellsFrom] at hr; cases hr; exact ⟨rfl, acc', rfl, h, rfl⟩
  | succ n ih =>
    intro i acc acc' cs V1 h hr
    simp only [Go.loadCellsFrom] at hr
    rw [runV_bind] at hr
    simp only [Go.load, runV] at hr
    cases hc : cell V (a.add i) with
    | none => simp [hc] at hr
    | some v =>
      simp only [hc, Option.bind_some] at hr
      obtain ⟨v', h1, h2⟩ := hw.cell hc
      obtain ⟨e, cs', h3, h4, h5⟩ := ih (i + 1) (h.push h2) hr
      refine ⟨e, cs', ?_, h4, by simpa [Nat.add_assoc, Nat.add_comm 1] using h5⟩
      simp only [Go.loadCellsFrom]
      rw [Ren.addr_add, Sem.run_bind]
      simp [Go.load, Sem.run, h1, Result.andThen, h3]
theorem load_run {w : World} (hw : WRel P ρ D V.get w) {a : Addr} {n : Nat} {cs : Array Value} {V1 : View} (hr : runV P (Go.loadCells a n) V = some (cs, V1)) :
    V1 = V ∧ ∃ cs', (Go.loadCells (ρ.addr a) n).run P w = .ok cs' w ∧ ARel ρ D cs cs' ∧ cs.size = n := by
  have := loadFrom_run hw n 0 (ARel.nil) hr
  simpa [Go.loadCells] using this
theorem first_run {w : World} (hw : WRel P ρ D V.get w) {size n m c : Nat} {x : Option Addr} {x' : Value} {cs : Array Value} {V1 : View} (hx : VRel ρ D (.slice x m c) x') (hr : runV P (Builtin.firstCells size n (.slice x m c)) V = some (cs, V1)) :
    V1 = V ∧ ∃ cs', (Builtin.firstCells size n x').run P w = .ok cs' w ∧ ARel ρ D cs cs' := by
  rcases hx.sliceInv with ⟨rfl, rfl⟩ | ⟨a, c', rfl, ha, rfl, _⟩
  · simp only [Builtin.firstCells] at hr; cases hr; exact ⟨rfl, #[], rfl, .nil⟩
  · obtain ⟨h1, cs', h2, h3, _⟩ := load_run hw hr
    exact ⟨h1, cs', h2, h3⟩

theorem run_und {t : TypeId} {d : TypeDesc} (h : P.underlying t = some d) : (Go.underlying t).run P w = .ok d w := by simp [Go.underlying, Go.program, Sem.run, h, Sem.run_bind, Result.andThen]
theorem run_inf {t : TypeId} {d : TypeInfo} (h : P.info? t = some d) : (Go.typeInfo t).run P w = .ok d w := by simp [Go.typeInfo, Go.program, Sem.run, h, Sem.run_bind, Result.andThen]
theorem run_siz {t : TypeId} {d : TypeInfo} (h : P.info? t = some d) : (Go.sizeOf t).run P w = .ok d.size w := by unfold Go.sizeOf; rw [Sem.run_bind]; simp [run_inf h, Result.andThen]
theorem run_zer {t : TypeId} {d : TypeInfo} {z : Value} (h : P.info? t = some d) (hz : d.zero = some z) : (Go.zeroValue t).run P w = .ok z w := by unfold Go.zeroValue; rw [Sem.run_bind]; simp [run_inf h, Result.andThen, hz]

/-- cells stored one behind the other into a block of one's own -/
theorem store_run {b : Nat} {e : TypeId} : ∀ (vs : List Value) (off i : Nat) (w : World) (c : Array Value), w.heap[b]? = some (.cells c e (0, 0)) → off + i + vs.length ≤ c.size → (∀ v, v ∈ vs → one v = true) →
    ∃ (w1 : World) (c1 : Array Value), (Go.storeCells ⟨b, off, none⟩ vs i).run P w = .ok () w1 ∧ w1.heap[b]? = some (.cells c1 e (0, 0)) ∧ c1.size = c.size ∧ (∀ k, k < off + i → c1[k]? = c[k]?) ∧
      (∀ k, k < vs.length → c1[off + i + k]? = vs[k]?) ∧ (∀ k, k ≠ b → w1.heap[k]? = w.heap[k]?) ∧ w1.heap.size = w.heap.size ∧ w1.os = w.os ∧ w1.tape = w.tape ∧ w1.output = w.output := by
  intro vs
  induction vs with
  | nil => intro off i w c h1 _ _; exact ⟨w, c, rfl, h1, rfl, fun _ _ => rfl, fun k hk => by simp at hk, fun _ _ => rfl, rfl, rfl, rfl, rfl⟩
  | cons v vs ih =>
    intro off i w c h1 h2 h3
    simp only [List.length_cons] at h2
    have hlt : off + i < c.size := by omega
    have hadd : (⟨b, off, none⟩ : Addr).add i = ⟨b, off + i, none⟩ := by
      unfold Addr.add; split
      · rename_i h; subst h; rfl
      · rfl
    have hcell : w.cell? ⟨b, off + i, none⟩ = some c[off + i] := by simp [World.cell?, h1, hlt]
    have hfr : w.frozen? ⟨b, off + i, none⟩ = false := by simp [World.frozen?, h1]
    obtain ⟨hbz, hbv⟩ := Array.getElem?_eq_some_iff.1 h1
    have hset : (w.setCell ⟨b, off + i, none⟩ v).heap[b]? = some (.cells (c.setIfInBounds (off + i) v) e (0, 0)) := by
      simp only [World.setCell, Array.getElem?_modify, if_true, h1]; rfl
    obtain ⟨w1, c1, e1, e2, e3, e4, e5, e6, e7, e8, e9, e10⟩ := ih off (i + 1) (w.setCell ⟨b, off + i, none⟩ v) _ hset (by simp; omega) (fun x hx => h3 x (List.mem_cons_of_mem _ hx))
    refine ⟨w1, c1, ?_, e2, by simpa using e3, fun k hk => ?_, fun k hk => ?_, fun k hk => ?_, ?_, e8, e9, e10⟩
    · unfold Go.storeCells
      rw [hadd, Sem.run_bind]
      have h1v : one v = true := h3 v (by simp)
      have : (Go.store ⟨b, off + i, none⟩ v).run P w = .ok () (w.setCell ⟨b, off + i, none⟩ v) := by
        cases v <;> first | (simp [one] at h1v; done) | simp [Go.store, Sem.run, hcell, hfr]
      simp [this, Result.andThen, e1]
    · rw [e4 k (by omega)]; simp [Array.getElem?_setIfInBounds]; omega
    · cases k with
      | zero => rw [Nat.add_zero, e4 _ (by omega)]; simp [hlt]
      | succ k =>
        have := e5 k (by simpa using hk)
        rw [show off + i + (k + 1) = off + (i + 1) + k by omega, this]; simp
    · rw [e6 k hk]; simp [World.setCell, Array.getElem?_modify, Ne.symm hk]
    · rw [e7]; simp [World.setCell]
end Go.Vm
