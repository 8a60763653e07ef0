/- Memory up to the names of its blocks: values, objects and worlds, related to a small memory that is computed with. -/
import Derived.CallsIn
import Derived.RangeFuncIn
import Derived.RowKit
namespace Go.Vm

/-- where the blocks of the small memory lie -/
structure Ren where
  b : Nat → Nat
  o : Nat → Nat
  sz : Nat → Nat
  es : Nat → Nat

def Ren.addr (ρ : Ren) (a : Addr) : Addr := { block := ρ.b a.block, off := ρ.o a.block + a.off, spot := a.spot }

/-- the capacity that stands for one that is not known -/
def big : Nat := 2 ^ 80

def flat : Value → Bool
  | .bool _ | .int _ _ | .float _ _ | .complex _ _ _ | .string _ | .nilFunc | .nilIface => true
  | .pointer none | .map none | .chan none => true
  | .slice none _ _ => true
  | _ => false

inductive FRel (ρ : Ren) (D : Nat → Prop) : Fn → Fn → Prop
  | same {f} (h : ∀ l, f ≠ .yield l) : FRel ρ D f f
  | yield {l} (h : D l) : FRel ρ D (.yield l) (.yield (ρ.b l))

inductive VRel (ρ : Ren) (D : Nat → Prop) : Value → Value → Prop
  | flat {v} (h : flat v = true) : VRel ρ D v v
  | ptr {a} (h : D a.block) : VRel ρ D (.pointer (some a)) (.pointer (some (ρ.addr a)))
  | slice {a len cap} (h : D a.block) (hc : cap < big) : VRel ρ D (.slice (some a) len cap) (.slice (some (ρ.addr a)) len cap)
  | grown {a len cap'} (h : D a.block) (hl : len ≤ cap') (hs : a.off + cap' * ρ.es a.block ≤ ρ.sz a.block) :
      VRel ρ D (.slice (some a) len big) (.slice (some (ρ.addr a)) len cap')
  | map {r} (h : D r) : VRel ρ D (.map (some r)) (.map (some (ρ.b r)))
  | func {fn fn' : Fn} {xs xs' ys ys' : Array Value} (hf : FRel ρ D fn fn') (h1 : xs.size = xs'.size) (h2 : ∀ (i : Nat) (v v' : Value), xs[i]? = some v → xs'[i]? = some v' → VRel ρ D v v')
      (h3 : ys.size = ys'.size) (h4 : ∀ (i : Nat) (v v' : Value), ys[i]? = some v → ys'[i]? = some v' → VRel ρ D v v') : VRel ρ D (.func fn xs ys) (.func fn' xs' ys')
  | agg {xs xs' : Array Value} (h1 : xs.size = xs'.size) (h2 : ∀ (i : Nat) (v v' : Value), xs[i]? = some v → xs'[i]? = some v' → VRel ρ D v v') : VRel ρ D (.agg xs) (.agg xs')
  | tuple {xs xs' : Array Value} (h1 : xs.size = xs'.size) (h2 : ∀ (i : Nat) (v v' : Value), xs[i]? = some v → xs'[i]? = some v' → VRel ρ D v v') : VRel ρ D (.tuple xs) (.tuple xs')
  | iface {t v v'} (h : VRel ρ D v v') : VRel ρ D (.iface t v) (.iface t v')

def ARel (ρ : Ren) (D : Nat → Prop) (xs ys : Array Value) : Prop := xs.size = ys.size ∧ ∀ (i : Nat) (v v' : Value), xs[i]? = some v → ys[i]? = some v' → VRel ρ D v v'

structure Agree (ρ ρ1 : Ren) (D : Nat → Prop) : Prop where
  b : ∀ k, D k → ρ1.b k = ρ.b k
  o : ∀ k, D k → ρ1.o k = ρ.o k
  sz : ∀ k, D k → ρ1.sz k = ρ.sz k
  es : ∀ k, D k → ρ1.es k = ρ.es k

variable {ρ ρ1 ρ2 : Ren} {D D1 : Nat → Prop} {xs ys : Array Value}

theorem Agree.trans' {D2 : Nat → Prop} (h : Agree ρ ρ1 D) (k : Agree ρ1 ρ2 D2) (hD : ∀ b, D b → D2 b := by intro b hb; exact .inl hb) : Agree ρ ρ2 D :=
  ⟨fun b hb => (k.b b (hD b hb)).trans (h.b b hb), fun b hb => (k.o b (hD b hb)).trans (h.o b hb), fun b hb => (k.sz b (hD b hb)).trans (h.sz b hb), fun b hb => (k.es b (hD b hb)).trans (h.es b hb)⟩
theorem Agree.addr (h : Agree ρ ρ1 D) {a : Addr} (ha : D a.block) : ρ1.addr a = ρ.addr a := by
  simp [Ren.addr, h.b _ ha, h.o _ ha]
theorem FRel.ext (h : Agree ρ ρ1 D) (hD : ∀ k, D k → D1 k) {f f' : Fn} (r : FRel ρ D f f') : FRel ρ1 D1 f f' := by
  cases r with
  | same hn => exact .same hn
  | yield hl => rw [← h.b _ hl]; exact .yield (hD _ hl)
theorem VRel.ext (h : Agree ρ ρ1 D) (hD : ∀ k, D k → D1 k) {v v' : Value} (r : VRel ρ D v v') : VRel ρ1 D1 v v' := by
  induction r with
  | flat hv => exact .flat hv
  | ptr ha => rw [← h.addr ha]; exact .ptr (hD _ ha)
  | slice ha hc => rw [← h.addr ha]; exact .slice (hD _ ha) hc
  | grown ha hl hs => rw [← h.addr ha]; exact .grown (hD _ ha) hl (by rw [h.es _ ha, h.sz _ ha]; exact hs)
  | map hr => rw [← h.b _ hr]; exact .map (hD _ hr)
  | func hf h1 _ h3 _ ih1 ih2 => exact .func (hf.ext h hD) h1 ih1 h3 ih2
  | agg h1 _ ih => exact .agg h1 ih
  | tuple h1 _ ih => exact .tuple h1 ih
  | iface _ ih => exact .iface ih
theorem ARel.ext (h : Agree ρ ρ1 D) (hD : ∀ k, D k → D1 k) {v v' : Array Value} (r : ARel ρ D v v') : ARel ρ1 D1 v v' :=
  ⟨r.1, fun i x y hx hy => (r.2 i x y hx hy).ext h hD⟩
theorem ARel.get (r : ARel ρ D xs ys) {i : Nat} {v : Value} (h : xs[i]? = some v) : ∃ v', ys[i]? = some v' ∧ VRel ρ D v v' := by
  have hi : i < ys.size := r.1 ▸ (Array.getElem?_eq_some_iff.1 h).1
  exact ⟨ys[i], Array.getElem?_eq_getElem hi, r.2 i _ _ h (Array.getElem?_eq_getElem hi)⟩
theorem ARel.none (r : ARel ρ D xs ys) {i : Nat} (h : xs[i]? = none) : ys[i]? = none := by
  rw [Array.getElem?_eq_none_iff] at *; rw [← r.1]; exact h
theorem ARel.nil : ARel ρ D #[] #[] := ⟨rfl, fun i v v' h => by simp at h⟩
theorem ARel.push (r : ARel ρ D xs ys) {v v' : Value} (h : VRel ρ D v v') : ARel ρ D (xs.push v) (ys.push v') := by
  refine ⟨by simp [r.1], fun i x y hx hy => ?_⟩
  rw [Array.getElem?_push] at hx hy
  rw [r.1] at hx
  split at hx
  · rename_i hi; rw [if_pos hi] at hy; cases hx; cases hy; exact h
  · rename_i hi; rw [if_neg hi] at hy; exact r.2 i x y hx hy
theorem ARel.append {xs' ys' : Array Value} (r : ARel ρ D xs ys) (r' : ARel ρ D xs' ys') : ARel ρ D (xs ++ xs') (ys ++ ys') := by
  refine ⟨by simp [r.1, r'.1], fun i x y hx hy => ?_⟩
  rw [Array.getElem?_append] at hx hy
  rw [r.1] at hx
  split at hx
  · rename_i hi; rw [if_pos hi] at hy; exact r.2 i x y hx hy
  · rename_i hi; rw [if_neg hi] at hy; exact r'.2 _ x y hx hy
theorem ARel.extract (r : ARel ρ D xs ys) (i j : Nat) : ARel ρ D (xs.extract i j) (ys.extract i j) := by
  refine ⟨by simp [r.1], fun k x y hx hy => ?_⟩
  rw [Array.getElem?_extract] at hx hy
  rw [r.1] at hx
  split at hx
  · rename_i hi; rw [if_pos hi] at hy; exact r.2 _ x y hx hy
  · cases hx
theorem ARel.set (r : ARel ρ D xs ys) (i : Nat) {v v' : Value} (h : VRel ρ D v v') : ARel ρ D (xs.setIfInBounds i v) (ys.setIfInBounds i v') := by
  refine ⟨by simp [r.1], fun k x y hx hy => ?_⟩
  rw [Array.getElem?_setIfInBounds] at hx hy
  rw [r.1] at hx
  split at hx
  · rename_i hi
    rw [if_pos hi] at hy
    split at hx
    · rename_i hj; rw [if_pos hj] at hy; cases hx; cases hy; exact h
    · cases hx
  · rename_i hi; rw [if_neg hi] at hy; exact r.2 _ x y hx hy
theorem ARel.one {v v' : Value} (h : VRel ρ D v v') : ARel ρ D #[v] #[v'] := by
  have := (ARel.nil (ρ := ρ) (D := D)).push h; simpa using this

/-- relations of lists, one by one -/
inductive LRel {α β : Type} (R : α → β → Prop) : List α → List β → Prop
  | nil : LRel R [] []
  | cons {x y} {xs ys} (h : R x y) (t : LRel R xs ys) : LRel R (x :: xs) (y :: ys)
theorem LRel.mono {α β : Type} {R S : α → β → Prop} (h : ∀ x y, R x y → S x y) {xs : List α} {ys : List β} (r : LRel R xs ys) : LRel S xs ys := by
  induction r with
  | nil => exact .nil
  | cons a _ ih => exact .cons (h _ _ a) ih
theorem LRel.length {α β : Type} {R : α → β → Prop} {xs : List α} {ys : List β} (r : LRel R xs ys) : xs.length = ys.length := by
  induction r with
  | nil => rfl
  | cons _ _ ih => simp [ih]
theorem LRel.get {α β : Type} {R : α → β → Prop} {xs : List α} {ys : List β} (r : LRel R xs ys) : ∀ (i : Nat) (x : α), xs[i]? = some x → ∃ y, ys[i]? = some y ∧ R x y := by
  induction r with
  | nil => intro i x h; simp at h
  | cons a _ ih =>
    intro i x h
    cases i with
    | zero => simp at h; subst h; exact ⟨_, rfl, a⟩
    | succ i => simp at h; simpa using ih i x h
theorem LRel.of_get {α β : Type} {R : α → β → Prop} : ∀ {xs : List α} {ys : List β}, xs.length = ys.length → (∀ (i : Nat) (x : α) (y : β), xs[i]? = some x → ys[i]? = some y → R x y) → LRel R xs ys
  | [], [], _, _ => .nil
  | x :: xs, y :: ys, h, g => .cons (g 0 x y rfl rfl) (LRel.of_get (by simpa using h) fun i a b ha hb => g (i + 1) a b (by simpa using ha) (by simpa using hb))
theorem ARel.list (r : ARel ρ D xs ys) : LRel (VRel ρ D) xs.toList ys.toList :=
  LRel.of_get (by simpa using r.1) fun i x y hx hy => r.2 i x y (by simpa using hx) (by simpa using hy)
theorem LRel.arr {xs ys : List Value} (r : LRel (VRel ρ D) xs ys) : ARel ρ D xs.toArray ys.toArray := by
  refine ⟨by simp [r.length], fun i v v' h h' => ?_⟩
  obtain ⟨y, hy, hr⟩ := r.get i v (by simpa using h)
  have : y = v' := by have h' : ys[i]? = some v' := by simpa using h'
                      rw [hy] at h'; simpa using h'
  exact this ▸ hr

/-- closed values: no address in them -/
def flatN : Nat → Value → Bool
  | n + 1, .agg cs => cs.toList.all (flatN n)
  | n + 1, .tuple cs => cs.toList.all (flatN n)
  | _ + 1, .func (.func _) xs ys => xs.isEmpty && ys.isEmpty
  | _, v => flat v
theorem VRel.of_flatN : ∀ (n : Nat) (v : Value), flatN n v = true → VRel ρ D v v := by
  intro n
  induction n with
  | zero => intro v h; exact .flat (by cases v <;> simpa [flatN] using h)
  | succ n ih =>
    intro v h
    unfold flatN at h
    split at h
    · rename_i m cs heq
      cases heq
      refine .agg rfl fun i x y hx hy => ?_
      rw [hx] at hy; cases hy
      exact ih x (List.all_eq_true.1 h x (by have := Array.mem_of_getElem? hx; simpa using this))
    · rename_i m cs heq
      cases heq
      refine .tuple rfl fun i x y hx hy => ?_
      rw [hx] at hy; cases hy
      exact ih x (List.all_eq_true.1 h x (by have := Array.mem_of_getElem? hx; simpa using this))
    · rename_i xs ys
      simp only [Bool.and_eq_true, Array.isEmpty_iff] at h
      obtain ⟨rfl, rfl⟩ := h
      exact .func (.same fun l => by simp) rfl (fun i x y hx => by simp at hx) rfl (fun i x y hx => by simp at hx)
    · exact .flat h
theorem VRel.flatEq {v v' : Value} (h : VRel ρ D v v') (hf : Vm.flat v = true) : v' = v := by
  cases h <;> first | rfl | (simp [Vm.flat] at hf)
theorem VRel.flatN_eq : ∀ (n : Nat) {v v' : Value}, VRel ρ D v v' → flatN n v = true → v' = v := by
  intro n
  induction n with
  | zero => intro v v' h hf; exact h.flatEq (by cases v <;> simpa [flatN] using hf)
  | succ n ih =>
    intro v v' h hf
    unfold flatN at hf
    split at hf
    · rename_i m cs heq
      cases heq
      cases h with
      | flat h => simp [Vm.flat] at h
      | agg h1 h2 =>
        congr 1
        refine (Array.ext (by simpa using h1) fun i hi hi' => ?_).symm
        exact (ih (h2 i _ _ (Array.getElem?_eq_getElem hi) (Array.getElem?_eq_getElem hi')) (List.all_eq_true.1 hf _ (by simp))).symm
    · rename_i m cs heq
      cases heq
      cases h with
      | flat h => simp [Vm.flat] at h
      | tuple h1 h2 =>
        congr 1
        refine (Array.ext (by simpa using h1) fun i hi hi' => ?_).symm
        exact (ih (h2 i _ _ (Array.getElem?_eq_getElem hi) (Array.getElem?_eq_getElem hi')) (List.all_eq_true.1 hf _ (by simp))).symm
    · rename_i xs ys
      simp only [Bool.and_eq_true, Array.isEmpty_iff] at hf
      obtain ⟨rfl, rfl⟩ := hf
      cases h with
      | flat h => simp [Vm.flat] at h
      | @func _ _ _ xs' _ ys' hf h1 h2 h3 h4 =>
        cases hf
        have e1 : xs' = #[] := by apply Array.eq_empty_of_size_eq_zero; simpa using h1.symm
        have e2 : ys' = #[] := by apply Array.eq_empty_of_size_eq_zero; simpa using h3.symm
        rw [e1, e2]
    · exact h.flatEq hf

structure MRel (ρ : Ren) (D : Nat → Prop) (x y : MapEntry) : Prop where
  key : VRel ρ D x.key y.key
  val : VRel ρ D x.val y.val
  born : x.born = y.born

structure LoopRel (ρ : Ren) (D : Nat → Prop) (x y : Loop) : Prop where
  state : x.state = y.state
  pending : x.pending = y.pending
  tmps : ARel ρ D x.tmps y.tmps
  params : x.params = y.params
  assign : x.assign = y.assign
  body : x.body = y.body
  defers : D x.defers ∧ y.defers = ρ.b x.defers

inductive ORel (P : Program) (ρ : Ren) (D : Nat → Prop) (k : Nat) : Obj → Obj → Prop
  | cells {c c' : Array Value} {elem : TypeId} (hsz : c'.size = ρ.sz k) (hes : P.cellsOf elem = ρ.es k) (hle : c.size ≤ c'.size)
      (h : ∀ (i : Nat) (v : Value), c[i]? = some v → ∃ v', c'[i]? = some v' ∧ VRel ρ D v v') : ORel P ρ D k (.cells c elem (0, 0)) (.cells c' elem (0, 0))
  | map {es es' : Array MapEntry} {clock : Nat} (h : LRel (MRel ρ D) es.toList es'.toList) : ORel P ρ D k (.map es clock) (.map es' clock)
  | loop {l l'} (h : LoopRel ρ D l l') : ORel P ρ D k (.loop l) (.loop l')
  | deferred : ORel P ρ D k (.deferred (some [])) (.deferred (some []))

theorem MRel.ext (h : Agree ρ ρ1 D) (hD : ∀ k, D k → D1 k) {x y : MapEntry} (r : MRel ρ D x y) : MRel ρ1 D1 x y := ⟨r.key.ext h hD, r.val.ext h hD, r.born⟩
theorem LoopRel.ext (h : Agree ρ ρ1 D) (hD : ∀ k, D k → D1 k) {x y : Loop} (r : LoopRel ρ D x y) : LoopRel ρ1 D1 x y :=
  ⟨r.state, r.pending, r.tmps.ext h hD, r.params, r.assign, r.body, hD _ r.defers.1, by rw [h.b _ r.defers.1]; exact r.defers.2⟩
theorem ORel.ext {P : Program} {k : Nat} (h : Agree ρ ρ1 D) (hD : ∀ k, D k → D1 k) (hk : D k) {x y : Obj} (r : ORel P ρ D k x y) : ORel P ρ1 D1 k x y := by
  cases r with
  | cells hsz hes hle hv => exact .cells (by rw [h.sz _ hk]; exact hsz) (by rw [h.es _ hk]; exact hes) hle fun i v hi => let ⟨v', a, b⟩ := hv i v hi; ⟨v', a, b.ext h hD⟩
  | map hm => exact .map (hm.mono fun _ _ r => r.ext h hD)
  | loop hl => exact .loop (hl.ext h hD)
  | deferred => exact .deferred
end Go.Vm
