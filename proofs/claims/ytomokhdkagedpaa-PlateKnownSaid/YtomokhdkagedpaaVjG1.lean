/- The quick machine: temporaries, memory, operations. -/
import Derived.Test.YtomokhdkagedpaaVjV3
import Derived.Test.YtomokhdkagedpaaVjV4
set_option linter.unusedVariables false
/- A quick memory of temporaries: a tree of eight by eight by eight. -/
namespace Go.Vm

structure N8 (α : Type) where
  a0 : α
  a1 : α
  a2 : α
  a3 : α
  a4 : α
  a5 : α
  a6 : α
  a7 : α
inductive I8
  | i0
  | i1
  | i2
  | i3
  | i4
  | i5
  | i6
  | i7
abbrev E1 := N8 Value
abbrev E2 := N8 E1
abbrev Env := N8 E2
structure P3 where
  x : I8
  y : I8
  z : I8
/-! what lies at a place -/
noncomputable def g1 : I8 → E1 → Value := I8.rec (motive := fun _ => E1 → Value)
  (fun t => N8.rec (motive := fun _ => Value) (fun a0 a1 a2 a3 a4 a5 a6 a7 => a0) t)
  (fun t => N8.rec (motive := fun _ => Value) (fun a0 a1 a2 a3 a4 a5 a6 a7 => a1) t)
  (fun t => N8.rec (motive := fun _ => Value) (fun a0 a1 a2 a3 a4 a5 a6 a7 => a2) t)
  (fun t => N8.rec (motive := fun _ => Value) (fun a0 a1 a2 a3 a4 a5 a6 a7 => a3) t)
  (fun t => N8.rec (motive := fun _ => Value) (fun a0 a1 a2 a3 a4 a5 a6 a7 => a4) t)
  (fun t => N8.rec (motive := fun _ => Value) (fun a0 a1 a2 a3 a4 a5 a6 a7 => a5) t)
  (fun t => N8.rec (motive := fun _ => Value) (fun a0 a1 a2 a3 a4 a5 a6 a7 => a6) t)
  (fun t => N8.rec (motive := fun _ => Value) (fun a0 a1 a2 a3 a4 a5 a6 a7 => a7) t)
def u1 (i : I8) (t : E1) (v : Value) : E1 := match i with
  | .i0 => { t with a0 := v }
  | .i1 => { t with a1 := v }
  | .i2 => { t with a2 := v }
  | .i3 => { t with a3 := v }
  | .i4 => { t with a4 := v }
  | .i5 => { t with a5 := v }
  | .i6 => { t with a6 := v }
  | .i7 => { t with a7 := v }
noncomputable def g2 : I8 → E2 → E1 := I8.rec (motive := fun _ => E2 → E1)
  (fun t => N8.rec (motive := fun _ => E1) (fun a0 a1 a2 a3 a4 a5 a6 a7 => a0) t)
  (fun t => N8.rec (motive := fun _ => E1) (fun a0 a1 a2 a3 a4 a5 a6 a7 => a1) t)
  (fun t => N8.rec (motive := fun _ => E1) (fun a0 a1 a2 a3 a4 a5 a6 a7 => a2) t)
  (fun t => N8.rec (motive := fun _ => E1) (fun a0 a1 a2 a3 a4 a5 a6 a7 => a3) t)
  (fun t => N8.rec (motive := fun _ => E1) (fun a0 a1 a2 a3 a4 a5 a6 a7 => a4) t)
  (fun t => N8.rec (motive := fun _ => E1) (fun a0 a1 a2 a3 a4 a5 a6 a7 => a5) t)
  (fun t => N8.rec (motive := fun _ => E1) (fun a0 a1 a2 a3 a4 a5 a6 a7 => a6) t)
  (fun t => N8.rec (motive := fun _ => E1) (fun a0 a1 a2 a3 a4 a5 a6 a7 => a7) t)
def u2 (i : I8) (t : E2) (v : E1) : E2 := match i with
  | .i0 => { t with a0 := v }
  | .i1 => { t with a1 := v }
  | .i2 => { t with a2 := v }
  | .i3 => { t with a3 := v }
  | .i4 => { t with a4 := v }
  | .i5 => { t with a5 := v }
  | .i6 => { t with a6 := v }
  | .i7 => { t with a7 := v }
noncomputable def g3 : I8 → Env → E2 := I8.rec (motive := fun _ => Env → E2)
  (fun t => N8.rec (motive := fun _ => E2) (fun a0 a1 a2 a3 a4 a5 a6 a7 => a0) t)
  (fun t => N8.rec (motive := fun _ => E2) (fun a0 a1 a2 a3 a4 a5 a6 a7 => a1) t)
  (fun t => N8.rec (motive := fun _ => E2) (fun a0 a1 a2 a3 a4 a5 a6 a7 => a2) t)
  (fun t => N8.rec (motive := fun _ => E2) (fun a0 a1 a2 a3 a4 a5 a6 a7 => a3) t)
  (fun t => N8.rec (motive := fun _ => E2) (fun a0 a1 a2 a3 a4 a5 a6 a7 => a4) t)
  (fun t => N8.rec (motive := fun _ => E2) (fun a0 a1 a2 a3 a4 a5 a6 a7 => a5) t)
  (fun t => N8.rec (motive := fun _ => E2) (fun a0 a1 a2 a3 a4 a5 a6 a7 => a6) t)
  (fun t => N8.rec (motive := fun _ => E2) (fun a0 a1 a2 a3 a4 a5 a6 a7 => a7) t)
def u3 (i : I8) (t : Env) (v : E2) : Env := match i with
  | .i0 => { t with a0 := v }
  | .i1 => { t with a1 := v }
  | .i2 => { t with a2 := v }
  | .i3 => { t with a3 := v }
  | .i4 => { t with a4 := v }
  | .i5 => { t with a5 := v }
  | .i6 => { t with a6 := v }
  | .i7 => { t with a7 := v }
noncomputable def s1 : I8 → E1 → Value → (E1 → Bool) → Bool := I8.rec (motive := fun _ => E1 → Value → (E1 → Bool) → Bool)
  (fun t v k => N8.rec (motive := fun _ => Value → (E1 → Bool) → Bool) (fun a0 a1 a2 a3 a4 a5 a6 a7 v k => k (N8.mk v a1 a2 a3 a4 a5 a6 a7)) t v k)
  (fun t v k => N8.rec (motive := fun _ => Value → (E1 → Bool) → Bool) (fun a0 a1 a2 a3 a4 a5 a6 a7 v k => k (N8.mk a0 v a2 a3 a4 a5 a6 a7)) t v k)
  (fun t v k => N8.rec (motive := fun _ => Value → (E1 → Bool) → Bool) (fun a0 a1 a2 a3 a4 a5 a6 a7 v k => k (N8.mk a0 a1 v a3 a4 a5 a6 a7)) t v k)
  (fun t v k => N8.rec (motive := fun _ => Value → (E1 → Bool) → Bool) (fun a0 a1 a2 a3 a4 a5 a6 a7 v k => k (N8.mk a0 a1 a2 v a4 a5 a6 a7)) t v k)
  (fun t v k => N8.rec (motive := fun _ => Value → (E1 → Bool) → Bool) (fun a0 a1 a2 a3 a4 a5 a6 a7 v k => k (N8.mk a0 a1 a2 a3 v a5 a6 a7)) t v k)
  (fun t v k => N8.rec (motive := fun _ => Value → (E1 → Bool) → Bool) (fun a0 a1 a2 a3 a4 a5 a6 a7 v k => k (N8.mk a0 a1 a2 a3 a4 v a6 a7)) t v k)
  (fun t v k => N8.rec (motive := fun _ => Value → (E1 → Bool) → Bool) (fun a0 a1 a2 a3 a4 a5 a6 a7 v k => k (N8.mk a0 a1 a2 a3 a4 a5 v a7)) t v k)
  (fun t v k => N8.rec (motive := fun _ => Value → (E1 → Bool) → Bool) (fun a0 a1 a2 a3 a4 a5 a6 a7 v k => k (N8.mk a0 a1 a2 a3 a4 a5 a6 v)) t v k)
noncomputable def s2 : I8 → E2 → I8 → Value → (E2 → Bool) → Bool := I8.rec (motive := fun _ => E2 → I8 → Value → (E2 → Bool) → Bool)
  (fun t z v k => N8.rec (motive := fun _ => I8 → Value → (E2 → Bool) → Bool) (fun a0 a1 a2 a3 a4 a5 a6 a7 z v k => s1 z a0 v (fun c => k (N8.mk c a1 a2 a3 a4 a5 a6 a7))) t z v k)
  (fun t z v k => N8.rec (motive := fun _ => I8 → Value → (E2 → Bool) → Bool) (fun a0 a1 a2 a3 a4 a5 a6 a7 z v k => s1 z a1 v (fun c => k (N8.mk a0 c a2 a3 a4 a5 a6 a7))) t z v k)
  (fun t z v k => N8.rec (motive := fun _ => I8 → Value → (E2 → Bool) → Bool) (fun a0 a1 a2 a3 a4 a5 a6 a7 z v k => s1 z a2 v (fun c => k (N8.mk a0 a1 c a3 a4 a5 a6 a7))) t z v k)
  (fun t z v k => N8.rec (motive := fun _ => I8 → Value → (E2 → Bool) → Bool) (fun a0 a1 a2 a3 a4 a5 a6 a7 z v k => s1 z a3 v (fun c => k (N8.mk a0 a1 a2 c a4 a5 a6 a7))) t z v k)
  (fun t z v k => N8.rec (motive := fun _ => I8 → Value → (E2 → Bool) → Bool) (fun a0 a1 a2 a3 a4 a5 a6 a7 z v k => s1 z a4 v (fun c => k (N8.mk a0 a1 a2 a3 c a5 a6 a7))) t z v k)
  (fun t z v k => N8.rec (motive := fun _ => I8 → Value → (E2 → Bool) → Bool) (fun a0 a1 a2 a3 a4 a5 a6 a7 z v k => s1 z a5 v (fun c => k (N8.mk a0 a1 a2 a3 a4 c a6 a7))) t z v k)
  (fun t z v k => N8.rec (motive := fun _ => I8 → Value → (E2 → Bool) → Bool) (fun a0 a1 a2 a3 a4 a5 a6 a7 z v k => s1 z a6 v (fun c => k (N8.mk a0 a1 a2 a3 a4 a5 c a7))) t z v k)
  (fun t z v k => N8.rec (motive := fun _ => I8 → Value → (E2 → Bool) → Bool) (fun a0 a1 a2 a3 a4 a5 a6 a7 z v k => s1 z a7 v (fun c => k (N8.mk a0 a1 a2 a3 a4 a5 a6 c))) t z v k)
noncomputable def s3 : I8 → Env → I8 → I8 → Value → (Env → Bool) → Bool := I8.rec (motive := fun _ => Env → I8 → I8 → Value → (Env → Bool) → Bool)
  (fun t y z v k => N8.rec (motive := fun _ => I8 → I8 → Value → (Env → Bool) → Bool) (fun a0 a1 a2 a3 a4 a5 a6 a7 y z v k => s2 y a0 z v (fun c => k (N8.mk c a1 a2 a3 a4 a5 a6 a7))) t y z v k)
  (fun t y z v k => N8.rec (motive := fun _ => I8 → I8 → Value → (Env → Bool) → Bool) (fun a0 a1 a2 a3 a4 a5 a6 a7 y z v k => s2 y a1 z v (fun c => k (N8.mk a0 c a2 a3 a4 a5 a6 a7))) t y z v k)
  (fun t y z v k => N8.rec (motive := fun _ => I8 → I8 → Value → (Env → Bool) → Bool) (fun a0 a1 a2 a3 a4 a5 a6 a7 y z v k => s2 y a2 z v (fun c => k (N8.mk a0 a1 c a3 a4 a5 a6 a7))) t y z v k)
  (fun t y z v k => N8.rec (motive := fun _ => I8 → I8 → Value → (Env → Bool) → Bool) (fun a0 a1 a2 a3 a4 a5 a6 a7 y z v k => s2 y a3 z v (fun c => k (N8.mk a0 a1 a2 c a4 a5 a6 a7))) t y z v k)
  (fun t y z v k => N8.rec (motive := fun _ => I8 → I8 → Value → (Env → Bool) → Bool) (fun a0 a1 a2 a3 a4 a5 a6 a7 y z v k => s2 y a4 z v (fun c => k (N8.mk a0 a1 a2 a3 c a5 a6 a7))) t y z v k)
  (fun t y z v k => N8.rec (motive := fun _ => I8 → I8 → Value → (Env → Bool) → Bool) (fun a0 a1 a2 a3 a4 a5 a6 a7 y z v k => s2 y a5 z v (fun c => k (N8.mk a0 a1 a2 a3 a4 c a6 a7))) t y z v k)
  (fun t y z v k => N8.rec (motive := fun _ => I8 → I8 → Value → (Env → Bool) → Bool) (fun a0 a1 a2 a3 a4 a5 a6 a7 y z v k => s2 y a6 z v (fun c => k (N8.mk a0 a1 a2 a3 a4 a5 c a7))) t y z v k)
  (fun t y z v k => N8.rec (motive := fun _ => I8 → I8 → Value → (Env → Bool) → Bool) (fun a0 a1 a2 a3 a4 a5 a6 a7 y z v k => s2 y a7 z v (fun c => k (N8.mk a0 a1 a2 a3 a4 a5 a6 c))) t y z v k)
noncomputable def getE (p : P3) (env : Env) : Value := P3.rec (motive := fun _ => Env → Value) (fun x y z t => g1 z (g2 y (g3 x t))) p env
noncomputable def setE (p : P3) (env : Env) (v : Value) (k : Env → Bool) : Bool := P3.rec (motive := fun _ => Env → Value → (Env → Bool) → Bool) (fun x y z t v k => s3 x t y z v k) p env v k
noncomputable def updE (p : P3) (t : Env) (v : Value) : Env := u3 p.x t (u2 p.y (g3 p.x t) (u1 p.z (g2 p.y (g3 p.x t)) v))

theorem s1_eq (z : I8) (t : E1) (v : Value) (k : E1 → Bool) : s1 z t v k = k (u1 z t v) := by cases z <;> rfl
theorem s2_eq (y : I8) (t : E2) (z : I8) (v : Value) (k : E2 → Bool) : s2 y t z v k = k (u2 y t (u1 z (g2 y t) v)) := by
  cases y <;> exact s1_eq ..
theorem s3_eq (x : I8) (t : Env) (y z : I8) (v : Value) (k : Env → Bool) : s3 x t y z v k = k (u3 x t (u2 y (g3 x t) (u1 z (g2 y (g3 x t)) v))) := by
  cases x <;> exact s2_eq ..
theorem setE_eq (p : P3) (t : Env) (v : Value) (k : Env → Bool) : setE p t v k = k (updE p t v) := by
  obtain ⟨x, y, z⟩ := p
  exact s3_eq ..
theorem g1_u (i j : I8) (t : E1) (v : Value) : (i = j → g1 i (u1 j t v) = v) ∧ (i ≠ j → g1 i (u1 j t v) = g1 i t) := by
  cases i <;> cases j <;> first | exact ⟨fun _ => rfl, fun h => absurd rfl h⟩ | exact ⟨fun h => (by cases h), fun _ => rfl⟩
theorem g2_u (i j : I8) (t : E2) (v : E1) : (i = j → g2 i (u2 j t v) = v) ∧ (i ≠ j → g2 i (u2 j t v) = g2 i t) := by
  cases i <;> cases j <;> first | exact ⟨fun _ => rfl, fun h => absurd rfl h⟩ | exact ⟨fun h => (by cases h), fun _ => rfl⟩
theorem g3_u (i j : I8) (t : Env) (v : E2) : (i = j → g3 i (u3 j t v) = v) ∧ (i ≠ j → g3 i (u3 j t v) = g3 i t) := by
  cases i <;> cases j <;> first | exact ⟨fun _ => rfl, fun h => absurd rfl h⟩ | exact ⟨fun h => (by cases h), fun _ => rfl⟩
theorem get_upd (p : P3) (t : Env) (v : Value) : getE p (updE p t v) = v := by
  obtain ⟨x, y, z⟩ := p
  show g1 z (g2 y (g3 x (u3 x t _))) = v
  rw [(g3_u x x t _).1 rfl, (g2_u y y _ _).1 rfl, (g1_u z z _ _).1 rfl]
theorem get_upd_ne {p q : P3} (h : q ≠ p) (t : Env) (v : Value) : getE q (updE p t v) = getE q t := by
  obtain ⟨x, y, z⟩ := p
  obtain ⟨x', y', z'⟩ := q
  show g1 z' (g2 y' (g3 x' (u3 x t (u2 y (g3 x t) (u1 z (g2 y (g3 x t)) v))))) = g1 z' (g2 y' (g3 x' t))
  by_cases hx : x' = x
  · subst hx
    rw [(g3_u x' x' t _).1 rfl]
    by_cases hy : y' = y
    · subst hy
      rw [(g2_u y' y' _ _).1 rfl]
      have hz : z' ≠ z := fun e => h (by rw [e])
      rw [(g1_u z' z _ _).2 hz]
    · rw [(g2_u y' y _ _).2 hy]
  · rw [(g3_u x' x t _).2 hx]
def i8 (n : Nat) : I8 := match n with
  | 0 => .i0
  | 1 => .i1
  | 2 => .i2
  | 3 => .i3
  | 4 => .i4
  | 5 => .i5
  | 6 => .i6
  | _ => .i7
def path (i : Nat) : P3 := ⟨i8 (i / 64), i8 (i / 8 % 8), i8 (i % 8)⟩
theorem i8_inj : ∀ a b : Nat, a < 8 → b < 8 → i8 a = i8 b → a = b := by
  intro a b ha hb h
  have hA : a = 0 ∨ a = 1 ∨ a = 2 ∨ a = 3 ∨ a = 4 ∨ a = 5 ∨ a = 6 ∨ a = 7 := by omega
  have hB : b = 0 ∨ b = 1 ∨ b = 2 ∨ b = 3 ∨ b = 4 ∨ b = 5 ∨ b = 6 ∨ b = 7 := by omega
  rcases hA with rfl | rfl | rfl | rfl | rfl | rfl | rfl | rfl <;> rcases hB with rfl | rfl | rfl | rfl | rfl | rfl | rfl | rfl <;> first | rfl | (exfalso; revert h; simp [i8])
theorem path_inj {i j : Nat} (hi : i < 512) (hj : j < 512) (h : path i = path j) : i = j := by
  unfold path at h
  injection h with h1 h2 h3
  have e1 := i8_inj _ _ (by omega) (by omega) h1
  have e2 := i8_inj _ _ (by omega) (by omega) h2
  have e3 := i8_inj _ _ (by omega) (by omega) h3
  omega

/-- the tree holds the temporaries ts, nt of them -/
structure ERel (nt : Nat) (env : Env) (ts : List Value) : Prop where
  len : ts.length = nt
  le : nt ≤ 512
  get : ∀ i, i < nt → getE (path i) env = lget ts i
theorem lget_lset (ts : List Value) (d : Nat) (v : Value) (i : Nat) : lget (lset ts d v) i = if i = d ∧ d < ts.length then v else lget ts i := by
  rw [lset_eq, lget_eq, lget_eq, List.getElem?_set]
  by_cases h : d = i
  · subst h
    by_cases h2 : d < ts.length
    · simp [h2]
    · simp [h2]
  · have : ¬ i = d := fun e => h e.symm
    simp [h, this]
theorem ERel.set {nt : Nat} {env : Env} {ts : List Value} (h : ERel nt env ts) {d : Nat} (hd : d < nt) (v : Value) : ERel nt (updE (path d) env v) (lset ts d v) := by
  refine ⟨by rw [lset_eq, List.length_set]; exact h.len, h.le, fun i hi => ?_⟩
  have hle := h.le
  rw [lget_lset]
  by_cases e : i = d
  · subst e
    rw [get_upd, if_pos ⟨rfl, by rw [h.len]; exact hi⟩]
  · rw [if_neg (fun c => e c.1), get_upd_ne (fun c => e (path_inj (by omega) (by omega) c))]
    exact h.get i hi

/-! from a list -/
noncomputable def pop (l : List Value) (k : Value → List Value → Bool) : Bool := List.rec (motive := fun _ => (Value → List Value → Bool) → Bool) (fun k => k undef []) (fun a r _ k => k a r) l k
noncomputable def b1 (l : List Value) (k : E1 → List Value → Bool) : Bool := pop l fun a0 l => pop l fun a1 l => pop l fun a2 l => pop l fun a3 l => pop l fun a4 l => pop l fun a5 l => pop l fun a6 l => pop l fun a7 l => k (N8.mk a0 a1 a2 a3 a4 a5 a6 a7) l
def U1 : E1 := N8.mk undef undef undef undef undef undef undef undef
noncomputable def b1' (l : List Value) (k : E1 → List Value → Bool) : Bool := List.rec (motive := fun _ => (E1 → List Value → Bool) → Bool) (fun k => k U1 []) (fun a r _ k => b1 (a :: r) k) l k
noncomputable def b2 (l : List Value) (k : E2 → List Value → Bool) : Bool := b1' l fun a0 l => b1' l fun a1 l => b1' l fun a2 l => b1' l fun a3 l => b1' l fun a4 l => b1' l fun a5 l => b1' l fun a6 l => b1' l fun a7 l => k (N8.mk a0 a1 a2 a3 a4 a5 a6 a7) l
def U2 : E2 := N8.mk U1 U1 U1 U1 U1 U1 U1 U1
noncomputable def b2' (l : List Value) (k : E2 → List Value → Bool) : Bool := List.rec (motive := fun _ => (E2 → List Value → Bool) → Bool) (fun k => k U2 []) (fun a r _ k => b2 (a :: r) k) l k
noncomputable def fromL (l : List Value) (k : Env → Bool) : Bool := b2' l fun a0 l => b2' l fun a1 l => b2' l fun a2 l => b2' l fun a3 l => b2' l fun a4 l => b2' l fun a5 l => b2' l fun a6 l => b2' l fun a7 l => k (N8.mk a0 a1 a2 a3 a4 a5 a6 a7)
def e1 (f : Nat → Value) (s : Nat) : E1 := N8.mk (f (s + 0)) (f (s + 1)) (f (s + 2)) (f (s + 3)) (f (s + 4)) (f (s + 5)) (f (s + 6)) (f (s + 7))
def e2 (f : Nat → Value) (s : Nat) : E2 := N8.mk (e1 f (s + 0)) (e1 f (s + 8)) (e1 f (s + 16)) (e1 f (s + 24)) (e1 f (s + 32)) (e1 f (s + 40)) (e1 f (s + 48)) (e1 f (s + 56))
def e3 (f : Nat → Value) : Env := N8.mk (e2 f 0) (e2 f 64) (e2 f 128) (e2 f 192) (e2 f 256) (e2 f 320) (e2 f 384) (e2 f 448)
theorem pop_eq (l : List Value) (k : Value → List Value → Bool) : pop l k = k (lget l 0) (l.drop 1) := by cases l <;> rfl
theorem lget_drop (l : List Value) (s i : Nat) : lget (l.drop s) i = lget l (s + i) := by rw [lget_eq, lget_eq, List.getElem?_drop]
theorem b1_eq (l : List Value) (s : Nat) (k : E1 → List Value → Bool) : b1 (l.drop s) k = k (e1 (lget l) s) (l.drop (s + 8)) := by
  simp only [b1, pop_eq, lget_drop, List.drop_drop, Nat.add_assoc, Nat.reduceAdd, Nat.add_zero]
  rfl
theorem nil_e1 {l : List Value} {s : Nat} (h : l.drop s = []) : e1 (lget l) s = U1 := by
  have : ∀ i, lget l (s + i) = undef := fun i => by rw [← lget_drop, h]; rfl
  simp only [e1, this, U1]
theorem b1'_eq (l : List Value) (s : Nat) (k : E1 → List Value → Bool) : b1' (l.drop s) k = k (e1 (lget l) s) (l.drop (s + 8)) := by
  have h := b1_eq l s k
  cases hq : l.drop s with
  | nil =>
    rw [nil_e1 hq, show l.drop (s + 8) = [] by rw [← List.drop_drop, hq]; rfl]; rfl
  | cons a r => rw [hq] at h; exact h
theorem b2_eq (l : List Value) (s : Nat) (k : E2 → List Value → Bool) : b2 (l.drop s) k = k (e2 (lget l) s) (l.drop (s + 64)) := by
  simp only [b2, b1'_eq, Nat.add_assoc, Nat.reduceAdd]
  rfl
theorem nil_e2 {l : List Value} {s : Nat} (h : l.drop s = []) : e2 (lget l) s = U2 := by
  have : ∀ i, e1 (lget l) (s + i) = U1 := fun i => nil_e1 (by rw [← List.drop_drop, h]; exact List.drop_nil)
  simp only [e2, this, U2]
theorem b2'_eq (l : List Value) (s : Nat) (k : E2 → List Value → Bool) : b2' (l.drop s) k = k (e2 (lget l) s) (l.drop (s + 64)) := by
  have h := b2_eq l s k
  cases hq : l.drop s with
  | nil =>
    rw [nil_e2 hq, show l.drop (s + 64) = [] by rw [← List.drop_drop, hq]; rfl]; rfl
  | cons a r => rw [hq] at h; exact h
theorem fromL_eq (l : List Value) (k : Env → Bool) : fromL l k = k (e3 (lget l)) := by
  have h : ∀ k, b2' l k = k (e2 (lget l) 0) (l.drop (0 + 64)) := fun k => b2'_eq l 0 k
  simp only [fromL, h, b2'_eq, Nat.reduceAdd, Nat.zero_add]
  rfl
theorem g1_e (f : Nat → Value) (s i : Nat) (h : i < 8) : g1 (i8 i) (e1 f s) = f (s + i) := by
  have : i = 0 ∨ i = 1 ∨ i = 2 ∨ i = 3 ∨ i = 4 ∨ i = 5 ∨ i = 6 ∨ i = 7 := by omega
  rcases this with rfl | rfl | rfl | rfl | rfl | rfl | rfl | rfl <;> rfl
theorem g2_e (f : Nat → Value) (s i : Nat) (h : i < 8) : g2 (i8 i) (e2 f s) = e1 f (s + 8 * i) := by
  have : i = 0 ∨ i = 1 ∨ i = 2 ∨ i = 3 ∨ i = 4 ∨ i = 5 ∨ i = 6 ∨ i = 7 := by omega
  rcases this with rfl | rfl | rfl | rfl | rfl | rfl | rfl | rfl <;> rfl
theorem g3_e (f : Nat → Value) (i : Nat) (h : i < 8) : g3 (i8 i) (e3 f) = e2 f (64 * i) := by
  have : i = 0 ∨ i = 1 ∨ i = 2 ∨ i = 3 ∨ i = 4 ∨ i = 5 ∨ i = 6 ∨ i = 7 := by omega
  rcases this with rfl | rfl | rfl | rfl | rfl | rfl | rfl | rfl <;> rfl
theorem ERel.ofList {l : List Value} (h : l.length ≤ 512) : ERel l.length (e3 (lget l)) l := by
  refine ⟨rfl, h, fun i hi => ?_⟩
  show g1 (i8 (i % 8)) (g2 (i8 (i / 8 % 8)) (g3 (i8 (i / 64)) (e3 (lget l)))) = _
  rw [g3_e _ _ (by omega), g2_e _ _ _ (by omega), g1_e _ _ _ (by omega)]
  congr 1
  omega

/-! to a list -/
noncomputable def toLR : Nat → Nat → Env → List Value := Nat.rec (motive := fun _ => Nat → Env → List Value) (fun _ _ => []) (fun _ ih s env => getE (path s) env :: ih (Nat.succ s) env)
theorem toLR_get (env : Env) : ∀ (n s i : Nat), lget (toLR n s env) i = if i < n then getE (path (s + i)) env else undef := by
  intro n
  induction n with
  | zero => intro s i; simp [toLR, lget]
  | succ n ih =>
    intro s i
    show lget (getE (path s) env :: toLR n (Nat.succ s) env) i = _
    cases i with
    | zero => simp [lget]
    | succ i =>
      show lget (toLR n (Nat.succ s) env) i = _
      rw [ih, show Nat.succ s + i = s + (i + 1) by omega]
      simp only [Nat.add_lt_add_iff_right]
theorem toLR_len (env : Env) : ∀ (n s : Nat), (toLR n s env).length = n := by
  intro n
  induction n with
  | zero => intro s; rfl
  | succ n ih => intro s; show (toLR n (Nat.succ s) env).length + 1 = _; rw [ih]
theorem toLR_eq {nt : Nat} {env : Env} {ts : List Value} (h : ERel nt env ts) : toLR nt 0 env = ts := by
  apply List.ext_getElem?
  intro i
  have e1 := toLR_get env nt 0 i
  have e2 := toLR_len env nt 0
  rw [Nat.zero_add] at e1
  by_cases hi : i < nt
  · rw [if_pos hi, h.get i hi, lget_eq, lget_eq] at e1
    rw [List.getElem?_eq_getElem (by rw [e2]; exact hi), List.getElem?_eq_getElem (by rw [h.len]; exact hi)] at e1 ⊢
    simpa using e1
  · rw [List.getElem?_eq_none_iff.2 (by rw [e2]; omega), List.getElem?_eq_none_iff.2 (by rw [h.len]; omega)]
end Go.Vm
/- The quick machine: memory, what values are. -/
namespace Go.Vm
abbrev Objs := List (Nat × Obj)
noncomputable def findK : Objs → Nat → (Obj → Bool) → Bool := List.rec (motive := fun _ => Nat → (Obj → Bool) → Bool)
  (fun _ _ => false)
  (fun p _ ih b k => Prod.rec (motive := fun _ => (Nat → (Obj → Bool) → Bool) → Nat → (Obj → Bool) → Bool)
    (fun key o ih b k => Bool.rec (motive := fun _ => Obj → (Nat → (Obj → Bool) → Bool) → Nat → (Obj → Bool) → Bool) (fun _ ih b k => ih b k) (fun o _ _ k => k o) (Nat.beq key b) o ih b k) p ih b k)
noncomputable def putK : Objs → Nat → Obj → (Objs → Bool) → Bool := List.rec (motive := fun _ => Nat → Obj → (Objs → Bool) → Bool)
  (fun _ _ _ => false)
  (fun p r ih b x k => Prod.rec (motive := fun _ => Objs → (Nat → Obj → (Objs → Bool) → Bool) → Nat → Obj → (Objs → Bool) → Bool)
    (fun key o r ih b x k => Bool.rec (motive := fun _ => Nat → Obj → Objs → (Nat → Obj → (Objs → Bool) → Bool) → Nat → Obj → (Objs → Bool) → Bool)
      (fun key o _ ih b x k => ih b x fun r => k ((key, o) :: r)) (fun key _ r _ _ x k => k ((key, x) :: r)) (Nat.beq key b) key o r ih b x k) p r ih b x k)
theorem findK_true {l : Objs} {b : Nat} {k : Obj → Bool} (h : findK l b k = true) : ∃ o, find l b = some o ∧ k o = true := by
  induction l with
  | nil => cases h
  | cons p r ih =>
    obtain ⟨key, o⟩ := p
    have h : Bool.rec (motive := fun _ => Obj → (Nat → (Obj → Bool) → Bool) → Nat → (Obj → Bool) → Bool) (fun _ ih b k => ih b k) (fun o _ _ k => k o) (Nat.beq key b) o (findK r) b k = true := h
    simp only [find]
    cases hq : Nat.beq key b with
    | true => rw [hq] at h; exact ⟨o, rfl, h⟩
    | false => rw [hq] at h; exact ih h
theorem putK_true {l : Objs} {b : Nat} {x : Obj} {k : Objs → Bool} (h : putK l b x k = true) : (find l b).isSome = true ∧ k (put l b x) = true := by
  induction l generalizing k with
  | nil => cases h
  | cons p r ih =>
    obtain ⟨key, o⟩ := p
    have h : Bool.rec (motive := fun _ => Nat → Obj → Objs → (Nat → Obj → (Objs → Bool) → Bool) → Nat → Obj → (Objs → Bool) → Bool)
      (fun key o _ ih b x k => ih b x fun r => k ((key, o) :: r)) (fun key _ r _ _ x k => k ((key, x) :: r)) (Nat.beq key b) key o r (putK r) b x k = true := h
    simp only [find, put]
    cases hq : Nat.beq key b with
    | true => rw [hq] at h; exact ⟨rfl, h⟩
    | false => rw [hq] at h; exact ih h
theorem inb_put (b : Nat) (x : Obj) : ∀ (l : Objs) (m : Nat), inb m (put l b x) = inb m l
  | [], m => rfl
  | (key, o) :: r, m => by
    simp only [put]
    cases hq : Nat.beq key b with
    | true => rfl
    | false => simp only [inb]; rw [inb_put b x r]
theorem inb_up : ∀ (l : Objs) {m n : Nat}, m ≤ n → inb m l = true → inb n l = true
  | [], m, n, _, _ => rfl
  | (key, o) :: r, m, n, hmn, h => by
    simp only [inb, Bool.and_eq_true, Nat.blt_eq] at h ⊢
    exact ⟨by omega, h.2⟩
theorem inb_new {l : Objs} {n : Nat} (o : Obj) (h : inb n l = true) : inb (n + 1) ((n, o) :: l) = true := by
  simp only [inb, Bool.and_eq_true, Nat.blt_eq]
  exact ⟨by omega, h⟩
theorem inb_find {l : Objs} {n b : Nat} {o : Obj} (h : inb n l = true) (hf : find l b = some o) : b < n := (mem_inb l n h b o (find_mem l b o hf)).1

/-- what is left behind a call -/
noncomputable def dropG : Objs → Nat → (Objs → Bool) → Bool := List.rec (motive := fun _ => Nat → (Objs → Bool) → Bool)
  (fun _ k => k [])
  (fun p r ih n k => Bool.rec (motive := fun _ => (Nat × Obj) → Objs → (Nat → (Objs → Bool) → Bool) → Nat → (Objs → Bool) → Bool) (fun _ _ ih n k => ih n k) (fun p r _ _ k => k (p :: r)) (Nat.ble (Nat.succ p.1) n) p r ih n k)
noncomputable def memG : List Nat → Nat → Bool := List.rec (motive := fun _ => Nat → Bool) (fun _ => false) (fun x _ ih b => Bool.rec (motive := fun _ => Bool) (ih b) true (Nat.beq x b))
noncomputable def keepG : Objs → Nat → List Nat → (Objs → Bool) → Bool := List.rec (motive := fun _ => Nat → List Nat → (Objs → Bool) → Bool)
  (fun _ _ k => k [])
  (fun p r ih n l k => Bool.rec (motive := fun _ => (Nat × Obj) → Objs → (Nat → List Nat → (Objs → Bool) → Bool) → Nat → List Nat → (Objs → Bool) → Bool)
    (fun p _ ih n l k => Bool.rec (motive := fun _ => (Nat × Obj) → (Nat → List Nat → (Objs → Bool) → Bool) → Nat → List Nat → (Objs → Bool) → Bool) (fun _ ih n l k => ih n l k) (fun p ih n l k => ih n l fun r => k (p :: r)) (memG l p.1) p ih n l k)
    (fun p r _ _ _ k => k (p :: r)) (Nat.ble (Nat.succ p.1) n) p r ih n l k)
theorem memG_eq (l : List Nat) (b : Nat) : memG l b = memN b l := by
  induction l with
  | nil => rfl
  | cons x r ih =>
    show Bool.rec (motive := fun _ => Bool) (memG r b) true (Nat.beq x b) = _
    simp only [memN, ih]
    cases Nat.beq x b <;> rfl
theorem keepR_all (n : Nat) (l : List Nat) : ∀ (L : Objs) (m : Nat), m ≤ n → inb m L = true → keepR n l L = L
  | [], _, _, _ => rfl
  | (key, o) :: r, m, hm, h => by
    simp only [inb, Bool.and_eq_true, Nat.blt_eq] at h
    have : Nat.blt key n = true := by rw [Nat.blt_eq]; omega
    simp only [keepR, this, Bool.true_or]
    rw [keepR_all n l r key (by omega) h.2]
theorem keepG_eq (n : Nat) (l : List Nat) : ∀ (L : Objs) (m : Nat) (k : Objs → Bool), inb m L = true → keepG L n l k = k (keepR n l L)
  | [], m, k, _ => rfl
  | (key, o) :: r, m, k, h => by
    simp only [inb, Bool.and_eq_true, Nat.blt_eq] at h
    have hr : inb key r = true := h.2
    have e : keepG ((key, o) :: r) n l k = Bool.rec (motive := fun _ => (Nat × Obj) → Objs → (Nat → List Nat → (Objs → Bool) → Bool) → Nat → List Nat → (Objs → Bool) → Bool)
      (fun p _ ih n l k => Bool.rec (motive := fun _ => (Nat × Obj) → (Nat → List Nat → (Objs → Bool) → Bool) → Nat → List Nat → (Objs → Bool) → Bool) (fun _ ih n l k => ih n l k) (fun p ih n l k => ih n l fun r => k (p :: r)) (memG l p.1) p ih n l k)
      (fun p r _ _ _ k => k (p :: r)) (Nat.ble (Nat.succ key) n) (key, o) r (keepG r) n l k := rfl
    rw [e]
    have eb : Nat.ble (Nat.succ key) n = Nat.blt key n := rfl
    rw [eb]
    simp only [keepR]
    cases hq : Nat.blt key n with
    | true =>
      rw [Nat.blt_eq] at hq
      simp only [Bool.true_or]
      rw [keepR_all n l r key (by omega) hr]
    | false =>
      simp only [Bool.false_or]
      rw [memG_eq]
      cases memN key l with
      | true => exact keepG_eq n l r key _ hr
      | false => exact keepG_eq n l r key _ hr
theorem dropG_eq (n : Nat) : ∀ (L : Objs) (m : Nat) (k : Objs → Bool), inb m L = true → dropG L n k = k (keepR n [] L)
  | [], m, k, _ => rfl
  | (key, o) :: r, m, k, h => by
    simp only [inb, Bool.and_eq_true, Nat.blt_eq] at h
    have hr : inb key r = true := h.2
    have e : dropG ((key, o) :: r) n k = Bool.rec (motive := fun _ => (Nat × Obj) → Objs → (Nat → (Objs → Bool) → Bool) → Nat → (Objs → Bool) → Bool) (fun _ _ ih n k => ih n k) (fun p r _ _ k => k (p :: r)) (Nat.ble (Nat.succ key) n) (key, o) r (dropG r) n k := rfl
    rw [e]
    have eb : Nat.ble (Nat.succ key) n = Nat.blt key n := rfl
    rw [eb]
    simp only [keepR]
    cases hq : Nat.blt key n with
    | true =>
      rw [Nat.blt_eq] at hq
      simp only [Bool.true_or]
      rw [keepR_all n [] r key (by omega) hr]
    | false =>
      simp only [Bool.false_or, memN]
      exact dropG_eq n r key k hr
theorem inb_keepR (n : Nat) (l : List Nat) : ∀ (L : Objs) (m : Nat), inb m L = true → inb m (keepR n l L) = true
  | [], m, _ => rfl
  | (key, o) :: r, m, h => by
    simp only [inb, Bool.and_eq_true, Nat.blt_eq] at h
    simp only [keepR]
    split
    · simp only [inb, Bool.and_eq_true, Nat.blt_eq]; exact ⟨h.1, inb_keepR n l r key h.2⟩
    · exact inb_up _ (Nat.le_of_lt h.1) (inb_keepR n l r key h.2)
noncomputable def inbG : Objs → Nat → Bool := List.rec (motive := fun _ => Nat → Bool) (fun _ => true) (fun p _ ih m => Bool.rec (motive := fun _ => (Nat × Obj) → (Nat → Bool) → Bool) (fun _ _ => false) (fun p ih => ih p.1) (Nat.ble (Nat.succ p.1) m) p ih)
theorem inbG_eq : ∀ (l : Objs) (m : Nat), inbG l m = inb m l
  | [], m => rfl
  | (key, o) :: r, m => by
    have e : inbG ((key, o) :: r) m = Bool.rec (motive := fun _ => (Nat × Obj) → (Nat → Bool) → Bool) (fun _ _ => false) (fun p ih => ih p.1) (Nat.blt key m) (key, o) (inbG r) := rfl
    rw [e]
    simp only [inb]
    cases Nat.blt key m with
    | true => exact inbG_eq r key
    | false => rfl

/-! lists -/
noncomputable def nthK : List Value → Nat → (Value → Bool) → Bool := List.rec (motive := fun _ => Nat → (Value → Bool) → Bool) (fun _ _ => false)
  (fun x _ ih i k => Nat.rec (motive := fun _ => Value → (Nat → (Value → Bool) → Bool) → (Value → Bool) → Bool) (fun x _ k => k x) (fun j _ _ ih k => ih j k) i x ih k)
noncomputable def setK : List Value → Nat → Value → (List Value → Bool) → Bool := List.rec (motive := fun _ => Nat → Value → (List Value → Bool) → Bool) (fun _ _ _ => false)
  (fun x r ih i v k => Nat.rec (motive := fun _ => Value → List Value → (Nat → Value → (List Value → Bool) → Bool) → Value → (List Value → Bool) → Bool) (fun _ r _ v k => k (v :: r)) (fun j _ x _ ih v k => ih j v fun r => k (x :: r)) i x r ih v k)
noncomputable def dropK : Nat → List Value → (List Value → Bool) → Bool := Nat.rec (motive := fun _ => List Value → (List Value → Bool) → Bool) (fun l k => k l)
  (fun _ ih l k => List.rec (motive := fun _ => (List Value → (List Value → Bool) → Bool) → (List Value → Bool) → Bool) (fun _ k => k []) (fun _ r _ ih k => ih r k) l ih k)
noncomputable def cutK : Nat → List Value → (List Value → Bool) → Bool := Nat.rec (motive := fun _ => List Value → (List Value → Bool) → Bool) (fun _ k => k [])
  (fun _ ih l k => List.rec (motive := fun _ => (List Value → (List Value → Bool) → Bool) → (List Value → Bool) → Bool) (fun _ _ => false) (fun x r _ ih k => ih r fun r => k (x :: r)) l ih k)
theorem nthK_true : ∀ {l : List Value} {i : Nat} {k : Value → Bool}, nthK l i k = true → ∃ v, l[i]? = some v ∧ k v = true
  | [], i, k, h => by cases h
  | x :: r, 0, k, h => ⟨x, rfl, h⟩
  | x :: r, i + 1, k, h => by
    have h : nthK r i k = true := h
    obtain ⟨v, h1, h2⟩ := nthK_true h
    exact ⟨v, by simpa using h1, h2⟩
theorem setK_true : ∀ {l : List Value} {i : Nat} {v : Value} {k : List Value → Bool}, setK l i v k = true → i < l.length ∧ k (l.set i v) = true
  | [], i, v, k, h => by cases h
  | x :: r, 0, v, k, h => ⟨by simp, h⟩
  | x :: r, i + 1, v, k, h => by
    have h : setK r i v (fun r => k (x :: r)) = true := h
    obtain ⟨h1, h2⟩ := setK_true h
    exact ⟨by simpa using h1, h2⟩
theorem dropK_eq : ∀ (n : Nat) (l : List Value) (k : List Value → Bool), dropK n l k = k (l.drop n)
  | 0, l, k => rfl
  | n + 1, [], k => rfl
  | n + 1, x :: r, k => dropK_eq n r k
theorem cutK_true : ∀ {n : Nat} {l : List Value} {k : List Value → Bool}, cutK n l k = true → ∃ m, cut n l = some m ∧ k m = true
  | 0, l, k, h => ⟨[], by cases l <;> rfl, h⟩
  | n + 1, [], k, h => by cases h
  | n + 1, x :: r, k, h => by
    have h : cutK n r (fun r => k (x :: r)) = true := h
    obtain ⟨m, h1, h2⟩ := cutK_true h
    exact ⟨x :: m, by simp only [cut, h1], h2⟩
noncomputable def fNr (n : Nat) (k : Nat → Bool) : Bool := Nat.rec (motive := fun _ => (Nat → Bool) → Bool) (fun k => k 0) (fun m _ k => k (Nat.succ m)) n k
theorem fNr_eq (n : Nat) (k : Nat → Bool) : fNr n k = k n := by cases n <;> rfl
/-- either of two -/
noncomputable def ifB (b : Bool) (x y : Bool) : Bool := Bool.rec (motive := fun _ => Bool) y x b

/-! what an object is -/
noncomputable def asCells : Obj → (List Value → TypeId → Nat → Nat → Bool) → Bool := Obj.rec (motive := fun _ => (List Value → TypeId → Nat → Nat → Bool) → Bool)
  (fun c e fz k => Array.rec (motive := fun _ => TypeId → Nat × Nat → (List Value → TypeId → Nat → Nat → Bool) → Bool) (fun l e fz k => Prod.rec (motive := fun _ => List Value → TypeId → (List Value → TypeId → Nat → Nat → Bool) → Bool) (fun x y l e k => k l e x y) fz l e k) c e fz k)
  (fun _ _ k => false)
  (fun _ _ k => false)
  (fun _ _ k => false)
  (fun _ _ k => false)
  (fun _ _ _ _ _ _ k => false)
  (fun _ _ k => false)
  (fun _ _ _ _ k => false)
  (fun _ k => false)
  (fun _ k => false)
  (fun _ k => false)
  (fun _ _ k => false)
noncomputable def asLoop : Obj → (Loop → Bool) → Bool := Obj.rec (motive := fun _ => (Loop → Bool) → Bool)
  (fun _ _ _ k => false)
  (fun _ _ k => false)
  (fun _ _ k => false)
  (fun _ _ k => false)
  (fun _ _ k => false)
  (fun _ _ _ _ _ _ k => false)
  (fun _ _ k => false)
  (fun _ _ _ _ k => false)
  (fun r k => k r)
  (fun _ k => false)
  (fun _ k => false)
  (fun _ _ k => false)
theorem asCells_true {o : Obj} {k : List Value → TypeId → Nat → Nat → Bool} (h : asCells o k = true) : ∃ l e x y, o = .cells ⟨l⟩ e (x, y) ∧ k l e x y = true := by
  cases o with
  | cells c e fz => obtain ⟨l⟩ := c; obtain ⟨x, y⟩ := fz; exact ⟨l, e, x, y, rfl, h⟩
  | _ => cases h
theorem asLoop_true {o : Obj} {k : Loop → Bool} (h : asLoop o k = true) : ∃ r, o = .loop r ∧ k r = true := by
  cases o with
  | loop r => exact ⟨r, rfl, h⟩
  | _ => cases h

/-! what a value is: a way on, and another one if it is something else -/
noncomputable def asI64 : Value → (Int → Bool) → Bool → Bool := Value.rec (motive_1 := fun _ => (Int → Bool) → Bool → Bool) (motive_2 := fun _ => Unit) (motive_3 := fun _ => Unit)
  (fun _ _ s => s)
  (fun kd n k s => IntKind.rec (motive := fun _ => Int → (Int → Bool) → Bool → Bool) (fun _ _ s => s) (fun _ _ s => s) (fun _ _ s => s) (fun n k _ => k n) (fun _ _ s => s) (fun _ _ s => s) (fun _ _ s => s) (fun _ _ s => s) kd n k s)
  (fun _ _ k s => s)
  (fun _ _ _ k s => s)
  (fun _ _ s => s)
  (fun _ _ s => s)
  (fun _ _ _ k s => s)
  (fun _ _ s => s)
  (fun _ _ s => s)
  (fun _ _ _ _ _ k s => s)
  (fun k s => s)
  (fun _ _ _ k s => s)
  (fun k s => s)
  (fun _ _ k s => s)
  (fun _ _ k s => s)
  (fun _ _ => ()) () (fun _ _ _ _ => ())
noncomputable def asB : Value → (Bool → Bool) → Bool → Bool := Value.rec (motive_1 := fun _ => (Bool → Bool) → Bool → Bool) (motive_2 := fun _ => Unit) (motive_3 := fun _ => Unit)
  (fun b k s => k b)
  (fun _ _ k s => s)
  (fun _ _ k s => s)
  (fun _ _ _ k s => s)
  (fun _ k s => s)
  (fun _ k s => s)
  (fun _ _ _ k s => s)
  (fun _ k s => s)
  (fun _ k s => s)
  (fun _ _ _ _ _ k s => s)
  (fun k s => s)
  (fun _ _ _ k s => s)
  (fun k s => s)
  (fun _ _ k s => s)
  (fun _ _ k s => s)
  (fun _ _ => ()) () (fun _ _ _ _ => ())
noncomputable def asPtr : Value → (Nat → Nat → Bool) → Bool → Bool := Value.rec (motive_1 := fun _ => (Nat → Nat → Bool) → Bool → Bool) (motive_2 := fun _ => Unit) (motive_3 := fun _ => Unit)
  (fun _ k s => s)
  (fun _ _ k s => s)
  (fun _ _ k s => s)
  (fun _ _ _ k s => s)
  (fun _ k s => s)
  (fun a k s => Option.rec (motive := fun _ => (Nat → Nat → Bool) → Bool → Bool) (fun _ s => s) (fun a k s => Addr.rec (motive := fun _ => (Nat → Nat → Bool) → Bool → Bool) (fun b o sp k s => Option.rec (motive := fun _ => Nat → Nat → (Nat → Nat → Bool) → Bool → Bool) (fun b o k _ => k b o) (fun _ _ _ _ s => s) sp b o k s) a k s) a k s)
  (fun _ _ _ k s => s)
  (fun _ k s => s)
  (fun _ k s => s)
  (fun _ _ _ _ _ k s => s)
  (fun k s => s)
  (fun _ _ _ k s => s)
  (fun k s => s)
  (fun _ _ k s => s)
  (fun _ _ k s => s)
  (fun _ _ => ()) () (fun _ _ _ _ => ())
noncomputable def asSl : Value → (Nat → Nat → Nat → Nat → Bool) → Bool → Bool := Value.rec (motive_1 := fun _ => (Nat → Nat → Nat → Nat → Bool) → Bool → Bool) (motive_2 := fun _ => Unit) (motive_3 := fun _ => Unit)
  (fun _ k s => s)
  (fun _ _ k s => s)
  (fun _ _ k s => s)
  (fun _ _ _ k s => s)
  (fun _ k s => s)
  (fun _ k s => s)
  (fun a n c k s => Option.rec (motive := fun _ => Nat → Nat → (Nat → Nat → Nat → Nat → Bool) → Bool → Bool) (fun _ _ _ s => s) (fun a n c k s => Addr.rec (motive := fun _ => Nat → Nat → (Nat → Nat → Nat → Nat → Bool) → Bool → Bool) (fun b o sp n c k s => Option.rec (motive := fun _ => Nat → Nat → Nat → Nat → (Nat → Nat → Nat → Nat → Bool) → Bool → Bool) (fun b o n c k _ => k b o n c) (fun _ _ _ _ _ _ s => s) sp b o n c k s) a n c k s) a n c k s)
  (fun _ k s => s)
  (fun _ k s => s)
  (fun _ _ _ _ _ k s => s)
  (fun k s => s)
  (fun _ _ _ k s => s)
  (fun k s => s)
  (fun _ _ k s => s)
  (fun _ _ k s => s)
  (fun _ _ => ()) () (fun _ _ _ _ => ())
noncomputable def asTup : Value → (List Value → Bool) → Bool → Bool := Value.rec (motive_1 := fun _ => (List Value → Bool) → Bool → Bool) (motive_2 := fun _ => Unit) (motive_3 := fun _ => Unit)
  (fun _ k s => s)
  (fun _ _ k s => s)
  (fun _ _ k s => s)
  (fun _ _ _ k s => s)
  (fun _ k s => s)
  (fun _ k s => s)
  (fun _ _ _ k s => s)
  (fun _ k s => s)
  (fun _ k s => s)
  (fun _ _ _ _ _ k s => s)
  (fun k s => s)
  (fun _ _ _ k s => s)
  (fun k s => s)
  (fun _ _ k s => s)
  (fun c _ k s => Array.rec (motive := fun _ => (List Value → Bool) → Bool) (fun l k => k l) c k)
  (fun _ _ => ()) () (fun _ _ _ _ => ())
noncomputable def asAgg : Value → (List Value → Bool) → Bool → Bool := Value.rec (motive_1 := fun _ => (List Value → Bool) → Bool → Bool) (motive_2 := fun _ => Unit) (motive_3 := fun _ => Unit)
  (fun _ k s => s)
  (fun _ _ k s => s)
  (fun _ _ k s => s)
  (fun _ _ _ k s => s)
  (fun _ k s => s)
  (fun _ k s => s)
  (fun _ _ _ k s => s)
  (fun _ k s => s)
  (fun _ k s => s)
  (fun _ _ _ _ _ k s => s)
  (fun k s => s)
  (fun _ _ _ k s => s)
  (fun k s => s)
  (fun c _ k s => Array.rec (motive := fun _ => (List Value → Bool) → Bool) (fun l k => k l) c k)
  (fun _ _ k s => s)
  (fun _ _ => ()) () (fun _ _ _ _ => ())
noncomputable def asOne : Value → Bool → Bool → Bool := Value.rec (motive_1 := fun _ => Bool → Bool → Bool) (motive_2 := fun _ => Unit) (motive_3 := fun _ => Unit)
  (fun _ k s => k)
  (fun _ _ k s => k)
  (fun _ _ k s => k)
  (fun _ _ _ k s => k)
  (fun _ k s => k)
  (fun _ k s => k)
  (fun _ _ _ k s => k)
  (fun _ k s => k)
  (fun _ k s => k)
  (fun _ _ _ _ _ k s => k)
  (fun k s => k)
  (fun _ _ _ k s => k)
  (fun k s => k)
  (fun _ _ k s => s)
  (fun _ _ k s => s)
  (fun _ _ => ()) () (fun _ _ _ _ => ())
noncomputable def asFn : Value → (Nat → List Value → List Value → Bool) → (Nat → List Value → Bool) → Bool → Bool := Value.rec (motive_1 := fun _ => (Nat → List Value → List Value → Bool) → (Nat → List Value → Bool) → Bool → Bool) (motive_2 := fun _ => Unit) (motive_3 := fun _ => Unit)
  (fun _ k y s => s)
  (fun _ _ k y s => s)
  (fun _ _ k y s => s)
  (fun _ _ _ k y s => s)
  (fun _ k y s => s)
  (fun _ k y s => s)
  (fun _ _ _ k y s => s)
  (fun _ k y s => s)
  (fun _ k y s => s)
  (fun fn a b _ _ k y s => Array.rec (motive := fun _ => Fn → Array Value → (Nat → List Value → List Value → Bool) → (Nat → List Value → Bool) → Bool → Bool) (fun la fn b k y s => Array.rec (motive := fun _ => Fn → List Value → (Nat → List Value → List Value → Bool) → (Nat → List Value → Bool) → Bool → Bool) (fun lb fn la k y s => Fn.rec (motive := fun _ => List Value → List Value → (Nat → List Value → List Value → Bool) → (Nat → List Value → Bool) → Bool → Bool) (fun g la lb k _ _ => k g la lb) (fun _ _ _ _ _ s => s) (fun _ _ _ _ _ _ s => s) (fun _ _ _ _ _ _ _ _ s => s) (fun l la _ _ y _ => y l la) fn la lb k y s) b fn la k y s) a fn b k y s)
  (fun k y s => s)
  (fun _ _ _ k y s => s)
  (fun k y s => s)
  (fun _ _ k y s => s)
  (fun _ _ k y s => s)
  (fun _ _ => ()) () (fun _ _ _ _ => ())
theorem asI64_true {v : Value} {k : Int → Bool} {s : Bool} (h : asI64 v k s = true) : (∃ n, v = .int .i64 n ∧ k n = true) ∨ s = true := by
  cases v with
  | int kd n => cases kd <;> first | exact .inl ⟨n, rfl, h⟩ | exact .inr h
  | _ => exact .inr h
theorem asB_true {v : Value} {k : Bool → Bool} {s : Bool} (h : asB v k s = true) : (∃ b, v = .bool b ∧ k b = true) ∨ s = true := by
  cases v with
  | bool b => exact .inl ⟨b, rfl, h⟩
  | _ => exact .inr h
theorem asPtr_true {v : Value} {k : Nat → Nat → Bool} {s : Bool} (h : asPtr v k s = true) : (∃ b o, v = .pointer (some ⟨b, o, none⟩) ∧ k b o = true) ∨ s = true := by
  cases v with
  | pointer a =>
    cases a with
    | none => exact .inr h
    | some a =>
      obtain ⟨b, o, sp⟩ := a
      cases sp with
      | none => exact .inl ⟨b, o, rfl, h⟩
      | some x => exact .inr h
  | _ => exact .inr h
theorem asSl_true {v : Value} {k : Nat → Nat → Nat → Nat → Bool} {s : Bool} (h : asSl v k s = true) : (∃ b o n c, v = .slice (some ⟨b, o, none⟩) n c ∧ k b o n c = true) ∨ s = true := by
  cases v with
  | slice a n c =>
    cases a with
    | none => exact .inr h
    | some a =>
      obtain ⟨b, o, sp⟩ := a
      cases sp with
      | none => exact .inl ⟨b, o, n, c, rfl, h⟩
      | some x => exact .inr h
  | _ => exact .inr h
theorem asTup_true {v : Value} {k : List Value → Bool} {s : Bool} (h : asTup v k s = true) : (∃ l, v = .tuple ⟨l⟩ ∧ k l = true) ∨ s = true := by
  cases v with
  | tuple c => obtain ⟨l⟩ := c; exact .inl ⟨l, rfl, h⟩
  | _ => exact .inr h
theorem asAgg_true {v : Value} {k : List Value → Bool} {s : Bool} (h : asAgg v k s = true) : (∃ l, v = .agg ⟨l⟩ ∧ k l = true) ∨ s = true := by
  cases v with
  | agg c => obtain ⟨l⟩ := c; exact .inl ⟨l, rfl, h⟩
  | _ => exact .inr h
theorem asOne_true {v : Value} {k s : Bool} (h : asOne v k s = true) : (one v = true ∧ v.cells = #[v] ∧ k = true) ∨ s = true := by
  cases v <;> first | exact .inl ⟨rfl, rfl, h⟩ | exact .inr h
theorem asFn_true {v : Value} {k : Nat → List Value → List Value → Bool} {y : Nat → List Value → Bool} {s : Bool} (h : asFn v k y s = true) :
    (∃ g a b, v = .func (.func g) ⟨a⟩ ⟨b⟩ ∧ k g a b = true) ∨ (∃ l a b, v = .func (.yield l) ⟨a⟩ b ∧ y l a = true) ∨ s = true := by
  cases v with
  | func fn a b =>
    obtain ⟨a⟩ := a
    obtain ⟨b⟩ := b
    cases fn with
    | func g => exact .inl ⟨g, a, b, rfl, h⟩
    | yield l => exact .inr (.inl ⟨l, a, _, rfl, h⟩)
    | _ => exact .inr (.inr h)
  | _ => exact .inr (.inr h)
end Go.Vm
/- The quick machine: operations that leave the memory as it is. -/
namespace Go.Vm
variable {P : Program}

inductive Opd
  | t (p : P3)
  | c (v : Value)
def opdD (x : Operand) : Opd := match x with
  | .tmp t => .t (path t)
  | .const v => .c v
  | .func f => .c (.func (.func f) #[] #[])
  | .global _ => .c undef
def okSlot (nt : Nat) (x : Operand) : Bool := match x with
  | .tmp t => Nat.blt t nt
  | .const v => flatN 3 v
  | .func _ => true
  | .global _ => false
noncomputable def getO (x : Opd) (env : Env) : Value := Opd.rec (motive := fun _ => Env → Value) (fun p env => getE p env) (fun v _ => v) x env
theorem getO_eq {nt : Nat} {env : Env} {ts : List Value} (h : ERel nt env ts) {x : Operand} (hx : okSlot nt x = true) : getO (opdD x) env = ev ts x := by
  cases x with
  | tmp t =>
    simp only [okSlot, Nat.blt_eq] at hx
    exact h.get t hx
  | const v => rfl
  | global g => cases hx
  | func f => rfl
noncomputable def evE (nt : Nat) (env : Env) (x : Operand) : Value := match x with
  | .tmp t => match Nat.blt t nt with
    | true => getE (path t) env
    | false => undef
  | .const v => v
  | .global g => .pointer (some ⟨g, 0, none⟩)
  | .func f => .func (.func f) #[] #[]
theorem evE_eq {nt : Nat} {env : Env} {ts : List Value} (h : ERel nt env ts) : evE nt env = ev ts := by
  funext x
  cases x with
  | tmp t =>
    simp only [evE, ev]
    cases hq : Nat.blt t nt with
    | true => rw [Nat.blt_eq] at hq; exact h.get t hq
    | false =>
      have : nt ≤ t := by
        rcases Nat.lt_or_ge t nt with h1 | h1
        · rw [← Nat.blt_eq] at h1; rw [h1] at hq; cases hq
        · exact h1
      rw [lget_eq, List.getElem?_eq_none_iff.2 (by rw [h.len]; exact this)]
      rfl
  | _ => rfl

/-! whole numbers -/
noncomputable def mkN (r : Nat) (K : Value → Bool) (s : Bool) : Bool := Bool.rec (motive := fun _ => Nat → (Value → Bool) → Bool → Bool) (fun _ _ s => s) (fun r K _ => fNr r fun r => K (.int .i64 (.ofNat r))) (Nat.ble r 9223372036854775807) r K s
noncomputable def mkM (r : Nat) (K : Value → Bool) (s : Bool) : Bool := Bool.rec (motive := fun _ => Nat → (Value → Bool) → Bool → Bool) (fun _ _ s => s) (fun r K _ => fNr r fun r => K (.int .i64 (.negSucc r))) (Nat.ble r 9223372036854775807) r K s
noncomputable def difG (p q : Nat) (K : Value → Bool) (s : Bool) : Bool := Bool.rec (motive := fun _ => Nat → Nat → (Value → Bool) → Bool → Bool) (fun p q K s => mkM (Nat.sub q (Nat.succ p)) K s) (fun p q K s => mkN (Nat.sub p q) K s) (Nat.ble q p) p q K s
noncomputable def negG (r : Nat) (K : Value → Bool) (s : Bool) : Bool := Nat.rec (motive := fun _ => (Value → Bool) → Bool → Bool) (fun K _ => K (.int .i64 (.ofNat 0))) (fun j _ K s => mkM j K s) r K s
noncomputable def mkB (b : Bool) (K : Value → Bool) : Bool := Bool.rec (motive := fun _ => (Value → Bool) → Bool) (fun K => K (.bool false)) (fun K => K (.bool true)) b K
/-- K has a number within bounds -/
def Got (z : Int) (K : Value → Bool) : Prop := -9223372036854775808 ≤ z ∧ z ≤ 9223372036854775807 ∧ K (.int .i64 z) = true
theorem mkN_true {r : Nat} {K : Value → Bool} {s : Bool} (h : mkN r K s = true) : Got r K ∨ s = true := by
  unfold mkN at h
  cases hq : Nat.ble r 9223372036854775807 with
  | true =>
    rw [hq] at h
    simp only [fNr_eq] at h
    have := Nat.le_of_ble_eq_true hq
    exact .inl ⟨by omega, by omega, h⟩
  | false => rw [hq] at h; exact .inr h
theorem mkM_true {r : Nat} {K : Value → Bool} {s : Bool} (h : mkM r K s = true) : Got (Int.negSucc r) K ∨ s = true := by
  unfold mkM at h
  cases hq : Nat.ble r 9223372036854775807 with
  | true =>
    rw [hq] at h
    simp only [fNr_eq] at h
    have := Nat.le_of_ble_eq_true hq
    exact .inl ⟨by omega, by omega, h⟩
  | false => rw [hq] at h; exact .inr h
theorem difG_true {p q : Nat} {K : Value → Bool} {s : Bool} (h : difG p q K s = true) : Got ((p : Int) - q) K ∨ s = true := by
  unfold difG at h
  cases hq : Nat.ble q p with
  | true =>
    rw [hq] at h
    have hle := Nat.le_of_ble_eq_true hq
    have e : ((Nat.sub p q : Nat) : Int) = (p : Int) - q := by show ((p - q : Nat) : Int) = _; omega
    have := mkN_true h
    rwa [e] at this
  | false =>
    rw [hq] at h
    have hlt : p < q := by
      rcases Nat.lt_or_ge p q with h1 | h1
      · exact h1
      · rw [Nat.ble_eq_true_of_le h1] at hq; cases hq
    have e : Int.negSucc (Nat.sub q (Nat.succ p)) = (p : Int) - q := by show Int.negSucc (q - (p + 1)) = _; omega
    have := mkM_true h
    rwa [e] at this
theorem negG_true {r : Nat} {K : Value → Bool} {s : Bool} (h : negG r K s = true) : Got (-(r : Int)) K ∨ s = true := by
  cases r with
  | zero => exact .inl ⟨by decide, by decide, h⟩
  | succ j => exact mkM_true h
noncomputable def int2 (nn nm mn mm : Nat → Nat → (Value → Bool) → Bool → Bool) (a b : Int) (K : Value → Bool) (s : Bool) : Bool :=
  Int.rec (motive := fun _ => Int → (Value → Bool) → Bool → Bool)
    (fun p b K s => Int.rec (motive := fun _ => Nat → (Value → Bool) → Bool → Bool) (fun q p K s => nn p q K s) (fun q p K s => nm p q K s) b p K s)
    (fun p b K s => Int.rec (motive := fun _ => Nat → (Value → Bool) → Bool → Bool) (fun q p K s => mn p q K s) (fun q p K s => mm p q K s) b p K s) a b K s
noncomputable def addI : Int → Int → (Value → Bool) → Bool → Bool := int2 (fun p q => mkN (Nat.add p q)) (fun p q => difG p (Nat.succ q)) (fun p q => difG q (Nat.succ p)) (fun p q => mkM (Nat.succ (Nat.add p q)))
noncomputable def subI : Int → Int → (Value → Bool) → Bool → Bool := int2 (fun p q => difG p q) (fun p q => mkN (Nat.succ (Nat.add p q))) (fun p q => mkM (Nat.add p q)) (fun p q => difG q p)
noncomputable def mulI : Int → Int → (Value → Bool) → Bool → Bool := int2 (fun p q => mkN (Nat.mul p q)) (fun p q => negG (Nat.mul p (Nat.succ q))) (fun p q => negG (Nat.mul (Nat.succ p) q)) (fun p q => mkN (Nat.mul (Nat.succ p) (Nat.succ q)))
noncomputable def notB (b : Bool) : Bool := Bool.rec (motive := fun _ => Bool) true false b
noncomputable def eqI : Int → Int → (Value → Bool) → Bool → Bool := int2 (fun p q K _ => mkB (Nat.beq p q) K) (fun _ _ K _ => K (.bool false)) (fun _ _ K _ => K (.bool false)) (fun p q K _ => mkB (Nat.beq p q) K)
noncomputable def neI : Int → Int → (Value → Bool) → Bool → Bool := int2 (fun p q K _ => mkB (notB (Nat.beq p q)) K) (fun _ _ K _ => K (.bool true)) (fun _ _ K _ => K (.bool true)) (fun p q K _ => mkB (notB (Nat.beq p q)) K)
noncomputable def ltI : Int → Int → (Value → Bool) → Bool → Bool := int2 (fun p q K _ => mkB (Nat.ble (Nat.succ p) q) K) (fun _ _ K _ => K (.bool false)) (fun _ _ K _ => K (.bool true)) (fun p q K _ => mkB (Nat.ble (Nat.succ q) p) K)
noncomputable def leI : Int → Int → (Value → Bool) → Bool → Bool := int2 (fun p q K _ => mkB (Nat.ble p q) K) (fun _ _ K _ => K (.bool false)) (fun _ _ K _ => K (.bool true)) (fun p q K _ => mkB (Nat.ble q p) K)
noncomputable def binI : BinOp → Int → Int → (Value → Bool) → Bool → Bool := BinOp.rec (motive := fun _ => Int → Int → (Value → Bool) → Bool → Bool)
  addI subI mulI (fun _ _ _ s => s) (fun _ _ _ s => s) (fun _ _ _ s => s) (fun _ _ _ s => s) (fun _ _ _ s => s) (fun _ _ _ s => s) (fun _ _ _ s => s) (fun _ _ _ s => s)
  eqI neI ltI leI (fun a b => ltI b a) (fun a b => leI b a)
theorem wrap_in {z : Int} (h1 : -9223372036854775808 ≤ z) (h2 : z ≤ 9223372036854775807) : IntKind.wrap .i64 z = z := by
  simp [IntKind.wrap, IntKind.bits, IntKind.signed]
  omega
theorem mkB_eq (b : Bool) (K : Value → Bool) : mkB b K = K (.bool b) := by cases b <;> rfl
theorem notB_eq (b : Bool) : notB b = !b := by cases b <;> rfl
theorem addI_true {a b : Int} {K : Value → Bool} {s : Bool} (h : addI a b K s = true) : Got (a + b) K ∨ s = true := by
  cases a with
  | ofNat p => cases b with
    | ofNat q => exact (mkN_true h).imp (fun h => by rwa [show ((Nat.add p q : Nat) : Int) = (p : Int) + q from rfl] at h) id
    | negSucc q => exact (difG_true h).imp (fun h => by rwa [show (p : Int) - ((Nat.succ q : Nat) : Int) = Int.ofNat p + Int.negSucc q by rw [Int.ofNat_eq_natCast]; omega] at h) id
  | negSucc p => cases b with
    | ofNat q => exact (difG_true h).imp (fun h => by rwa [show (q : Int) - ((Nat.succ p : Nat) : Int) = Int.negSucc p + Int.ofNat q by rw [Int.ofNat_eq_natCast]; omega] at h) id
    | negSucc q => exact (mkM_true h).imp (fun h => by rwa [show Int.negSucc (Nat.succ (Nat.add p q)) = Int.negSucc p + Int.negSucc q from rfl] at h) id
theorem subI_true {a b : Int} {K : Value → Bool} {s : Bool} (h : subI a b K s = true) : Got (a - b) K ∨ s = true := by
  cases a with
  | ofNat p => cases b with
    | ofNat q => exact difG_true h
    | negSucc q => exact (mkN_true h).imp (fun h => by rwa [show ((Nat.succ (Nat.add p q) : Nat) : Int) = Int.ofNat p - Int.negSucc q by show ((p + q + 1 : Nat) : Int) = _; rw [Int.ofNat_eq_natCast]; omega] at h) id
  | negSucc p => cases b with
    | ofNat q => exact (mkM_true h).imp (fun h => by rwa [show Int.negSucc (Nat.add p q) = Int.negSucc p - Int.ofNat q by show Int.negSucc (p + q) = _; rw [Int.ofNat_eq_natCast]; omega] at h) id
    | negSucc q => exact (difG_true h).imp (fun h => by rwa [show (q : Int) - (p : Int) = Int.negSucc p - Int.negSucc q by omega] at h) id
theorem mulI_true {a b : Int} {K : Value → Bool} {s : Bool} (h : mulI a b K s = true) : Got (a * b) K ∨ s = true := by
  cases a with
  | ofNat p => cases b with
    | ofNat q => exact (mkN_true h).imp (fun h => by rwa [show ((Nat.mul p q : Nat) : Int) = Int.ofNat p * Int.ofNat q from rfl] at h) id
    | negSucc q => exact (negG_true h).imp (fun h => by rwa [show -((Nat.mul p (Nat.succ q) : Nat) : Int) = Int.ofNat p * Int.negSucc q by rw [Int.negSucc_eq, Int.mul_neg]; rfl] at h) id
  | negSucc p => cases b with
    | ofNat q => exact (negG_true h).imp (fun h => by rwa [show -((Nat.mul (Nat.succ p) q : Nat) : Int) = Int.negSucc p * Int.ofNat q by rw [Int.negSucc_eq, Int.neg_mul]; rfl] at h) id
    | negSucc q => exact (mkN_true h).imp (fun h => by rwa [show ((Nat.mul (Nat.succ p) (Nat.succ q) : Nat) : Int) = Int.negSucc p * Int.negSucc q from rfl] at h) id
theorem eqI_eq (a b : Int) (K : Value → Bool) (s : Bool) : eqI a b K s = K (.bool (a == b)) := by
  cases a with
  | ofNat p => cases b with
    | ofNat q =>
      show mkB (Nat.beq p q) K = _
      rw [mkB_eq]; congr 2
      rw [Bool.eq_iff_iff, Nat.beq_eq, beq_iff_eq]
      exact ⟨fun h => by rw [h], fun h => by injection h⟩
    | negSucc q => rfl
  | negSucc p => cases b with
    | ofNat q => rfl
    | negSucc q =>
      show mkB (Nat.beq p q) K = _
      rw [mkB_eq]; congr 2
      rw [Bool.eq_iff_iff, Nat.beq_eq, beq_iff_eq]
      exact ⟨fun h => by rw [h], fun h => by injection h⟩
theorem neI_eq (a b : Int) (K : Value → Bool) (s : Bool) : neI a b K s = K (.bool (a != b)) := by
  cases a with
  | ofNat p => cases b with
    | ofNat q =>
      show mkB (notB (Nat.beq p q)) K = _
      rw [mkB_eq, notB_eq]; congr 2
      show (!Nat.beq p q) = !(_ == _)
      congr 1
      rw [Bool.eq_iff_iff, Nat.beq_eq, beq_iff_eq]
      exact ⟨fun h => by rw [h], fun h => by injection h⟩
    | negSucc q => rfl
  | negSucc p => cases b with
    | ofNat q => rfl
    | negSucc q =>
      show mkB (notB (Nat.beq p q)) K = _
      rw [mkB_eq, notB_eq]; congr 2
      show (!Nat.beq p q) = !(_ == _)
      congr 1
      rw [Bool.eq_iff_iff, Nat.beq_eq, beq_iff_eq]
      exact ⟨fun h => by rw [h], fun h => by injection h⟩
theorem ble_dec (a b : Nat) : Nat.ble a b = decide (a ≤ b) := by
  rw [Bool.eq_iff_iff, decide_eq_true_eq]; exact ⟨Nat.le_of_ble_eq_true, Nat.ble_eq_true_of_le⟩
theorem ltI_eq (a b : Int) (K : Value → Bool) (s : Bool) : ltI a b K s = K (.bool (decide (a < b))) := by
  cases a with
  | ofNat p => cases b with
    | ofNat q => show mkB (Nat.ble (Nat.succ p) q) K = _; rw [mkB_eq, ble_dec]; congr 2; simp only [decide_eq_decide, Int.ofNat_eq_natCast]; omega
    | negSucc q => show K (.bool false) = _; congr 2
  | negSucc p => cases b with
    | ofNat q => show K (.bool true) = _; congr 2; symm; simp only [decide_eq_true_eq, Int.ofNat_eq_natCast]; omega
    | negSucc q => show mkB (Nat.ble (Nat.succ q) p) K = _; rw [mkB_eq, ble_dec]; congr 2; first | (simp only [decide_eq_decide]; omega) | simp only [decide_eq_decide] | rfl
theorem leI_eq (a b : Int) (K : Value → Bool) (s : Bool) : leI a b K s = K (.bool (decide (a ≤ b))) := by
  cases a with
  | ofNat p => cases b with
    | ofNat q => show mkB (Nat.ble p q) K = _; rw [mkB_eq, ble_dec]; congr 2; simp only [decide_eq_decide, Int.ofNat_eq_natCast]; omega
    | negSucc q => show K (.bool false) = _; congr 2; symm; simp only [decide_eq_false_iff_not, Int.ofNat_eq_natCast]; omega
  | negSucc p => cases b with
    | ofNat q => show K (.bool true) = _; congr 2
    | negSucc q => show mkB (Nat.ble q p) K = _; rw [mkB_eq, ble_dec]; congr 2; first | (simp only [decide_eq_decide]; omega) | simp only [decide_eq_decide] | rfl
theorem binI_true {op : BinOp} {a b : Int} {K : Value → Bool} {s : Bool} (h : binI op a b K s = true) : (∃ v, intBin op .i64 a b = some v ∧ K v = true) ∨ s = true := by
  have num : ∀ {z : Int}, Got z K → ∃ v, some (Value.int .i64 (IntKind.wrap .i64 z)) = some v ∧ K v = true := fun {z} hg => ⟨_, rfl, by rw [wrap_in hg.1 hg.2.1]; exact hg.2.2⟩
  cases op
  case add => exact (addI_true h).imp num id
  case sub => exact (subI_true h).imp num id
  case mul => exact (mulI_true h).imp num id
  case eql => exact .inl ⟨_, rfl, by rw [← eqI_eq a b K s]; exact h⟩
  case neq => exact .inl ⟨_, rfl, by rw [← neI_eq a b K s]; exact h⟩
  case lss => exact .inl ⟨_, rfl, by rw [← ltI_eq a b K s]; exact h⟩
  case leq => exact .inl ⟨_, rfl, by rw [← leI_eq a b K s]; exact h⟩
  case gtr => exact .inl ⟨_, rfl, by have := ltI_eq b a K s; rw [show binI .gtr a b K s = ltI b a K s from rfl, this] at h; exact h⟩
  case geq => exact .inl ⟨_, rfl, by have := leI_eq b a K s; rw [show binI .geq a b K s = leI b a K s from rfl, this] at h; exact h⟩
  all_goals exact .inr h
end Go.Vm
/- The quick machine: operations, one by one. -/
namespace Go.Vm
variable {P : Program}

noncomputable def fVal : Value → (Value → Bool) → Bool := Value.rec (motive_1 := fun _ => (Value → Bool) → Bool) (motive_2 := fun _ => Unit) (motive_3 := fun _ => Unit)
  (fun x0 k => k (.bool x0))
  (fun x0 x1 k => k (.int x0 x1))
  (fun x0 x1 k => k (.float x0 x1))
  (fun x0 x1 x2 k => k (.complex x0 x1 x2))
  (fun x0 k => k (.string x0))
  (fun x0 k => k (.pointer x0))
  (fun x0 x1 x2 k => k (.slice x0 x1 x2))
  (fun x0 k => k (.map x0))
  (fun x0 k => k (.chan x0))
  (fun x0 x1 x2 _ _ k => k (.func x0 x1 x2))
  (fun k => k .nilFunc)
  (fun x0 x1 _ k => k (.iface x0 x1))
  (fun k => k .nilIface)
  (fun x0 _ k => k (.agg x0))
  (fun x0 _ k => k (.tuple x0))
  (fun _ _ => ()) () (fun _ _ _ _ => ())
theorem fVal_eq (v : Value) (k : Value → Bool) : fVal v k = k v := by cases v <;> rfl

structure PureOK (P : Program) (e : Operand → Value) (o : Oper) (v : Value) : Prop where
  run : ∀ V, runOp P e o V = some (.value v, V)
  foot : footOf e o = .none

theorem run_under {t : TypeId} {d : TypeDesc} (h : P.underlying t = some d) (V : View) : runV P (Go.underlying t) V = some (d, V) := by
  unfold Go.underlying
  simp only [runV_bind, Go.program, runV, Option.bind, h]
  rfl
theorem run_info {t : TypeId} {i : TypeInfo} (h : P.info? t = some i) (V : View) : runV P (Go.typeInfo t) V = some (i, V) := by
  unfold Go.typeInfo
  simp only [runV_bind, Go.program, runV, Option.bind, h]
  rfl
theorem run_size {t : TypeId} {i : TypeInfo} (h : P.info? t = some i) (V : View) : runV P (Go.sizeOf t) V = some (i.size, V) := by
  unfold Go.sizeOf
  rw [runV_bind, run_info h]
  rfl
theorem run_zero {t : TypeId} {i : TypeInfo} {z : Value} (h : P.info? t = some i) (hz : i.zero = some z) (V : View) : runV P (Go.zeroValue t) V = some (z, V) := by
  unfold Go.zeroValue
  rw [runV_bind, run_info h]
  simp only [Option.bind, hz]
  rfl
theorem run_pure {α : Type} (a : α) (V : View) : runV P (pure a : Sem α) V = some (a, V) := rfl
theorem add_none (b o k : Nat) : Addr.add ⟨b, o, none⟩ k = ⟨b, o + k, none⟩ := by
  unfold Addr.add
  split
  · rename_i h; subst h; rfl
  · rfl

/-! what an operation computes, without the memory -/
noncomputable def pBin (op : BinOp) (x y : Opd) (env : Env) (K : Value → Bool) (s : Bool) : Bool := asI64 (getO x env) (fun a => asI64 (getO y env) (fun b => binI op a b K s) s) s
noncomputable def pNot (x : Opd) (env : Env) (K : Value → Bool) (s : Bool) : Bool := asB (getO x env) (fun b => mkB (notB b) K) s
noncomputable def pPick (c a b : Opd) (env : Env) (K : Value → Bool) (s : Bool) : Bool := asB (getO c env) (fun t => Bool.rec (motive := fun _ => Opd → Opd → Env → (Value → Bool) → Bool) (fun _ b env K => fVal (getO b env) K) (fun a _ env K => fVal (getO a env) K) t a b env K) s
noncomputable def pFa (off : Nat) (x : Opd) (env : Env) (K : Value → Bool) (s : Bool) : Bool := asPtr (getO x env) (fun b o => fNr (Nat.add o off) fun o => K (.pointer (some (Addr.mk b o none)))) s
noncomputable def ixG (size n b o : Nat) (z : Int) (K : Value → Bool) (s : Bool) : Bool := Int.rec (motive := fun _ => Nat → Nat → Nat → Nat → (Value → Bool) → Bool → Bool)
  (fun j size n b o K s => Bool.rec (motive := fun _ => Nat → Nat → Nat → Nat → (Value → Bool) → Bool → Bool) (fun _ _ _ _ _ s => s) (fun j size b o K _ => fNr (Nat.add o (Nat.mul j size)) fun o => K (.pointer (some (Addr.mk b o none)))) (Nat.ble (Nat.succ j) n) j size b o K s)
  (fun _ _ _ _ _ _ s => s) z size n b o K s
noncomputable def pIxs (size : Nat) (x i : Opd) (env : Env) (K : Value → Bool) (s : Bool) : Bool := asSl (getO x env) (fun b o n _ => asI64 (getO i env) (fun z => ixG size n b o z K s) s) s
noncomputable def pIxa (size len : Nat) (x i : Opd) (env : Env) (K : Value → Bool) (s : Bool) : Bool := asPtr (getO x env) (fun b o => asI64 (getO i env) (fun z => ixG size len b o z K s) s) s
noncomputable def pExt (j : Nat) (x : Opd) (env : Env) (K : Value → Bool) (s : Bool) : Bool := asTup (getO x env) (fun l => nthK l j fun v => fVal v K) s
noncomputable def pNil (x : Opd) (env : Env) (K : Value → Bool) (s : Bool) : Bool := asPtr (getO x env) (fun b o => K (.pointer (some (Addr.mk b o none)))) s
noncomputable def pLen (x : Opd) (env : Env) (K : Value → Bool) (s : Bool) : Bool := asSl (getO x env) (fun _ _ n _ => K (.int .i64 (.ofNat n))) s
noncomputable def mapO : List Opd → Env → (List Value → Bool) → Bool := List.rec (motive := fun _ => Env → (List Value → Bool) → Bool) (fun _ k => k []) (fun x _ ih env k => fVal (getO x env) fun v => ih env fun r => k (v :: r))
theorem mapO_eq {nt : Nat} {env : Env} {ts : List Value} (h : ERel nt env ts) : ∀ (l : List Operand) (k : List Value → Bool), l.all (okSlot nt) = true → mapO (l.map opdD) env k = k (l.map (ev ts))
  | [], k, _ => rfl
  | x :: l, k, hl => by
    simp only [List.all_cons, Bool.and_eq_true] at hl
    show fVal (getO (opdD x) env) (fun v => mapO (l.map opdD) env fun r => k (v :: r)) = _
    rw [fVal_eq, mapO_eq h l _ hl.2, getO_eq h hl.1]
    rfl

section
variable {nt : Nat} {env : Env} {ts : List Value} {d : Option Tmp} {ty : TypeId} {pos : String} {aft : Array Edge} {gd : Option (Nat × Bool)} {K : Value → Bool} {s : Bool}
theorem pBin_true (h : ERel nt env ts) {op : BinOp} {t t2 : TypeId} {x y : Operand} (hx : okSlot nt x = true) (hy : okSlot nt y = true) (hr : pBin op (opdD x) (opdD y) env K s = true) :
    (∃ v, PureOK P (ev ts) ⟨d, .binOp op t x y t2, ty, pos, aft, gd⟩ v ∧ K v = true) ∨ s = true := by
  unfold pBin at hr
  rw [getO_eq h hx, getO_eq h hy] at hr
  rcases asI64_true hr with ⟨a, ha, hr⟩ | hr
  · rcases asI64_true hr with ⟨b, hb, hr⟩ | hr
    · rcases binI_true hr with ⟨v, hv, hk⟩ | hr
      · refine .inl ⟨v, ⟨fun V => ?_, rfl⟩, hk⟩
        have hf : fBin op (ev ts x) (ev ts y) = some v := by rw [ha, hb]; exact hv
        have := fBin_run (P := P) (V := V) hf t x y
        simp only [runOp, this.1, this.2]
      · exact .inr hr
    · exact .inr hr
  · exact .inr hr
theorem pNot_true (h : ERel nt env ts) {t : TypeId} {x : Operand} (hx : okSlot nt x = true) (hr : pNot (opdD x) env K s = true) :
    (∃ v, PureOK P (ev ts) ⟨d, .unOp .not t x, ty, pos, aft, gd⟩ v ∧ K v = true) ∨ s = true := by
  unfold pNot at hr
  rw [getO_eq h hx] at hr
  rcases asB_true hr with ⟨b, hb, hr⟩ | hr
  · rw [mkB_eq, notB_eq] at hr
    refine .inl ⟨_, ⟨fun V => ?_, rfl⟩, hr⟩
    simp only [runOp, hb]
    rfl
  · exact .inr hr
theorem pPick_true (h : ERel nt env ts) {c a b : Operand} (hc : okSlot nt c = true) (ha : okSlot nt a = true) (hb : okSlot nt b = true) (hr : pPick (opdD c) (opdD a) (opdD b) env K s = true) :
    (∃ v, PureOK P (ev ts) ⟨d, .pick c a b, ty, pos, aft, gd⟩ v ∧ K v = true) ∨ s = true := by
  unfold pPick at hr
  rw [getO_eq h hc] at hr
  rcases asB_true hr with ⟨t, ht, hr⟩ | hr
  · cases t with
    | true =>
      have hr : fVal (getO (opdD a) env) K = true := hr
      rw [fVal_eq, getO_eq h ha] at hr
      exact .inl ⟨_, ⟨fun V => by simp only [runOp, ht], rfl⟩, hr⟩
    | false =>
      have hr : fVal (getO (opdD b) env) K = true := hr
      rw [fVal_eq, getO_eq h hb] at hr
      exact .inl ⟨_, ⟨fun V => by simp only [runOp, ht], rfl⟩, hr⟩
  · exact .inr hr
theorem pFa_true (h : ERel nt env ts) {t : TypeId} {x : Operand} {j off : Nat} (ho : fieldOff P t j = some off) (hx : okSlot nt x = true) (hr : pFa off (opdD x) env K s = true) :
    (∃ v, PureOK P (ev ts) ⟨d, .fieldAddr t x j, ty, pos, aft, gd⟩ v ∧ K v = true) ∨ s = true := by
  unfold pFa at hr
  rw [getO_eq h hx] at hr
  rcases asPtr_true hr with ⟨b, o, hb, hr⟩ | hr
  · rw [fNr_eq] at hr
    refine .inl ⟨_, ⟨fun V => ?_, rfl⟩, hr⟩
    have : fField P t (ev ts x) j = some (.pointer (some ⟨b, Nat.add o off, none⟩)) := by
      rw [hb]; simp only [fField, ho, add_none]; rfl
    simp only [runOp, fField_run this]
  · exact .inr hr
theorem ixG_true {size n b o : Nat} {z : Int} (hr : ixG size n b o z K s = true) : (∃ j, z = .ofNat j ∧ j < n ∧ K (.pointer (some ⟨b, o + j * size, none⟩)) = true) ∨ s = true := by
  cases z with
  | ofNat j =>
    have hr : Bool.rec (motive := fun _ => Nat → Nat → Nat → Nat → (Value → Bool) → Bool → Bool) (fun _ _ _ _ _ s => s) (fun j size b o K _ => fNr (Nat.add o (Nat.mul j size)) fun o => K (.pointer (some (Addr.mk b o none)))) (Nat.ble (Nat.succ j) n) j size b o K s = true := hr
    cases hq : Nat.ble (Nat.succ j) n with
    | true =>
      rw [hq] at hr
      simp only [fNr_eq] at hr
      exact .inl ⟨j, rfl, Nat.le_of_ble_eq_true hq, hr⟩
    | false => rw [hq] at hr; exact .inr hr
  | negSucc j => exact .inr hr
theorem index_run {t elem : TypeId} {info : TypeInfo} (hi : P.info? elem = some info) {b o n j : Nat} {x : Value} (hj : j < n)
    (hx : (∃ c, P.underlying t = some (.slice elem) ∧ x = .slice (some ⟨b, o, none⟩) n c) ∨ (P.underlying t = some (.array n elem) ∧ x = .pointer (some ⟨b, o, none⟩))) (V : View) :
    val (runV P (Instr.indexAt t x (.int .i64 (.ofNat j))) V) = some (.value (.pointer (some ⟨b, o + j * info.size, none⟩)), V) := by
  have h0 : (0 : Int) ≤ (j : Int) ∧ (j : Int) < (n : Int) := by omega
  have e : Go.asIntOf (.int .i64 (.ofNat j)) = pure (IntKind.i64, (j : Int)) := rfl
  unfold Instr.indexAt
  rw [e, pure_bind]
  rcases hx with ⟨c, hu, rfl⟩ | ⟨hu, rfl⟩
  · simp only [runV_bind, run_under hu, Option.bind_some, run_pure, h0, and_self, if_true, run_size hi, add_none, Int.toNat_natCast]
    by_cases h1 : n ≤ 1 <;> simp [val]
  · simp only [runV_bind, run_under hu, Option.bind_some, run_pure, h0, and_self, if_true, run_size hi, add_none, Int.toNat_natCast, Instr.sureAddr]
    by_cases h1 : n ≤ 1 <;> simp [val]
theorem pIxs_true (h : ERel nt env ts) {t elem : TypeId} {info : TypeInfo} {x i : Operand} (hu : P.underlying t = some (.slice elem)) (hi : P.info? elem = some info) (hx : okSlot nt x = true) (hy : okSlot nt i = true) (hr : pIxs info.size (opdD x) (opdD i) env K s = true) :
    (∃ v, PureOK P (ev ts) ⟨d, .indexAddr t x i, ty, pos, aft, gd⟩ v ∧ K v = true) ∨ s = true := by
  unfold pIxs at hr
  rw [getO_eq h hx, getO_eq h hy] at hr
  rcases asSl_true hr with ⟨b, o, n, c, hb, hr⟩ | hr
  · rcases asI64_true hr with ⟨z, hz, hr⟩ | hr
    · rcases ixG_true hr with ⟨j, rfl, hj, hk⟩ | hr
      · exact .inl ⟨_, ⟨fun V => by simp only [runOp, hb, hz]; exact index_run hi hj (.inl ⟨c, hu, rfl⟩) V, rfl⟩, hk⟩
      · exact .inr hr
    · exact .inr hr
  · exact .inr hr
theorem pIxa_true (h : ERel nt env ts) {t elem : TypeId} {n : Nat} {info : TypeInfo} {x i : Operand} (hu : P.underlying t = some (.array n elem)) (hi : P.info? elem = some info) (hx : okSlot nt x = true) (hy : okSlot nt i = true) (hr : pIxa info.size n (opdD x) (opdD i) env K s = true) :
    (∃ v, PureOK P (ev ts) ⟨d, .indexAddr t x i, ty, pos, aft, gd⟩ v ∧ K v = true) ∨ s = true := by
  unfold pIxa at hr
  rw [getO_eq h hx, getO_eq h hy] at hr
  rcases asPtr_true hr with ⟨b, o, hb, hr⟩ | hr
  · rcases asI64_true hr with ⟨z, hz, hr⟩ | hr
    · rcases ixG_true hr with ⟨j, rfl, hj, hk⟩ | hr
      · exact .inl ⟨_, ⟨fun V => by simp only [runOp, hb, hz]; exact index_run hi hj (.inr ⟨hu, rfl⟩) V, rfl⟩, hk⟩
      · exact .inr hr
    · exact .inr hr
  · exact .inr hr
theorem pExt_true (h : ERel nt env ts) {x : Operand} {j : Nat} (hx : okSlot nt x = true) (hr : pExt j (opdD x) env K s = true) :
    (∃ v, PureOK P (ev ts) ⟨d, .extract x j, ty, pos, aft, gd⟩ v ∧ K v = true) ∨ s = true := by
  unfold pExt at hr
  rw [getO_eq h hx] at hr
  rcases asTup_true hr with ⟨l, hl, hr⟩ | hr
  · obtain ⟨v, h1, h2⟩ := nthK_true hr
    rw [fVal_eq] at h2
    refine .inl ⟨v, ⟨fun V => ?_, rfl⟩, h2⟩
    have : (⟨l⟩ : Array Value)[j]? = some v := by simpa using h1
    simp only [runOp, hl, Instr.extract, this]
    rfl
  · exact .inr hr
theorem pNil_true (h : ERel nt env ts) {x : Operand} (hx : okSlot nt x = true) (hr : pNil (opdD x) env K s = true) :
    (∃ v, PureOK P (ev ts) ⟨d, .nilCheck x, ty, pos, aft, gd⟩ v ∧ K v = true) ∨ s = true := by
  unfold pNil at hr
  rw [getO_eq h hx] at hr
  rcases asPtr_true hr with ⟨b, o, hb, hr⟩ | hr
  · exact .inl ⟨_, ⟨fun V => by simp only [runOp, hb], rfl⟩, hr⟩
  · exact .inr hr
theorem pLen_true (h : ERel nt env ts) {t : TypeId} {elem : TypeId} {x : Operand} {c : Call} (hc : c.callee = .builtin .len) (ha : c.args.toList = [x]) (ht : c.argTypes[0]? = some t) (hu : P.underlying t = some (.slice elem)) (hx : okSlot nt x = true) (hr : pLen (opdD x) env K s = true) :
    (∃ v, PureOK P (ev ts) ⟨d, .call c, ty, pos, aft, gd⟩ v ∧ K v = true) ∨ s = true := by
  unfold pLen at hr
  rw [getO_eq h hx] at hr
  rcases asSl_true hr with ⟨b, o, n, cc, hb, hr⟩ | hr
  · refine .inl ⟨_, ⟨fun V => ?_, ?_⟩, hr⟩
    · simp only [runOp, runCall, hc, ha, List.map_cons, List.map_nil, hb]
      unfold Builtin.len_
      simp only [ht, List.getElem?_toArray, List.getElem?_cons_zero]
      simp [runV_bind, run_under hu, run_pure, val, Go.goInt]
    · simp only [footOf, hc, ha, List.map_cons, List.map_nil, hb]
  · exact .inr hr
theorem pMkf_ok (h : ERel nt env ts) {g : FuncId} {f c : Array Operand} (hf : f.toList.all (okSlot nt) = true) (hc : c.toList.all (okSlot nt) = true) {K : Value → Bool} (hr : mapO (f.toList.map opdD) env (fun l => mapO (c.toList.map opdD) env fun m => K (.func (.func g) ⟨l⟩ ⟨m⟩)) = true) :
    ∃ v, PureOK P (ev ts) ⟨d, .makeFunc (.func g) f c, ty, pos, aft, gd⟩ v ∧ K v = true := by
  rw [mapO_eq h _ _ hf, mapO_eq h _ _ hc] at hr
  exact ⟨_, ⟨fun V => rfl, rfl⟩, hr⟩
end
end Go.Vm
/- The quick machine: operations on the memory. -/
namespace Go.Vm
variable {P : Program}

noncomputable def mLd (a : Opd) (env : Env) (m : Objs) (K : Value → Bool) (s : Bool) : Bool := asPtr (getO a env) (fun b o => findK m b fun ob => asCells ob fun l _ _ _ => nthK l o fun v => fVal v K) s
noncomputable def mLdn (size : Nat) (a : Opd) (env : Env) (m : Objs) (K : Value → Bool) (s : Bool) : Bool := asPtr (getO a env) (fun b o => findK m b fun ob => asCells ob fun l _ _ _ => dropK o l fun l => cutK size l fun l => K (.agg (Array.mk l))) s
noncomputable def eqLen : List Value → Nat → Bool := List.rec (motive := fun _ => Nat → Bool) (fun n => Nat.beq n 0) (fun _ _ ih n => Nat.rec (motive := fun _ => (Nat → Bool) → Bool) (fun _ => false) (fun j _ ih => ih j) n ih)
theorem eqLen_true : ∀ {l : List Value} {n : Nat}, eqLen l n = true → l.length = n
  | [], n, h => by have : Nat.beq n 0 = true := h; exact (Nat.eq_of_beq_eq_true this).symm
  | x :: l, 0, h => by cases h
  | x :: l, n + 1, h => by have : eqLen l n = true := h; simp [eqLen_true this]
/-- the cells of a value -/
noncomputable def cellsK (v : Value) (k : List Value → Bool) (s : Bool) : Bool := asAgg v k (asOne v (k [v]) s)
theorem cellsK_true {v : Value} {k : List Value → Bool} {s : Bool} (h : cellsK v k s = true) : k v.cells.toList = true ∨ s = true := by
  rcases asAgg_true h with ⟨l, rfl, h⟩ | h
  · exact .inl h
  · rcases asOne_true h with ⟨_, h2, h3⟩ | h
    · rw [h2]; exact .inl h3
    · exact .inr h
/-- some cells, one behind the other -/
noncomputable def stK : List Value → Nat → List Value → (List Value → Bool) → Bool := List.rec (motive := fun _ => Nat → List Value → (List Value → Bool) → Bool) (fun _ l k => k l)
  (fun v _ ih o l k => asOne v (setK l o v fun l => ih (Nat.succ o) l k) false)
noncomputable def mSt (size : Nat) (a x : Opd) (env : Env) (m : Objs) (K : Objs → Bool) (s : Bool) : Bool := asPtr (getO a env) (fun b o => findK m b fun ob => asCells ob fun l e _ y =>
  cellsK (getO x env) (fun cs => ifB (Nat.beq y 0) (ifB (eqLen cs size) (stK cs o l fun l => putK m b (.cells (Array.mk l) e (0, 0)) K) s) s) s) s

theorem ifB_true {b x y : Bool} (h : ifB b x y = true) : (b = true ∧ x = true) ∨ (b = false ∧ y = true) := by
  cases b
  · exact .inr ⟨rfl, h⟩
  · exact .inl ⟨rfl, h⟩
theorem put_put (l : Objs) (b : Nat) (x y : Obj) : put (put l b x) b y = put l b y := by
  induction l with
  | nil => rfl
  | cons p r ih =>
    obtain ⟨k, o⟩ := p
    simp only [put]
    cases hq : Nat.beq k b with
    | true => simp only [put, hq]
    | false => simp only [put, hq, ih]
theorem storeCells_run {b : Nat} {e : TypeId} : ∀ (cs : List Value) (i o lo : Nat) (l : List Value) (V : View) (k : List Value → Bool), cs ≠ [] → find V.objs b = some (.cells ⟨l⟩ e (lo, 0)) → stK cs (o + i) l k = true →
    ∃ l', runV P (Go.storeCells ⟨b, o, none⟩ cs i) V = some ((), ⟨V.next, put V.objs b (.cells ⟨l'⟩ e (0, 0))⟩) ∧ k l' = true
  | [], i, o, lo, l, V, k, hne, _, _ => absurd rfl hne
  | v :: cs, i, o, lo, l, V, k, _, hf, h => by
    rcases asOne_true h with ⟨h1, _, h2⟩ | h2
    · obtain ⟨h3, h4⟩ := setK_true h2
      have hst : runV P (Go.store (Addr.add ⟨b, o, none⟩ i) v) V = some ((), ⟨V.next, put V.objs b (.cells ⟨l.set (o + i) v⟩ e (0, 0))⟩) := by
        have hok : okStore (⟨l⟩ : Array Value) 0 ⟨b, o + i, none⟩ v = true := by
          simp [okStore, h1, h3, Nat.blt_eq]
        rw [add_none]
        simp only [Go.store, runV, hf, hok, Array.setIfInBounds]
        simp [h3]
      unfold Go.storeCells
      rw [runV_bind, hst]
      simp only [Option.bind_some]
      cases cs with
      | nil => exact ⟨_, rfl, h4⟩
      | cons u cs =>
        have h4 : stK (u :: cs) (o + (i + 1)) (l.set (o + i) v) k = true := h4
        have hf2 : find (put V.objs b (.cells ⟨l.set (o + i) v⟩ e (0, 0))) b = some (.cells ⟨l.set (o + i) v⟩ e (0, 0)) := by rw [find_put, if_pos rfl, hf]; rfl
        obtain ⟨l', h5, h6⟩ := storeCells_run (u :: cs) (i + 1) o 0 _ ⟨V.next, put V.objs b (.cells ⟨l.set (o + i) v⟩ e (0, 0))⟩ k (by simp) hf2 h4
        refine ⟨l', ?_, h6⟩
        rw [h5]
        simp only [put_put]
    · cases h2

section
variable {nt : Nat} {env : Env} {ts : List Value} {d : Option Tmp} {ty : TypeId} {pos : String} {aft : Array Edge} {gd : Option (Nat × Bool)} {s : Bool} {n : Nat} {m : Objs}
theorem mLd_true (h : ERel nt env ts) {t : TypeId} {a : Operand} {K : Value → Bool} (ht : aggB P t = some false) (ha : okSlot nt a = true) (hr : mLd (opdD a) env m K s = true) :
    (∃ v, runOp P (ev ts) ⟨d, .load t a, ty, pos, aft, gd⟩ ⟨n, m⟩ = some (.value v, ⟨n, m⟩) ∧ K v = true) ∨ s = true := by
  unfold mLd at hr
  rw [getO_eq h ha] at hr
  rcases asPtr_true hr with ⟨b, o, hb, hr⟩ | hr
  · obtain ⟨ob, h1, hr⟩ := findK_true hr
    obtain ⟨l, e, x, y, rfl, hr⟩ := asCells_true hr
    obtain ⟨v, h2, hr⟩ := nthK_true hr
    rw [fVal_eq] at hr
    refine .inl ⟨v, ?_, hr⟩
    have hf : fLoad P t (ev ts a) ⟨n, m⟩ = some v := by
      rw [hb]
      have h3 : cellAt ⟨n, m⟩ ⟨b, o, none⟩ = some (⟨l⟩ : Array Value) := by simp only [cellAt, h1]
      simp only [fLoad, h3, fLoadA, ht]
      simpa using h2
    simp only [runOp, fLoad_run hf]
  · exact .inr hr
theorem mLdn_true (h : ERel nt env ts) {t : TypeId} {i : TypeInfo} {a : Operand} {K : Value → Bool} (ht : aggB P t = some true) (hi : P.info? t = some i) (ha : okSlot nt a = true) (hr : mLdn i.size (opdD a) env m K s = true) :
    (∃ v, runOp P (ev ts) ⟨d, .load t a, ty, pos, aft, gd⟩ ⟨n, m⟩ = some (.value v, ⟨n, m⟩) ∧ K v = true) ∨ s = true := by
  unfold mLdn at hr
  rw [getO_eq h ha] at hr
  rcases asPtr_true hr with ⟨b, o, hb, hr⟩ | hr
  · obtain ⟨ob, h1, hr⟩ := findK_true hr
    obtain ⟨l, e, x, y, hob, hr2⟩ := asCells_true hr
    subst hob
    rw [dropK_eq] at hr2
    obtain ⟨c, h2, hr3⟩ := cutK_true hr2
    refine .inl ⟨_, ?_, hr3⟩
    have hf : fLoad P t (ev ts a) ⟨n, m⟩ = some (.agg ⟨c⟩) := by
      rw [hb]
      have h3 : cellAt ⟨n, m⟩ ⟨b, o, none⟩ = some (⟨l⟩ : Array Value) := by simp only [cellAt, h1]
      simp only [fLoad, h3, fLoadA, ht, hi, fLoadN, h2]
    simp only [runOp, fLoad_run hf]
  · exact .inr hr
theorem mSt_true (h : ERel nt env ts) {t : TypeId} {i : TypeInfo} {a x : Operand} {K : Objs → Bool} (hi : P.info? t = some i) (hz : i.size ≠ 0) (ha : okSlot nt a = true) (hx : okSlot nt x = true) (hn : inb n m = true) (hr : mSt i.size (opdD a) (opdD x) env m K s = true) :
    (∃ m1, runOp P (ev ts) ⟨d, .store t a x, ty, pos, aft, gd⟩ ⟨n, m⟩ = some (.skip, ⟨n, m1⟩) ∧ inb n m1 = true ∧ K m1 = true) ∨ s = true := by
  unfold mSt at hr
  rw [getO_eq h ha, getO_eq h hx] at hr
  rcases asPtr_true hr with ⟨b, o, hb, hr⟩ | hr
  · obtain ⟨ob, h1, hr⟩ := findK_true hr
    obtain ⟨l, e, lo, y, hob, hr2⟩ := asCells_true hr
    subst hob
    rcases cellsK_true hr2 with hr3 | hr
    · rcases ifB_true hr3 with ⟨hy, hr4⟩ | ⟨_, hr⟩
      · rcases ifB_true hr4 with ⟨hl, hr5⟩ | ⟨_, hr⟩
        · have hy := Nat.eq_of_beq_eq_true hy
          subst hy
          have hl := eqLen_true hl
          have hne : (ev ts x).cells.toList ≠ [] := fun e => by rw [e] at hl; exact hz hl.symm
          obtain ⟨l', h2, hr6⟩ := storeCells_run (P := P) (ev ts x).cells.toList 0 o lo l ⟨n, m⟩ _ hne h1 hr5
          obtain ⟨_, hr7⟩ := putK_true hr6
          refine .inl ⟨_, ?_, by rw [inb_put]; exact hn, hr7⟩
          have h3 : runV P (Instr.storeAt t (ev ts a) (ev ts x)) ⟨n, m⟩ = some ((), ⟨n, put m b (.cells ⟨l'⟩ e (0, 0))⟩) := by
            rw [hb]
            unfold Instr.storeAt Go.storeVar
            have hs : runV P (Instr.sureAddr (.pointer (some ⟨b, o, none⟩))) ⟨n, m⟩ = some (⟨b, o, none⟩, ⟨n, m⟩) := rfl
            rw [runV_bind, hs]
            simp only [Option.bind_some]
            rw [runV_bind, run_size hi]
            simp only [Option.bind_some]
            have hl2 : (ev ts x).cells.size = i.size := by rw [← hl]; simp
            simp only [hl2, ne_eq, not_true_eq_false, if_false]
            exact h2
          simp only [runOp, h3]
        · exact .inr hr
      · exact .inr hr
    · exact .inr hr
  · exact .inr hr
theorem alloc_run {t : TypeId} {i : TypeInfo} {z : Value} (hi : P.info? t = some i) (hz : i.zero = some z) (V : View) :
    runOp P (ev ts) ⟨d, .alloc t, ty, pos, aft, gd⟩ V = some (.value (.pointer (some ⟨V.next, 0, none⟩)), ⟨V.next + 1, (V.next, .cells ⟨z.cells.toList⟩ t (0, 0)) :: V.objs⟩) := by
  simp only [runOp]
  unfold Instr.alloc
  rw [runV_bind, run_zero hi hz]
  simp only [Option.bind_some]
  unfold Go.newVar Go.newRow
  simp only [runV_bind, Go.newObj, runV, okNew, Nat.beq_refl, Bool.and_self, Option.bind_some, run_pure, val]
theorem box_run {t : TypeId} {x : Operand} (V : View) :
    runOp P (ev ts) ⟨d, .box t x, ty, pos, aft, gd⟩ V = some (.value (.pointer (some ⟨V.next, 0, none⟩)), ⟨V.next + 1, (V.next, .cells ⟨(ev ts x).cells.toList⟩ t (0, 0)) :: V.objs⟩) := by
  simp only [runOp]
  unfold Instr.box Go.newVar Go.newRow
  simp only [runV_bind, Go.newObj, runV, okNew, Nat.beq_refl, Bool.and_self, Option.bind_some, run_pure, val]
end
end Go.Vm
/- The quick machine: operations, made ready once; regions in the order of the text. -/
namespace Go.Vm
/-- the program -/
noncomputable def TP : Program := Go.Proofs.Try.prog
abbrev KC := Ex → Env → List Nat → Nat → Objs → Bool
abbrev KV := Value → Nat → Objs → Bool
structure Sf where
  c : Nat → Code → Option Nat → Env → List Nat → Nat → Objs → KC → Bool
  f : FuncId → List Value → Nat → Objs → KV → Bool
/-- what the quick machine tells, the machine tells -/
structure GSelf (sf : Job → Option Out) (S : Sf) : Prop where
  code : ∀ nt c ar env ts df n m k, ERel nt env ts → inb n m = true → S.c nt c ar env df n m k = true →
    ∃ e ts1 df1 V1 env1, sf (.code ar c ts df ⟨n, m⟩) = some (.code e ts1 df1 V1) ∧ ERel nt env1 ts1 ∧ inb V1.next V1.objs = true ∧ k e env1 df1 V1.next V1.objs = true
  call : ∀ f args n m k, inb n m = true → S.f f args n m k = true → ∃ v V1, sf (.call f args ⟨n, m⟩) = some (.value v V1) ∧ inb V1.next V1.objs = true ∧ k v V1.next V1.objs = true

inductive GK
  | mv (x : Opd)
  | bin (op : BinOp) (x y : Opd)
  | not (x : Opd)
  | pick (c a b : Opd)
  | fa (off : Nat) (x : Opd)
  | ixs (size : Nat) (x i : Opd)
  | ixa (size len : Nat) (x i : Opd)
  | ext (j : Nat) (x : Opd)
  | nilc (x : Opd)
  | mkf (g : Nat) (first captured : List Opd)
  | lens (x : Opd)
  | ld (a : Opd)
  | ldn (n : Nat) (a : Opd)
  | st (n : Nat) (a x : Opd)
  | al (z : List Value) (e : TypeId)
  | bx (e : TypeId) (x : Opd)
  | call (f : Opd) (args : List Opd)
  | slow
def opds (l : Array Operand) : List Opd := l.toList.map opdD
def gk (P : Program) (o : Op) : GK := match o with
  | .move x => .mv (opdD x)
  | .assign x => .mv (opdD x)
  | .binOp op _ x y _ => .bin op (opdD x) (opdD y)
  | .unOp op _ x => match op with
    | .not => .not (opdD x)
    | _ => .slow
  | .pick c a b => .pick (opdD c) (opdD a) (opdD b)
  | .fieldAddr t x k => match fieldOff P t k with
    | some off => .fa off (opdD x)
    | none => .slow
  | .indexAddr t x i => match P.underlying t with
    | some (.slice elem) => match P.info? elem with
      | some info => .ixs info.size (opdD x) (opdD i)
      | none => .slow
    | some (.array len elem) => match P.info? elem with
      | some info => .ixa info.size len (opdD x) (opdD i)
      | none => .slow
    | _ => .slow
  | .extract x k => .ext k (opdD x)
  | .nilCheck x => .nilc (opdD x)
  | .makeFunc fn f c => match fn with
    | .func g => .mkf g (opds f) (opds c)
    | _ => .slow
  | .load t a => match aggB P t with
    | some false => .ld (opdD a)
    | some true => match P.info? t with
      | some i => .ldn i.size (opdD a)
      | none => .slow
    | none => .slow
  | .store t a x => match P.info? t with
    | some i => match Nat.beq i.size 0 with
      | true => .slow
      | false => .st i.size (opdD a) (opdD x)
    | none => .slow
  | .alloc t => match P.info? t with
    | some i => match i.zero with
      | some z => .al z.cells.toList t
      | none => .slow
    | none => .slow
  | .box t x => .bx t (opdD x)
  | .call c => match c.callee with
    | .value f => .call (opdD f) (opds c.args)
    | .builtin .len => match c.argTypes[0]? with
      | some t => match P.underlying t with
        | some (.slice _) => match c.args.toList with
          | [x] => .lens (opdD x)
          | _ => .slow
        | _ => .slow
      | none => .slow
    | _ => .slow
  | _ => .slow

/-! operations whose way is not made short -/
noncomputable def slowK (nt : Nat) (o : Oper) (env : Env) (n : Nat) (m : Objs) (K : KV) : Bool := match runOp TP (evE nt env) o ⟨n, m⟩ with
  | some (.value v, V1) => fV v fun v => fN V1.next fun n1 => ifB (inbG V1.objs n1) (K v n1 V1.objs) false
  | some (.skip, V1) => fN V1.next fun n1 => ifB (inbG V1.objs n1) (K undef n1 V1.objs) false
  | _ => false
def Done (sf : Job → Option Out) (e : Operand → Value) (o : Oper) (n : Nat) (m : Objs) (K : KV) : Prop :=
  ∃ v V1, after sf (runOp TP e o ⟨n, m⟩) = some (v, V1) ∧ inb V1.next V1.objs = true ∧ K v V1.next V1.objs = true
section
variable {sf : Job → Option Out} {S : Sf} {nt : Nat} {env : Env} {ts : List Value} {o : Oper} {n : Nat} {m : Objs} {K : KV}
theorem slow_done (h : ERel nt env ts) (hr : slowK nt o env n m K = true) : Done sf (ev ts) o n m K := by
  unfold slowK at hr
  rw [evE_eq h] at hr
  split at hr
  · rename_i v V1 hv
    rw [fV_eq, fN_eq] at hr
    rcases ifB_true hr with ⟨h1, h2⟩ | ⟨_, h2⟩
    · rw [inbG_eq] at h1
      exact ⟨v, V1, by rw [hv]; rfl, h1, h2⟩
    · cases h2
  · rename_i V1 hv
    rw [fN_eq] at hr
    rcases ifB_true hr with ⟨h1, h2⟩ | ⟨_, h2⟩
    · rw [inbG_eq] at h1
      exact ⟨undef, V1, by rw [hv]; rfl, h1, h2⟩
    · cases h2
  · cases hr
theorem pure_done {v : Value} (hp : PureOK TP (ev ts) o v) (hn : inb n m = true) (hk : K v n m = true) : Done sf (ev ts) o n m K := ⟨v, ⟨n, m⟩, by rw [hp.run]; rfl, hn, hk⟩

/-! calls and rounds -/
noncomputable def appL (a b : List Value) : List Value := List.rec (motive := fun _ => List Value → List Value) (fun b => b) (fun x _ ih b => x :: ih b) a b
theorem appL_eq (a b : List Value) : appL a b = a ++ b := by
  induction a with
  | nil => rfl
  | cons x a ih => show x :: appL a b = _; rw [ih]; rfl
noncomputable def setPs : List Tmp → List Value → List Value → (List Value → Bool) → Bool := List.rec (motive := fun _ => List Value → List Value → (List Value → Bool) → Bool)
  (fun us l k => List.rec (motive := fun _ => List Value → (List Value → Bool) → Bool) (fun l k => k l) (fun _ _ _ _ _ => false) us l k)
  (fun p _ ih us l k => List.rec (motive := fun _ => Tmp → (List Value → List Value → (List Value → Bool) → Bool) → List Value → (List Value → Bool) → Bool) (fun _ _ _ _ => false) (fun a r _ p ih l k => setK l p a fun l => ih r l k) us p ih l k)
theorem setPs_true : ∀ {ps : List Tmp} {us l : List Value} {k : List Value → Bool}, setPs ps us l k = true → ps.length = us.length ∧
    ∃ l', (ps.zip us).foldl (fun (tmps : Array Value) (p : Tmp × Value) => tmps.setIfInBounds p.1 p.2) ⟨l⟩ = ⟨l'⟩ ∧ k l' = true
  | [], [], l, k, h => ⟨rfl, l, rfl, h⟩
  | [], _ :: _, l, k, h => by cases h
  | _ :: _, [], l, k, h => by cases h
  | p :: ps, a :: us, l, k, h => by
    have h : setK l p a (fun l => setPs ps us l k) = true := h
    obtain ⟨h1, h2⟩ := setK_true h
    obtain ⟨h3, l', h4, h5⟩ := setPs_true h2
    refine ⟨by simp [h3], l', ?_, h5⟩
    simp only [List.zip_cons_cons, List.foldl_cons]
    rw [← h4]
    congr 1
    simp [Array.setIfInBounds, h1]
noncomputable def lenK (l : List Value) (k : Nat → Bool) : Bool := List.rec (motive := fun _ => Nat → (Nat → Bool) → Bool) (fun n k => k n) (fun _ _ ih n k => ih (Nat.succ n) k) l 0 k
theorem lenK_eq (l : List Value) (k : Nat → Bool) : lenK l k = k l.length := by
  have : ∀ (l : List Value) (n : Nat), List.rec (motive := fun _ => Nat → (Nat → Bool) → Bool) (fun n k => k n) (fun _ _ ih n k => ih (Nat.succ n) k) l n k = k (n + l.length) := by
    intro l
    induction l with
    | nil => intro n; rfl
    | cons x l ih => intro n; show List.rec (motive := fun _ => Nat → (Nat → Bool) → Bool) (fun n k => k n) (fun _ _ ih n k => ih (Nat.succ n) k) l (Nat.succ n) k = _; rw [ih]; congr 1; simp; omega
  have h := this l 0
  rw [Nat.zero_add] at h
  exact h
noncomputable def isReady (s : LoopState) : Bool := LoopState.rec (motive := fun _ => Bool) true false false false s
noncomputable def isBusy (s : LoopState) : Bool := LoopState.rec (motive := fun _ => Bool) false true false false s
noncomputable def plain (e : Ex) (df : List Nat) (x : Bool) : Bool := Ex.rec (motive := fun _ => List Nat → Bool → Bool) (fun df x => List.rec (motive := fun _ => Bool → Bool) (fun x => x) (fun _ _ _ _ => false) df x) (fun _ _ _ => false) (fun _ _ => false) e df x
theorem plain_true {e : Ex} {df : List Nat} {x : Bool} (h : plain e df x = true) : e = .normal ∧ df = [] ∧ x = true := by
  cases e with
  | normal => cases df with
    | nil => exact ⟨rfl, rfl, h⟩
    | cons a l => cases h
  | _ => cases h
noncomputable def endRound (e : Ex) (r : Loop) (l n : Nat) (m : Objs) (K : KV) : Bool := Ex.rec (motive := fun _ => Loop → Nat → Nat → Objs → KV → Bool)
  (fun r l n m K => putK m l (.loop { r with state := .ready, pending := none }) fun m => K (.bool true) n m)
  (fun id r l n m K => putK m l (.loop { r with state := .done, pending := some (.exit id) }) fun m => K (.bool false) n m)
  (fun r l n m K => putK m l (.loop { r with state := .done, pending := some .ret }) fun m => K (.bool false) n m) e r l n m K
noncomputable def roundG (l : Nat) (us : List Value) (S : Sf) (n : Nat) (m : Objs) (K : KV) : Bool :=
  findK m l fun ob => asLoop ob fun r => setPs r.params.toList us r.tmps.toList fun tm => lenK tm fun nt => ifB (Nat.ble nt 512) (fromL tm fun env => S.c nt r.assign (some l) env [] n m fun e env1 df1 n1 m1 =>
    plain e df1 (findK m1 l fun ob1 => asLoop ob1 fun r1 => ifB (isReady r1.state) (putK m1 l (.loop { r1 with state := .busy }) fun m2 => S.c nt r.body (some l) env1 [] n1 m2 fun e2 _ _ n2 m3 =>
      findK m3 l fun ob2 => asLoop ob2 fun r2 => endRound e2 r2 l n2 m3 K) false)) false
noncomputable def callG (f : Opd) (args : List Opd) (S : Sf) (env : Env) (n : Nat) (m : Objs) (K : KV) : Bool :=
  asFn (getO f env) (fun g first cap => ifB (callOk TP g) (mapO args env fun us => S.f g (appL (appL first us) cap) n m K) false) (fun l first => mapO args env fun us => roundG l (appL first us) S n m K) false
theorem round_done (hS : GSelf sf S) {l : Nat} {us : List Value} (hn : inb n m = true) (hr : roundG l us S n m K = true) :
    ∃ r, runV TP (yieldL l ⟨us⟩) ⟨n, m⟩ = some (r, ⟨n, m⟩) ∧ ∃ v V1, after sf (some (r, ⟨n, m⟩)) = some (v, V1) ∧ inb V1.next V1.objs = true ∧ K v V1.next V1.objs = true := by
  unfold roundG at hr
  obtain ⟨ob, hf, hr⟩ := findK_true hr
  obtain ⟨r, hob, hr1⟩ := asLoop_true hr
  subst hob
  obtain ⟨hlen, tm, htm, hr2⟩ := setPs_true hr1
  rw [lenK_eq] at hr2
  rcases ifB_true hr2 with ⟨hle, hr3⟩ | ⟨_, hr3⟩
  case inr => cases hr3
  rw [fromL_eq] at hr3
  have hER := ERel.ofList (l := tm) (Nat.le_of_ble_eq_true hle)
  obtain ⟨e, ts1, df1, V1, env1, h1, h2, h3, hr4⟩ := hS.code _ _ _ _ _ _ _ _ _ hER hn hr3
  obtain ⟨rfl, rfl, hr5⟩ := plain_true hr4
  obtain ⟨ob1, hf1, hr6⟩ := findK_true hr5
  obtain ⟨r1, hob1, hr7⟩ := asLoop_true hr6
  subst hob1
  rcases ifB_true hr7 with ⟨hst, hr8⟩ | ⟨_, hr8⟩
  case inr => cases hr8
  have hst : r1.state = .ready := by cases h : r1.state <;> rw [h] at hst <;> first | rfl | cases hst
  obtain ⟨hs1, hr9⟩ := putK_true hr8
  obtain ⟨e2, ts2, df2, V2, env2, h4, _, h5, hr10⟩ := hS.code _ _ _ _ _ _ _ _ _ h2 (by rw [inb_put]; exact h3) hr9
  obtain ⟨ob2, hf2, hr11⟩ := findK_true hr10
  obtain ⟨r2, hob2, hr12⟩ := asLoop_true hr11
  subst hob2
  have hy : runV TP (yieldL l ⟨us⟩) ⟨n, m⟩ = some (.round l r.fn ((r.params.toList.zip us).foldl (fun tmps (p : Tmp × Value) => tmps.setIfInBounds p.1 p.2) r.tmps) r.assign r.body, ⟨n, m⟩) := by
    unfold yieldL
    rw [runV_bind]
    have hg : runV TP (Go.getObj l) ⟨n, m⟩ = some (.loop r, ⟨n, m⟩) := by simp only [Go.getObj, runV, hf, isRow, owned, Bool.not_true, Bool.or_false]
    rw [hg]
    simp only [Option.bind_some]
    have hsz : ¬ ((⟨us⟩ : Array Value).size ≠ r.params.size) := by
      have : r.params.toList.length = us.length := hlen
      simp only [Array.length_toList] at this
      simp [this]
    rw [if_neg hsz]
    rfl
  refine ⟨_, hy, ?_⟩
  have htm' : ((r.params.toList.zip us).foldl (fun tmps (p : Tmp × Value) => tmps.setIfInBounds p.1 p.2) r.tmps).toList = tm := by
    have : r.tmps = ⟨r.tmps.toList⟩ := by cases r.tmps; rfl
    rw [this, htm]
  have hf1' : find V1.objs l = some (.loop r1) := hf1
  have hf2' : find V2.objs l = some (.loop r2) := hf2
  simp only [after, htm', h1, hf1', hst, h4, hf2']
  cases e2 with
  | normal =>
    obtain ⟨_, hk⟩ := putK_true hr12
    exact ⟨_, _, rfl, by rw [inb_put]; exact h5, hk⟩
  | exit id =>
    obtain ⟨_, hk⟩ := putK_true hr12
    exact ⟨_, _, rfl, by rw [inb_put]; exact h5, hk⟩
  | ret =>
    obtain ⟨_, hk⟩ := putK_true hr12
    exact ⟨_, _, rfl, by rw [inb_put]; exact h5, hk⟩
theorem opds_eq (h : ERel nt env ts) (l : Array Operand) (hl : l.toList.all (okSlot nt) = true) (k : List Value → Bool) : mapO (opds l) env k = k (l.toList.map (ev ts)) := mapO_eq h l.toList k hl
theorem call_done (h : ERel nt env ts) (hS : GSelf sf S) {d : Option Tmp} {ty : TypeId} {pos : String} {aft : Array Edge} {gd : Option (Nat × Bool)} {c : Call} {f : Operand} (hc : c.callee = .value f) (hf : okSlot nt f = true) (ha : c.args.toList.all (okSlot nt) = true) (hn : inb n m = true)
    (hr : callG (opdD f) (opds c.args) S env n m K = true) : Done sf (ev ts) ⟨d, .call c, ty, pos, aft, gd⟩ n m K := by
  unfold callG at hr
  rw [getO_eq h hf] at hr
  rcases asFn_true hr with ⟨g, a, b, hv, hr⟩ | ⟨l, a, b, hv, hr⟩ | hr
  · rcases ifB_true hr with ⟨hok, hr1⟩ | ⟨_, hr1⟩
    case inr => cases hr1
    rw [opds_eq h _ ha] at hr1
    obtain ⟨v, V1, h1, h2, h3⟩ := hS.call _ _ _ _ _ hn hr1
    refine ⟨v, V1, ?_, h2, h3⟩
    simp only [runOp, runCall, hc, hv, hok, after]
    rw [appL_eq, appL_eq] at h1
    have : ((⟨a⟩ ++ (c.args.toList.map (ev ts)).toArray) ++ ⟨b⟩ : Array Value).toList = a ++ c.args.toList.map (ev ts) ++ b := by simp
    rw [this, h1]
  · rw [opds_eq h _ ha] at hr
    obtain ⟨r, h1, v, V1, h2, h3, h4⟩ := round_done hS hn hr
    refine ⟨v, V1, ?_, h3, h4⟩
    simp only [runOp, runCall, hc, hv]
    rw [appL_eq] at h1
    have : (⟨a⟩ ++ (c.args.toList.map (ev ts)).toArray : Array Value) = ⟨a ++ c.args.toList.map (ev ts)⟩ := by simp
    rw [this, h1]
    exact h2
  · cases hr
end
end Go.Vm
