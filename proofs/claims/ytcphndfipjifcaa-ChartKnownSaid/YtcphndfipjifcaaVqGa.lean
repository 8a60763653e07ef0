/- A quick memory of temporaries: a tree of eight by eight by eight. -/
import Derived.Test.YtcphndfipjifcaaVqX
namespace Go.Vm

structure N8 (α : Type) where
  a0 : α
  a1 : α
  a2 : α
  a3 : α
  a4 : α
  a5 : α
  a6 : α
  a7 : α
inductive I8
  | i0
  | i1
  | i2
  | i3
  | i4
  | i5
  | i6
  | i7
abbrev E1 := N8 Value
abbrev E2 := N8 E1
abbrev Env := N8 E2
structure P3 where
  x : I8
  y : I8
  z : I8
/-! what lies at a place -/
noncomputable def g1 : I8 → E1 → Value := I8.rec (motive := fun _ => E1 → Value)
  (fun t => N8.rec (motive := fun _ => Value) (fun a0 a1 a2 a3 a4 a5 a6 a7 => a0) t)
  (fun t => N8.rec (motive := fun _ => Value) (fun a0 a1 a2 a3 a4 a5 a6 a7 => a1) t)
  (fun t => N8.rec (motive := fun _ => Value) (fun a0 a1 a2 a3 a4 a5 a6 a7 => a2) t)
  (fun t => N8.rec (motive := fun _ => Value) (fun a0 a1 a2 a3 a4 a5 a6 a7 => a3) t)
  (fun t => N8.rec (motive := fun _ => Value) (fun a0 a1 a2 a3 a4 a5 a6 a7 => a4) t)
  (fun t => N8.rec (motive := fun _ => Value) (fun a0 a1 a2 a3 a4 a5 a6 a7 => a5) t)
  (fun t => N8.rec (motive := fun _ => Value) (fun a0 a1 a2 a3 a4 a5 a6 a7 => a6) t)
  (fun t => N8.rec (motive := fun _ => Value) (fun a0 a1 a2 a3 a4 a5 a6 a7 => a7) t)
def u1 (i : I8) (t : E1) (v : Value) : E1 := match i with
  | .i0 => { t with a0 := v }
  | .i1 => { t with a1 := v }
  | .i2 => { t with a2 := v }
  | .i3 => { t with a3 := v }
  | .i4 => { t with a4 := v }
  | .i5 => { t with a5 := v }
  | .i6 => { t with a6 := v }
  | .i7 => { t with a7 := v }
noncomputable def g2 : I8 → E2 → E1 := I8.rec (motive := fun _ => E2 → E1)
  (fun t => N8.rec (motive := fun _ => E1) (fun a0 a1 a2 a3 a4 a5 a6 a7 => a0) t)
  (fun t => N8.rec (motive := fun _ => E1) (fun a0 a1 a2 a3 a4 a5 a6 a7 => a1) t)
  (fun t => N8.rec (motive := fun _ => E1) (fun a0 a1 a2 a3 a4 a5 a6 a7 => a2) t)
  (fun t => N8.rec (motive := fun _ => E1) (fun a0 a1 a2 a3 a4 a5 a6 a7 => a3) t)
  (fun t => N8.rec (motive := fun _ => E1) (fun a0 a1 a2 a3 a4 a5 a6 a7 => a4) t)
  (fun t => N8.rec (motive := fun _ => E1) (fun a0 a1 a2 a3 a4 a5 a6 a7 => a5) t)
  (fun t => N8.rec (motive := fun _ => E1) (fun a0 a1 a2 a3 a4 a5 a6 a7 => a6) t)
  (fun t => N8.rec (motive := fun _ => E1) (fun a0 a1 a2 a3 a4 a5 a6 a7 => a7) t)
def u2 (i : I8) (t : E2) (v : E1) : E2 := match i with
  | .i0 => { t with a0 := v }
  | .i1 => { t with a1 := v }
  | .i2 => { t with a2 := v }
  | .i3 => { t with a3 := v }
  | .i4 => { t with a4 := v }
  | .i5 => { t with a5 := v }
  | .i6 => { t with a6 := v }
  | .i7 => { t with a7 := v }
noncomputable def g3 : I8 → Env → E2 := I8.rec (motive := fun _ => Env → E2)
  (fun t => N8.rec (motive := fun _ => E2) (fun a0 a1 a2 a3 a4 a5 a6 a7 => a0) t)
  (fun t => N8.rec (motive := fun _ => E2) (fun a0 a1 a2 a3 a4 a5 a6 a7 => a1) t)
  (fun t => N8.rec (motive := fun _ => E2) (fun a0 a1 a2 a3 a4 a5 a6 a7 => a2) t)
  (fun t => N8.rec (motive := fun _ => E2) (fun a0 a1 a2 a3 a4 a5 a6 a7 => a3) t)
  (fun t => N8.rec (motive := fun _ => E2) (fun a0 a1 a2 a3 a4 a5 a6 a7 => a4) t)
  (fun t => N8.rec (motive := fun _ => E2) (fun a0 a1 a2 a3 a4 a5 a6 a7 => a5) t)
  (fun t => N8.rec (motive := fun _ => E2) (fun a0 a1 a2 a3 a4 a5 a6 a7 => a6) t)
  (fun t => N8.rec (motive := fun _ => E2) (fun a0 a1 a2 a3 a4 a5 a6 a7 => a7) t)
def u3 (i : I8) (t : Env) (v : E2) : Env := match i with
  | .i0 => { t with a0 := v }
  | .i1 => { t with a1 := v }
  | .i2 => { t with a2 := v }
  | .i3 => { t with a3 := v }
  | .i4 => { t with a4 := v }
  | .i5 => { t with a5 := v }
  | .i6 => { t with a6 := v }
  | .i7 => { t with a7 := v }
noncomputable def s1 : I8 → E1 → Value → (E1 → Bool) → Bool := I8.rec (motive := fun _ => E1 → Value → (E1 → Bool) → Bool)
  (fun t v k => N8.rec (motive := fun _ => Value → (E1 → Bool) → Bool) (fun a0 a1 a2 a3 a4 a5 a6 a7 v k => k (N8.mk v a1 a2 a3 a4 a5 a6 a7)) t v k)
  (fun t v k => N8.rec (motive := fun _ => Value → (E1 → Bool) → Bool) (fun a0 a1 a2 a3 a4 a5 a6 a7 v k => k (N8.mk a0 v a2 a3 a4 a5 a6 a7)) t v k)
  (fun t v k => N8.rec (motive := fun _ => Value → (E1 → Bool) → Bool) (fun a0 a1 a2 a3 a4 a5 a6 a7 v k => k (N8.mk a0 a1 v a3 a4 a5 a6 a7)) t v k)
  (fun t v k => N8.rec (motive := fun _ => Value → (E1 → Bool) → Bool) (fun a0 a1 a2 a3 a4 a5 a6 a7 v k => k (N8.mk a0 a1 a2 v a4 a5 a6 a7)) t v k)
  (fun t v k => N8.rec (motive := fun _ => Value → (E1 → Bool) → Bool) (fun a0 a1 a2 a3 a4 a5 a6 a7 v k => k (N8.mk a0 a1 a2 a3 v a5 a6 a7)) t v k)
  (fun t v k => N8.rec (motive := fun _ => Value → (E1 → Bool) → Bool) (fun a0 a1 a2 a3 a4 a5 a6 a7 v k => k (N8.mk a0 a1 a2 a3 a4 v a6 a7)) t v k)
  (fun t v k => N8.rec (motive := fun _ => Value → (E1 → Bool) → Bool) (fun a0 a1 a2 a3 a4 a5 a6 a7 v k => k (N8.mk a0 a1 a2 a3 a4 a5 v a7)) t v k)
  (fun t v k => N8.rec (motive := fun _ => Value → (E1 → Bool) → Bool) (fun a0 a1 a2 a3 a4 a5 a6 a7 v k => k (N8.mk a0 a1 a2 a3 a4 a5 a6 v)) t v k)
noncomputable def s2 : I8 → E2 → I8 → Value → (E2 → Bool) → Bool := I8.rec (motive := fun _ => E2 → I8 → Value → (E2 → Bool) → Bool)
  (fun t z v k => N8.rec (motive := fun _ => I8 → Value → (E2 → Bool) → Bool) (fun a0 a1 a2 a3 a4 a5 a6 a7 z v k => s1 z a0 v (fun c => k (N8.mk c a1 a2 a3 a4 a5 a6 a7))) t z v k)
  (fun t z v k => N8.rec (motive := fun _ => I8 → Value → (E2 → Bool) → Bool) (fun a0 a1 a2 a3 a4 a5 a6 a7 z v k => s1 z a1 v (fun c => k (N8.mk a0 c a2 a3 a4 a5 a6 a7))) t z v k)
  (fun t z v k => N8.rec (motive := fun _ => I8 → Value → (E2 → Bool) → Bool) (fun a0 a1 a2 a3 a4 a5 a6 a7 z v k => s1 z a2 v (fun c => k (N8.mk a0 a1 c a3 a4 a5 a6 a7))) t z v k)
  (fun t z v k => N8.rec (motive := fun _ => I8 → Value → (E2 → Bool) → Bool) (fun a0 a1 a2 a3 a4 a5 a6 a7 z v k => s1 z a3 v (fun c => k (N8.mk a0 a1 a2 c a4 a5 a6 a7))) t z v k)
  (fun t z v k => N8.rec (motive := fun _ => I8 → Value → (E2 → Bool) → Bool) (fun a0 a1 a2 a3 a4 a5 a6 a7 z v k => s1 z a4 v (fun c => k (N8.mk a0 a1 a2 a3 c a5 a6 a7))) t z v k)
  (fun t z v k => N8.rec (motive := fun _ => I8 → Value → (E2 → Bool) → Bool) (fun a0 a1 a2 a3 a4 a5 a6 a7 z v k => s1 z a5 v (fun c => k (N8.mk a0 a1 a2 a3 a4 c a6 a7))) t z v k)
  (fun t z v k => N8.rec (motive := fun _ => I8 → Value → (E2 → Bool) → Bool) (fun a0 a1 a2 a3 a4 a5 a6 a7 z v k => s1 z a6 v (fun c => k (N8.mk a0 a1 a2 a3 a4 a5 c a7))) t z v k)
  (fun t z v k => N8.rec (motive := fun _ => I8 → Value → (E2 → Bool) → Bool) (fun a0 a1 a2 a3 a4 a5 a6 a7 z v k => s1 z a7 v (fun c => k (N8.mk a0 a1 a2 a3 a4 a5 a6 c))) t z v k)
noncomputable def s3 : I8 → Env → I8 → I8 → Value → (Env → Bool) → Bool := I8.rec (motive := fun _ => Env → I8 → I8 → Value → (Env → Bool) → Bool)
  (fun t y z v k => N8.rec (motive := fun _ => I8 → I8 → Value → (Env → Bool) → Bool) (fun a0 a1 a2 a3 a4 a5 a6 a7 y z v k => s2 y a0 z v (fun c => k (N8.mk c a1 a2 a3 a4 a5 a6 a7))) t y z v k)
  (fun t y z v k => N8.rec (motive := fun _ => I8 → I8 → Value → (Env → Bool) → Bool) (fun a0 a1 a2 a3 a4 a5 a6 a7 y z v k => s2 y a1 z v (fun c => k (N8.mk a0 c a2 a3 a4 a5 a6 a7))) t y z v k)
  (fun t y z v k => N8.rec (motive := fun _ => I8 → I8 → Value → (Env → Bool) → Bool) (fun a0 a1 a2 a3 a4 a5 a6 a7 y z v k => s2 y a2 z v (fun c => k (N8.mk a0 a1 c a3 a4 a5 a6 a7))) t y z v k)
  (fun t y z v k => N8.rec (motive := fun _ => I8 → I8 → Value → (Env → Bool) → Bool) (fun a0 a1 a2 a3 a4 a5 a6 a7 y z v k => s2 y a3 z v (fun c => k (N8.mk a0 a1 a2 c a4 a5 a6 a7))) t y z v k)
  (fun t y z v k => N8.rec (motive := fun _ => I8 → I8 → Value → (Env → Bool) → Bool) (fun a0 a1 a2 a3 a4 a5 a6 a7 y z v k => s2 y a4 z v (fun c => k (N8.mk a0 a1 a2 a3 c a5 a6 a7))) t y z v k)
  (fun t y z v k => N8.rec (motive := fun _ => I8 → I8 → Value → (Env → Bool) → Bool) (fun a0 a1 a2 a3 a4 a5 a6 a7 y z v k => s2 y a5 z v (fun c => k (N8.mk a0 a1 a2 a3 a4 c a6 a7))) t y z v k)
  (fun t y z v k => N8.rec (motive := fun _ => I8 → I8 → Value → (Env → Bool) → Bool) (fun a0 a1 a2 a3 a4 a5 a6 a7 y z v k => s2 y a6 z v (fun c => k (N8.mk a0 a1 a2 a3 a4 a5 c a7))) t y z v k)
  (fun t y z v k => N8.rec (motive := fun _ => I8 → I8 → Value → (Env → Bool) → Bool) (fun a0 a1 a2 a3 a4 a5 a6 a7 y z v k => s2 y a7 z v (fun c => k (N8.mk a0 a1 a2 a3 a4 a5 a6 c))) t y z v k)
noncomputable def getE (p : P3) (env : Env) : Value := P3.rec (motive := fun _ => Env → Value) (fun x y z t => g1 z (g2 y (g3 x t))) p env
noncomputable def setE (p : P3) (env : Env) (v : Value) (k : Env → Bool) : Bool := P3.rec (motive := fun _ => Env → Value → (Env → Bool) → Bool) (fun x y z t v k => s3 x t y z v k) p env v k
noncomputable def updE (p : P3) (t : Env) (v : Value) : Env := u3 p.x t (u2 p.y (g3 p.x t) (u1 p.z (g2 p.y (g3 p.x t)) v))

theorem s1_eq (z : I8) (t : E1) (v : Value) (k : E1 → Bool) : s1 z t v k = k (u1 z t v) := by cases z <;> rfl
theorem s2_eq (y : I8) (t : E2) (z : I8) (v : Value) (k : E2 → Bool) : s2 y t z v k = k (u2 y t (u1 z (g2 y t) v)) := by
  cases y <;> exact s1_eq ..
theorem s3_eq (x : I8) (t : Env) (y z : I8) (v : Value) (k : Env → Bool) : s3 x t y z v k = k (u3 x t (u2 y (g3 x t) (u1 z (g2 y (g3 x t)) v))) := by
  cases x <;> exact s2_eq ..
theorem setE_eq (p : P3) (t : Env) (v : Value) (k : Env → Bool) : setE p t v k = k (updE p t v) := by
  obtain ⟨x, y, z⟩ := p
  exact s3_eq ..
theorem g1_u (i j : I8) (t : E1) (v : Value) : (i = j → g1 i (u1 j t v) = v) ∧ (i ≠ j → g1 i (u1 j t v) = g1 i t) := by
  cases i <;> cases j <;> first | exact ⟨fun _ => rfl, fun h => absurd rfl h⟩ | exact ⟨fun h => (by cases h), fun _ => rfl⟩
theorem g2_u (i j : I8) (t : E2) (v : E1) : (i = j → g2 i (u2 j t v) = v) ∧ (i ≠ j → g2 i (u2 j t v) = g2 i t) := by
  cases i <;> cases j <;> first | exact ⟨fun _ => rfl, fun h => absurd rfl h⟩ | exact ⟨fun h => (by cases h), fun _ => rfl⟩
theorem g3_u (i j : I8) (t : Env) (v : E2) : (i = j → g3 i (u3 j t v) = v) ∧ (i ≠ j → g3 i (u3 j t v) = g3 i t) := by
  cases i <;> cases j <;> first | exact ⟨fun _ => rfl, fun h => absurd rfl h⟩ | exact ⟨fun h => (by cases h), fun _ => rfl⟩
theorem get_upd (p : P3) (t : Env) (v : Value) : getE p (updE p t v) = v := by
  obtain ⟨x, y, z⟩ := p
  show g1 z (g2 y (g3 x (u3 x t _))) = v
  rw [(g3_u x x t _).1 rfl, (g2_u y y _ _).1 rfl, (g1_u z z _ _).1 rfl]
theorem get_upd_ne {p q : P3} (h : q ≠ p) (t : Env) (v : Value) : getE q (updE p t v) = getE q t := by
  obtain ⟨x, y, z⟩ := p
  obtain ⟨x', y', z'⟩ := q
  show g1 z' (g2 y' (g3 x' (u3 x t (u2 y (g3 x t) (u1 z (g2 y (g3 x t)) v))))) = g1 z' (g2 y' (g3 x' t))
  by_cases hx : x' = x
  · subst hx
    rw [(g3_u x' x' t _).1 rfl]
    by_cases hy : y' = y
    · subst hy
      rw [(g2_u y' y' _ _).1 rfl]
      have hz : z' ≠ z := fun e => h (by rw [e])
      rw [(g1_u z' z _ _).2 hz]
    · rw [(g2_u y' y _ _).2 hy]
  · rw [(g3_u x' x t _).2 hx]
def i8 (n : Nat) : I8 := match n with
  | 0 => .i0
  | 1 => .i1
  | 2 => .i2
  | 3 => .i3
  | 4 => .i4
  | 5 => .i5
  | 6 => .i6
  | _ => .i7
def path (i : Nat) : P3 := ⟨i8 (i / 64), i8 (i / 8 % 8), i8 (i % 8)⟩
theorem i8_inj : ∀ a b : Nat, a < 8 → b < 8 → i8 a = i8 b → a = b := by
  intro a b ha hb h
  have hA : a = 0 ∨ a = 1 ∨ a = 2 ∨ a = 3 ∨ a = 4 ∨ a = 5 ∨ a = 6 ∨ a = 7 := by omega
  have hB : b = 0 ∨ b = 1 ∨ b = 2 ∨ b = 3 ∨ b = 4 ∨ b = 5 ∨ b = 6 ∨ b = 7 := by omega
  rcases hA with rfl | rfl | rfl | rfl | rfl | rfl | rfl | rfl <;> rcases hB with rfl | rfl | rfl | rfl | rfl | rfl | rfl | rfl <;> first | rfl | (exfalso; revert h; simp [i8])
theorem path_inj {i j : Nat} (hi : i < 512) (hj : j < 512) (h : path i = path j) : i = j := by
  unfold path at h
  injection h with h1 h2 h3
  have e1 := i8_inj _ _ (by omega) (by omega) h1
  have e2 := i8_inj _ _ (by omega) (by omega) h2
  have e3 := i8_inj _ _ (by omega) (by omega) h3
  omega

/-- the tree holds the temporaries ts, nt of them -/
structure ERel (nt : Nat) (env : Env) (ts : List Value) : Prop where
  len : ts.length = nt
  le : nt ≤ 512
  get : ∀ i, i < nt → getE (path i) env = lget ts i
theorem lget_lset (ts : List Value) (d : Nat) (v : Value) (i : Nat) : lget (lset ts d v) i = if i = d ∧ d < ts.length then v else lget ts i := by
  rw [lset_eq, lget_eq, lget_eq, List.getElem?_set]
  by_cases h : d = i
  · subst h
    by_cases h2 : d < ts.length
    · simp [h2]
    · simp [h2, List.getElem?_eq_none_iff.2 (Nat.le_of_not_lt h2)]
  · have : ¬ i = d := fun e => h e.symm
    simp [h, this]
theorem ERel.set {nt : Nat} {env : Env} {ts : List Value} (h : ERel nt env ts) {d : Nat} (hd : d < nt) (v : Value) : ERel nt (updE (path d) env v) (lset ts d v) := by
  refine ⟨by rw [lset_eq, List.length_set]; exact h.len, h.le, fun i hi => ?_⟩
  have hle := h.le
  rw [lget_lset]
  by_cases e : i = d
  · subst e
    rw [get_upd, if_pos ⟨rfl, by rw [h.len]; exact hi⟩]
  · rw [if_neg (fun c => e c.1), get_upd_ne (fun c => e (path_inj (by omega) (by omega) c))]
    exact h.get i hi

/-! from a list -/
noncomputable def pop (l : List Value) (k : Value → List Value → Bool) : Bool := List.rec (motive := fun _ => (Value → List Value → Bool) → Bool) (fun k => k undef []) (fun a r _ k => k a r) l k
noncomputable def b1 (l : List Value) (k : E1 → List Value → Bool) : Bool := pop l fun a0 l => pop l fun a1 l => pop l fun a2 l => pop l fun a3 l => pop l fun a4 l => pop l fun a5 l => pop l fun a6 l => pop l fun a7 l => k (N8.mk a0 a1 a2 a3 a4 a5 a6 a7) l
def U1 : E1 := N8.mk undef undef undef undef undef undef undef undef
noncomputable def b1' (l : List Value) (k : E1 → List Value → Bool) : Bool := List.rec (motive := fun _ => (E1 → List Value → Bool) → Bool) (fun k => k U1 []) (fun a r _ k => b1 (a :: r) k) l k
noncomputable def b2 (l : List Value) (k : E2 → List Value → Bool) : Bool := b1' l fun a0 l => b1' l fun a1 l => b1' l fun a2 l => b1' l fun a3 l => b1' l fun a4 l => b1' l fun a5 l => b1' l fun a6 l => b1' l fun a7 l => k (N8.mk a0 a1 a2 a3 a4 a5 a6 a7) l
def U2 : E2 := N8.mk U1 U1 U1 U1 U1 U1 U1 U1
noncomputable def b2' (l : List Value) (k : E2 → List Value → Bool) : Bool := List.rec (motive := fun _ => (E2 → List Value → Bool) → Bool) (fun k => k U2 []) (fun a r _ k => b2 (a :: r) k) l k
noncomputable def fromL (l : List Value) (k : Env → Bool) : Bool := b2' l fun a0 l => b2' l fun a1 l => b2' l fun a2 l => b2' l fun a3 l => b2' l fun a4 l => b2' l fun a5 l => b2' l fun a6 l => b2' l fun a7 l => k (N8.mk a0 a1 a2 a3 a4 a5 a6 a7)
def e1 (f : Nat → Value) (s : Nat) : E1 := N8.mk (f (s + 0)) (f (s + 1)) (f (s + 2)) (f (s + 3)) (f (s + 4)) (f (s + 5)) (f (s + 6)) (f (s + 7))
def e2 (f : Nat → Value) (s : Nat) : E2 := N8.mk (e1 f (s + 0)) (e1 f (s + 8)) (e1 f (s + 16)) (e1 f (s + 24)) (e1 f (s + 32)) (e1 f (s + 40)) (e1 f (s + 48)) (e1 f (s + 56))
def e3 (f : Nat → Value) : Env := N8.mk (e2 f 0) (e2 f 64) (e2 f 128) (e2 f 192) (e2 f 256) (e2 f 320) (e2 f 384) (e2 f 448)
theorem pop_eq (l : List Value) (k : Value → List Value → Bool) : pop l k = k (lget l 0) (l.drop 1) := by cases l <;> rfl
theorem lget_drop (l : List Value) (s i : Nat) : lget (l.drop s) i = lget l (s + i) := by rw [lget_eq, lget_eq, List.getElem?_drop]
theorem b1_eq (l : List Value) (s : Nat) (k : E1 → List Value → Bool) : b1 (l.drop s) k = k (e1 (lget l) s) (l.drop (s + 8)) := by
  simp only [b1, pop_eq, lget_drop, List.drop_drop, Nat.add_assoc, Nat.reduceAdd, Nat.add_zero]
  rfl
theorem nil_e1 {l : List Value} {s : Nat} (h : l.drop s = []) : e1 (lget l) s = U1 := by
  have : ∀ i, lget l (s + i) = undef := fun i => by rw [← lget_drop, h]; rfl
  simp only [e1, this, U1]
theorem b1'_eq (l : List Value) (s : Nat) (k : E1 → List Value → Bool) : b1' (l.drop s) k = k (e1 (lget l) s) (l.drop (s + 8)) := by
  have h := b1_eq l s k
  cases hq : l.drop s with
  | nil =>
    rw [nil_e1 hq, show l.drop (s + 8) = [] by rw [← List.drop_drop, hq]; rfl]; rfl
  | cons a r => rw [hq] at h; exact h
theorem b2_eq (l : List Value) (s : Nat) (k : E2 → List Value → Bool) : b2 (l.drop s) k = k (e2 (lget l) s) (l.drop (s + 64)) := by
  simp only [b2, b1'_eq, Nat.add_assoc, Nat.reduceAdd, Nat.add_zero]
  rfl
theorem nil_e2 {l : List Value} {s : Nat} (h : l.drop s = []) : e2 (lget l) s = U2 := by
  have : ∀ i, e1 (lget l) (s + i) = U1 := fun i => nil_e1 (by rw [← List.drop_drop, h]; exact List.drop_nil)
  simp only [e2, this, U2]
theorem b2'_eq (l : List Value) (s : Nat) (k : E2 → List Value → Bool) : b2' (l.drop s) k = k (e2 (lget l) s) (l.drop (s + 64)) := by
  have h := b2_eq l s k
  cases hq : l.drop s with
  | nil =>
    rw [nil_e2 hq, show l.drop (s + 64) = [] by rw [← List.drop_drop, hq]; rfl]; rfl
  | cons a r => rw [hq] at h; exact h
theorem fromL_eq (l : List Value) (k : Env → Bool) : fromL l k = k (e3 (lget l)) := by
  have h : ∀ k, b2' l k = k (e2 (lget l) 0) (l.drop (0 + 64)) := fun k => b2'_eq l 0 k
  simp only [fromL, h, b2'_eq, Nat.add_assoc, Nat.reduceAdd, Nat.add_zero, Nat.zero_add]
  rfl
theorem g1_e (f : Nat → Value) (s i : Nat) (h : i < 8) : g1 (i8 i) (e1 f s) = f (s + i) := by
  have : i = 0 ∨ i = 1 ∨ i = 2 ∨ i = 3 ∨ i = 4 ∨ i = 5 ∨ i = 6 ∨ i = 7 := by omega
  rcases this with rfl | rfl | rfl | rfl | rfl | rfl | rfl | rfl <;> rfl
theorem g2_e (f : Nat → Value) (s i : Nat) (h : i < 8) : g2 (i8 i) (e2 f s) = e1 f (s + 8 * i) := by
  have : i = 0 ∨ i = 1 ∨ i = 2 ∨ i = 3 ∨ i = 4 ∨ i = 5 ∨ i = 6 ∨ i = 7 := by omega
  rcases this with rfl | rfl | rfl | rfl | rfl | rfl | rfl | rfl <;> rfl
theorem g3_e (f : Nat → Value) (i : Nat) (h : i < 8) : g3 (i8 i) (e3 f) = e2 f (64 * i) := by
  have : i = 0 ∨ i = 1 ∨ i = 2 ∨ i = 3 ∨ i = 4 ∨ i = 5 ∨ i = 6 ∨ i = 7 := by omega
  rcases this with rfl | rfl | rfl | rfl | rfl | rfl | rfl | rfl <;> rfl
theorem ERel.ofList {l : List Value} (h : l.length ≤ 512) : ERel l.length (e3 (lget l)) l := by
  refine ⟨rfl, h, fun i hi => ?_⟩
  show g1 (i8 (i % 8)) (g2 (i8 (i / 8 % 8)) (g3 (i8 (i / 64)) (e3 (lget l)))) = _
  rw [g3_e _ _ (by omega), g2_e _ _ _ (by omega), g1_e _ _ _ (by omega)]
  congr 1
  omega

/-! to a list -/
noncomputable def toLR : Nat → Nat → Env → List Value := Nat.rec (motive := fun _ => Nat → Env → List Value) (fun _ _ => []) (fun _ ih s env => getE (path s) env :: ih (Nat.succ s) env)
theorem toLR_get (env : Env) : ∀ (n s i : Nat), lget (toLR n s env) i = if i < n then getE (path (s + i)) env else undef := by
  intro n
  induction n with
  | zero => intro s i; simp [toLR, lget]
  | succ n ih =>
    intro s i
    show lget (getE (path s) env :: toLR n (Nat.succ s) env) i = _
    cases i with
    | zero => simp [lget]
    | succ i =>
      show lget (toLR n (Nat.succ s) env) i = _
      rw [ih, show Nat.succ s + i = s + (i + 1) by omega]
      simp only [Nat.add_lt_add_iff_right]
theorem toLR_len (env : Env) : ∀ (n s : Nat), (toLR n s env).length = n := by
  intro n
  induction n with
  | zero => intro s; rfl
  | succ n ih => intro s; show (toLR n (Nat.succ s) env).length + 1 = _; rw [ih]
theorem toLR_eq {nt : Nat} {env : Env} {ts : List Value} (h : ERel nt env ts) : toLR nt 0 env = ts := by
  apply List.ext_getElem?
  intro i
  have e1 := toLR_get env nt 0 i
  have e2 := toLR_len env nt 0
  rw [Nat.zero_add] at e1
  by_cases hi : i < nt
  · rw [if_pos hi, h.get i hi, lget_eq, lget_eq] at e1
    rw [List.getElem?_eq_getElem (by rw [e2]; exact hi), List.getElem?_eq_getElem (by rw [h.len]; exact hi)] at e1 ⊢
    simpa using e1
  · rw [List.getElem?_eq_none_iff.2 (by rw [e2]; omega), List.getElem?_eq_none_iff.2 (by rw [h.len]; omega)]
end Go.Vm
