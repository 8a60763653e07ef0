/- Plain facts on whole numbers. -/
namespace Go.Proofs.Ytcphndfipjifcaa

def lessR (a b c d : Int) : Bool := decide (a * d < c * b)
/-- what is kept while two fractions are compared by their whole parts -/
def lessI (R T : Bool) (x y z t : Int) : Prop := R = (decide (x * t ≠ z * y) && (lessR x y z t != T))

theorem less_lt (x y z t : Int) (hy : 1 ≤ y) (ht : 1 ≤ t) (h : x / y < z / t) : x * t < z * y := by
  have h1 : x < (x / y + 1) * y := Int.lt_ediv_add_one_mul_self x (by omega)
  have h2 : z / t * t ≤ z := Int.ediv_mul_le z (by omega)
  have h3 : x * t < (x / y + 1) * y * t := Int.mul_lt_mul_of_pos_right h1 (by omega)
  have h4 : (x / y + 1) * y * t ≤ z / t * y * t := Int.mul_le_mul_of_nonneg_right (Int.mul_le_mul_of_nonneg_right (by omega) (by omega)) (by omega)
  have h5 : z / t * t * y ≤ z * y := Int.mul_le_mul_of_nonneg_right h2 (by omega)
  have h6 : z / t * y * t = z / t * t * y := by rw [Int.mul_assoc, Int.mul_comm y t, ← Int.mul_assoc]
  omega

theorem less_ne {R T : Bool} {x y z t : Int} (hy : 1 ≤ y) (ht : 1 ≤ t) (h : x / y ≠ z / t) (hI : lessI R T x y z t) : R = (decide (x / y < z / t) != T) := by
  unfold lessI lessR at hI
  rcases Int.lt_or_gt_of_ne h with h1 | h1
  · have := less_lt x y z t hy ht h1
    rw [hI]
    rw [decide_eq_true (show x * t ≠ z * y by omega), decide_eq_true this, decide_eq_true h1]; rfl
  · have := less_lt z t x y ht hy h1
    rw [hI]
    rw [decide_eq_true (show x * t ≠ z * y by omega), decide_eq_false (show ¬ x * t < z * y by omega), decide_eq_false (show ¬ x / y < z / t by omega)]; rfl

theorem less_sub (x y z t p : Int) : (x - p * y) * t - (z - p * t) * y = x * t - z * y := by
  rw [Int.sub_mul, Int.sub_mul, Int.mul_assoc p y t, Int.mul_assoc p t y, Int.mul_comm t y]; omega

theorem less_rest {R T : Bool} {x y z t : Int} (h : x / y = z / t) (hI : lessI R T x y z t) : lessI R T (x - x / y * y) y (z - z / t * t) t := by
  unfold lessI lessR at *
  have e := less_sub x y z t (x / y)
  rw [← h]
  rw [hI]
  congr 1
  · congr 1; apply propext; constructor <;> intro h1 <;> omega
  · congr 2; apply propext; constructor <;> intro h1 <;> omega

theorem less_zero {R T : Bool} {u y v t : Int} (hy : 1 ≤ y) (ht : 1 ≤ t) (hu : 0 ≤ u) (hv : 0 ≤ v) (h : u = 0 ∨ v = 0) (hI : lessI R T u y v t) : R = (decide (u ≠ v) && (decide (u = 0) != T)) := by
  unfold lessI lessR at hI
  rw [hI]
  by_cases h1 : u = 0
  · subst h1
    by_cases h2 : v = 0
    · subst h2; simp
    · have : 0 < v * y := Int.mul_pos (by omega) (by omega)
      rw [Int.zero_mul, decide_eq_true (show (0 : Int) ≠ v * y by omega), decide_eq_true this, decide_eq_true (show (0 : Int) ≠ v by omega)]; rfl
  · have h2 : v = 0 := by omega
    subst h2
    have : 0 < u * t := Int.mul_pos (by omega) (by omega)
    rw [Int.zero_mul, decide_eq_true (show u * t ≠ 0 by omega), decide_eq_false (show ¬ u * t < 0 by omega), decide_eq_true h1, decide_eq_false h1]

theorem less_turn {R T : Bool} {u y v t : Int} (hI : lessI R T u y v t) : lessI R (!T) y u t v := by
  unfold lessI lessR at *
  rw [hI, Int.mul_comm y v, Int.mul_comm t u]
  by_cases h : u * t = v * y
  · rw [h]; simp
  · rw [decide_eq_true h, decide_eq_true (show v * y ≠ u * t by omega)]
    by_cases h1 : u * t < v * y
    · rw [decide_eq_true h1, decide_eq_false (show ¬ v * y < u * t by omega)]; cases T <;> rfl
    · rw [decide_eq_false h1, decide_eq_true (show v * y < u * t by omega)]; cases T <;> rfl

theorem less_start (a b c d : Int) : lessI (lessR a b c d) false a b c d := by
  unfold lessI lessR
  by_cases h : a * d < c * b
  · rw [decide_eq_true h, decide_eq_true (show a * d ≠ c * b by omega)]; rfl
  · rw [decide_eq_false h]; simp

/-- the rests: not below 0, below the divisor -/
theorem rest_bd (x y : Int) (hx : 0 ≤ x) (hy : 1 ≤ y) : 0 ≤ x / y ∧ x / y ≤ x ∧ 0 ≤ x / y * y ∧ x / y * y ≤ x ∧ x - x / y * y < y := by
  have h1 : 0 ≤ x / y := Int.ediv_nonneg hx (by omega)
  have h2 : x / y * y ≤ x := Int.ediv_mul_le x (by omega)
  have h3 : x < (x / y + 1) * y := Int.lt_ediv_add_one_mul_self x (by omega)
  have h4 : 0 ≤ x / y * y := Int.mul_nonneg h1 (by omega)
  rw [Int.add_mul] at h3
  exact ⟨h1, Int.ediv_le_self _ hx, h4, h2, by omega⟩
example (a b c : Int) : (a + b) * c = a * c + b * c := by grind
end Go.Proofs.Ytcphndfipjifcaa
