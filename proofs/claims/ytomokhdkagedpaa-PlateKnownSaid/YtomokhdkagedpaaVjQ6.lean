/- What letters cost for each other in the chapter's book. -/
import Derived.Test.YtomokhdkagedpaaVjQ5
set_option linter.unusedVariables false
namespace Go.Vm
set_option maxRecDepth 100000
set_option maxHeartbeats 4000000
def mnN (a b : Nat) : Nat := bif Nat.ble a b then a else b
theorem mnN_eq (a b : Nat) : ((mnN a b : Nat) : Int) = mnZ a b := by
  unfold mnN mnZ
  cases h : Nat.ble a b with
  | true => have := Nat.le_of_ble_eq_true h; rw [cond_true, if_neg (by omega)]
  | false =>
    have : ¬ a ≤ b := fun e => by rw [Nat.ble_eq_true_of_le e] at h; cases h
    rw [cond_false, if_pos (by omega)]
/-- ways over one more letter, row by row -/
def stepN (R : List (List Nat)) (m : Nat) : List (List Nat) := R.map fun r => List.zipWith (fun x y => mnN x (r.getD m 0 + y)) r (R.getD m [])
def ofN (R : List (List Nat)) : List Int := R.flatten.map Int.ofNat
structure Sq (R : List (List Nat)) : Prop where
  len : R.length = 36
  row : ∀ i, i < 36 → (R.getD i []).length = 36
theorem flat_get : ∀ (R : List (List Nat)) (i k : Nat), (∀ i, i < R.length → (R.getD i []).length = 36) → i < R.length → k < 36 → R.flatten[36 * i + k]? = some ((R.getD i []).getD k 0)
  | [], i, k, _, h, _ => by simp at h
  | r :: R, 0, k, hr, _, hk => by
    have h0 : r.length = 36 := hr 0 (by simp)
    rw [List.flatten_cons, Nat.mul_zero, Nat.zero_add, List.getElem?_append_left (by omega), List.getElem?_eq_getElem (by omega)]
    simp [List.getElem?_eq_getElem (show k < r.length by omega)]
  | r :: R, i + 1, k, hr, hi, hk => by
    have h0 : r.length = 36 := hr 0 (by simp)
    have := flat_get R i k (fun j hj => by have := hr (j + 1) (by simpa using hj); simpa using this) (by simpa using hi) hk
    rw [List.flatten_cons, List.getElem?_append_right (by omega), show 36 * (i + 1) + k - r.length = 36 * i + k by omega, this]
    simp
theorem ofN_get {R : List (List Nat)} (h : Sq R) {i k : Nat} (hi : i < 36) (hk : k < 36) : (ofN R).getD (36 * i + k) 0 = (((R.getD i []).getD k 0 : Nat) : Int) := by
  unfold ofN
  rw [List.getD_eq_getElem?_getD, List.getElem?_map, flat_get R i k (fun j hj => h.row j (by rw [h.len] at hj; exact hj)) (by rw [h.len]; exact hi) hk]
  rfl
theorem flat_len : ∀ (R : List (List Nat)), (∀ i, i < R.length → (R.getD i []).length = 36) → R.flatten.length = 36 * R.length
  | [], _ => rfl
  | r :: R, hr => by
    have h0 : r.length = 36 := hr 0 (by simp)
    rw [List.flatten_cons, List.length_append, flat_len R (fun j hj => by have := hr (j + 1) (by simpa using hj); simpa using this), List.length_cons]
    omega
theorem ofN_len {R : List (List Nat)} (h : Sq R) : (ofN R).length = 1296 := by
  unfold ofN
  rw [List.length_map, flat_len R (fun j hj => h.row j (by rw [h.len] at hj; exact hj)), h.len]
theorem step_row {R : List (List Nat)} {m i : Nat} (hi : i < R.length) : (stepN R m).getD i [] = List.zipWith (fun x y => mnN x ((R.getD i []).getD m 0 + y)) (R.getD i []) (R.getD m []) := by
  unfold stepN
  simp [List.getElem?_map, List.getElem?_eq_getElem hi]
theorem zip_get {f : Nat → Nat → Nat} {l l' : List Nat} {k : Nat} (h : k < l.length) (h' : k < l'.length) : (List.zipWith f l l').getD k 0 = f (l.getD k 0) (l'.getD k 0) := by
  simp [List.getElem?_zipWith, List.getElem?_eq_getElem h, List.getElem?_eq_getElem h']
theorem step_sq {R : List (List Nat)} (h : Sq R) {m : Nat} (hm : m < 36) : Sq (stepN R m) := by
  refine ⟨by unfold stepN; rw [List.length_map, h.len], fun i hi => ?_⟩
  rw [step_row (by rw [h.len]; exact hi), List.length_zipWith, h.row i hi, h.row m hm]
  rfl
theorem step_ok' {R : List (List Nat)} (h : Sq R) {m : Nat} (hm : m < 36) : fwS (ofN R) m = ofN (stepN R m) := by
  refine ext_getD (by rw [ofN_len (step_sq h hm)]; exact rmap_len) fun j hj => ?_
  have hj : j < 1296 := by unfold fwS at hj; rw [rmap_len] at hj; exact hj
  unfold fwS
  rw [rmap_get hj]
  have e : j = 36 * (j / 36) + j % 36 := by omega
  unfold fwE
  rw [ofN_get h (i := j / 36) (k := m) (by omega) hm, ofN_get h (i := m) (k := j % 36) hm (by omega)]
  have e1 := ofN_get h (i := j / 36) (k := j % 36) (by omega) (by omega)
  have e2 := ofN_get (step_sq h hm) (i := j / 36) (k := j % 36) (by omega) (by omega)
  rw [← e] at e1 e2
  rw [e1, e2, step_row (by rw [h.len]; omega), zip_get (by rw [h.row _ (by omega)]; omega) (by rw [h.row m hm]; omega), mnN_eq]
  simp
def bkA : List Al := [(66, 56, 1), (79, 48, 1), (73, 49, 1), (79, 81, 2)]
def mt0 : List (List Nat) := [[0, 6, 6, 6, 6, 6, 6, 6, 6, 6, 6, 6, 6, 6, 6, 6, 6, 6, 6, 6, 6, 6, 6, 6, 6, 6, 6, 6, 6, 6, 6, 6, 6, 6, 6, 6], [6, 0, 6, 6, 6, 6, 6, 6, 6, 6, 6, 6, 6, 6, 6, 6, 6, 6, 6, 6, 6, 6, 6, 6, 6, 6, 6, 6, 6, 6, 6, 6, 6, 6, 1, 6], [6, 6, 0, 6, 6, 6, 6, 6, 6, 6, 6, 6, 6, 6, 6, 6, 6, 6, 6, 6, 6, 6, 6, 6, 6, 6, 6, 6, 6, 6, 6, 6, 6, 6, 6, 6], [6, 6, 6, 0, 6, 6, 6, 6, 6, 6, 6, 6, 6, 6, 6, 6, 6, 6, 6, 6, 6, 6, 6, 6, 6, 6, 6, 6, 6, 6, 6, 6, 6, 6, 6, 6], [6, 6, 6, 6, 0, 6, 6, 6, 6, 6, 6, 6, 6, 6, 6, 6, 6, 6, 6, 6, 6, 6, 6, 6, 6, 6, 6, 6, 6, 6, 6, 6, 6, 6, 6, 6], [6, 6, 6, 6, 6, 0, 6, 6, 6, 6, 6, 6, 6, 6, 6, 6, 6, 6, 6, 6, 6, 6, 6, 6, 6, 6, 6, 6, 6, 6, 6, 6, 6, 6, 6, 6], [6, 6, 6, 6, 6, 6, 0, 6, 6, 6, 6, 6, 6, 6, 6, 6, 6, 6, 6, 6, 6, 6, 6, 6, 6, 6, 6, 6, 6, 6, 6, 6, 6, 6, 6, 6], [6, 6, 6, 6, 6, 6, 6, 0, 6, 6, 6, 6, 6, 6, 6, 6, 6, 6, 6, 6, 6, 6, 6, 6, 6, 6, 6, 6, 6, 6, 6, 6, 6, 6, 6, 6], [6, 6, 6, 6, 6, 6, 6, 6, 0, 6, 6, 6, 6, 6, 6, 6, 6, 6, 6, 6, 6, 6, 6, 6, 6, 6, 6, 1, 6, 6, 6, 6, 6, 6, 6, 6], [6, 6, 6, 6, 6, 6, 6, 6, 6, 0, 6, 6, 6, 6, 6, 6, 6, 6, 6, 6, 6, 6, 6, 6, 6, 6, 6, 6, 6, 6, 6, 6, 6, 6, 6, 6], [6, 6, 6, 6, 6, 6, 6, 6, 6, 6, 0, 6, 6, 6, 6, 6, 6, 6, 6, 6, 6, 6, 6, 6, 6, 6, 6, 6, 6, 6, 6, 6, 6, 6, 6, 6], [6, 6, 6, 6, 6, 6, 6, 6, 6, 6, 6, 0, 6, 6, 6, 6, 6, 6, 6, 6, 6, 6, 6, 6, 6, 6, 6, 6, 6, 6, 6, 6, 6, 6, 6, 6], [6, 6, 6, 6, 6, 6, 6, 6, 6, 6, 6, 6, 0, 6, 6, 6, 6, 6, 6, 6, 6, 6, 6, 6, 6, 6, 6, 6, 6, 6, 6, 6, 6, 6, 6, 6], [6, 6, 6, 6, 6, 6, 6, 6, 6, 6, 6, 6, 6, 0, 6, 6, 6, 6, 6, 6, 6, 6, 6, 6, 6, 6, 6, 6, 6, 6, 6, 6, 6, 6, 6, 6], [6, 6, 6, 6, 6, 6, 6, 6, 6, 6, 6, 6, 6, 6, 0, 6, 2, 6, 6, 6, 6, 6, 6, 6, 6, 6, 1, 6, 6, 6, 6, 6, 6, 6, 6, 6], [6, 6, 6, 6, 6, 6, 6, 6, 6, 6, 6, 6, 6, 6, 6, 0, 6, 6, 6, 6, 6, 6, 6, 6, 6, 6, 6, 6, 6, 6, 6, 6, 6, 6, 6, 6], [6, 6, 6, 6, 6, 6, 6, 6, 6, 6, 6, 6, 6, 6, 2, 6, 0, 6, 6, 6, 6, 6, 6, 6, 6, 6, 6, 6, 6, 6, 6, 6, 6, 6, 6, 6], [6, 6, 6, 6, 6, 6, 6, 6, 6, 6, 6, 6, 6, 6, 6, 6, 6, 0, 6, 6, 6, 6, 6, 6, 6, 6, 6, 6, 6, 6, 6, 6, 6, 6, 6, 6], [6, 6, 6, 6, 6, 6, 6, 6, 6, 6, 6, 6, 6, 6, 6, 6, 6, 6, 0, 6, 6, 6, 6, 6, 6, 6, 6, 6, 6, 6, 6, 6, 6, 6, 6, 6], [6, 6, 6, 6, 6, 6, 6, 6, 6, 6, 6, 6, 6, 6, 6, 6, 6, 6, 6, 0, 6, 6, 6, 6, 6, 6, 6, 6, 6, 6, 6, 6, 6, 6, 6, 6], [6, 6, 6, 6, 6, 6, 6, 6, 6, 6, 6, 6, 6, 6, 6, 6, 6, 6, 6, 6, 0, 6, 6, 6, 6, 6, 6, 6, 6, 6, 6, 6, 6, 6, 6, 6], [6, 6, 6, 6, 6, 6, 6, 6, 6, 6, 6, 6, 6, 6, 6, 6, 6, 6, 6, 6, 6, 0, 6, 6, 6, 6, 6, 6, 6, 6, 6, 6, 6, 6, 6, 6], [6, 6, 6, 6, 6, 6, 6, 6, 6, 6, 6, 6, 6, 6, 6, 6, 6, 6, 6, 6, 6, 6, 0, 6, 6, 6, 6, 6, 6, 6, 6, 6, 6, 6, 6, 6], [6, 6, 6, 6, 6, 6, 6, 6, 6, 6, 6, 6, 6, 6, 6, 6, 6, 6, 6, 6, 6, 6, 6, 0, 6, 6, 6, 6, 6, 6, 6, 6, 6, 6, 6, 6], [6, 6, 6, 6, 6, 6, 6, 6, 6, 6, 6, 6, 6, 6, 6, 6, 6, 6, 6, 6, 6, 6, 6, 6, 0, 6, 6, 6, 6, 6, 6, 6, 6, 6, 6, 6], [6, 6, 6, 6, 6, 6, 6, 6, 6, 6, 6, 6, 6, 6, 6, 6, 6, 6, 6, 6, 6, 6, 6, 6, 6, 0, 6, 6, 6, 6, 6, 6, 6, 6, 6, 6], [6, 6, 6, 6, 6, 6, 6, 6, 6, 6, 6, 6, 6, 6, 1, 6, 6, 6, 6, 6, 6, 6, 6, 6, 6, 6, 0, 6, 6, 6, 6, 6, 6, 6, 6, 6], [6, 6, 6, 6, 6, 6, 6, 6, 1, 6, 6, 6, 6, 6, 6, 6, 6, 6, 6, 6, 6, 6, 6, 6, 6, 6, 6, 0, 6, 6, 6, 6, 6, 6, 6, 6], [6, 6, 6, 6, 6, 6, 6, 6, 6, 6, 6, 6, 6, 6, 6, 6, 6, 6, 6, 6, 6, 6, 6, 6, 6, 6, 6, 6, 0, 6, 6, 6, 6, 6, 6, 6], [6, 6, 6, 6, 6, 6, 6, 6, 6, 6, 6, 6, 6, 6, 6, 6, 6, 6, 6, 6, 6, 6, 6, 6, 6, 6, 6, 6, 6, 0, 6, 6, 6, 6, 6, 6], [6, 6, 6, 6, 6, 6, 6, 6, 6, 6, 6, 6, 6, 6, 6, 6, 6, 6, 6, 6, 6, 6, 6, 6, 6, 6, 6, 6, 6, 6, 0, 6, 6, 6, 6, 6], [6, 6, 6, 6, 6, 6, 6, 6, 6, 6, 6, 6, 6, 6, 6, 6, 6, 6, 6, 6, 6, 6, 6, 6, 6, 6, 6, 6, 6, 6, 6, 0, 6, 6, 6, 6], [6, 6, 6, 6, 6, 6, 6, 6, 6, 6, 6, 6, 6, 6, 6, 6, 6, 6, 6, 6, 6, 6, 6, 6, 6, 6, 6, 6, 6, 6, 6, 6, 0, 6, 6, 6], [6, 6, 6, 6, 6, 6, 6, 6, 6, 6, 6, 6, 6, 6, 6, 6, 6, 6, 6, 6, 6, 6, 6, 6, 6, 6, 6, 6, 6, 6, 6, 6, 6, 0, 6, 6], [6, 1, 6, 6, 6, 6, 6, 6, 6, 6, 6, 6, 6, 6, 6, 6, 6, 6, 6, 6, 6, 6, 6, 6, 6, 6, 6, 6, 6, 6, 6, 6, 6, 6, 0, 6], [6, 6, 6, 6, 6, 6, 6, 6, 6, 6, 6, 6, 6, 6, 6, 6, 6, 6, 6, 6, 6, 6, 6, 6, 6, 6, 6, 6, 6, 6, 6, 6, 6, 6, 6, 0]]
def mt1 : List (List Nat) := [[0, 6, 6, 6, 6, 6, 6, 6, 6, 6, 6, 6, 6, 6, 6, 6, 6, 6, 6, 6, 6, 6, 6, 6, 6, 6, 6, 6, 6, 6, 6, 6, 6, 6, 6, 6], [6, 0, 6, 6, 6, 6, 6, 6, 6, 6, 6, 6, 6, 6, 6, 6, 6, 6, 6, 6, 6, 6, 6, 6, 6, 6, 6, 6, 6, 6, 6, 6, 6, 6, 1, 6], [6, 6, 0, 6, 6, 6, 6, 6, 6, 6, 6, 6, 6, 6, 6, 6, 6, 6, 6, 6, 6, 6, 6, 6, 6, 6, 6, 6, 6, 6, 6, 6, 6, 6, 6, 6], [6, 6, 6, 0, 6, 6, 6, 6, 6, 6, 6, 6, 6, 6, 6, 6, 6, 6, 6, 6, 6, 6, 6, 6, 6, 6, 6, 6, 6, 6, 6, 6, 6, 6, 6, 6], [6, 6, 6, 6, 0, 6, 6, 6, 6, 6, 6, 6, 6, 6, 6, 6, 6, 6, 6, 6, 6, 6, 6, 6, 6, 6, 6, 6, 6, 6, 6, 6, 6, 6, 6, 6], [6, 6, 6, 6, 6, 0, 6, 6, 6, 6, 6, 6, 6, 6, 6, 6, 6, 6, 6, 6, 6, 6, 6, 6, 6, 6, 6, 6, 6, 6, 6, 6, 6, 6, 6, 6], [6, 6, 6, 6, 6, 6, 0, 6, 6, 6, 6, 6, 6, 6, 6, 6, 6, 6, 6, 6, 6, 6, 6, 6, 6, 6, 6, 6, 6, 6, 6, 6, 6, 6, 6, 6], [6, 6, 6, 6, 6, 6, 6, 0, 6, 6, 6, 6, 6, 6, 6, 6, 6, 6, 6, 6, 6, 6, 6, 6, 6, 6, 6, 6, 6, 6, 6, 6, 6, 6, 6, 6], [6, 6, 6, 6, 6, 6, 6, 6, 0, 6, 6, 6, 6, 6, 6, 6, 6, 6, 6, 6, 6, 6, 6, 6, 6, 6, 6, 1, 6, 6, 6, 6, 6, 6, 6, 6], [6, 6, 6, 6, 6, 6, 6, 6, 6, 0, 6, 6, 6, 6, 6, 6, 6, 6, 6, 6, 6, 6, 6, 6, 6, 6, 6, 6, 6, 6, 6, 6, 6, 6, 6, 6], [6, 6, 6, 6, 6, 6, 6, 6, 6, 6, 0, 6, 6, 6, 6, 6, 6, 6, 6, 6, 6, 6, 6, 6, 6, 6, 6, 6, 6, 6, 6, 6, 6, 6, 6, 6], [6, 6, 6, 6, 6, 6, 6, 6, 6, 6, 6, 0, 6, 6, 6, 6, 6, 6, 6, 6, 6, 6, 6, 6, 6, 6, 6, 6, 6, 6, 6, 6, 6, 6, 6, 6], [6, 6, 6, 6, 6, 6, 6, 6, 6, 6, 6, 6, 0, 6, 6, 6, 6, 6, 6, 6, 6, 6, 6, 6, 6, 6, 6, 6, 6, 6, 6, 6, 6, 6, 6, 6], [6, 6, 6, 6, 6, 6, 6, 6, 6, 6, 6, 6, 6, 0, 6, 6, 6, 6, 6, 6, 6, 6, 6, 6, 6, 6, 6, 6, 6, 6, 6, 6, 6, 6, 6, 6], [6, 6, 6, 6, 6, 6, 6, 6, 6, 6, 6, 6, 6, 6, 0, 6, 2, 6, 6, 6, 6, 6, 6, 6, 6, 6, 1, 6, 6, 6, 6, 6, 6, 6, 6, 6], [6, 6, 6, 6, 6, 6, 6, 6, 6, 6, 6, 6, 6, 6, 6, 0, 6, 6, 6, 6, 6, 6, 6, 6, 6, 6, 6, 6, 6, 6, 6, 6, 6, 6, 6, 6], [6, 6, 6, 6, 6, 6, 6, 6, 6, 6, 6, 6, 6, 6, 2, 6, 0, 6, 6, 6, 6, 6, 6, 6, 6, 6, 3, 6, 6, 6, 6, 6, 6, 6, 6, 6], [6, 6, 6, 6, 6, 6, 6, 6, 6, 6, 6, 6, 6, 6, 6, 6, 6, 0, 6, 6, 6, 6, 6, 6, 6, 6, 6, 6, 6, 6, 6, 6, 6, 6, 6, 6], [6, 6, 6, 6, 6, 6, 6, 6, 6, 6, 6, 6, 6, 6, 6, 6, 6, 6, 0, 6, 6, 6, 6, 6, 6, 6, 6, 6, 6, 6, 6, 6, 6, 6, 6, 6], [6, 6, 6, 6, 6, 6, 6, 6, 6, 6, 6, 6, 6, 6, 6, 6, 6, 6, 6, 0, 6, 6, 6, 6, 6, 6, 6, 6, 6, 6, 6, 6, 6, 6, 6, 6], [6, 6, 6, 6, 6, 6, 6, 6, 6, 6, 6, 6, 6, 6, 6, 6, 6, 6, 6, 6, 0, 6, 6, 6, 6, 6, 6, 6, 6, 6, 6, 6, 6, 6, 6, 6], [6, 6, 6, 6, 6, 6, 6, 6, 6, 6, 6, 6, 6, 6, 6, 6, 6, 6, 6, 6, 6, 0, 6, 6, 6, 6, 6, 6, 6, 6, 6, 6, 6, 6, 6, 6], [6, 6, 6, 6, 6, 6, 6, 6, 6, 6, 6, 6, 6, 6, 6, 6, 6, 6, 6, 6, 6, 6, 0, 6, 6, 6, 6, 6, 6, 6, 6, 6, 6, 6, 6, 6], [6, 6, 6, 6, 6, 6, 6, 6, 6, 6, 6, 6, 6, 6, 6, 6, 6, 6, 6, 6, 6, 6, 6, 0, 6, 6, 6, 6, 6, 6, 6, 6, 6, 6, 6, 6], [6, 6, 6, 6, 6, 6, 6, 6, 6, 6, 6, 6, 6, 6, 6, 6, 6, 6, 6, 6, 6, 6, 6, 6, 0, 6, 6, 6, 6, 6, 6, 6, 6, 6, 6, 6], [6, 6, 6, 6, 6, 6, 6, 6, 6, 6, 6, 6, 6, 6, 6, 6, 6, 6, 6, 6, 6, 6, 6, 6, 6, 0, 6, 6, 6, 6, 6, 6, 6, 6, 6, 6], [6, 6, 6, 6, 6, 6, 6, 6, 6, 6, 6, 6, 6, 6, 1, 6, 3, 6, 6, 6, 6, 6, 6, 6, 6, 6, 0, 6, 6, 6, 6, 6, 6, 6, 6, 6], [6, 6, 6, 6, 6, 6, 6, 6, 1, 6, 6, 6, 6, 6, 6, 6, 6, 6, 6, 6, 6, 6, 6, 6, 6, 6, 6, 0, 6, 6, 6, 6, 6, 6, 6, 6], [6, 6, 6, 6, 6, 6, 6, 6, 6, 6, 6, 6, 6, 6, 6, 6, 6, 6, 6, 6, 6, 6, 6, 6, 6, 6, 6, 6, 0, 6, 6, 6, 6, 6, 6, 6], [6, 6, 6, 6, 6, 6, 6, 6, 6, 6, 6, 6, 6, 6, 6, 6, 6, 6, 6, 6, 6, 6, 6, 6, 6, 6, 6, 6, 6, 0, 6, 6, 6, 6, 6, 6], [6, 6, 6, 6, 6, 6, 6, 6, 6, 6, 6, 6, 6, 6, 6, 6, 6, 6, 6, 6, 6, 6, 6, 6, 6, 6, 6, 6, 6, 6, 0, 6, 6, 6, 6, 6], [6, 6, 6, 6, 6, 6, 6, 6, 6, 6, 6, 6, 6, 6, 6, 6, 6, 6, 6, 6, 6, 6, 6, 6, 6, 6, 6, 6, 6, 6, 6, 0, 6, 6, 6, 6], [6, 6, 6, 6, 6, 6, 6, 6, 6, 6, 6, 6, 6, 6, 6, 6, 6, 6, 6, 6, 6, 6, 6, 6, 6, 6, 6, 6, 6, 6, 6, 6, 0, 6, 6, 6], [6, 6, 6, 6, 6, 6, 6, 6, 6, 6, 6, 6, 6, 6, 6, 6, 6, 6, 6, 6, 6, 6, 6, 6, 6, 6, 6, 6, 6, 6, 6, 6, 6, 0, 6, 6], [6, 1, 6, 6, 6, 6, 6, 6, 6, 6, 6, 6, 6, 6, 6, 6, 6, 6, 6, 6, 6, 6, 6, 6, 6, 6, 6, 6, 6, 6, 6, 6, 6, 6, 0, 6], [6, 6, 6, 6, 6, 6, 6, 6, 6, 6, 6, 6, 6, 6, 6, 6, 6, 6, 6, 6, 6, 6, 6, 6, 6, 6, 6, 6, 6, 6, 6, 6, 6, 6, 6, 0]]
theorem mt0_sq : Sq mt0 := ⟨by decide +kernel, by decide +kernel⟩
theorem mt_start : prF bkA (i0 3) 4 = ofN mt0 := by decide +kernel
theorem mt_s0 : stepN mt0 0 = mt0 := by decide +kernel
theorem mt_s1 : stepN mt0 1 = mt0 := by decide +kernel
theorem mt_s2 : stepN mt0 2 = mt0 := by decide +kernel
theorem mt_s3 : stepN mt0 3 = mt0 := by decide +kernel
theorem mt_s4 : stepN mt0 4 = mt0 := by decide +kernel
theorem mt_s5 : stepN mt0 5 = mt0 := by decide +kernel
theorem mt_s6 : stepN mt0 6 = mt0 := by decide +kernel
theorem mt_s7 : stepN mt0 7 = mt0 := by decide +kernel
theorem mt_s8 : stepN mt0 8 = mt0 := by decide +kernel
theorem mt_s9 : stepN mt0 9 = mt0 := by decide +kernel
theorem mt_s10 : stepN mt0 10 = mt0 := by decide +kernel
theorem mt_s11 : stepN mt0 11 = mt0 := by decide +kernel
theorem mt_s12 : stepN mt0 12 = mt0 := by decide +kernel
theorem mt_s13 : stepN mt0 13 = mt0 := by decide +kernel
theorem mt_s14 : stepN mt0 14 = mt1 := by decide +kernel
theorem mt_s15 : stepN mt1 15 = mt1 := by decide +kernel
theorem mt_s16 : stepN mt1 16 = mt1 := by decide +kernel
theorem mt_s17 : stepN mt1 17 = mt1 := by decide +kernel
theorem mt_s18 : stepN mt1 18 = mt1 := by decide +kernel
theorem mt_s19 : stepN mt1 19 = mt1 := by decide +kernel
theorem mt_s20 : stepN mt1 20 = mt1 := by decide +kernel
theorem mt_s21 : stepN mt1 21 = mt1 := by decide +kernel
theorem mt_s22 : stepN mt1 22 = mt1 := by decide +kernel
theorem mt_s23 : stepN mt1 23 = mt1 := by decide +kernel
theorem mt_s24 : stepN mt1 24 = mt1 := by decide +kernel
theorem mt_s25 : stepN mt1 25 = mt1 := by decide +kernel
theorem mt_s26 : stepN mt1 26 = mt1 := by decide +kernel
theorem mt_s27 : stepN mt1 27 = mt1 := by decide +kernel
theorem mt_s28 : stepN mt1 28 = mt1 := by decide +kernel
theorem mt_s29 : stepN mt1 29 = mt1 := by decide +kernel
theorem mt_s30 : stepN mt1 30 = mt1 := by decide +kernel
theorem mt_s31 : stepN mt1 31 = mt1 := by decide +kernel
theorem mt_s32 : stepN mt1 32 = mt1 := by decide +kernel
theorem mt_s33 : stepN mt1 33 = mt1 := by decide +kernel
theorem mt_s34 : stepN mt1 34 = mt1 := by decide +kernel
theorem mt_s35 : stepN mt1 35 = mt1 := by decide +kernel
theorem fw_at {R R' : List (List Nat)} {c : List Int} {m : Nat} (h : fwM c m = ofN R ∧ Sq R) (hm : m < 36) (hs : stepN R m = R') : fwM c (m + 1) = ofN R' ∧ Sq R' := by
  subst hs
  exact ⟨by rw [fwM, h.1, step_ok' h.2 hm], step_sq h.2 hm⟩
def bkL : List Int := ofN mt1
theorem bk_cost : costR 3 bkA = bkL := by
  have h0 : fwM (prF bkA (i0 3) 4) 0 = ofN mt0 ∧ Sq mt0 := ⟨mt_start, mt0_sq⟩
  have h1 := fw_at h0 (by omega) mt_s0
  have h2 := fw_at h1 (by omega) mt_s1
  have h3 := fw_at h2 (by omega) mt_s2
  have h4 := fw_at h3 (by omega) mt_s3
  have h5 := fw_at h4 (by omega) mt_s4
  have h6 := fw_at h5 (by omega) mt_s5
  have h7 := fw_at h6 (by omega) mt_s6
  have h8 := fw_at h7 (by omega) mt_s7
  have h9 := fw_at h8 (by omega) mt_s8
  have h10 := fw_at h9 (by omega) mt_s9
  have h11 := fw_at h10 (by omega) mt_s10
  have h12 := fw_at h11 (by omega) mt_s11
  have h13 := fw_at h12 (by omega) mt_s12
  have h14 := fw_at h13 (by omega) mt_s13
  have h15 := fw_at h14 (by omega) mt_s14
  have h16 := fw_at h15 (by omega) mt_s15
  have h17 := fw_at h16 (by omega) mt_s16
  have h18 := fw_at h17 (by omega) mt_s17
  have h19 := fw_at h18 (by omega) mt_s18
  have h20 := fw_at h19 (by omega) mt_s19
  have h21 := fw_at h20 (by omega) mt_s20
  have h22 := fw_at h21 (by omega) mt_s21
  have h23 := fw_at h22 (by omega) mt_s22
  have h24 := fw_at h23 (by omega) mt_s23
  have h25 := fw_at h24 (by omega) mt_s24
  have h26 := fw_at h25 (by omega) mt_s25
  have h27 := fw_at h26 (by omega) mt_s26
  have h28 := fw_at h27 (by omega) mt_s27
  have h29 := fw_at h28 (by omega) mt_s28
  have h30 := fw_at h29 (by omega) mt_s29
  have h31 := fw_at h30 (by omega) mt_s30
  have h32 := fw_at h31 (by omega) mt_s31
  have h33 := fw_at h32 (by omega) mt_s32
  have h34 := fw_at h33 (by omega) mt_s33
  have h35 := fw_at h34 (by omega) mt_s34
  have h36 := fw_at h35 (by omega) mt_s35
  exact h36.1
theorem bk_ok : AlOK bkA := by
  intro i hi
  have hi : i < 4 := hi
  have : i = 0 ∨ i = 1 ∨ i = 2 ∨ i = 3 := by omega
  rcases this with rfl | rfl | rfl | rfl <;> decide
def bkF (k : Int) (n : Nat) (c : List Value) : Option (List Int) := match k == 3 && Nat.beq n 4 && beqL (beqV 4) c (alC bkA) with
  | true => some bkL
  | false => none
def memoK33 : Job → Option Out := oracleC bkF
theorem memoK33_ok : SelfOK TP memoK33 := oracleC_ok fun k n c L h => by
  unfold bkF at h
  split at h
  case h_2 => cases h
  rename_i hh
  cases h
  simp only [Bool.and_eq_true, beq_iff_eq] at hh
  obtain ⟨⟨rfl, h2⟩, h3⟩ := hh
  have h2 := Nat.eq_of_beq_eq_true h2
  subst h2
  have h3 := beqL_eq (beqV_eq 4) _ _ h3
  exact ⟨bkA, h3, rfl, bk_ok, by omega, by omega, bk_cost.symm⟩
theorem memoK33_code : ∀ ar c ts df V, memoK33 (.code ar c ts df V) = none := fun _ _ _ _ _ => rfl
end Go.Vm
