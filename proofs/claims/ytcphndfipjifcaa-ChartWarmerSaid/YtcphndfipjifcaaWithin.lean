/- Contracts of the checks of numbers and ranges. -/
import Derived.Test.YtcphndfipjifcaaNumA
namespace Go.Proofs.Ytcphndfipjifcaa
open Go.RowKit

def withinL (least most : Int) (xs : List Int) : Bool := xs.all fun n => decide (least ≤ n) && decide (n ≤ most)

theorem withinL_take (least most : Int) (xs : List Int) (k : Nat) (h : k < xs.length) :
    withinL least most (xs.take (k + 1)) = (withinL least most (xs.take k) && (decide (least ≤ xs.getD k 0) && decide (xs.getD k 0 ≤ most))) := by
  unfold withinL
  rw [List.take_succ_eq_append_getElem h, List.all_append]
  simp [List.getD_eq_getElem?_getD, List.getElem?_eq_getElem h]

theorem withinL_false (least most : Int) (xs : List Int) (k : Nat) (h : k < xs.length) (h1 : ¬ (least ≤ xs.getD k 0 ∧ xs.getD k 0 ≤ most)) : withinL least most xs = false := by
  unfold withinL
  rw [List.all_eq_false]
  refine ⟨xs[k], List.getElem_mem h, ?_⟩
  rw [List.getD_eq_getElem?_getD, List.getElem?_eq_getElem h] at h1
  have h2 : ¬ (least ≤ xs[k] ∧ xs[k] ≤ most) := by simpa using h1
  simp; omega

set_option maxHeartbeats 400000 in
theorem within_any (least most : Int) (xs : List Int) (b off cap : Nat) (w : World) (hl : xs.length ≤ 9223372036854775807)
    (hx : ∀ i, i < xs.length → w.cell? ⟨b, off + i, none⟩ = some (.int .i64 (xs.getD i 0))) :
    Calls Try.prog 42 #[.int .i64 least, .int .i64 most, .slice (some ⟨b, off, none⟩) xs.length cap] w fun e w' => e = .returned (.bool (withinL least most xs)) ∧ w = w' := by
  go_enter Try.func42, Try.ntmps42
  go_wp2
  go_loop [11] (fun s => ∃ k : Nat, k ≤ xs.length ∧ s = .int .i64 k ∧ withinL least most (xs.take k) = true) (fun s => xs.length - (intOf s).toNat)
  case atStart => exact ⟨0, Nat.zero_le _, rfl, rfl⟩
  case round =>
    obtain ⟨k, hk, rfl, hw⟩ := hrel
    have HW := Lib.hid hw
    clear hw
    by_cases hlt : k < xs.length
    · have hcell := hx k hlt
      have ht := Lib.hid (withinL_take least most xs k hlt)
      have hfal := Lib.hid (withinL_false least most xs k hlt)
      generalize xs.getD k 0 = x at *
      clear hx
      by_cases h1 : x < least
      · go_wp2
        go_ret
        exact ⟨ret_bool (hfal.out (by omega)).symm, rfl⟩
      · by_cases h2 : most < x
        · go_wp2
          go_ret
          exact ⟨ret_bool (hfal.out (by omega)).symm, rfl⟩
        · go_wp2
          go_round
          case rel => exact ⟨k + 1, by omega, by go_num, by rw [ht.out, HW.out]; simp; omega⟩
          case measure => simp [intOf]; omega
    · have hke := Lib.hid (show k = xs.length by omega)
      clear hx
      go_wp2
      go_ret
      exact ⟨ret_bool (by have h2 := HW.out; rw [hke.out, List.take_length] at h2; exact h2.symm), rfl⟩

theorem within_one (least most a : Int) (b cap : Nat) (w : World) (h0 : w.cell? ⟨b, 0, none⟩ = some (.int .i64 a)) :
    Calls Try.prog 42 #[.int .i64 least, .int .i64 most, .slice (some ⟨b, 0, none⟩) 1 cap] w fun e w' => e = .returned (.bool (decide (least ≤ a) && decide (a ≤ most))) ∧ w = w' :=
  (within_any least most [a] b 0 cap w (by simp) (fun i hi => by
    have : i = 0 := by simpa using hi
    subst this; simpa using h0)).mono fun e w' ⟨he, hw⟩ => ⟨by rw [he]; simp [withinL], hw⟩

theorem within_one_b (least most a : Int) (b cap : Nat) (w : World) (h0 : w.cell? ⟨b, 0, none⟩ = some (.int .i64 a)) (v : Bool) (hv : (decide (least ≤ a) && decide (a ≤ most)) = v) :
    Calls Try.prog 42 #[.int .i64 least, .int .i64 most, .slice (some ⟨b, 0, none⟩) 1 cap] w fun e w' => e = .returned (.bool v) ∧ w = w' := by rw [← hv]; exact within_one least most a b cap w h0

theorem within_two (least most a c : Int) (b cap : Nat) (w : World) (h0 : w.cell? ⟨b, 0, none⟩ = some (.int .i64 a)) (h1 : w.cell? ⟨b, 1, none⟩ = some (.int .i64 c)) :
    Calls Try.prog 42 #[.int .i64 least, .int .i64 most, .slice (some ⟨b, 0, none⟩) 2 cap] w fun e w' => e = .returned (.bool (decide (least ≤ a ∧ a ≤ most ∧ least ≤ c ∧ c ≤ most))) ∧ w = w' :=
  (within_any least most [a, c] b 0 cap w (by simp) (fun i hi => by
    have : i = 0 ∨ i = 1 := by have := hi; simp at this; omega
    rcases this with rfl | rfl
    · simpa using h0
    · simpa using h1)).mono fun e w' ⟨he, hw⟩ => ⟨by rw [he]; congr 2; rw [Bool.eq_iff_iff]; simp [withinL, and_assoc], hw⟩

def validB (lo hi least most : Int) : Bool := decide (lo ≤ hi ∧ least ≤ lo ∧ hi ≤ most)

set_option maxHeartbeats 400000 in
theorem validRange_any (lo hi least most : Int) (w : World) :
    Calls Try.prog 43 #[.agg #[.int .i64 lo, .int .i64 hi], .int .i64 least, .int .i64 most] w fun e w' => e = .returned (.bool (validB lo hi least most)) ∧ Below w.heap.size w w' := by
  by_cases h : lo ≤ hi
  · have hd : decide (lo ≤ hi) = true := by simpa using h
    go_enter Try.func43, Try.ntmps43
    go_wp2_with (go_at_call 42; refine (within_two least most lo hi _ _ _ (by simp [go_sem]) (by simp [go_sem])).mono ?_; rintro e w1 ⟨rfl, rfl⟩)
    go_ret
    exact ⟨ret_bool (by unfold validB; rw [Bool.eq_iff_iff]; simp; omega), by (repeat (first | (first | exact Below.refl _ _ | assumption) | refine Below.setCell ?_ (by first | omega | (simp <;> omega)) _ | refine below_drewN ?_ _ | refine Below.drew ?_ | refine Below.alloc ?_ (by first | omega | (simp <;> omega)) _ | refine below_step (by assumption) (by first | omega | (simp <;> omega)) ?_))⟩
  · have hd : decide (lo ≤ hi) = false := by simpa using h
    go_enter Try.func43, Try.ntmps43
    go_wp2
    go_ret
    exact ⟨ret_bool (by unfold validB; symm; simp; omega), by (repeat (first | (first | exact Below.refl _ _ | assumption) | refine Below.setCell ?_ (by first | omega | (simp <;> omega)) _ | refine below_drewN ?_ _ | refine Below.drew ?_ | refine Below.alloc ?_ (by first | omega | (simp <;> omega)) _ | refine below_step (by assumption) (by first | omega | (simp <;> omega)) ?_))⟩

theorem validRange_yes (lo hi least most : Int) (w : World) (h : validB lo hi least most = true) :
    Calls Try.prog 43 #[.agg #[.int .i64 lo, .int .i64 hi], .int .i64 least, .int .i64 most] w fun e w' => e = .returned (.bool true) ∧ Below w.heap.size w w' :=
  (validRange_any lo hi least most w).mono fun e w' ⟨he, hw⟩ => ⟨by rw [he, h], hw⟩
theorem validRange_no (lo hi least most : Int) (w : World) (h : validB lo hi least most = false) :
    Calls Try.prog 43 #[.agg #[.int .i64 lo, .int .i64 hi], .int .i64 least, .int .i64 most] w fun e w' => e = .returned (.bool false) ∧ Below w.heap.size w w' :=
  (validRange_any lo hi least most w).mono fun e w' ⟨he, hw⟩ => ⟨by rw [he, h], hw⟩

set_option maxHeartbeats 400000 in
theorem valid_any (r lo hi most : Int) (w : World) :
    Calls Try.prog 182 #[.agg #[.int .i64 r, .int .i64 hi], .int .i64 lo, .int .i64 most] w fun e w' => e = .returned (.bool (validB r hi lo most)) ∧ Below w.heap.size w w' := by
  by_cases h : lo ≤ r
  · by_cases h2 : r ≤ hi
    · go_enter Try.func182, Try.ntmps182
      go_wp2
      go_ret
      exact ⟨ret_bool (by unfold validB; rw [Bool.eq_iff_iff]; simp; omega), by (repeat (first | (first | exact Below.refl _ _ | assumption) | refine Below.setCell ?_ (by first | omega | (simp <;> omega)) _ | refine below_drewN ?_ _ | refine Below.drew ?_ | refine Below.alloc ?_ (by first | omega | (simp <;> omega)) _ | refine below_step (by assumption) (by first | omega | (simp <;> omega)) ?_))⟩
    · go_enter Try.func182, Try.ntmps182
      go_wp2
      go_ret
      exact ⟨ret_bool (by unfold validB; symm; simp; omega), by (repeat (first | (first | exact Below.refl _ _ | assumption) | refine Below.setCell ?_ (by first | omega | (simp <;> omega)) _ | refine below_drewN ?_ _ | refine Below.drew ?_ | refine Below.alloc ?_ (by first | omega | (simp <;> omega)) _ | refine below_step (by assumption) (by first | omega | (simp <;> omega)) ?_))⟩
  · go_enter Try.func182, Try.ntmps182
    go_wp2
    go_ret
    exact ⟨ret_bool (by unfold validB; symm; simp; omega), by (repeat (first | (first | exact Below.refl _ _ | assumption) | refine Below.setCell ?_ (by first | omega | (simp <;> omega)) _ | refine below_drewN ?_ _ | refine Below.drew ?_ | refine Below.alloc ?_ (by first | omega | (simp <;> omega)) _ | refine below_step (by assumption) (by first | omega | (simp <;> omega)) ?_))⟩

theorem valid_yes (r lo hi most : Int) (w : World) (h : validB r hi lo most = true) :
    Calls Try.prog 182 #[.agg #[.int .i64 r, .int .i64 hi], .int .i64 lo, .int .i64 most] w fun e w' => e = .returned (.bool true) ∧ Below w.heap.size w w' :=
  (valid_any r lo hi most w).mono fun e w' ⟨he, hw⟩ => ⟨by rw [he, h], hw⟩
theorem valid_no (r lo hi most : Int) (w : World) (h : validB r hi lo most = false) :
    Calls Try.prog 182 #[.agg #[.int .i64 r, .int .i64 hi], .int .i64 lo, .int .i64 most] w fun e w' => e = .returned (.bool false) ∧ Below w.heap.size w w' :=
  (valid_any r lo hi most w).mono fun e w' ⟨he, hw⟩ => ⟨by rw [he, h], hw⟩
end Go.Proofs.Ytcphndfipjifcaa
