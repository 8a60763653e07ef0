/- Contracts of the two functions that find litres at the common warmth. -/
import Derived.Test.YtcphndfipjifcaaWithin
import Derived.Test.YtcphndfipjifcaaLess
namespace Go.Proofs.Ytcphndfipjifcaa
open Go.RowKit

theorem prod_bd (x s : Int) (h1 : -400 ≤ x) (h2 : x ≤ 400) (h3 : 0 ≤ s) (h4 : s ≤ 200) : -80000 ≤ x * s ∧ x * s ≤ 80000 := by
  have a1 : x * s ≤ 400 * s := Int.mul_le_mul_of_nonneg_right h2 h3
  have a2 : -400 * s ≤ x * s := Int.mul_le_mul_of_nonneg_right h1 h3
  omega

def max4 (a b c d : Int) : Int := max (max (max a b) c) d
def min4 (a b c d : Int) : Int := min (min (min a b) c) d

theorem max2_eq (x y : Int) : (if y > x then y else x) = max x y := by omega
theorem min2_eq (x y : Int) : (if y < x then y else x) = min x y := by omega
@[go_sem] theorem run_max_int4 (P : Program) (w : World) (ts : Array TypeId) (t : TypeId) (k k2 k3 k4 : IntKind) (x y z u : Int) : (Builtin.max_ ts t #[.int k x, .int k2 y, .int k3 z, .int k4 u]).run P w = .ok (.int k (max4 x y z u)) w := by
  simp [Builtin.max_, Builtin.max2, max4, max2_eq]
@[go_sem] theorem run_min_int4 (P : Program) (w : World) (ts : Array TypeId) (t : TypeId) (k k2 k3 k4 : IntKind) (x y z u : Int) : (Builtin.min_ ts t #[.int k x, .int k2 y, .int k3 z, .int k4 u]).run P w = .ok (.int k (min4 x y z u)) w := by
  simp [Builtin.min_, Builtin.min2, min4, min2_eq]
theorem max4_bd {a b c d lo hi : Int} (h1 : lo ≤ a ∧ a ≤ hi) (h2 : lo ≤ b ∧ b ≤ hi) (h3 : lo ≤ c ∧ c ≤ hi) (h4 : lo ≤ d ∧ d ≤ hi) : (lo ≤ max4 a b c d ∧ max4 a b c d ≤ hi) ∧ (lo ≤ min4 a b c d ∧ min4 a b c d ≤ hi) := by unfold max4 min4; omega

set_option maxHeartbeats 800000 in
theorem Common_ok (l wl wh sl sh : Int) (w : World) (h1 : 0 ≤ l) (h2 : l ≤ 100000) (hw : validB wl wh (-400) 400 = true) (hs : validB sl sh 0 200 = true) :
    Calls Try.prog 10 #[.int .i64 l, .agg #[.int .i64 wl, .int .i64 wh], .agg #[.int .i64 sl, .int .i64 sh]] w fun e w' =>
      e = .returned (.tuple #[.agg #[.int .i64 (fnum (1000000 * l) (1000000 + max4 (wl * sl) (wl * sh) (wh * sl) (wh * sh))), .int .i64 (fden (1000000 * l) (1000000 + max4 (wl * sl) (wl * sh) (wh * sl) (wh * sh))),
        .int .i64 (fnum (1000000 * l) (1000000 + min4 (wl * sl) (wl * sh) (wh * sl) (wh * sh))), .int .i64 (fden (1000000 * l) (1000000 + min4 (wl * sl) (wl * sh) (wh * sl) (wh * sh)))], .int .i64 0]) ∧ Below w.heap.size w w' := by
  have hw2 := hw
  have hs2 := hs
  unfold validB at hw2 hs2
  simp only [decide_eq_true_eq] at hw2 hs2
  obtain ⟨b1, b2, b3⟩ := hw2
  obtain ⟨b4, b5, b6⟩ := hs2
  have HW := Lib.hid hw
  have HS := Lib.hid hs
  clear hw hs
  obtain ⟨m1, m2⟩ := prod_bd wl sl (by omega) (by omega) (by omega) (by omega)
  obtain ⟨m3, m4⟩ := prod_bd wl sh (by omega) (by omega) (by omega) (by omega)
  obtain ⟨m5, m6⟩ := prod_bd wh sl (by omega) (by omega) (by omega) (by omega)
  obtain ⟨m7, m8⟩ := prod_bd wh sh (by omega) (by omega) (by omega) (by omega)
  have hmb := max4_bd ⟨m1, m2⟩ ⟨m3, m4⟩ ⟨m5, m6⟩ ⟨m7, m8⟩
  go_enter Try.func10, Try.ntmps10
  go_wp2_with (go_at_call 42; refine (within_one 0 100000 l _ _ _ (by simp [go_sem])).mono ?_; rintro e w1 ⟨rfl, rfl⟩)
  (refine (validRange_yes wl wh _ _ _ HW.out).mono ?_; rintro e w1 ⟨rfl, hb1⟩; obtain ⟨hc1, hf1⟩ := bcell hb1; have hz1 := hb1.size; (try simp at hz1); (try simp only [size_drewN] at hc1 hf1); have hs1_0 : w.heap.size < w1.heap.size := (by omega); have hs1_1 : w.heap.size + 1 < w1.heap.size := (by omega); have hs1_2 : w.heap.size + 1 + 1 < w1.heap.size := (by omega))
  go_wp2_with fail
  (refine (validRange_yes sl sh _ _ _ HS.out).mono ?_; rintro e w2 ⟨rfl, hb2⟩; obtain ⟨hc2, hf2⟩ := bcell hb2; have hz2 := hb2.size; (try simp at hz2); (try simp only [size_drewN] at hc2 hf2); have hs2_0 : w.heap.size < w2.heap.size := (by omega); have hs2_1 : w.heap.size + 1 < w2.heap.size := (by omega); have hs2_2 : w.heap.size + 1 + 1 < w2.heap.size := (by omega))
  go_wp2_with fail
  go_quiet (fail)
  go_wp2_with fail
  go_quiet (fail)
  go_wp2_with fail
  (refine (unswollen_any _ _ _ h1 (by omega) (by omega) (by omega)).mono ?_; rintro e w3 ⟨rfl, hb3⟩; obtain ⟨hc3, hf3⟩ := bcell hb3; have hz3 := hb3.size; (try simp at hz3); (try simp only [size_drewN] at hc3 hf3); have hs3_0 : w.heap.size < w3.heap.size := (by omega); have hs3_1 : w.heap.size + 1 < w3.heap.size := (by omega); have hs3_2 : w.heap.size + 1 + 1 < w3.heap.size := (by omega))
  go_wp2_with fail
  (refine (unswollen_any _ _ _ h1 (by omega) (by omega) (by omega)).mono ?_; rintro e w4 ⟨rfl, hb4⟩; obtain ⟨hc4, hf4⟩ := bcell hb4; have hz4 := hb4.size; (try simp at hz4); (try simp only [size_drewN] at hc4 hf4); have hs4_0 : w.heap.size < w4.heap.size := (by omega); have hs4_1 : w.heap.size + 1 < w4.heap.size := (by omega); have hs4_2 : w.heap.size + 1 + 1 < w4.heap.size := (by omega))
  go_wp2_with fail
  refine bodyPost_ret (v := .tuple #[.agg #[.int .i64 (fnum (1000000 * l) (1000000 + max4 (wl * sl) (wl * sh) (wh * sl) (wh * sh))), .int .i64 (fden (1000000 * l) (1000000 + max4 (wl * sl) (wl * sh) (wh * sl) (wh * sh))),
        .int .i64 (fnum (1000000 * l) (1000000 + min4 (wl * sl) (wl * sh) (wh * sl) (wh * sh))), .int .i64 (fden (1000000 * l) (1000000 + min4 (wl * sl) (wl * sh) (wh * sl) (wh * sh)))], .int .i64 0]) (by simp [results, Try.results10, go_sem, hc4, hc3, hc2, hc1, hs1_2, hs2_2, hs3_2]) rfl ⟨rfl, ?_⟩
  (repeat (first | (first | exact Below.refl _ _ | assumption) | refine Below.setCell ?_ (by first | omega | (simp <;> omega)) _ | refine below_drewN ?_ _ | refine Below.drew ?_ | refine Below.alloc ?_ (by first | omega | (simp <;> omega)) _ | refine below_step (by assumption) (by first | omega | (simp <;> omega)) ?_))

def spanErr (n : Int) : Value := .tuple #[.agg #[.int .i64 0, .int .i64 0, .int .i64 0, .int .i64 0], .int .i64 n]

set_option maxHeartbeats 800000 in
theorem Common_bad1 (l wl wh sl sh : Int) (w : World) (h : ¬ (0 ≤ l ∧ l ≤ 100000)) :
    Calls Try.prog 10 #[.int .i64 l, .agg #[.int .i64 wl, .int .i64 wh], .agg #[.int .i64 sl, .int .i64 sh]] w fun e w' => e = .returned (spanErr 3) ∧ Below w.heap.size w w' := by
  have hd : (decide (0 ≤ l) && decide (l ≤ 100000)) = false := by simp; omega
  go_enter Try.func10, Try.ntmps10
  go_wp2_with (go_at_call 42; refine (within_one 0 100000 l _ _ _ (by simp [go_sem])).mono ?_; rintro e w1 ⟨rfl, rfl⟩)
  refine bodyPost_ret (v := spanErr 3) (by simp [results, Try.results10, go_sem, spanErr]) rfl ⟨rfl, ?_⟩
  (repeat (first | (first | exact Below.refl _ _ | assumption) | refine Below.setCell ?_ (by first | omega | (simp <;> omega)) _ | refine below_drewN ?_ _ | refine Below.drew ?_ | refine Below.alloc ?_ (by first | omega | (simp <;> omega)) _ | refine below_step (by assumption) (by first | omega | (simp <;> omega)) ?_))

set_option maxHeartbeats 800000 in
theorem Common_bad2 (l wl wh sl sh : Int) (w : World) (h1 : 0 ≤ l) (h2 : l ≤ 100000) (hw : validB wl wh (-400) 400 = false) :
    Calls Try.prog 10 #[.int .i64 l, .agg #[.int .i64 wl, .int .i64 wh], .agg #[.int .i64 sl, .int .i64 sh]] w fun e w' => e = .returned (spanErr 2) ∧ Below w.heap.size w w' := by
  have HW := Lib.hid hw
  clear hw
  go_enter Try.func10, Try.ntmps10
  go_wp2_with (go_at_call 42; refine (within_one 0 100000 l _ _ _ (by simp [go_sem])).mono ?_; rintro e w1 ⟨rfl, rfl⟩)
  (refine (validRange_no wl wh _ _ _ HW.out).mono ?_; rintro e w1 ⟨rfl, hb1⟩; obtain ⟨hc1, hf1⟩ := bcell hb1; have hz1 := hb1.size; (try simp at hz1); (try simp only [size_drewN] at hc1 hf1); have hs1_0 : w.heap.size < w1.heap.size := (by omega); have hs1_1 : w.heap.size + 1 < w1.heap.size := (by omega); have hs1_2 : w.heap.size + 1 + 1 < w1.heap.size := (by omega))
  go_wp2_with fail
  (refine bodyPost_ret (v := spanErr 2) (by simp [results, Try.results10, go_sem, spanErr, hc1, hs1_2]) rfl ⟨rfl, ?_⟩; (repeat (first | (first | exact Below.refl _ _ | assumption) | refine Below.setCell ?_ (by first | omega | (simp <;> omega)) _ | refine below_drewN ?_ _ | refine Below.drew ?_ | refine Below.alloc ?_ (by first | omega | (simp <;> omega)) _ | refine below_step (by assumption) (by first | omega | (simp <;> omega)) ?_)))

set_option maxHeartbeats 800000 in
theorem Common_bad3 (l wl wh sl sh : Int) (w : World) (h1 : 0 ≤ l) (h2 : l ≤ 100000) (hw : validB wl wh (-400) 400 = true) (hs : validB sl sh 0 200 = false) :
    Calls Try.prog 10 #[.int .i64 l, .agg #[.int .i64 wl, .int .i64 wh], .agg #[.int .i64 sl, .int .i64 sh]] w fun e w' => e = .returned (spanErr 2) ∧ Below w.heap.size w w' := by
  have HW := Lib.hid hw
  have HS := Lib.hid hs
  clear hw hs
  go_enter Try.func10, Try.ntmps10
  go_wp2_with (go_at_call 42; refine (within_one 0 100000 l _ _ _ (by simp [go_sem])).mono ?_; rintro e w1 ⟨rfl, rfl⟩)
  (refine (validRange_yes wl wh _ _ _ HW.out).mono ?_; rintro e w1 ⟨rfl, hb1⟩; obtain ⟨hc1, hf1⟩ := bcell hb1; have hz1 := hb1.size; (try simp at hz1); (try simp only [size_drewN] at hc1 hf1); have hs1_0 : w.heap.size < w1.heap.size := (by omega); have hs1_1 : w.heap.size + 1 < w1.heap.size := (by omega); have hs1_2 : w.heap.size + 1 + 1 < w1.heap.size := (by omega))
  go_wp2_with fail
  (refine (validRange_no sl sh _ _ _ HS.out).mono ?_; rintro e w2 ⟨rfl, hb2⟩; obtain ⟨hc2, hf2⟩ := bcell hb2; have hz2 := hb2.size; (try simp at hz2); (try simp only [size_drewN] at hc2 hf2); have hs2_0 : w.heap.size < w2.heap.size := (by omega); have hs2_1 : w.heap.size + 1 < w2.heap.size := (by omega); have hs2_2 : w.heap.size + 1 + 1 < w2.heap.size := (by omega))
  go_wp2_with fail
  (refine bodyPost_ret (v := spanErr 2) (by simp [results, Try.results10, go_sem, spanErr, hc2, hc1, hs1_2, hs2_2]) rfl ⟨rfl, ?_⟩; (repeat (first | (first | exact Below.refl _ _ | assumption) | refine Below.setCell ?_ (by first | omega | (simp <;> omega)) _ | refine below_drewN ?_ _ | refine Below.drew ?_ | refine Below.alloc ?_ (by first | omega | (simp <;> omega)) _ | refine below_step (by assumption) (by first | omega | (simp <;> omega)) ?_)))

def loC (wl wh sl sh : Int) : Nat → Int
  | 0 => wl * sl
  | 1 => min (wl * sl) (wl * sl)
  | 2 => min (min (wl * sl) (wl * sl)) (wh * sl)
  | 3 => min (min (min (wl * sl) (wl * sl)) (wh * sl)) (wl * sh)
  | _ => min (min (min (min (wl * sl) (wl * sl)) (wh * sl)) (wl * sh)) (wh * sh)
def hiC (wl wh sl sh : Int) : Nat → Int
  | 0 => wl * sl
  | 1 => max (wl * sl) (wl * sl)
  | 2 => max (max (wl * sl) (wl * sl)) (wh * sl)
  | 3 => max (max (max (wl * sl) (wl * sl)) (wh * sl)) (wl * sh)
  | _ => max (max (max (max (wl * sl) (wl * sl)) (wh * sl)) (wl * sh)) (wh * sh)
theorem loC_eq (wl wh sl sh : Int) : loC wl wh sl sh 4 = min4 (wl * sl) (wl * sh) (wh * sl) (wh * sh) := by simp only [loC, min4]; omega
theorem hiC_eq (wl wh sl sh : Int) : hiC wl wh sl sh 4 = max4 (wl * sl) (wl * sh) (wh * sl) (wh * sh) := by simp only [hiC, max4]; omega

/-- what both functions return -/
def commonV (l wl wh sl sh : Int) : Value :=
  if ¬ (0 ≤ l ∧ l ≤ 100000) then spanErr 3 else if validB wl wh (-400) 400 = false ∨ validB sl sh 0 200 = false then spanErr 2 else
  .tuple #[.agg #[.int .i64 (fnum (1000000 * l) (1000000 + max4 (wl * sl) (wl * sh) (wh * sl) (wh * sh))), .int .i64 (fden (1000000 * l) (1000000 + max4 (wl * sl) (wl * sh) (wh * sl) (wh * sh))),
        .int .i64 (fnum (1000000 * l) (1000000 + min4 (wl * sl) (wl * sh) (wh * sl) (wh * sh))), .int .i64 (fden (1000000 * l) (1000000 + min4 (wl * sl) (wl * sh) (wh * sl) (wh * sh)))], .int .i64 0]

theorem Common_any (l wl wh sl sh : Int) (w : World) :
    Calls Try.prog 10 #[.int .i64 l, .agg #[.int .i64 wl, .int .i64 wh], .agg #[.int .i64 sl, .int .i64 sh]] w fun e w' => e = .returned (commonV l wl wh sl sh) ∧ Below w.heap.size w w' := by
  unfold commonV
  by_cases h : 0 ≤ l ∧ l ≤ 100000
  · rw [if_neg (by simpa using h)]
    cases hw : validB wl wh (-400) 400
    · simpa using Common_bad2 l wl wh sl sh w h.1 h.2 hw
    · cases hs : validB sl sh 0 200
      · simpa using Common_bad3 l wl wh sl sh w h.1 h.2 hw hs
      · simpa using Common_ok l wl wh sl sh w h.1 h.2 hw hs
  · rw [if_pos h]; exact Common_bad1 l wl wh sl sh w h
end Go.Proofs.Ytcphndfipjifcaa
