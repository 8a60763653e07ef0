/- What both meters return, as numbers: monotony, and what a can has. -/
import Derived.Test.YtcphndfipjifcaaVrSr
set_option linter.unusedVariables false
namespace Go.Vm
theorem mL_mono_x {x y hi : Int} (hh : 0 < 1000 + hi) (h : x ≤ y) : mL x hi ≤ mL y hi := by
  rw [mL_iff hh]
  have := (mL_iff (x := y) (hi := hi) (t := mL y hi) hh).1 (Int.le_refl _)
  omega
theorem mH_mono_x {x y lo : Int} (hh : 0 < 1000 + lo) (h : x ≤ y) : mH x lo ≤ mH y lo := by
  rw [mH_iff hh]
  have := (mH_iff (x := x) (lo := lo) (t := mH x lo) hh).1 (Int.le_refl _)
  omega
theorem mL_nonneg {x hi : Int} (hh : 0 < 1000 + hi) (hx : 0 ≤ x) : 0 ≤ mL x hi := by
  rcases Int.lt_or_le (mL x hi) 0 with h | h
  · exfalso
    have h2 := (mL_iff (x := x) (hi := hi) (t := -1) hh).1 (by omega)
    omega
  · exact h
theorem mH_nonneg {x lo : Int} (hh : 0 < 1000 + lo) (hx : 0 ≤ x) : 0 ≤ mH x lo := (mH_iff hh).2 (by omega)
theorem mL_mono_hi {x a b : Int} (ha : 0 < 1000 + a) (hx : 0 ≤ x) (h : a ≤ b) : mL x b ≤ mL x a := by
  have hb : 0 < 1000 + b := by omega
  rw [mL_iff hb]
  have h1 := (mL_iff (x := x) (hi := a) (t := mL x a) ha).1 (Int.le_refl _)
  have h2 := mL_nonneg ha hx
  have h3 := Int.mul_le_mul_of_nonneg_left (show 1000 + a ≤ 1000 + b by omega) h2
  omega
theorem mH_mono_lo {x a b : Int} (ha : 0 < 1000 + a) (hx : 0 ≤ x) (h : a ≤ b) : mH x b ≤ mH x a := by
  have hb : 0 < 1000 + b := by omega
  rw [mH_iff ha]
  have h1 := (mH_iff (x := x) (lo := b) (t := mH x b) hb).1 (Int.le_refl _)
  have h2 := mH_nonneg hb hx
  have h3 := Int.mul_le_mul_of_nonneg_left (show 1000 + a ≤ 1000 + b by omega) h2
  omega
theorem mL_zero {x : Int} : mL x 0 = x := by
  have h1 := (mL_iff (x := x) (hi := 0) (t := x) (by omega)).2 (by omega)
  have h2 := (mL_iff (x := x) (hi := 0) (t := mL x 0) (by omega)).1 (Int.le_refl _)
  omega
theorem mH_zero {x : Int} : mH x 0 = x := by
  have h1 := (mH_iff (x := x) (lo := 0) (t := x) (by omega)).2 (by omega)
  have h2 := (mH_iff (x := x) (lo := 0) (t := mH x 0) (by omega)).1 (Int.le_refl _)
  omega
/-- a meter's answer, as numbers -/
def mOk (x lo hi : Int) : Prop := (0 ≤ x ∧ x ≤ 100000) ∧ lo ≤ hi ∧ -100 ≤ lo ∧ hi ≤ 100
theorem meterV_ok {x lo hi : Int} (h : mOk x lo hi) (h2 : mL x hi ≤ mH x lo) : meterV x lo hi = .tuple #[.agg #[.int .i64 (mL x hi), .int .i64 (mH x lo)], .int .i64 0] := by
  obtain ⟨h1, h3, h4, h5⟩ := h
  unfold meterV
  rw [if_neg (by simpa using h1), if_neg (by unfold okR; simp; omega), if_neg (by omega)]
theorem meterV_none {x lo hi : Int} (h : mOk x lo hi) (h2 : ¬ mL x hi ≤ mH x lo) : meterV x lo hi = .tuple #[.agg #[.int .i64 0, .int .i64 0], .int .i64 5] := by
  obtain ⟨h1, h3, h4, h5⟩ := h
  unfold meterV
  rw [if_neg (by simpa using h1), if_neg (by unfold okR; simp; omega), if_pos h2]
  rfl
theorem meterV_flat {n : Int} (h : 0 ≤ n ∧ n ≤ 100000) : meterV n 0 0 = .tuple #[.agg #[.int .i64 n, .int .i64 n], .int .i64 0] := by
  have := meterV_ok (x := n) (lo := 0) (hi := 0) ⟨h, by omega, by omega, by omega⟩ (by rw [mL_zero, mH_zero]; omega)
  rw [mL_zero, mH_zero] at this
  exact this
/-- cans that all are valid -/
structure Cans (l : List (Int × Int)) : Prop where
  fit : ∀ p, p ∈ l → fit p
  bear : ∀ p, p ∈ l → bear p
theorem allQ_yes {Q : Int × Int → Prop} {l : List (Int × Int)} (h : ∀ p, p ∈ l → Q p) : allQ Q l = true := by
  unfold allQ; simpa using h
theorem wornV_ok {l : List (Int × Int)} (hl : 0 < l.length) (hn : l.length ≤ 20) (h : Cans l) : wornV l = .tuple #[.agg #[.int .i64 (loF l), .int .i64 (hiF l)], .int .i64 0] := by
  unfold wornV
  rw [if_neg (by omega), if_neg (by rw [allQ_yes h.fit]; simp), if_neg (by rw [allQ_yes h.bear]; simp)]
/-- cans with a mistake: the number of it -/
theorem wornV_bad {l : List (Int × Int)} (hn : l.length ≤ 20) (h : ¬ (0 < l.length ∧ Cans l)) : ∃ e, e ≠ 0 ∧ wornV l = errV e := by
  unfold wornV
  split
  · exact ⟨6, by omega, rfl⟩
  · split
    · exact ⟨3, by omega, rfl⟩
    · split
      · exact ⟨2, by omega, rfl⟩
      · rename_i h1 h2 h3
        refine absurd ⟨by omega, ?_, ?_⟩ h
        · unfold allQ at h2; simpa using h2
        · unfold allQ at h3; simpa using h3
theorem lo_all {l : List (Int × Int)} {p : Int × Int} (hp : p ∈ l) : loF l ≤ exc p / p.2 := ((lo_fold l 100 (loF l)).1 (Int.le_refl _)).2 p hp
theorem hi_all {l : List (Int × Int)} {p : Int × Int} (hp : p ∈ l) : ceil (exc p) p.2 ≤ hiF l := ((hi_fold l (-100) (hiF l)).1 (Int.le_refl _)).2 p hp
theorem lo_sub {l m : List (Int × Int)} (h : ∀ p, p ∈ m → p ∈ l) : loF l ≤ loF m :=
  (lo_fold m 100 (loF l)).2 ⟨((lo_fold l 100 (loF l)).1 (Int.le_refl _)).1, fun p hp => lo_all (h p hp)⟩
theorem hi_sub {l m : List (Int × Int)} (h : ∀ p, p ∈ m → p ∈ l) : hiF m ≤ hiF l :=
  (hi_fold m (-100) (hiF l)).2 ⟨((hi_fold l (-100) (hiF l)).1 (Int.le_refl _)).1, fun p hp => hi_all (h p hp)⟩
theorem Cans.sub {l m : List (Int × Int)} (h : Cans l) (hs : ∀ p, p ∈ m → p ∈ l) : Cans m := ⟨fun p hp => h.fit p (hs p hp), fun p hp => h.bear p (hs p hp)⟩
/-- each can has true litres that the meter's range allows -/
theorem can_in {l : List (Int × Int)} (h : Cans l) {p : Int × Int} (hp : p ∈ l) : mOk p.1 (loF l) (hiF l) ∧ mL p.1 (hiF l) ≤ p.2 ∧ p.2 ≤ mH p.1 (loF l) := by
  obtain ⟨⟨a1, a2⟩, a3, a4⟩ := h.fit p hp
  obtain ⟨b1, b2⟩ := (bear_iff h.fit).1 h.bear
  have c1 := lo_all hp
  have c2 := hi_all hp
  have d1 := (Int.le_ediv_iff_mul_le (show 0 < p.2 by omega)).1 c1
  have d2 := (ceil_iff (show 0 < p.2 by omega)).1 c2
  unfold exc at d1 d2
  have e3 : loF l ≤ hiF l := by
    have h1 : loF l * p.2 ≤ hiF l * p.2 := by omega
    exact Int.le_of_mul_le_mul_right h1 (by omega)
  have b3 : loF l ≤ 100 := ((lo_fold l 100 (loF l)).1 (Int.le_refl _)).1
  have b4 : -100 ≤ hiF l := ((hi_fold l (-100) (hiF l)).1 (Int.le_refl _)).1
  refine ⟨⟨⟨a1, a2⟩, e3, b1, b2⟩, ?_, ?_⟩
  · rw [mL_iff (by omega)]
    have : p.2 * (1000 + hiF l) = 1000 * p.2 + hiF l * p.2 := by rw [Int.mul_add, Int.mul_comm p.2 1000, Int.mul_comm p.2 (hiF l)]
    omega
  · rw [mH_iff (by omega)]
    have : p.2 * (1000 + loF l) = 1000 * p.2 + loF l * p.2 := by rw [Int.mul_add, Int.mul_comm p.2 1000, Int.mul_comm p.2 (loF l)]
    omega
end Go.Vm
