/- Contracts of the functions that compute with numbers alone. -/
import Derived.Test.YtcphndfipjifcaaBase
import Derived.Test.YtcphndfipjifcaaMath
namespace Go.Proofs.Ytcphndfipjifcaa
open Go.RowKit

theorem gcd_step (x y : Int) (hx : 0 ≤ x) (hy : 0 < y) : Int.gcd y (x % y) = Int.gcd x y := by
  rw [Int.gcd_comm x y]
  obtain ⟨m, rfl⟩ := Int.eq_ofNat_of_zero_le hx
  obtain ⟨k, rfl⟩ := Int.eq_ofNat_of_zero_le (Int.le_of_lt hy)
  rw [← Int.natCast_emod, Int.gcd_natCast_natCast, Int.gcd_natCast_natCast, Nat.gcd_comm k (m % k), ← Nat.gcd_rec]

set_option maxHeartbeats 400000 in
theorem divisor_any (a b : Int) (w : World) (ha : 0 ≤ a) (hb : 0 ≤ b) (ha2 : a ≤ 9223372036854775807) (hb2 : b ≤ 9223372036854775807) :
    Calls Try.prog 156 #[.int .i64 a, .int .i64 b] w fun e w' => e = .returned (.int .i64 (Int.gcd a b)) ∧ ∃ n, w' = w.drewN n := by
  go_enter Try.func156, Try.ntmps156
  go_wp2
  go_loopw [0, 1] (fun s t wr => ∃ x y : Int, 0 ≤ x ∧ 0 ≤ y ∧ x ≤ 9223372036854775807 ∧ y ≤ 9223372036854775807 ∧ s = .int .i64 x ∧ t = .int .i64 y ∧ Int.gcd x y = Int.gcd a b ∧ ∃ n, wr = w.drewN n) (fun _ t _ => (intOf t).toNat)
  case atStart => exact ⟨a, b, ha, hb, ha2, hb2, rfl, rfl, rfl, 0, rfl⟩
  case round =>
    obtain ⟨x, y, hx, hy, hx2, hy2, rfl, rfl, hg, n, rfl⟩ := hrel
    have HG := Lib.hid hg
    clear hg
    by_cases h0 : y = 0
    · subst h0
      go_wp2
      go_ret
      refine ⟨?_, n, rfl⟩
      rw [← HG.out, Int.gcd_zero_right]
      exact congrArg (fun z => Ending.returned (.int .i64 z)) (by omega)
    · have hyp : 0 < y := by omega
      have hne : (y != 0) = true := by simpa using h0
      have hm1 : 0 ≤ x % y := Int.emod_nonneg _ h0
      have hm2 : x % y < y := Int.emod_lt_of_pos _ hyp
      have hgs := Lib.hid (gcd_step x y hx hyp)
      clear h0
      go_wp2
      go_region
      all_goals go_wp2
      all_goals
        go_roundw
        case rel => exact ⟨y, x % y, hy, hm1, hy2, by omega, rfl, rfl, by rw [hgs.out]; exact HG.out, n + 1, rfl⟩
        case measure => simp [intOf]; omega

theorem gcd_pos_of (x y : Int) (hy : 0 < y) : 0 < (Int.gcd x y : Int) := by
  have := Int.gcd_pos_of_ne_zero_right x (show y ≠ 0 by omega)
  omega
theorem gcd_le_of (x y : Int) (hy : 0 < y) : (Int.gcd x y : Int) ≤ y := Int.le_of_dvd hy (Int.gcd_dvd_right x y)

/-- a fraction in least terms -/
def fnum (n d : Int) : Int := n / Int.gcd n d
def fden (n d : Int) : Int := d / Int.gcd n d

theorem fnum_bd (n d : Int) (hn : 0 ≤ n) (hd : 0 < d) : 0 ≤ fnum n d ∧ fnum n d ≤ n := by
  have := gcd_pos_of n d hd
  exact ⟨Int.ediv_nonneg hn (by omega), Int.ediv_le_self _ hn⟩
theorem fden_bd (n d : Int) (hd : 0 < d) : 0 < fden n d ∧ fden n d ≤ d := by
  have := gcd_pos_of n d hd
  have h2 : fden n d * (Int.gcd n d : Int) = d := Int.ediv_mul_cancel (Int.gcd_dvd_right n d)
  refine ⟨?_, Int.ediv_le_self _ (by omega)⟩
  rcases Int.lt_or_le 0 (fden n d) with h | h
  · exact h
  · have := Int.mul_nonpos_of_nonpos_of_nonneg h (show (0:Int) ≤ Int.gcd n d by omega)
    omega

set_option maxHeartbeats 400000 in
theorem ratio_any (n d : Int) (w : World) (hn : 0 ≤ n) (hd : 0 < d) (hn2 : n ≤ 9223372036854775807) (hd2 : d ≤ 9223372036854775807) :
    Calls Try.prog 106 #[.int .i64 n, .int .i64 d] w fun e w' => e = .returned (.agg #[.int .i64 (fnum n d), .int .i64 (fden n d)]) ∧ Below w.heap.size w w' := by
  have hg1 := gcd_pos_of n d hd
  have hg2 := gcd_le_of n d hd
  have hz : ((Int.gcd n d : Int) == 0) = false := by simp; omega
  go_enter Try.func106, Try.ntmps106
  go_wp2_with (go_at_call 156; refine (divisor_any n d _ hn (by omega) hn2 hd2).mono ?_; rintro e w' ⟨rfl, k, rfl⟩)
  go_region
  all_goals go_wp2
  refine bodyPost_ret (v := .agg #[.int .i64 (fnum n d), .int .i64 (fden n d)]) (by simp [results, Try.results106, go_sem, fnum, fden]) rfl ⟨rfl, ?_⟩
  exact ((below_drewN ((Below.refl _ _).alloc (Nat.le_refl _) _) _).setCell (by simp) _).setCell (by simp) _

set_option maxHeartbeats 400000 in
theorem unswollen_any (l m : Int) (w : World) (hl : 0 ≤ l) (hl2 : l ≤ 1000000) (hm : -900000 ≤ m) (hm2 : m ≤ 1000000) :
    Calls Try.prog 44 #[.int .i64 l, .int .i64 m] w fun e w' => e = .returned (.agg #[.int .i64 (fnum (1000000 * l) (1000000 + m)), .int .i64 (fden (1000000 * l) (1000000 + m))]) ∧ Below w.heap.size w w' := by
  go_enter Try.func44, Try.ntmps44
  go_wp2_with (go_at_call 106; refine (ratio_any _ _ _ (by omega) (by omega) (by omega) (by omega)).mono ?_; rintro e w' ⟨rfl, hb⟩; obtain ⟨hc, hf⟩ := bcell hb)
  refine bodyPost_ret (v := .agg #[.int .i64 (fnum (1000000 * l) (1000000 + m)), .int .i64 (fden (1000000 * l) (1000000 + m))]) (by simp [results, Try.results44, go_sem, hc]) rfl ⟨rfl, ?_⟩
  (repeat (first | (first | exact Below.refl _ _ | assumption) | refine Below.setCell ?_ (by first | omega | (simp <;> omega)) _ | refine below_drewN ?_ _ | refine Below.drew ?_ | refine Below.alloc ?_ (by first | omega | (simp <;> omega)) _ | refine below_step (by assumption) (by first | omega | (simp <;> omega)) ?_))

set_option maxHeartbeats 400000 in
theorem atMost_any (a b c d : Int) (w : World) (ha : 0 ≤ a) (hb : 0 ≤ b) (hc : 0 ≤ c) (hd : 0 ≤ d) (had : a * d ≤ 9223372036854775807) (hcb : c * b ≤ 9223372036854775807) :
    Calls Try.prog 157 #[.agg #[.int .i64 a, .int .i64 b], .agg #[.int .i64 c, .int .i64 d]] w fun e w' => e = .returned (.bool (decide (a * d ≤ c * b))) ∧ Below w.heap.size w w' := by
  have h1 : 0 ≤ a * d := Int.mul_nonneg ha hd
  have h2 : 0 ≤ c * b := Int.mul_nonneg hc hb
  go_enter Try.func157, Try.ntmps157
  go_wp2
  go_ret
  exact ⟨rfl, ((Below.refl _ _).alloc (Nat.le_refl _) _).alloc (by simp) _⟩

set_option maxHeartbeats 400000 in
theorem minus_any (a b c d : Int) (w : World) (ha : 0 ≤ a) (hb : 0 < b) (hc : 0 ≤ c) (hd : 0 < d) (had : a * d ≤ 9223372036854775807) (hcb : c * b ≤ a * d) (hbd : b * d ≤ 9223372036854775807) :
    Calls Try.prog 162 #[.agg #[.int .i64 a, .int .i64 b], .agg #[.int .i64 c, .int .i64 d]] w fun e w' =>
      e = .returned (.agg #[.int .i64 (fnum (a * d - c * b) (b * d)), .int .i64 (fden (a * d - c * b) (b * d))]) ∧ Below w.heap.size w w' := by
  have h1 : 0 ≤ a * d := Int.mul_nonneg ha (by omega)
  have h2 : 0 ≤ c * b := Int.mul_nonneg hc (by omega)
  have h3 : 0 < b * d := Int.mul_pos hb hd
  go_enter Try.func162, Try.ntmps162
  go_wp2_with (go_at_call 106; refine (ratio_any _ _ _ (by omega) (by omega) (by omega) (by omega)).mono ?_; rintro e w' ⟨rfl, hb⟩; obtain ⟨hc, hf⟩ := bcell hb)
  refine bodyPost_ret (v := .agg #[.int .i64 (fnum (a * d - c * b) (b * d)), .int .i64 (fden (a * d - c * b) (b * d))]) (by simp [results, Try.results162, go_sem, hc]) rfl ⟨rfl, ?_⟩
  (repeat (first | (first | exact Below.refl _ _ | assumption) | refine Below.setCell ?_ (by first | omega | (simp <;> omega)) _ | refine below_drewN ?_ _ | refine Below.drew ?_ | refine Below.alloc ?_ (by first | omega | (simp <;> omega)) _ | refine below_step (by assumption) (by first | omega | (simp <;> omega)) ?_))

set_option maxHeartbeats 400000 in
theorem Fraction_any (a b : Int) (w : World) (ha : 0 ≤ a) (hb : 0 < b) (ha2 : a ≤ 9223372036854775807) (hb2 : b ≤ 9223372036854775807) :
    Calls Try.prog 14 #[.int .i64 a, .int .i64 b] w fun e w' => e = .returned (.agg #[.int .i64 (fnum a b), .int .i64 (fden a b)]) ∧ Below w.heap.size w w' := by
  have hg1 := gcd_pos_of a b hb
  have hg2 := gcd_le_of a b hb
  go_enter Try.func14, Try.ntmps14
  go_wp2
  go_loopw [5, 6] (fun s t wr => ∃ x y : Int, 0 ≤ x ∧ 0 ≤ y ∧ x ≤ 9223372036854775807 ∧ y ≤ 9223372036854775807 ∧ s = .int .i64 x ∧ t = .int .i64 y ∧ Int.gcd x y = Int.gcd a b ∧ ∃ n, wr = (w.alloc (.cells #[.int .i64 0, .int .i64 0] 30)).drewN n) (fun _ t _ => (intOf t).toNat)
  case atStart => exact ⟨a, b, ha, by omega, ha2, hb2, rfl, rfl, rfl, 0, rfl⟩
  case round =>
    obtain ⟨x, y, hx, hy, hx2, hy2, rfl, rfl, hg, n, rfl⟩ := hrel
    have HG := Lib.hid hg
    clear hg
    by_cases h0 : y = 0
    · subst h0
      have hxg : x = (Int.gcd a b : Int) := by rw [← HG.out, Int.gcd_zero_right]; omega
      clear HG
      subst hxg
      have hz : ((Int.gcd a b : Int) == 0) = false := by simp; omega
      go_wp2
      go_region
      all_goals go_wp2
      refine bodyPost_ret (v := .agg #[.int .i64 (fnum a b), .int .i64 (fden a b)]) (by simp [results, Try.results14, go_sem, fnum, fden]) rfl ⟨rfl, ?_⟩
      (repeat (first | (first | exact Below.refl _ _ | assumption) | refine Below.setCell ?_ (by first | omega | (simp <;> omega)) _ | refine below_drewN ?_ _ | refine Below.drew ?_ | refine Below.alloc ?_ (by first | omega | (simp <;> omega)) _ | refine below_step (by assumption) (by first | omega | (simp <;> omega)) ?_))
    · have hyp : 0 < y := by omega
      have hne : (y != 0) = true := by simpa using h0
      have hm1 : 0 ≤ x % y := Int.emod_nonneg _ h0
      have hm2 : x % y < y := Int.emod_lt_of_pos _ hyp
      have hgs := Lib.hid (gcd_step x y hx hyp)
      clear h0
      go_wp2
      go_region
      all_goals go_wp2
      all_goals
        go_roundw
        case rel => exact ⟨y, x % y, hy, hm1, hy2, by omega, rfl, rfl, by rw [hgs.out]; exact HG.out, n + 1, rfl⟩
        case measure => simp [intOf]; omega

set_option maxHeartbeats 400000 in
theorem of_any (a b : Int) (w : World) :
    Calls Try.prog 11 #[.int .i64 a, .int .i64 b] w fun e w' => e = .returned (.agg #[.int .i64 a, .int .i64 b]) ∧ Below w.heap.size w w' := by
  go_enter Try.func11, Try.ntmps11
  go_wp2
  refine bodyPost_ret (v := .agg #[.int .i64 a, .int .i64 b]) (by simp [results, Try.results11, go_sem]) rfl ⟨rfl, ?_⟩
  (repeat (first | (first | exact Below.refl _ _ | assumption) | refine Below.setCell ?_ (by first | omega | (simp <;> omega)) _ | refine below_drewN ?_ _ | refine Below.drew ?_ | refine Below.alloc ?_ (by first | omega | (simp <;> omega)) _ | refine below_step (by assumption) (by first | omega | (simp <;> omega)) ?_))
set_option maxHeartbeats 400000 in
theorem rg_any (a b : Int) (w : World) :
    Calls Try.prog 9 #[.int .i64 a, .int .i64 b] w fun e w' => e = .returned (.agg #[.int .i64 a, .int .i64 b]) ∧ Below w.heap.size w w' := by
  go_enter Try.func9, Try.ntmps9
  go_wp2
  refine bodyPost_ret (v := .agg #[.int .i64 a, .int .i64 b]) (by simp [results, Try.results9, go_sem]) rfl ⟨rfl, ?_⟩
  (repeat (first | (first | exact Below.refl _ _ | assumption) | refine Below.setCell ?_ (by first | omega | (simp <;> omega)) _ | refine below_drewN ?_ _ | refine Below.drew ?_ | refine Below.alloc ?_ (by first | omega | (simp <;> omega)) _ | refine below_step (by assumption) (by first | omega | (simp <;> omega)) ?_))
set_option maxHeartbeats 400000 in
theorem Row_any (d a b : Int) (w : World) :
    Calls Try.prog 52 #[.int .i64 d, .int .i64 a, .int .i64 b] w fun e w' => e = .returned (.agg #[.int .i64 d, .int .i64 a, .int .i64 b]) ∧ Below w.heap.size w w' := by
  go_enter Try.func52, Try.ntmps52
  go_wp2_with (go_at_call 9; refine (rg_any _ _ _).mono ?_; rintro e w1 ⟨rfl, hb1⟩; obtain ⟨hc1, hf1⟩ := bcell hb1; have hz1 := hb1.size; (try simp at hz1); (try simp only [size_drewN] at hc1 hf1))
  refine bodyPost_ret (v := .agg #[.int .i64 d, .int .i64 a, .int .i64 b]) (by simp [results, Try.results52, go_sem, hc1]) rfl ⟨rfl, ?_⟩
  (repeat (first | (first | exact Below.refl _ _ | assumption) | refine Below.setCell ?_ (by first | omega | (simp <;> omega)) _ | refine below_drewN ?_ _ | refine Below.drew ?_ | refine Below.alloc ?_ (by first | omega | (simp <;> omega)) _ | refine below_step (by assumption) (by first | omega | (simp <;> omega)) ?_))

end Go.Proofs.Ytcphndfipjifcaa
