/- Contracts of the comparison of fractions by their whole parts. -/
import Derived.Test.YtcphndfipjifcaaNumA
namespace Go.Proofs.Ytcphndfipjifcaa
open Go.RowKit

set_option maxHeartbeats 400000 in
theorem Less_no (a b c d : Int) (w : World) (h : a < 0 ∨ c < 0 ∨ b < 1 ∨ d < 1) :
    Calls Try.prog 13 #[.agg #[.int .i64 a, .int .i64 b], .agg #[.int .i64 c, .int .i64 d]] w fun e w' => e = .returned (.bool false) ∧ Below w.heap.size w w' := by
  by_cases h1 : a < 0
  · go_enter Try.func13, Try.ntmps13
    go_wp2
    go_ret
    exact ⟨rfl, by (repeat (first | (first | exact Below.refl _ _ | assumption) | refine Below.setCell ?_ (by first | omega | (simp <;> omega)) _ | refine below_drewN ?_ _ | refine Below.drew ?_ | refine Below.alloc ?_ (by first | omega | (simp <;> omega)) _ | refine below_step (by assumption) (by first | omega | (simp <;> omega)) ?_))⟩
  by_cases h2 : c < 0
  · go_enter Try.func13, Try.ntmps13
    go_wp2
    go_ret
    exact ⟨rfl, by (repeat (first | (first | exact Below.refl _ _ | assumption) | refine Below.setCell ?_ (by first | omega | (simp <;> omega)) _ | refine below_drewN ?_ _ | refine Below.drew ?_ | refine Below.alloc ?_ (by first | omega | (simp <;> omega)) _ | refine below_step (by assumption) (by first | omega | (simp <;> omega)) ?_))⟩
  by_cases h3 : b < 1
  · go_enter Try.func13, Try.ntmps13
    go_wp2
    go_ret
    exact ⟨rfl, by (repeat (first | (first | exact Below.refl _ _ | assumption) | refine Below.setCell ?_ (by first | omega | (simp <;> omega)) _ | refine below_drewN ?_ _ | refine Below.drew ?_ | refine Below.alloc ?_ (by first | omega | (simp <;> omega)) _ | refine below_step (by assumption) (by first | omega | (simp <;> omega)) ?_))⟩
  have h4 : d < 1 := by omega
  clear h
  go_enter Try.func13, Try.ntmps13
  go_wp2
  go_ret
  exact ⟨rfl, by (repeat (first | (first | exact Below.refl _ _ | assumption) | refine Below.setCell ?_ (by first | omega | (simp <;> omega)) _ | refine below_drewN ?_ _ | refine Below.drew ?_ | refine Below.alloc ?_ (by first | omega | (simp <;> omega)) _ | refine below_step (by assumption) (by first | omega | (simp <;> omega)) ?_))⟩

def LessAt (w : World) (x y z t : Int) (wr : World) : Prop :=
  wr.cell? ⟨w.heap.size, 0, none⟩ = some (.int .i64 x) ∧ wr.cell? ⟨w.heap.size, 1, none⟩ = some (.int .i64 y) ∧ wr.cell? ⟨w.heap.size + 1, 0, none⟩ = some (.int .i64 z) ∧ wr.cell? ⟨w.heap.size + 1, 1, none⟩ = some (.int .i64 t) ∧
  (∀ o, wr.frozen? ⟨w.heap.size, o, none⟩ = false) ∧ (∀ o, wr.frozen? ⟨w.heap.size + 1, o, none⟩ = false) ∧ Below w.heap.size w wr

set_option maxHeartbeats 800000 in
theorem Less_any (a b c d : Int) (w : World) (ha : 0 ≤ a) (hc : 0 ≤ c) (hb : 1 ≤ b) (hd : 1 ≤ d) (ha2 : a ≤ 9223372036854775807) (hb2 : b ≤ 9223372036854775807) (hc2 : c ≤ 9223372036854775807) (hd2 : d ≤ 9223372036854775807) :
    Calls Try.prog 13 #[.agg #[.int .i64 a, .int .i64 b], .agg #[.int .i64 c, .int .i64 d]] w fun e w' => e = .returned (.bool (lessR a b c d)) ∧ Below w.heap.size w w' := by
  have hst := Lib.hid (less_start a b c d)
  go_enter Try.func13, Try.ntmps13
  go_wp2
  go_loopw [5] (fun s wr => ∃ (x y z t : Int) (T : Bool), 0 ≤ x ∧ 1 ≤ y ∧ 0 ≤ z ∧ 1 ≤ t ∧ x ≤ 9223372036854775807 ∧ y ≤ 9223372036854775807 ∧ z ≤ 9223372036854775807 ∧ t ≤ 9223372036854775807 ∧ s = .bool T ∧ lessI (lessR a b c d) T x y z t ∧ LessAt w x y z t wr)
    (fun _ wr => match wr.cell? ⟨w.heap.size, 1, none⟩ with | some (.int _ y) => y.toNat | _ => 0)
  case atStart => exact ⟨a, b, c, d, false, ha, hb, hc, hd, ha2, hb2, hc2, hd2, rfl, hst.out, by simp [go_sem], by simp [go_sem], by simp [go_sem], by simp [go_sem], by simp [go_sem], by simp [go_sem], by (repeat (first | (first | exact Below.refl _ _ | assumption) | refine Below.setCell ?_ (by first | omega | (simp <;> omega)) _ | refine below_drewN ?_ _ | refine Below.drew ?_ | refine Below.alloc ?_ (by first | omega | (simp <;> omega)) _ | refine below_step (by assumption) (by first | omega | (simp <;> omega)) ?_))⟩
  case round =>
    obtain ⟨x, y, z, t, T, hx, hy, hz, ht, hx2, hy2, hz2, ht2, rfl, hI, c1, c2, c3, c4, f1, f2, hB⟩ := hrel
    have HI := Lib.hid hI
    clear hI hst
    obtain ⟨p1, p2, p3, p4, p5⟩ := rest_bd x y hx hy
    obtain ⟨q1, q2, q3, q4, q5⟩ := rest_bd z t hz ht
    have hy0 : (y == 0) = false := by simp; omega
    have ht0 : (t == 0) = false := by simp; omega
    by_cases hpq : x / y = z / t
    · have hpb : (x / y != z / t) = false := by simpa using hpq
      have hI2 := Lib.hid (less_rest hpq HI.out)
      clear hpq HI
      have ux : 0 ≤ x - x / y * y := by omega
      have vx : 0 ≤ z - z / t * t := by omega
      by_cases hu : x - x / y * y = 0
      · have hu1 : (x - x / y * y == 0) = true := by simpa using hu
        have hfin := Lib.hid (less_zero hy ht ux vx (.inl hu) hI2.out)
        clear hI2
        by_cases hv : z - z / t * t = 0
        · have hv1 : (x - x / y * y != z - z / t * t) = false := by simp; omega
          have hu' := Lib.hid hu
          have hv' := Lib.hid hv
          clear hu hv
          go_wp2
          go_quiet (fail)
          go_wp2
          go_quiet (fail)
          go_wp2
          go_ret
          exact ⟨ret_bool (by rw [hfin.out, hu'.out, hv'.out]; simp), below_drewN hB _⟩
        · have hv1 : (x - x / y * y != z - z / t * t) = true := by simp; omega
          have hu' := Lib.hid hu
          have hv' := Lib.hid hv
          clear hu hv
          go_wp2
          go_quiet (fail)
          go_wp2
          go_quiet (fail)
          go_wp2
          go_ret
          exact ⟨ret_bool (by rw [hfin.out, hu'.out]; have := hv'.out; cases T <;> simp <;> omega), below_drewN hB _⟩
      · have hu1 : (x - x / y * y == 0) = false := by simpa using hu
        by_cases hv : z - z / t * t = 0
        · have hfin := Lib.hid (less_zero hy ht ux vx (.inr hv) hI2.out)
          have hv1 : (z - z / t * t == 0) = true := by simpa using hv
          have hv2 : (x - x / y * y != z - z / t * t) = true := by simp; omega
          clear hI2
          have hu' := Lib.hid hu
          have hv' := Lib.hid hv
          clear hu hv
          go_wp2
          go_quiet (fail)
          go_wp2
          go_quiet (fail)
          go_wp2
          go_ret
          exact ⟨ret_bool (by rw [hfin.out, hv'.out]; have := hu'.out; cases T <;> simp <;> omega), below_drewN hB _⟩
        · have hv1 : (z - z / t * t == 0) = false := by simpa using hv
          have hI3 := Lib.hid (less_turn hI2.out)
          have hu2 : 1 ≤ x - x / y * y := by omega
          have hv2 : 1 ≤ z - z / t * t := by omega
          clear hI2 hu hv
          go_wp2
          go_quiet (fail)
          go_wp2
          go_quiet (fail)
          go_wp2
          go_region
          all_goals go_wp2
          have e1 : ∀ n, ((((((wr.drewN n).setCell ⟨w.heap.size, 0, none⟩ (.int .i64 y)).setCell ⟨w.heap.size, 1, none⟩ (.int .i64 (x - x / y * y))).setCell ⟨w.heap.size + 1, 0, none⟩ (.int .i64 t)).setCell ⟨w.heap.size + 1, 1, none⟩ (.int .i64 (z - z / t * t)))).cell? ⟨w.heap.size, 1, none⟩ = some (.int .i64 (x - x / y * y)) := by intro n; simp [go_sem, c2]
          refine ⟨⟨y, _, t, _, !T, by omega, hu2, by omega, hv2, hy2, by omega, ht2, by omega, rfl, hI3.out, ?_, e1 _, ?_, ?_, ?_, ?_, ?_⟩, ?_⟩
          · simp [go_sem, c1]
          · simp [go_sem, c3]
          · simp [go_sem, c4]
          · simp [go_sem, f1]
          · simp [go_sem, f2]
          · (repeat (first | (first | exact Below.refl _ _ | assumption) | refine Below.setCell ?_ (by first | omega | (simp <;> omega)) _ | refine below_drewN ?_ _ | refine Below.drew ?_ | refine Below.alloc ?_ (by first | omega | (simp <;> omega)) _ | refine below_step (by assumption) (by first | omega | (simp <;> omega)) ?_))
          · rw [e1, c2]
            show (x - x / y * y).toNat < y.toNat
            omega
    · have hpb : (x / y != z / t) = true := by simpa using hpq
      have hfin := Lib.hid (less_ne hy ht hpq HI.out)
      clear hpq
      go_wp2
      go_quiet (fail)
      go_wp2
      go_ret
      exact ⟨ret_bool (by rw [hfin.out]; cases T <;> simp), below_drewN hB _⟩
end Go.Proofs.Ytcphndfipjifcaa
