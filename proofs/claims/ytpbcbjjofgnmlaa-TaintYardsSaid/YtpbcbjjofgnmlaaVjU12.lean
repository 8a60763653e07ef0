/- Both ways of following a trail agree where a yard and a start are valid. -/
import Derived.Test.YtpbcbjjofgnmlaaVjU11r
set_option linter.unusedVariables false
namespace Go.Vm
set_option maxRecDepth 100000
set_option maxHeartbeats 8000000
theorem trB_cons {up : Int → Int → Int → Int} {l r : List Int} {y v t x : Int} : trB up l (y :: r) v t x = bif eqZ (l.getD (4 * y.toNat) 0) v then trB up l r (l.getD (4 * y.toNat + 1) 0) (up (l.getD (4 * y.toNat + 2) 0) (l.getD (4 * y.toNat + 3) 0) t) x else false := by
  unfold trB
  simp only [trF]
  cases eqZ (l.getD (4 * y.toNat) 0) v <;> rfl
theorem tkB_cons {b : Bool} {l r : List Int} {y v t x : Int} : tkB b l (y :: r) v t x = bif eqZ (l.getD (4 * y.toNat) 0) v && leZ t (bif b then l.getD (4 * y.toNat + 2) 0 else l.getD (4 * y.toNat + 3) 0) then tkB b l r (l.getD (4 * y.toNat + 1) 0) (bif b then l.getD (4 * y.toNat + 3) 0 else mxZ t (l.getD (4 * y.toNat + 2) 0)) x else false := by
  unfold tkB
  simp only [trR]
  cases (eqZ (l.getD (4 * y.toNat) 0) v && leZ t (bif b then l.getD (4 * y.toNat + 2) 0 else l.getD (4 * y.toNat + 3) 0)) <;> rfl
def MvOK (l : List Int) (y : Int) : Prop := l.getD (4 * y.toNat + 2) 0 ≤ l.getD (4 * y.toNat + 3) 0 ∧ l.getD (4 * y.toNat + 3) 0 ≤ 100000
theorem up_never {b : Bool} {lo hi : Int} (h1 : lo ≤ hi) (h2 : hi ≤ 100000) : upS b lo hi 1048576 = 1048576 := by
  cases b with
  | true => simp only [upS, suZ, cond_true, show ltZ lo 1048576 = true from decide_eq_true (by omega)]
  | false => simp only [upS, eaZ, cond_true, cond_false, show ltZ hi 1048576 = true from decide_eq_true (by omega)]
theorem never_no {b : Bool} {l : List Int} {x : Int} : ∀ {tl : List Int} {v : Int}, (∀ y, y ∈ tl → MvOK l y) → trB (upS b) l tl v 1048576 x = false
  | [], v, _ => by simp [trB, trF, neZ]
  | y :: r, v, h => by
    have hy := h y (by simp)
    rw [trB_cons, up_never hy.1 hy.2, never_no fun z hz => h z (by simp [hz])]
    cases eqZ (l.getD (4 * y.toNat) 0) v <;> rfl
theorem mx_le {a b c : Int} (h1 : a ≤ c) (h2 : b ≤ c) : mxZ a b ≤ c := by
  rw [mx_def]
  split <;> omega
theorem tr_tk {b : Bool} {l : List Int} {x : Int} : ∀ {tl : List Int} {v t : Int}, t ≤ 100000 → (∀ y, y ∈ tl → MvOK l y) → trB (upS b) l tl v t x = tkB b l tl v t x
  | [], v, t, ht, _ => by
    have : neZ t 1048576 = true := by simp [neZ]; omega
    simp [trB, tkB, trF, trR, this]
  | y :: r, v, t, ht, h => by
    have hy := h y (by simp)
    have hr : ∀ z, z ∈ r → MvOK l z := fun z hz => h z (by simp [hz])
    rw [trB_cons, tkB_cons]
    cases eqZ (l.getD (4 * y.toNat) 0) v with
    | false => rfl
    | true =>
      cases b with
      | true =>
        cases hc : ltZ (l.getD (4 * y.toNat + 2) 0) t with
        | true =>
          have e : leZ t (l.getD (4 * y.toNat + 2) 0) = false := bfalse.2 fun h => by have := leZ_t h; have := ltZ_t hc; omega
          have e2 : upS true (l.getD (4 * y.toNat + 2) 0) (l.getD (4 * y.toNat + 3) 0) t = 1048576 := by simp only [upS, suZ, hc, cond_true]
          rw [e2, never_no hr]
          simp only [cond_true, cond_false, e, Bool.true_and, Bool.and_false]
        | false =>
          have e : leZ t (l.getD (4 * y.toNat + 2) 0) = true := le_iff.2 (ltZ_f hc)
          have e2 : upS true (l.getD (4 * y.toNat + 2) 0) (l.getD (4 * y.toNat + 3) 0) t = l.getD (4 * y.toNat + 3) 0 := by simp only [upS, suZ, hc, cond_true, cond_false]
          rw [e2, tr_tk hy.2 hr]
          simp only [cond_true, cond_false, e, Bool.true_and, Bool.and_false]
      | false =>
        cases hc : ltZ (l.getD (4 * y.toNat + 3) 0) t with
        | true =>
          have e : leZ t (l.getD (4 * y.toNat + 3) 0) = false := bfalse.2 fun h => by have := leZ_t h; have := ltZ_t hc; omega
          have e2 : upS false (l.getD (4 * y.toNat + 2) 0) (l.getD (4 * y.toNat + 3) 0) t = 1048576 := by simp only [upS, eaZ, hc, cond_true, cond_false]
          rw [e2, never_no hr]
          simp only [cond_true, cond_false, e, Bool.true_and, Bool.and_false]
        | false =>
          have e : leZ t (l.getD (4 * y.toNat + 3) 0) = true := le_iff.2 (ltZ_f hc)
          have e2 : upS false (l.getD (4 * y.toNat + 2) 0) (l.getD (4 * y.toNat + 3) 0) t = mxZ t (l.getD (4 * y.toNat + 2) 0) := by simp only [upS, eaZ, hc, cond_false]
          rw [e2, tr_tk (mx_le ht (by have := hy.1; have := hy.2; omega)) hr]
          simp only [cond_true, cond_false, e, Bool.true_and, Bool.and_false]
theorem te_eq (V : Int) (n : Nat) (l tl : List Int) (v t x : Int) (b : Bool) : teE V n l tl v t x (trB (upS b) l tl v t x) = teE V n l tl v t x (tkB b l tl v t x) := by
  unfold teE
  cases h1 : eqZ (vsE V n l v t x) 0 with
  | false => rfl
  | true =>
    cases h2 : ixB n tl with
    | false => rfl
    | true =>
      have hs : stE V n l v t = 0 := by
        have h1 := eqZ_t h1
        unfold vsE at h1
        cases hq : (eqZ (stE V n l v t) 0 && !ixB V [x]) with
        | true => simp [hq] at h1
        | false => simpa [hq] using h1
      have hf := fine_of hs
      rw [tr_tk hf.t.2 fun y hy => ?_]
      have hix : ∀ z, z ∈ tl → 0 ≤ z ∧ z < (n : Int) := by simpa [ixB, allB] using h2
      have hy := hix y hy
      have := fit_iff.1 (hf.fit y.toNat (by omega))
      exact ⟨this.2.2.2.2.2, this.2.2.2.2.1⟩
end Go.Vm
