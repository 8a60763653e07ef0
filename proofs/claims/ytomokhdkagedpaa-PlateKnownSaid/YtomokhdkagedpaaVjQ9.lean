/- What one letter costs for each one, as the program finds it, is what the document's table has. -/
import Derived.Test.YtomokhdkagedpaaVjQ8
set_option linter.unusedVariables false
namespace Go.Vm
set_option maxRecDepth 100000
set_option maxHeartbeats 4000000
/-! the table: no way is shorter, and each cost is kept by every row of costs that no pair lowers -/
theorem fw_get {c : List Int} {m i j : Nat} (hi : i < 36) (hj : j < 36) : (fwS c m).getD (36 * i + j) 0 = mnZ (c.getD (36 * i + j) 0) (c.getD (36 * i + m) 0 + c.getD (36 * m + j) 0) := by
  unfold fwS
  rw [rmap_get (by omega)]
  unfold fwE
  rw [show (36 * i + j) / 36 = i by omega, show (36 * i + j) % 36 = j by omega]
theorem mnZ_le2 {a b : Int} : mnZ a b ≤ b := by unfold mnZ; split <;> omega
theorem fwM_le {c : List Int} {i j : Nat} (hi : i < 36) (hj : j < 36) : ∀ m, (fwM c m).getD (36 * i + j) 0 ≤ c.getD (36 * i + j) 0
  | 0 => Int.le_refl _
  | m + 1 => by
    rw [fwM, fw_get hi hj]
    exact Int.le_trans mnZ_le (fwM_le hi hj m)
theorem mnZ_cases (a b : Int) : (mnZ a b = a ∧ a ≤ b) ∨ (mnZ a b = b ∧ b < a) := by unfold mnZ; split <;> omega
theorem tri {c : List Int} (h : Gd c) : ∀ t, t ≤ 36 → ∀ x i j, x < t → i < 36 → j < 36 → (fwM c t).getD (36 * i + j) 0 ≤ (fwM c t).getD (36 * i + x) 0 + (fwM c t).getD (36 * x + j) 0
  | 0, _, x, i, j, hx, _, _ => by omega
  | t + 1, ht, x, i, j, hx, hi, hj => by
    have hg := fwM_gd h t (by omega)
    have ih := tri h t (by omega)
    have r1 := hg.rg (36 * t + x) (by omega)
    have r2 := hg.rg (36 * x + t) (by omega)
    rw [fwM, fw_get hi hj, fw_get hi (by omega : x < 36), fw_get (by omega : x < 36) hj]
    have a1 := @mnZ_le ((fwM c t).getD (36 * i + j) 0) ((fwM c t).getD (36 * i + t) 0 + (fwM c t).getD (36 * t + j) 0)
    have a2 := @mnZ_le2 ((fwM c t).getD (36 * i + j) 0) ((fwM c t).getD (36 * i + t) 0 + (fwM c t).getD (36 * t + j) 0)
    by_cases e : x = t
    · subst e
      have d := hg.dg x (by omega)
      rcases mnZ_cases ((fwM c x).getD (36 * i + x) 0) ((fwM c x).getD (36 * i + x) 0 + (fwM c x).getD (36 * x + x) 0) with ⟨h1, _⟩ | ⟨h1, _⟩ <;>
      rcases mnZ_cases ((fwM c x).getD (36 * x + j) 0) ((fwM c x).getD (36 * x + x) 0 + (fwM c x).getD (36 * x + j) 0) with ⟨h2, _⟩ | ⟨h2, _⟩ <;> omega
    · have k1 := ih x i j (by omega) hi hj
      have k2 := ih x i t (by omega) hi (by omega)
      have k3 := ih x t j (by omega) (by omega) hj
      rcases mnZ_cases ((fwM c t).getD (36 * i + x) 0) ((fwM c t).getD (36 * i + t) 0 + (fwM c t).getD (36 * t + x) 0) with ⟨h1, _⟩ | ⟨h1, _⟩ <;>
      rcases mnZ_cases ((fwM c t).getD (36 * x + j) 0) ((fwM c t).getD (36 * x + t) 0 + (fwM c t).getD (36 * t + j) 0) with ⟨h2, _⟩ | ⟨h2, _⟩ <;> omega
theorem pot {c v : List Int} (h : ∀ i j, i < 36 → j < 36 → v.getD j 0 ≤ v.getD i 0 + c.getD (36 * i + j) 0) : ∀ t, t ≤ 36 → ∀ i j, i < 36 → j < 36 → v.getD j 0 ≤ v.getD i 0 + (fwM c t).getD (36 * i + j) 0
  | 0, _, i, j, hi, hj => h i j hi hj
  | t + 1, ht, i, j, hi, hj => by
    have ih := pot h t (by omega)
    have k1 := ih i j hi hj
    have k2 := ih i t hi (by omega)
    have k3 := ih t j (by omega) hj
    rw [fwM, fw_get hi hj]
    rcases mnZ_cases ((fwM c t).getD (36 * i + j) 0) ((fwM c t).getD (36 * i + t) 0 + (fwM c t).getD (36 * t + j) 0) with ⟨h1, _⟩ | ⟨h1, _⟩ <;> omega
theorem lower_le {l : List Int} {p j : Nat} {c : Int} (hp : p < l.length) : (lower l p c).getD j 0 ≤ l.getD j 0 := by
  unfold lower
  rw [gset hp]
  split
  · rename_i e; rw [e]; exact mnZ_le
  · exact Int.le_refl _
theorem lower_at {l : List Int} {p : Nat} {c : Int} (hp : p < l.length) : (lower l p c).getD p 0 ≤ c := by
  unfold lower
  rw [gset hp, if_pos rfl]
  exact mnZ_le2
theorem prF_len {A : List Al} {l : List Int} : ∀ i, (prF A l i).length = l.length
  | 0 => rfl
  | i + 1 => by
    show (lower (lower _ _ _) _ _).length = _
    unfold lower
    rw [List.length_set, List.length_set, prF_len i]
section
variable {A : List Al} {k : Int}
theorem prF_le {l : List Int} (hA : AlOK A) (h : l.length = 1296) {j : Nat} : ∀ i, i ≤ A.length → (prF A l i).getD j 0 ≤ l.getD j 0
  | 0, _ => Int.le_refl _
  | i + 1, hi => by
    obtain ⟨_, _, h3, h4, h5, _⟩ := hA i (by omega)
    have := ix_nat h3
    have := ix_nat h4
    have hl : (prF A l i).length = 1296 := by rw [prF_len, h]
    refine Int.le_trans (lower_le ?_) (Int.le_trans (lower_le ?_) (prF_le hA h i (by omega)))
    · unfold lower; rw [List.length_set]; omega
    · omega
theorem prF_mono {l : List Int} (hA : AlOK A) (h : l.length = 1296) {j i : Nat} : ∀ d, i + d ≤ A.length → (prF A l (i + d)).getD j 0 ≤ (prF A l i).getD j 0
  | 0, _ => Int.le_refl _
  | d + 1, hi => by
    obtain ⟨_, _, h3, h4, h5, _⟩ := hA (i + d) (by omega)
    have := ix_nat h3
    have := ix_nat h4
    have hl : (prF A l (i + d)).length = 1296 := by rw [prF_len, h]
    have e : prF A l (i + (d + 1)) = lower (lower (prF A l (i + d)) (36 * (ixF (A.getD (i + d) alZ).1).toNat + (ixF (A.getD (i + d) alZ).2.1).toNat) (A.getD (i + d) alZ).2.2) (36 * (ixF (A.getD (i + d) alZ).2.1).toNat + (ixF (A.getD (i + d) alZ).1).toNat) (A.getD (i + d) alZ).2.2 := rfl
    rw [e]
    refine Int.le_trans (lower_le ?_) (Int.le_trans (lower_le ?_) (prF_mono hA h d (by omega)))
    · unfold lower; rw [List.length_set]; omega
    · omega
/-- a pair's cost -/
theorem prF_pair {l : List Int} (hA : AlOK A) (h : l.length = 1296) {i : Nat} (hi : i < A.length) :
    (prF A l A.length).getD (36 * (ixF (A.getD i alZ).1).toNat + (ixF (A.getD i alZ).2.1).toNat) 0 ≤ (A.getD i alZ).2.2 ∧ (prF A l A.length).getD (36 * (ixF (A.getD i alZ).2.1).toNat + (ixF (A.getD i alZ).1).toNat) 0 ≤ (A.getD i alZ).2.2 := by
  obtain ⟨_, _, h3, h4, h5, _⟩ := hA i hi
  have := ix_nat h3
  have := ix_nat h4
  have hl : (prF A l i).length = 1296 := by rw [prF_len, h]
  have key := fun j => prF_mono hA h (i := i + 1) (j := j) (A.length - (i + 1)) (by omega)
  rw [show i + 1 + (A.length - (i + 1)) = A.length by omega] at key
  have e : ∀ p, (lower (prF A l i) p (A.getD i alZ).2.2).length = 1296 := fun p => by unfold lower; rw [List.length_set, hl]
  exact ⟨Int.le_trans (key _) (Int.le_trans (lower_le (by rw [e]; omega)) (lower_at (by omega))), Int.le_trans (key _) (lower_at (by rw [e]; omega))⟩
theorem prF_pot {v : List Int} (hA : AlOK A) (hk : 0 ≤ k) (hv : ∀ j, j < 36 → 0 ≤ v.getD j 0 ∧ v.getD j 0 ≤ 2 * k)
    (hp : ∀ i, i < A.length → v.getD (ixF (A.getD i alZ).1).toNat 0 ≤ v.getD (ixF (A.getD i alZ).2.1).toNat 0 + (A.getD i alZ).2.2 ∧ v.getD (ixF (A.getD i alZ).2.1).toNat 0 ≤ v.getD (ixF (A.getD i alZ).1).toNat 0 + (A.getD i alZ).2.2) :
    ∀ n, n ≤ A.length → ∀ i j, i < 36 → j < 36 → v.getD j 0 ≤ v.getD i 0 + (prF A (i0 k) n).getD (36 * i + j) 0
  | 0, _, i, j, hi, hj => by
    show _ ≤ _ + (i0 k).getD (36 * i + j) 0
    rw [i0_get (by omega), show (36 * i + j) / 36 = i by omega, show (36 * i + j) % 36 = j by omega]
    have := hv i hi
    have := hv j hj
    split
    · rename_i e; subst e; omega
    · omega
  | n + 1, hn, i, j, hi, hj => by
    obtain ⟨_, _, h3, h4, h5, _⟩ := hA n (by omega)
    have x1 := ix_nat h3
    have x2 := ix_nat h4
    obtain ⟨p1, p2⟩ := hp n (by omega)
    have ih := prF_pot hA hk hv hp n (by omega)
    have k1 := ih i j hi hj
    have hl : (prF A (i0 k) n).length = 1296 := by rw [prF_len, i0_len]
    show _ ≤ _ + (lower (lower (prF A (i0 k) n) _ _) _ _).getD _ 0
    generalize (ixF (A.getD n alZ).1).toNat = x at *
    generalize (ixF (A.getD n alZ).2.1).toNat = y at *
    generalize (A.getD n alZ).2.2 = c at *
    generalize prF A (i0 k) n = P at *
    have q1 : ∀ i j, i < 36 → j < 36 → v.getD j 0 ≤ v.getD i 0 + (lower P (36 * x + y) c).getD (36 * i + j) 0 := fun i j hi hj => by
      have k := ih i j hi hj
      unfold lower
      rw [gset (by omega)]
      split
      · rename_i e
        have e1 : i = x := by omega
        have e2 : j = y := by omega
        subst e1 e2
        rcases mnZ_cases (P.getD (36 * i + j) 0) c with ⟨h1, _⟩ | ⟨h1, _⟩ <;> omega
      · exact k
    have q2 := q1 i j hi hj
    have hl2 : (lower P (36 * x + y) c).length = 1296 := by unfold lower; rw [List.length_set, hl]
    generalize lower P (36 * x + y) c = P2 at *
    unfold lower
    rw [gset (by omega)]
    split
    · rename_i e
      have e1 : i = y := by omega
      have e2 : j = x := by omega
      subst e1 e2
      rcases mnZ_cases (P2.getD (36 * i + j) 0) c with ⟨h1, _⟩ | ⟨h1, _⟩ <;> omega
    · exact q2
theorem cost_gd (hA : AlOK A) (hk : 0 ≤ k ∧ k ≤ 1000) : Gd (costR k A) := fwM_gd (prF_gd hA (i0_gd hk) A.length (Nat.le_refl _)) 36 (Nat.le_refl _)
theorem cost_top (hA : AlOK A) (hk : 0 ≤ k) {i j : Nat} (hi : i < 36) (hj : j < 36) : (costR k A).getD (36 * i + j) 0 ≤ 2 * k := by
  refine Int.le_trans (fwM_le hi hj 36) (Int.le_trans (prF_le hA i0_len A.length (Nat.le_refl _)) ?_)
  rw [i0_get (by omega)]
  split <;> omega
theorem cost_tri (hA : AlOK A) (hk : 0 ≤ k ∧ k ≤ 1000) {x i j : Nat} (hx : x < 36) (hi : i < 36) (hj : j < 36) : (costR k A).getD (36 * i + j) 0 ≤ (costR k A).getD (36 * i + x) 0 + (costR k A).getD (36 * x + j) 0 :=
  tri (prF_gd hA (i0_gd hk) A.length (Nat.le_refl _)) 36 (Nat.le_refl _) x i j hx hi hj
theorem cost_pair (hA : AlOK A) {i : Nat} (hi : i < A.length) : (costR k A).getD (36 * (ixF (A.getD i alZ).1).toNat + (ixF (A.getD i alZ).2.1).toNat) 0 ≤ (A.getD i alZ).2.2 ∧ (costR k A).getD (36 * (ixF (A.getD i alZ).2.1).toNat + (ixF (A.getD i alZ).1).toNat) 0 ≤ (A.getD i alZ).2.2 := by
  obtain ⟨_, _, h3, h4, h5, _⟩ := hA i hi
  have x1 := ix_nat h3
  have x2 := ix_nat h4
  obtain ⟨p1, p2⟩ := prF_pair hA (l := i0 k) i0_len hi
  exact ⟨Int.le_trans (fwM_le (by omega) (by omega) 36) p1, Int.le_trans (fwM_le (by omega) (by omega) 36) p2⟩
/-! one letter's costs -/
theorem lowB_len {l : List Int} {x y : Nat} {c : Int} : (lowB l x y c).length = l.length := by unfold lowB; rw [List.length_set]
theorem lowB_le {l : List Int} {x y j : Nat} {c : Int} (hx : x < l.length) : (lowB l x y c).getD j 0 ≤ l.getD j 0 := by
  unfold lowB
  rw [gset hx]
  split
  · rename_i e; rw [e]; exact mnZ_le
  · exact Int.le_refl _
theorem lowB_rw {num : Nat} {l : List Int} {x y : Nat} {c : Int} (hA : AlOK A) (hk : 0 ≤ k ∧ k ≤ 1000) (hnum : num < 36) (h : Rw k A num l) (hx : x < 36) (hy : y < 36) (hc : 0 ≤ c) (hp : (costR k A).getD (36 * y + x) 0 ≤ c) : Rw k A num (lowB l x y c) := by
  have hxl : x < l.length := by rw [h.len]; exact hx
  have g := cost_gd hA hk
  refine ⟨by rw [lowB_len, h.len], fun j hj => ⟨?_, Int.le_trans (lowB_le hxl) (h.rg j hj).2⟩, ?_⟩
  · unfold lowB
    rw [gset hxl]
    split
    · rename_i e
      subst e
      have t := cost_tri hA hk hy hnum hx
      have r1 := h.rg j hj
      have r2 := h.rg y hy
      rcases mnZ_cases (l.getD j 0) (l.getD y 0 + c) with ⟨h1, _⟩ | ⟨h1, _⟩ <;> omega
    · exact (h.rg j hj).1
  · unfold lowB
    rw [gset hxl]
    split
    · rename_i e
      subst e
      rw [h.dg]
      have r2 := h.rg y hy
      have := g.rg (36 * num + y) (by omega)
      exact mnZ_zero (by omega)
    · exact h.dg
theorem psF_rw {num : Nat} {l : List Int} (hA : AlOK A) (hk : 0 ≤ k ∧ k ≤ 1000) (hnum : num < 36) (h : Rw k A num l) : ∀ i, i ≤ A.length → Rw k A num (psF A l i)
  | 0, _ => h
  | i + 1, hi => by
    obtain ⟨_, _, h3, h4, h5, _⟩ := hA i (by omega)
    have x1 := ix_nat h3
    have x2 := ix_nat h4
    obtain ⟨p1, p2⟩ := cost_pair (k := k) hA (i := i) (by omega)
    exact lowB_rw hA hk hnum (lowB_rw hA hk hnum (psF_rw hA hk hnum h i (by omega)) (by omega) (by omega) h5 p2) (by omega) (by omega) h5 p1
theorem psF_mono {num : Nat} {l : List Int} (hA : AlOK A) (hk : 0 ≤ k ∧ k ≤ 1000) (hnum : num < 36) (h : Rw k A num l) {i j : Nat} : ∀ d, i + d ≤ A.length → (psF A l (i + d)).getD j 0 ≤ (psF A l i).getD j 0
  | 0, _ => Int.le_refl _
  | d + 1, hi => by
    obtain ⟨_, _, h3, h4, h5, _⟩ := hA (i + d) (by omega)
    have x1 := ix_nat h3
    have x2 := ix_nat h4
    have hl := (psF_rw hA hk hnum h (i + d) (by omega)).len
    have e : psF A l (i + (d + 1)) = lowB (lowB (psF A l (i + d)) (ixF (A.getD (i + d) alZ).1).toNat (ixF (A.getD (i + d) alZ).2.1).toNat (A.getD (i + d) alZ).2.2) (ixF (A.getD (i + d) alZ).2.1).toNat (ixF (A.getD (i + d) alZ).1).toNat (A.getD (i + d) alZ).2.2 := rfl
    rw [e]
    exact Int.le_trans (lowB_le (by rw [lowB_len]; omega)) (Int.le_trans (lowB_le (by omega)) (psF_mono hA hk hnum h d (by omega)))
theorem psF_fix {num : Nat} {l : List Int} (hA : AlOK A) (hk : 0 ≤ k ∧ k ≤ 1000) (hnum : num < 36) (h : Rw k A num l) (he : psF A l A.length = l) : l = rowR k A num := by
  have hi : ∀ i, i ≤ A.length → psF A l i = l := fun i hi => by
    refine ext_getD (by rw [(psF_rw hA hk hnum h i hi).len, h.len]) fun j hj => ?_
    have a := psF_mono hA hk hnum h (i := 0) (j := j) i (by omega)
    have b := psF_mono hA hk hnum h (i := i) (j := j) (A.length - i) (by omega)
    rw [Nat.zero_add] at a
    rw [show i + (A.length - i) = A.length by omega, he] at b
    have a' : (psF A l i).getD j 0 ≤ l.getD j 0 := a
    omega
  have hp : ∀ i, i < A.length → l.getD (ixF (A.getD i alZ).1).toNat 0 ≤ l.getD (ixF (A.getD i alZ).2.1).toNat 0 + (A.getD i alZ).2.2 ∧ l.getD (ixF (A.getD i alZ).2.1).toNat 0 ≤ l.getD (ixF (A.getD i alZ).1).toNat 0 + (A.getD i alZ).2.2 := fun i hlt => by
    obtain ⟨_, _, h3, h4, h5, _⟩ := hA i hlt
    have x1 := ix_nat h3
    have x2 := ix_nat h4
    have e1 := hi (i + 1) (by omega)
    have e2 : psF A l (i + 1) = lowB (lowB (psF A l i) (ixF (A.getD i alZ).1).toNat (ixF (A.getD i alZ).2.1).toNat (A.getD i alZ).2.2) (ixF (A.getD i alZ).2.1).toNat (ixF (A.getD i alZ).1).toNat (A.getD i alZ).2.2 := rfl
    rw [hi i (by omega)] at e2
    rw [e1] at e2
    have hl := h.len
    have m1 : lowB l (ixF (A.getD i alZ).1).toNat (ixF (A.getD i alZ).2.1).toNat (A.getD i alZ).2.2 = l := by
      refine ext_getD (by rw [lowB_len]) fun j hj => ?_
      have a : (lowB l (ixF (A.getD i alZ).1).toNat (ixF (A.getD i alZ).2.1).toNat (A.getD i alZ).2.2).getD j 0 ≤ l.getD j 0 := lowB_le (by omega)
      have b : (lowB (lowB l (ixF (A.getD i alZ).1).toNat (ixF (A.getD i alZ).2.1).toNat (A.getD i alZ).2.2) (ixF (A.getD i alZ).2.1).toNat (ixF (A.getD i alZ).1).toNat (A.getD i alZ).2.2).getD j 0 ≤ (lowB l (ixF (A.getD i alZ).1).toNat (ixF (A.getD i alZ).2.1).toNat (A.getD i alZ).2.2).getD j 0 := lowB_le (by rw [lowB_len]; omega)
      rw [← e2] at b
      omega
    rw [m1] at e2
    have q1 : (lowB l (ixF (A.getD i alZ).1).toNat (ixF (A.getD i alZ).2.1).toNat (A.getD i alZ).2.2).getD (ixF (A.getD i alZ).1).toNat 0 = mnZ (l.getD (ixF (A.getD i alZ).1).toNat 0) (l.getD (ixF (A.getD i alZ).2.1).toNat 0 + (A.getD i alZ).2.2) := by
      unfold lowB; rw [gset (by omega), if_pos rfl]
    have q2 : (lowB l (ixF (A.getD i alZ).2.1).toNat (ixF (A.getD i alZ).1).toNat (A.getD i alZ).2.2).getD (ixF (A.getD i alZ).2.1).toNat 0 = mnZ (l.getD (ixF (A.getD i alZ).2.1).toNat 0) (l.getD (ixF (A.getD i alZ).1).toNat 0 + (A.getD i alZ).2.2) := by
      unfold lowB; rw [gset (by omega), if_pos rfl]
    rw [m1] at q1
    rw [← e2] at q2
    have z1 := @mnZ_le2 (l.getD (ixF (A.getD i alZ).1).toNat 0) (l.getD (ixF (A.getD i alZ).2.1).toNat 0 + (A.getD i alZ).2.2)
    have z2 := @mnZ_le2 (l.getD (ixF (A.getD i alZ).2.1).toNat 0) (l.getD (ixF (A.getD i alZ).1).toNat 0 + (A.getD i alZ).2.2)
    omega
  have g := cost_gd hA hk
  have hv : ∀ j, j < 36 → 0 ≤ l.getD j 0 ∧ l.getD j 0 ≤ 2 * k := fun j hj => by
    have := h.rg j hj
    have := g.rg (36 * num + j) (by omega)
    omega
  have hpot := pot (prF_pot hA hk.1 hv hp A.length (Nat.le_refl _)) 36 (Nat.le_refl _) num
  refine ext_getD (by rw [h.len]; exact rmap_len.symm) fun j hj => ?_
  have hj : j < 36 := by rw [h.len] at hj; exact hj
  have a := hpot j hnum hj
  rw [h.dg] at a
  have b := h.rg j hj
  unfold rowR
  rw [rmap_get hj]
  have a' : l.getD j 0 ≤ 0 + (costR k A).getD (36 * num + j) 0 := a
  omega
theorem w0_rw {num : Nat} (hA : AlOK A) (hk : 0 ≤ k ∧ k ≤ 1000) (hnum : num < 36) : Rw k A num (w036 k num) := by
  have hl : (lk36 k).length = 36 := by simp [lk36]
  have hg : ∀ j, j < 36 → (lk36 k).getD j 0 = 2 * k := fun j hj => by
    unfold lk36
    rw [List.getD_eq_getElem?_getD, List.getElem?_replicate, if_pos hj]
    rfl
  have g := cost_gd hA hk
  refine ⟨by unfold w036; rw [List.length_set, hl], fun j hj => ?_, ?_⟩
  · unfold w036
    rw [gset (by omega)]
    split
    · rename_i e
      rw [e, g.dg num hnum]
      omega
    · rw [hg j hj]
      exact ⟨cost_top hA hk.1 hnum hj, Int.le_refl _⟩
  · unfold w036
    rw [gset (by omega), if_pos rfl]
end
theorem sum_le : ∀ {l l' : List Int}, l'.length = l.length → (∀ j, j < l.length → 0 ≤ l'.getD j 0 ∧ l'.getD j 0 ≤ l.getD j 0) → sumN l' ≤ sumN l ∧ (sumN l' = sumN l → l' = l)
  | [], [], _, _ => ⟨Nat.le_refl _, fun _ => rfl⟩
  | [], _ :: _, h, _ => by simp at h
  | _ :: _, [], h, _ => by simp at h
  | x :: l, y :: l', h, hj => by
    obtain ⟨h1, h2⟩ := sum_le (l := l) (l' := l') (by simpa using h) fun j hjl => by
      have := hj (j + 1) (by simpa using hjl)
      simpa using this
    have h0 := hj 0 (by simp)
    simp only [List.getD_cons_zero] at h0
    have e1 : sumN (x :: l) = x.toNat + sumN l := by simp [sumN]
    have e2 : sumN (y :: l') = y.toNat + sumN l' := by simp [sumN]
    rw [e1, e2]
    refine ⟨by omega, fun e => ?_⟩
    have e3 : y = x := by omega
    rw [e3, h2 (by omega)]
theorem sum_top : ∀ {l : List Int}, (∀ j, j < l.length → l.getD j 0 ≤ 2000) → sumN l ≤ 2000 * l.length
  | [], _ => by simp [sumN]
  | x :: l, h => by
    have h1 := sum_top (l := l) fun j hj => by have := h (j + 1) (by simpa using hj); simpa using this
    have h0 := h 0 (by simp)
    simp only [List.getD_cons_zero] at h0
    have e1 : sumN (x :: l) = x.toNat + sumN l := by simp [sumN]
    rw [e1, List.length_cons]
    omega
end Go.Vm
