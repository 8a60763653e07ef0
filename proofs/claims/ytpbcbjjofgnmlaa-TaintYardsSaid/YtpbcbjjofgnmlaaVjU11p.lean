/- CheckArrivals: arrivals that nothing turns are right. -/
import Derived.Test.YtpbcbjjofgnmlaaVjU11h
import Derived.Test.YtpbcbjjofgnmlaaVjU9
set_option linter.unusedVariables false
namespace Go.Vm
set_option maxRecDepth 100000
set_option maxHeartbeats 8000000
theorem set_getD (c : List Int) (j k : Nat) (x : Int) : (c.set j x).getD k 0 = if j = k ∧ j < c.length then x else c.getD k 0 := by
  simp only [List.getD_eq_getElem?_getD, List.getElem?_set]
  by_cases h : j = k
  · subst h
    by_cases h2 : j < c.length
    · simp [h2]
    · simp [h2, List.getElem?_eq_none (Nat.le_of_not_lt h2)]
  · simp [h]
theorem ext_getD {a b : List Int} (hl : a.length = b.length) (h : ∀ k, k < a.length → a.getD k 0 = b.getD k 0) : a = b := by
  refine List.ext_getElem hl fun k h1 h2 => ?_
  have := h k h1
  simpa [List.getD_eq_getElem?_getD, h1, h2] using this
theorem cmF_le {l c : List Int} (i k : Nat) : (cmF l c (i + 1)).getD k 0 ≤ (cmF l c i).getD k 0 := by
  cases h : leZ ((cmF l c i).getD (l.getD (4 * i + 1) 0).toNat 0) (eaZ (l.getD (4 * i + 2) 0) (l.getD (4 * i + 3) 0) ((cmF l c i).getD (l.getD (4 * i) 0).toNat 0)) with
  | true => rw [cmF_same h]; exact Int.le_refl _
  | false =>
    rw [cmF_next h, set_getD]
    have := leZ_f h
    split
    · rename_i h2
      obtain ⟨h2, _⟩ := h2
      rw [h2] at this
      omega
    · exact Int.le_refl _
theorem cmF_mono {l c : List Int} {i : Nat} (k : Nat) : ∀ d, (cmF l c (i + d)).getD k 0 ≤ (cmF l c i).getD k 0
  | 0 => Int.le_refl _
  | d + 1 => Int.le_trans (cmF_le (i + d) k) (cmF_mono k d)
theorem cm1_le {gl : List Int} {v t : Int} (k : Nat) : (cm1 gl v t).getD k 0 ≤ (cm0 gl).getD k 0 := by
  unfold cm1
  rw [set_getD]
  split
  · rename_i h2
    obtain ⟨h2, _⟩ := h2
    rw [h2]
    unfold mnZ
    split <;> omega
  · exact Int.le_refl _
theorem cm0_get {gl : List Int} {k : Nat} (h : k < gl.length) : (cm0 gl).getD k 0 = gl.getD k 0 := by
  unfold cm0
  rw [List.getD_eq_getElem?_getD, List.getD_eq_getElem?_getD, List.getElem?_append_left h]
theorem mx_def (a b : Int) : mxZ a b = if a < b then b else a := rfl
theorem rg_le {l gl : List Int} {i : Nat} (hb : gl.getD (l.getD (4 * i + 1) 0).toNat 0 ≤ 1048576) :
    rgAt l gl i = leZ (gl.getD (l.getD (4 * i + 1) 0).toNat 0) (eaZ (l.getD (4 * i + 2) 0) (l.getD (4 * i + 3) 0) (gl.getD (l.getD (4 * i) 0).toNat 0)) := by
  unfold rgAt eaZ
  cases h1 : ltZ (l.getD (4 * i + 3) 0) (gl.getD (l.getD (4 * i) 0).toNat 0) with
  | true =>
    have := ltZ_t h1
    have e : leZ (gl.getD (l.getD (4 * i) 0).toNat 0) (l.getD (4 * i + 3) 0) = false := bfalse.2 fun h => by have := leZ_t h; omega
    rw [e, cond_true, le_iff.2 hb]
    rfl
  | false =>
    have := ltZ_f h1
    rw [le_iff.2 this, cond_false, Bool.true_and]
    cases h2 : ltZ (mxZ (gl.getD (l.getD (4 * i) 0).toNat 0) (l.getD (4 * i + 2) 0)) (gl.getD (l.getD (4 * i + 1) 0).toNat 0) with
    | true =>
      have := ltZ_t h2
      exact (bfalse.2 fun h => by have := leZ_t h; omega).symm
    | false => exact (le_iff.2 (ltZ_f h2)).symm
theorem rt_eq {V v t : Int} {n : Nat} {l gl : List Int} (hf : FineY V n l v t) (hV : (gl.length : Int) = V) (ha : ∀ m, m < gl.length → arAt gl m = true) : eqL (cmF l (cm1 gl v t) n) (cm0 gl) = rtB n l gl v t := by
  have hgl : gl.length ≤ 20 := by have := hf.V; omega
  have hv : v.toNat < gl.length := by have := hf.v; omega
  have l0 := cm0_len hgl
  have l1 := cm1_len (v := v) (t := t) hgl
  have ids : ∀ m, m < n → (l.getD (4 * m) 0).toNat < gl.length ∧ (l.getD (4 * m + 1) 0).toNat < gl.length := fun m hm => by
    have := fit_iff.1 (hf.fit m hm)
    constructor <;> omega
  have up : ∀ k, k < gl.length → gl.getD k 0 ≤ 1048576 := fun k hk => by
    rcases ar_iff.1 (show arB (gl.getD k 0) = true from ha k hk) with h | h <;> omega
  have c1 : cm1 gl v t = cm0 gl ↔ gl.getD v.toNat 0 ≤ t := by
    constructor
    · intro h
      have h2 : (cm1 gl v t).getD v.toNat 0 = (cm0 gl).getD v.toNat 0 := by rw [h]
      unfold cm1 at h2
      rw [set_getD, if_pos ⟨rfl, by omega⟩, cm0_get hv] at h2
      unfold mnZ at h2
      split at h2 <;> omega
    · intro h
      refine ext_getD (by omega) fun k hk => ?_
      unfold cm1
      rw [set_getD]
      split
      · rename_i h2
        obtain ⟨h2, _⟩ := h2
        subst h2
        rw [cm0_get hv]
        unfold mnZ
        split <;> omega
      · rfl
  have st : ∀ m, m < n → cmF l (cm1 gl v t) m = cm0 gl → (leZ ((cmF l (cm1 gl v t) m).getD (l.getD (4 * m + 1) 0).toNat 0) (eaZ (l.getD (4 * m + 2) 0) (l.getD (4 * m + 3) 0) ((cmF l (cm1 gl v t) m).getD (l.getD (4 * m) 0).toNat 0))) = rgAt l gl m := fun m hm he => by
    have hi := ids m hm
    rw [he, cm0_get hi.1, cm0_get hi.2, rg_le (up _ hi.2)]
  apply Bool.eq_iff_iff.2
  constructor
  · intro h
    have h : cmF l (cm1 gl v t) n = cm0 gl := by simpa [eqL] using h
    have mid : ∀ m, m ≤ n → cmF l (cm1 gl v t) m = cm0 gl := fun m hm => by
      refine ext_getD (by rw [cmF_len]; omega) fun k _ => ?_
      have a1 := cmF_mono (l := l) (c := cm1 gl v t) (i := m) k (n - m)
      rw [show m + (n - m) = n by omega, h] at a1
      have a2 := cmF_mono (l := l) (c := cm1 gl v t) (i := 0) k m
      rw [Nat.zero_add] at a2
      have a3 := cm1_le (gl := gl) (v := v) (t := t) k
      have a4 : (cmF l (cm1 gl v t) 0) = cm1 gl v t := rfl
      rw [a4] at a2
      omega
    have hc := c1.1 (mid 0 (Nat.zero_le n))
    unfold rtB
    rw [le_iff.2 hc, Bool.true_and]
    refine allRg_t fun m hm => ?_
    rw [← st m hm (mid m (by omega))]
    cases hq : leZ ((cmF l (cm1 gl v t) m).getD (l.getD (4 * m + 1) 0).toNat 0) (eaZ (l.getD (4 * m + 2) 0) (l.getD (4 * m + 3) 0) ((cmF l (cm1 gl v t) m).getD (l.getD (4 * m) 0).toNat 0)) with
    | true => rfl
    | false =>
      have e := cmF_next hq
      rw [mid (m + 1) (by omega)] at e
      have e2 : (cm0 gl).getD (l.getD (4 * m + 1) 0).toNat 0 = _ := congrArg (fun c => c.getD (l.getD (4 * m + 1) 0).toNat 0) e
      have hi := ids m hm
      rw [set_getD, if_pos ⟨rfl, by rw [cmF_len]; omega⟩] at e2
      have := leZ_f hq
      rw [mid m (by omega)] at this e2
      omega
  · intro h
    unfold rtB at h
    rw [Bool.and_eq_true] at h
    have hr : ∀ m, m < n → rgAt l gl m = true := by simpa [allRg] using h.2
    have all : ∀ m, m ≤ n → cmF l (cm1 gl v t) m = cm0 gl := by
      intro m
      induction m with
      | zero => intro _; exact c1.2 (leZ_t h.1)
      | succ m ih =>
        intro hm
        have h1 := ih (by omega)
        rw [cmF_same (by rw [st m (by omega) h1]; exact hr m (by omega)), h1]
    simpa [eqL] using all n (Nat.le_refl n)
end Go.Vm
