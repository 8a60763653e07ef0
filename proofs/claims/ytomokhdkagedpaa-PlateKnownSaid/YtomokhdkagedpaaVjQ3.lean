/- The document's table of costs: its loops. -/
import Derived.Test.YtomokhdkagedpaaVjQ2
set_option linter.unusedVariables false
namespace Go.Vm
set_option maxRecDepth 100000
set_option maxHeartbeats 4000000
/-! lists -/
theorem gset {l : List Int} {i j : Nat} {x : Int} (h : i < l.length) : (l.set i x).getD j 0 = if j = i then x else l.getD j 0 := by
  rw [List.getD_eq_getElem?_getD, List.getD_eq_getElem?_getD, List.getElem?_set]
  by_cases e : i = j
  · subst e; simp [h]
  · rw [if_neg e, if_neg (fun e2 => e e2.symm)]
theorem ext_getD {l l' : List Int} (h1 : l.length = l'.length) (h : ∀ j, j < l.length → l.getD j 0 = l'.getD j 0) : l = l' := by
  apply List.ext_getElem h1
  intro i hi hi2
  have := h i hi
  rwa [List.getD_eq_getElem?_getD, List.getD_eq_getElem?_getD, List.getElem?_eq_getElem hi, List.getElem?_eq_getElem hi2] at this
theorem rmap_len {f : Nat → Int} {n : Nat} : ((List.range n).map f).length = n := by simp
theorem rmap_get {f : Nat → Int} {n j : Nat} (h : j < n) : ((List.range n).map f).getD j 0 = f j := by
  rw [List.getD_eq_getElem?_getD, List.getElem?_map, List.getElem?_range h]
  rfl
/-- a table of 36 times 36 costs -/
structure Gd (l : List Int) : Prop where
  len : l.length = 1296
  rg : ∀ j, j < 1296 → 0 ≤ l.getD j 0 ∧ l.getD j 0 ≤ 2000
  dg : ∀ x, x < 36 → l.getD (36 * x + x) 0 = 0
theorem i0_len {k : Int} : (i0 k).length = 1296 := rmap_len
theorem i0_get {k : Int} {j : Nat} (h : j < 1296) : (i0 k).getD j 0 = if j / 36 = j % 36 then 0 else 2 * k := rmap_get h
theorem i0_gd {k : Int} (h : 0 ≤ k ∧ k ≤ 1000) : Gd (i0 k) := by
  refine ⟨i0_len, fun j hj => ?_, fun x hx => ?_⟩
  · rw [i0_get hj]; split <;> omega
  · rw [i0_get (by omega), if_pos (by omega)]
theorem mnZ_le {a b : Int} : mnZ a b ≤ a := by unfold mnZ; split <;> omega
theorem mnZ_nn {a b : Int} (ha : 0 ≤ a) (hb : 0 ≤ b) : 0 ≤ mnZ a b := by unfold mnZ; split <;> omega
theorem mnZ_zero {b : Int} (hb : 0 ≤ b) : mnZ 0 b = 0 := by unfold mnZ; split <;> omega
theorem mnZ_self {a b : Int} (h : a ≤ b) : mnZ a b = a := by unfold mnZ; rw [if_neg (by omega)]
theorem lower_gd {l : List Int} {p : Nat} {c : Int} (h : Gd l) (hp : p < 1296) (hc : 0 ≤ c) : Gd (lower l p c) := by
  have hpl : p < l.length := by rw [h.len]; exact hp
  refine ⟨by unfold lower; rw [List.length_set, h.len], fun j hj => ?_, fun x hx => ?_⟩
  · unfold lower
    rw [gset hpl]
    split
    · have := h.rg p hp
      exact ⟨mnZ_nn this.1 hc, Int.le_trans mnZ_le this.2⟩
    · exact h.rg j hj
  · unfold lower
    rw [gset hpl]
    split
    · rename_i e
      rw [← e, h.dg x hx, mnZ_zero hc]
    · exact h.dg x hx
/-- letters that look alike, as in a valid book -/
def AlOK (A : List Al) : Prop := ∀ i, i < A.length → (0 ≤ (A.getD i alZ).1 ∧ (A.getD i alZ).1 < 256) ∧ (0 ≤ (A.getD i alZ).2.1 ∧ (A.getD i alZ).2.1 < 256) ∧ 0 ≤ ixF (A.getD i alZ).1 ∧ 0 ≤ ixF (A.getD i alZ).2.1 ∧ 0 ≤ (A.getD i alZ).2.2 ∧ (A.getD i alZ).2.2 ≤ 1000
theorem ix_nat {c : Int} (h : 0 ≤ ixF c) : ((ixF c).toNat : Int) = ixF c ∧ (ixF c).toNat < 36 := by
  have := ixF_lt c
  omega
theorem prF_gd {A : List Al} {l : List Int} (hA : AlOK A) (h : Gd l) : ∀ i, i ≤ A.length → Gd (prF A l i)
  | 0, _ => h
  | i + 1, hi => by
    obtain ⟨_, _, h3, h4, h5, _⟩ := hA i (by omega)
    have := ix_nat h3
    have := ix_nat h4
    exact lower_gd (lower_gd (prF_gd hA h i (by omega)) (by omega) h5) (by omega) h5
theorem fwE_rg {c : List Int} {m j : Nat} (h : Gd c) (hm : m < 36) (hj : j < 1296) : 0 ≤ fwE c m j ∧ fwE c m j ≤ 2000 := by
  have h1 := h.rg j hj
  have h2 := h.rg (36 * (j / 36) + m) (by omega)
  have h3 := h.rg (36 * m + j % 36) (by omega)
  exact ⟨mnZ_nn h1.1 (by omega), Int.le_trans mnZ_le h1.2⟩
theorem fwE_row {c : List Int} {m k : Nat} (h : Gd c) (hm : m < 36) (hk : k < 36) : fwE c m (36 * m + k) = c.getD (36 * m + k) 0 := by
  unfold fwE
  rw [show (36 * m + k) / 36 = m by omega, show (36 * m + k) % 36 = k by omega, h.dg m hm]
  exact mnZ_self (by omega)
theorem fwE_col {c : List Int} {m i : Nat} (h : Gd c) (hm : m < 36) (hi : i < 36) : fwE c m (36 * i + m) = c.getD (36 * i + m) 0 := by
  unfold fwE
  rw [show (36 * i + m) / 36 = i by omega, show (36 * i + m) % 36 = m by omega, h.dg m hm]
  exact mnZ_self (by omega)
theorem fwS_gd {c : List Int} {m : Nat} (h : Gd c) (hm : m < 36) : Gd (fwS c m) := by
  refine ⟨rmap_len, fun j hj => ?_, fun x hx => ?_⟩
  · unfold fwS; rw [rmap_get hj]; exact fwE_rg h hm hj
  · unfold fwS
    rw [rmap_get (by omega)]
    unfold fwE
    rw [h.dg x hx]
    refine mnZ_zero ?_
    have h2 := h.rg (36 * ((36 * x + x) / 36) + m) (by omega)
    have h3 := h.rg (36 * m + (36 * x + x) % 36) (by omega)
    omega
theorem fwM_gd {c : List Int} (h : Gd c) : ∀ m, m ≤ 36 → Gd (fwM c m)
  | 0, _ => h
  | m + 1, hm => fwS_gd (fwM_gd h m (by omega)) (by omega)
theorem fwP_zero {c : List Int} {m : Nat} (h : c.length = 1296) : fwP c m 0 c := ⟨h, fun j _ => by rw [if_neg (by omega)]⟩
theorem fwP_all {c l : List Int} {m t : Nat} (h : fwP c m t l) (ht : 1296 ≤ t) : l = fwS c m := by
  refine ext_getD (by rw [h.1]; exact rmap_len.symm) fun j hj => ?_
  have hj : j < 1296 := by rw [h.1] at hj; exact hj
  rw [h.2 j hj, if_pos (by omega)]
  exact (rmap_get hj).symm
theorem fwP_get {c l : List Int} {m i k : Nat} (hc : Gd c) (h : fwP c m (36 * i + k) l) (hm : m < 36) (hi : i < 36) (hk : k < 36) :
    l.getD (36 * i + k) 0 = c.getD (36 * i + k) 0 ∧ l.getD (36 * i + m) 0 = c.getD (36 * i + m) 0 ∧ l.getD (36 * m + k) 0 = c.getD (36 * m + k) 0 := by
  refine ⟨by rw [h.2 _ (by omega), if_neg (by omega)], ?_, ?_⟩
  · rw [h.2 _ (by omega)]; split
    · exact fwE_col hc hm hi
    · rfl
  · rw [h.2 _ (by omega)]; split
    · exact fwE_row hc hm hk
    · rfl
theorem fwP_next {c l : List Int} {m i k : Nat} (h : fwP c m (36 * i + k) l) (hi : i < 36) (hk : k < 36) :
    fwP c m (36 * i + (k + 1)) (l.set (36 * i + k) (mnZ (c.getD (36 * i + k) 0) (c.getD (36 * i + m) 0 + c.getD (36 * m + k) 0))) := by
  refine ⟨by rw [List.length_set]; exact h.1, fun j hj => ?_⟩
  rw [gset (by rw [h.1]; omega)]
  split
  · rename_i e
    subst e
    rw [if_pos (by omega)]
    unfold fwE
    rw [show (36 * i + k) / 36 = i by omega, show (36 * i + k) % 36 = k by omega]
  · rename_i e
    rw [h.2 j hj]
    by_cases h1 : j < 36 * i + k
    · rw [if_pos h1, if_pos (by omega)]
    · rw [if_neg h1, if_neg (by omega)]
theorem skP_next {k : Int} {i : Nat} {l : List Int} (h : skP k i l) (hi : i < 1296) : skP k (i + 1) (l.set i (2 * k)) := by
  refine ⟨by rw [List.length_set]; exact h.1, fun j hj => ?_⟩
  rw [gset (by rw [h.1]; omega)]
  split
  · rw [if_pos (by omega)]
  · rw [h.2 j hj]
    by_cases h1 : j < i
    · rw [if_pos h1, if_pos (by omega)]
    · rw [if_neg h1, if_neg (by omega)]
theorem skP_zero {k : Int} : skP k 0 lzs := ⟨by simp [lzs], fun j hj => by
  rw [if_neg (by omega), List.getD_eq_getElem?_getD]
  unfold lzs
  rw [List.getElem?_replicate]
  split <;> rfl⟩
theorem dgP_zero {k : Int} {l : List Int} (h : skP k 1296 l) : dgP k 0 l := ⟨h.1, fun j hj => by rw [h.2 j hj, if_pos hj, if_neg (by omega)]⟩
theorem dgP_next {k : Int} {i : Nat} {l : List Int} (h : dgP k i l) (hi : i < 36) : dgP k (i + 1) (l.set (36 * i + i) 0) := by
  refine ⟨by rw [List.length_set]; exact h.1, fun j hj => ?_⟩
  rw [gset (by rw [h.1]; omega)]
  split
  · rw [if_pos (by omega)]
  · rw [h.2 j hj]
    by_cases h1 : j / 36 = j % 36 ∧ j / 36 < i
    · rw [if_pos h1, if_pos (by omega)]
    · rw [if_neg h1, if_neg (by omega)]
theorem dgP_all {k : Int} {l : List Int} (h : dgP k 36 l) : l = i0 k := by
  refine ext_getD (by rw [h.1, i0_len]) fun j hj => ?_
  have hj : j < 1296 := by rw [h.1] at hj; exact hj
  rw [h.2 j hj, i0_get hj]
  by_cases h1 : j / 36 = j % 36
  · rw [if_pos (by omega), if_pos h1]
  · rw [if_neg (by omega), if_neg h1]

/-! what the loops need -/
theorem clean_nil {n : Nat} : Clean n [] := fun b o h => by cases h
theorem clean_cons {n b : Nat} {o : Obj} {r : List (Nat × Obj)} (hb : b < n) (ho : CleanO n o) (hr : Clean n r) : Clean n ((b, o) :: r) := fun x p h => by
  simp only [find] at h
  split at h
  · rename_i hx
    have := Nat.eq_of_beq_eq_true hx
    subst this
    cases h
    exact ⟨hb, ho⟩
  · exact hr x p h
theorem clean_cells {n : Nat} {c : List Value} {e : TypeId} {fz : Nat × Nat} (h : ∀ v, v ∈ c → scrubV n v = v) : CleanO n (.cells ⟨c⟩ e fz) := fun i v hi => h v (List.mem_of_getElem? (by simpa using hi))
theorem scrub_int {n : Nat} {k : IntKind} {x : Int} : scrubV n (.int k x) = .int k x := by simp [scrubV]
theorem clean_bk {n : Nat} {k : Int} {s : Value} {e : TypeId} {fz : Nat × Nat} (h : scrubV n s = s) : CleanO n (.cells #[s, .int .i64 k] e fz) := clean_cells (c := [s, .int .i64 k]) fun v hv => by
  simp only [List.mem_cons, List.not_mem_nil, or_false] at hv
  rcases hv with rfl | rfl
  · exact h
  · exact scrub_int
theorem scrub_al {n : Nat} : ∀ (A : List Al) (v : Value), v ∈ alC A → scrubV n v = v
  | [], v, h => by cases h
  | (a, b, c) :: r, v, h => by
    simp only [alC, List.mem_cons] at h
    rcases h with rfl | rfl | rfl | h
    · exact scrub_int
    · exact scrub_int
    · exact scrub_int
    · exact scrub_al r v h
theorem clean_al {n : Nat} {A : List Al} {e : TypeId} {fz : Nat × Nat} : CleanO n (.cells ⟨alC A⟩ e fz) := clean_cells (scrub_al A)
theorem clean3 {n : Nat} (hn : 3 ≤ n) {l : List Int} {s : Value} {k : Int} {A : List Al} {cap m : Nat} (hs : SLh 0 m cap s) : Clean n [(2, .cells ⟨ints l⟩ 2 (0, 0)), (1, .cells #[s, .int .i64 k] 24 (0, 0)), (0, .cells ⟨alC A⟩ 78 (0, 1))] :=
  clean_cons (by omega) clean_ro (clean_cons (by omega) (clean_bk (hs.scrub (by omega))) (clean_cons (by omega) clean_al clean_nil))
theorem su48 : TP.underlying 48 = some (.slice 2) := by kernel_rfl
theorem su22 : TP.underlying 22 = some (.slice 78) := by kernel_rfl
theorem si78 : (TP.info? 78).map (·.size) = some 3 := by kernel_rfl
theorem ag5 : aggB TP 5 = some false := by kernel_rfl
theorem ix_out {i : Nat} (h : i < 1296) : OIx 48 (.slice (some ⟨2, 0, none⟩) 1296 1296) (.int .i64 (i : Int)) (.pointer (some ⟨2, i, none⟩)) := ob_ix su48 si2 h (by omega)
theorem ld_out {i : Nat} {l : List Int} {x : Int} {fz : Nat × Nat} (h : i < l.length) (hx : l.getD i 0 = x) : OLoad 2 (.pointer (some ⟨2, i, none⟩)) (some (.cells ⟨ints l⟩ 2 fz)) (.int .i64 x) := ob_loadI ag2 h hx
theorem mulN {t : TypeId} {x y : Operand} {a : Nat} (h : a < 1000) : OBin .mul t x y (.int .i64 36) (.int .i64 (a : Int)) (.int .i64 ((36 * a : Nat) : Int)) := ob_mul64 (by omega) (by omega) (by omega)
theorem addN {t : TypeId} {x y : Operand} {a b : Nat} (h : a + b < 100000) : OBin .add t x y (.int .i64 (a : Int)) (.int .i64 (b : Int)) (.int .i64 ((a + b : Nat) : Int)) := ob_add64 (by omega) (by omega) (by omega)
theorem inc1 {t : TypeId} {x y : Operand} {a : Nat} (h : a < 100000) : OBin .add t x y (.int .i64 (a : Int)) (.int .i64 1) (.int .i64 ((a + 1 : Nat) : Int)) := ob_add64 (by omega) (by omega) (by omega)
section
variable {sk : Int} {n cap : Nat} {s : Value} {A : List Al}
theorem a1_loop (hk : 0 ≤ sk ∧ sk ≤ 1000) (hs : SLh 0 n cap s) : ∀ (M : Nat) (b : JC), (a1Inv sk n s A).P b → (a1Inv sk n s A).μ b + 60 < M →
    LoopRT memoI [0, 1, 2] 1 M none (.loop (bodyLp 33 0)) (a1Ts sk n s A b) [] (a1V sk n s A b 3) [a1Out sk n s A] := by
  refine loop_ruleT memoI_code (a1Inv sk n s A) _ (N0 := 60) (n := 3) (w := 1000) (by kernel_rfl) (by kernel_rfl) (fun b _ => ⟨rfl, clean3 (by omega) hs⟩) ?_
  intro M b ⟨hb1, hb2⟩
  have hsc := hs.scrub (k := 3) (by omega)
  refine ⟨_, (a1_body sk n s A M b).mpr ⟨fun h => ?_, fun h => ?_⟩⟩
  · have hlt : b.i < 1296 := by have := ltZ_t h; omega
    refine ⟨ob_mul64 (by omega) (by omega) rfl, ix_out hlt, st_int rfl (by rw [hb2.1]; exact hlt), inc1 (by omega), ?_⟩
    rw [hsc]
    exact .againL (fun ts => ⟨b.i + 1, b.l.set b.i (2 * sk), lget ts⟩) ⟨hlt, skP_next hb2 hlt⟩ (show 1296 - (b.i + 1) < 1296 - b.i by omega) rfl rfl rfl
  · have hlt : b.i = 1296 := by have := ltZ_f h; have : b.i ≤ 1296 := hb1; omega
    exact .outL (by simp) (a1Out sk n s A) (by simp) (fun ts => ⟨b.i, b.l, lget ts⟩) (show skP sk 1296 b.l by rw [← hlt]; exact hb2) rfl rfl rfl rfl
theorem a2_loop (hs : SLh 0 n cap s) : ∀ (M : Nat) (b : JC), (a2Inv sk n s A).P b → (a2Inv sk n s A).μ b + 60 < M →
    LoopRT memoI [0, 1, 2] 1 M none (.loop (bodyLp 33 1)) (a2Ts sk n s A b) [] (a2V sk n s A b 1003) [a2Out sk n s A] := by
  refine loop_ruleT memoI_code (a2Inv sk n s A) _ (N0 := 60) (n := 1003) (w := 1000) (by kernel_rfl) (by kernel_rfl) (fun b _ => ⟨rfl, clean3 (by omega) hs⟩) ?_
  intro M b ⟨hb1, hb2⟩
  have hsc := hs.scrub (k := 1003) (by omega)
  refine ⟨_, (a2_body sk n s A M b).mpr ⟨fun h => ?_, fun h => ?_⟩⟩
  · have hlt : b.i < 36 := by have := ltZ_t h; omega
    refine ⟨mulN (by omega), addN (by omega), ix_out (by omega), st_int rfl (by rw [hb2.1]; omega), inc1 (by omega), ?_⟩
    rw [hsc]
    exact .againL (fun ts => ⟨b.i + 1, b.l.set (36 * b.i + b.i) 0, lget ts⟩) ⟨hlt, dgP_next hb2 hlt⟩ (show 36 - (b.i + 1) < 36 - b.i by omega) rfl rfl rfl
  · have hlt : b.i = 36 := by have := ltZ_f h; have : b.i ≤ 36 := hb1; omega
    exact .outL (by simp) (a2Out sk n s A) (by simp) (fun ts => ⟨b.i, b.l, lget ts⟩) (show b.l = i0 sk by rw [hlt] at hb2; exact dgP_all hb2) rfl rfl rfl rfl
theorem a3_loop (hk : 0 ≤ sk ∧ sk ≤ 1000) (hs : SLh 0 n cap s) (hn : A.length = n) (hA : AlOK A) (hn2 : n ≤ 1000) : ∀ (M : Nat) (b : JC), (a3Inv sk n s A).P b → (a3Inv sk n s A).μ b + 60 < M →
    LoopRT memoI [0, 1, 2] 1 M none (.loop (bodyLp 33 2)) (a3Ts sk n s A b) [] (a3V sk n s A b 2003) [a3Out sk n s A] := by
  refine loop_ruleT memoI_code (a3Inv sk n s A) _ (N0 := 60) (n := 2003) (w := 1000) (by kernel_rfl) (by kernel_rfl) (fun b _ => ⟨rfl, clean3 (by omega) hs⟩) ?_
  intro M b ⟨hb1, hb2⟩
  have hsc := hs.scrub (k := 2003) (by omega)
  by_cases hi : b.i < n
  · obtain ⟨h1, h2, h3, h4, h5, h6⟩ := hA b.i (by omega)
    obtain ⟨e1, e2, e3⟩ := alC_get A b.i (by omega)
    have x1 := ix_nat h3
    have x2 := ix_nat h4
    have hg : Gd b.l := by rw [hb2]; exact prF_gd hA (i0_gd hk) b.i (by omega)
    have hl := hg.len
    revert h1 h2 h3 h4 h5 h6 e1 e2 e3 x1 x2
    generalize ha : A.getD b.i alZ = a
    obtain ⟨p, q, c⟩ := a
    intro h1 h2 h3 h4 h5 h6 e1 e2 e3 x1 x2
    dsimp only at h1 h2 h3 h4 h5 h6 e1 e2 e3 x1 x2
    refine ⟨_, (a3_body sk n s A p q c (b.l.getD (36 * (ixF p).toNat + (ixF q).toNat) 0) (mnZ (b.l.getD (36 * (ixF p).toNat + (ixF q).toNat) 0) c)
      ((b.l.set (36 * (ixF p).toNat + (ixF q).toNat) (mnZ (b.l.getD (36 * (ixF p).toNat + (ixF q).toNat) 0) c)).getD (36 * (ixF q).toNat + (ixF p).toNat) 0)
      (mnZ ((b.l.set (36 * (ixF p).toNat + (ixF q).toNat) (mnZ (b.l.getD (36 * (ixF p).toNat + (ixF q).toNat) 0) c)).getD (36 * (ixF q).toNat + (ixF p).toNat) 0) c) (ixF p).toNat (ixF q).toNat M b).mpr ⟨ob_len rfl su22 hs, fun h => ?_, fun h => ?_⟩⟩
    · have ix := ob_ixS hs su22 si78 hi (off := 3 * b.i) (by omega)
      have px : 36 * (ixF p).toNat + (ixF q).toNat < 1296 := by omega
      have py : 36 * (ixF q).toNat + (ixF p).toNat < 1296 := by omega
      refine ⟨ix, ob_load ag5 e1, oc_ix h1 x1.1.symm _, ix, ob_load ag5 e2, oc_ix h2 x2.1.symm _, ix, ob_load ag2 e3, mulN (by omega), addN (by omega), mulN (by omega), addN (by omega), ix_out px, ld_out (by omega) rfl, ob_min rfl, ix_out px,
        st_int rfl (by omega), mulN (by omega), addN (by omega), mulN (by omega), addN (by omega), ix_out py, ld_out (by rw [List.length_set]; omega) rfl, ob_min rfl, ix_out py, st_int rfl (by rw [List.length_set]; omega), inc1 (by omega), ?_⟩
      rw [hsc]
      refine .againL (fun ts => ⟨b.i + 1, _, lget ts⟩) ⟨hi, ?_⟩ (show n - (b.i + 1) < n - b.i by omega) rfl rfl rfl
      show _ = prF A (i0 sk) (b.i + 1)
      simp only [prF, ha, lower]
      rw [← hb2]
    · have := ltZ_f h; omega
  · have hlt : b.i = n := by have : b.i ≤ n := hb1; omega
    refine ⟨_, (a3_body sk n s A 0 0 0 0 0 0 0 0 0 M b).mpr ⟨ob_len rfl su22 hs, fun h => ?_, fun h => ?_⟩⟩
    · have := ltZ_t h; omega
    · exact .outL (by simp) (a3Out sk n s A) (by simp) (fun ts => ⟨b.i, b.l, lget ts⟩) (show b.l = prF A (i0 sk) n by rw [← hlt]; exact hb2) rfl rfl rfl rfl
theorem ak_loop (hs : SLh 0 n cap s) {m i : Nat} {c0 : List Int} (hc : Gd c0) (hm : m < 36) (hi : i < 36) : ∀ (M : Nat) (b : JC), (akInv sk n s A m i c0).P b → (akInv sk n s A m i c0).μ b + 60 < M →
    LoopRT memoI [0, 1, 2] 1 M none (.loop (bodyLp 33 5)) (akTs sk n s A m i c0 b) [] (akV sk n s A m i c0 b 3003) [akOut sk n s A m i c0] := by
  refine loop_ruleT memoI_code (akInv sk n s A m i c0) _ (N0 := 60) (n := 3003) (w := 1000) (by kernel_rfl) (by kernel_rfl) (fun b _ => ⟨rfl, clean3 (by omega) hs⟩) ?_
  intro M b ⟨hb1, hb2⟩
  have hsc := hs.scrub (k := 3003) (by omega)
  refine ⟨_, (ak_body sk n s A m i c0 (c0.getD (36 * i + b.i) 0) (c0.getD (36 * i + m) 0) (c0.getD (36 * m + b.i) 0) (mnZ (c0.getD (36 * i + b.i) 0) (c0.getD (36 * i + m) 0 + c0.getD (36 * m + b.i) 0)) M b).mpr ⟨fun h => ?_, fun h => ?_⟩⟩
  · have hlt : b.i < 36 := by have := ltZ_t h; omega
    obtain ⟨g1, g2, g3⟩ := fwP_get hc hb2 hm hi hlt
    have hl := hb2.1
    have r2 := hc.rg (36 * i + m) (by omega)
    have r3 := hc.rg (36 * m + b.i) (by omega)
    refine ⟨mulN (by omega), addN (by omega), mulN (by omega), addN (by omega), ix_out (by omega), ld_out (by omega) g1, mulN (by omega), addN (by omega), ix_out (by omega), ld_out (by omega) g2, mulN (by omega), addN (by omega), ix_out (by omega), ld_out (by omega) g3,
      ob_add64 (by omega) (by omega) rfl, ob_min rfl, ix_out (by omega), st_int rfl (by omega), inc1 (by omega), ?_⟩
    rw [hsc]
    exact .againL (fun ts => ⟨b.i + 1, _, lget ts⟩) ⟨hlt, fwP_next hb2 hi hlt⟩ (show 36 - (b.i + 1) < 36 - b.i by omega) rfl rfl rfl
  · have hlt : b.i = 36 := by have := ltZ_f h; have : b.i ≤ 36 := hb1; omega
    exact .outL (by simp) (akOut sk n s A m i c0) (by simp) (fun ts => ⟨b.i, b.l, lget ts⟩) (show fwP c0 m (36 * i + 36) b.l by rw [hlt] at hb2; exact hb2) rfl rfl rfl rfl
theorem lp334 : loopOf 33 4 = .loop (bodyLp 33 4) := by kernel_rfl
theorem lp335 : loopOf 33 5 = .loop (bodyLp 33 5) := by kernel_rfl
theorem ai_loop (hs : SLh 0 n cap s) {m : Nat} {c0 : List Int} (hc : Gd c0) (hm : m < 36) : ∀ (M : Nat) (b : JC), (aiInv sk n s A m c0).P b → (aiInv sk n s A m c0).μ b + 200 < M →
    LoopRT memoI [0, 1, 2] 1 M none (.loop (bodyLp 33 4)) (aiTs sk n s A m c0 b) [] (aiV sk n s A m c0 b 3003) [aiOut sk n s A m c0] := by
  refine loop_ruleT memoI_code (aiInv sk n s A m c0) _ (N0 := 200) (n := 3003) (w := 1000000) (by kernel_rfl) (by kernel_rfl) (fun b _ => ⟨rfl, clean3 (by omega) hs⟩) ?_
  intro M b ⟨hb1, hb2⟩
  have hsc := hs.scrub (k := 3003) (by omega)
  have key := ai_body sk n s A m c0 (M + 140) b
  rw [show M + 140 + 60 = M + 200 by omega] at key
  refine ⟨_, key.mpr ⟨fun h => ?_, fun h => ?_⟩⟩
  · have hlt : b.i < 36 := by have := ltZ_t h; omega
    refine ⟨?_, fun z hz => ⟨inc1 (by omega), ?_⟩, trivial⟩
    · rw [lp335]
      exact ak_loop hs hc hm hlt _ ⟨0, b.l, lget (aiTs sk n s A m c0 b)⟩ ⟨by simp, hb2⟩ (show 36 - 0 + 60 < _ by omega)
    · rw [hsc]
      exact .againL (fun ts => ⟨b.i + 1, z.l, lget ts⟩) ⟨hlt, by have hz : fwP c0 m (36 * b.i + 36) z.l := hz; rw [show 36 * (b.i + 1) = 36 * b.i + 36 by omega]; exact hz⟩ (show 36 - (b.i + 1) < 36 - b.i by omega) rfl rfl rfl
  · have hlt : b.i = 36 := by have := ltZ_f h; have : b.i ≤ 36 := hb1; omega
    exact .outL (by simp) (aiOut sk n s A m c0) (by simp) (fun ts => ⟨b.i, b.l, lget ts⟩) (show b.l = fwS c0 m by rw [hlt] at hb2; exact fwP_all hb2 (by omega)) rfl rfl rfl rfl
theorem am_loop (hk : 0 ≤ sk ∧ sk ≤ 1000) (hs : SLh 0 n cap s) (hn : A.length = n) (hA : AlOK A) : ∀ (M : Nat) (b : JC), (amInv sk n s A).P b → (amInv sk n s A).μ b + 400 < M →
    LoopRT memoI [0, 1, 2] 1 M none (.loop (bodyLp 33 3)) (amTs sk n s A b) [] (amV sk n s A b 3003) [amOut sk n s A] := by
  refine loop_ruleT memoI_code (amInv sk n s A) _ (N0 := 400) (n := 3003) (w := 1000000000) (by kernel_rfl) (by kernel_rfl) (fun b _ => ⟨rfl, clean3 (by omega) hs⟩) ?_
  intro M b ⟨hb1, hb2⟩
  have hsc := hs.scrub (k := 3003) (by omega)
  have key := am_body sk n s A (M + 340) b
  rw [show M + 340 + 60 = M + 400 by omega] at key
  refine ⟨_, key.mpr ⟨fun h => ?_, fun h => ?_⟩⟩
  · have hlt : b.i < 36 := by have := ltZ_t h; omega
    have hg : Gd b.l := by rw [hb2]; exact fwM_gd (prF_gd hA (i0_gd hk) n (by omega)) b.i (by omega)
    refine ⟨?_, fun z hz => ⟨inc1 (by omega), ?_⟩, trivial⟩
    · rw [lp334]
      exact ai_loop hs hg hlt _ ⟨0, b.l, lget (amTs sk n s A b)⟩ ⟨by simp, fwP_zero hg.len⟩ (show 36 - 0 + 200 < _ by omega)
    · rw [hsc]
      refine .againL (fun ts => ⟨b.i + 1, z.l, lget ts⟩) ⟨hlt, ?_⟩ (show 36 - (b.i + 1) < 36 - b.i by omega) rfl rfl rfl
      have hz : z.l = fwS b.l b.i := hz
      show z.l = fwM (prF A (i0 sk) n) (b.i + 1)
      rw [hz, hb2]
      rfl
  · have hlt : b.i = 36 := by have := ltZ_f h; have : b.i ≤ 36 := hb1; omega
    exact .outL (by simp) (amOut sk n s A) (by simp) (fun ts => ⟨b.i, b.l, lget ts⟩) (show b.l = fwM (prF A (i0 sk) n) 36 by rw [hlt] at hb2; exact hb2) rfl rfl rfl rfl
end
end Go.Vm
