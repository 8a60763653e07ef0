/- What one letter costs for each one: the contract of the program's search. -/
import Derived.Test.YtomokhdkagedpaaVjQ9
import Derived.Test.YtomokhdkagedpaaVjQ5
set_option linter.unusedVariables false
namespace Go.Vm
set_option maxRecDepth 100000
set_option maxHeartbeats 4000000
theorem scrub_ints {n : Nat} (l : List Int) : scrubV n (.agg ⟨ints l⟩) = .agg ⟨ints l⟩ := by
  have : ∀ l : List Int, scrubL n (ints l) = ints l := by
    intro l
    induction l with
    | nil => rfl
    | cons x l ih => show scrubV n (.int .i64 x) :: scrubL n (ints l) = _; rw [scrub_int, ih]; rfl
  simp [scrubV, scrubA, this]
theorem clean4 {n : Nat} (hn : 4 ≤ n) {l l' : List Int} {s : Value} {k : Int} {A : List Al} {cap m : Nat} (hs : SLh 0 m cap s) : Clean n [(3, .cells ⟨ints l⟩ 64 (0, 0)), (2, .cells ⟨ints l'⟩ 64 (0, 0)), (1, .cells #[s, .int .i64 k] 24 (0, 0)), (0, .cells ⟨alC A⟩ 78 (0, 1))] :=
  clean_cons (by omega) clean_ro (clean_cons (by omega) clean_ro (clean_cons (by omega) (clean_bk (hs.scrub (by omega))) (clean_cons (by omega) clean_al clean_nil)))
theorem ix3 {i : Nat} (h : i < 36) : OIx 64 (.pointer (some ⟨3, 0, none⟩)) (.int .i64 (i : Int)) (.pointer (some ⟨3, i, none⟩)) := by
  have := ix64 (b := 3) (o := 0) (a := (i : Int)) (by omega) (by omega)
  simpa using this
theorem ld3 {b : Nat} {l : List Int} {e : TypeId} {fz : Nat × Nat} (h : l.length = 36) : OLoad 64 (.pointer (some ⟨b, 0, none⟩)) (some (.cells ⟨ints l⟩ e fz)) (.agg ⟨ints l⟩) := ld_arr h ⟨[], by rw [List.drop_zero, List.append_nil]⟩
theorem ag78 : aggB TP 78 = some true := by kernel_rfl
theorem ld78 {A : List Al} {i : Nat} {e : TypeId} {fz : Nat × Nat} (h : i < A.length) : OLoad 78 (.pointer (some ⟨0, 3 * i, none⟩)) (some (.cells ⟨alC A⟩ e fz)) (.agg #[.int .u8 (A.getD i alZ).1, .int .u8 (A.getD i alZ).2.1, .int .i64 (A.getD i alZ).2.2]) := ⟨by
  obtain ⟨e1, e2, e3⟩ := alC_get A i h
  have h2 := si78
  simp only [loadO, fLoadA, ag78]
  cases hi : TP.info? 78 with
  | none => rw [hi] at h2; cases h2
  | some info =>
    rw [hi] at h2
    have hs : info.size = 3 := by simpa using h2
    have hd : (alC A).drop (3 * i) = .int .u8 (A.getD i alZ).1 :: .int .u8 (A.getD i alZ).2.1 :: .int .i64 (A.getD i alZ).2.2 :: (alC A).drop (3 * i + 1 + 1 + 1) := by
      obtain ⟨q1, r1⟩ := List.getElem?_eq_some_iff.1 e1
      obtain ⟨q2, r2⟩ := List.getElem?_eq_some_iff.1 e2
      obtain ⟨q3, r3⟩ := List.getElem?_eq_some_iff.1 e3
      rw [List.drop_eq_getElem_cons q1, r1, List.drop_eq_getElem_cons q2, r2, List.drop_eq_getElem_cons (show 3 * i + 1 + 1 < (alC A).length from q3)]
      congr 3
    simp only [hs, fLoadN]
    rw [hd]
    rfl⟩
theorem skQ_next {k : Int} {i : Nat} {l : List Int} (h : skQ k i l) (hi : i < 36) : skQ k (i + 1) (l.set i (2 * k)) := by
  refine ⟨by rw [List.length_set]; exact h.1, fun j hj => ?_⟩
  rw [gset (by rw [h.1]; omega)]
  split
  · rw [if_pos (by omega)]
  · rw [h.2 j hj]
    by_cases h1 : j < i
    · rw [if_pos h1, if_pos (by omega)]
    · rw [if_neg h1, if_neg (by omega)]
theorem skQ_zero {k : Int} : skQ k 0 lz36 := ⟨by simp [lz36], fun j hj => by
  rw [if_neg (by omega), List.getD_eq_getElem?_getD]
  unfold lz36
  rw [List.getElem?_replicate]
  split <;> rfl⟩
section
variable {sk : Int} {n num cap : Nat} {s : Value} {A : List Al}
theorem b1_loop (hk : 0 ≤ sk ∧ sk ≤ 1000) (hs : SLh 0 n cap s) : ∀ (M : Nat) (b : JC), (b1Inv sk n num s A).P b → (b1Inv sk n num s A).μ b + 60 < M →
    LoopRT memoI [0, 1, 2, 3, 1004] 1 M none (.loop (bodyLp 30 0)) (b1Ts sk n num s A b) [] (b1V sk n num s A b 4) [b1Out sk n num s A] := by
  refine loop_ruleT memoI_code (b1Inv sk n num s A) _ (N0 := 60) (n := 4) (w := 1000) (by kernel_rfl) (by kernel_rfl) (fun b _ => ⟨rfl, clean4 (by omega) hs⟩) ?_
  intro M b ⟨hb1, hb2⟩
  have hsc := hs.scrub (k := 4) (by omega)
  refine ⟨_, (b1_body sk n num s A M b).mpr ⟨fun h => ?_, fun h => ?_⟩⟩
  · have hlt : b.i < 36 := by have := ltZ_t h; omega
    refine ⟨ob_mul64 (by omega) (by omega) rfl, ix3 hlt, st_int rfl (by rw [hb2.1]; exact hlt), inc1 (by omega), ?_⟩
    rw [hsc]
    exact .againL (fun ts => ⟨b.i + 1, b.l.set b.i (2 * sk), lget ts⟩) ⟨hlt, skQ_next hb2 hlt⟩ (show 36 - (b.i + 1) < 36 - b.i by omega) rfl rfl rfl
  · have hlt : b.i = 36 := by have := ltZ_f h; have : b.i ≤ 36 := hb1; omega
    refine .outL (by simp) (b1Out sk n num s A) (by simp) (fun ts => ⟨b.i, b.l, lget ts⟩) ?_ rfl rfl rfl rfl
    show b.l = lk36 sk
    have hl : (lk36 sk).length = 36 := by simp [lk36]
    refine ext_getD (by rw [hb2.1, hl]) fun j hj => ?_
    have hj : j < 36 := by rw [hb2.1] at hj; exact hj
    rw [hb2.2 j hj, if_pos (by omega)]
    unfold lk36
    rw [List.getD_eq_getElem?_getD, List.getElem?_replicate, if_pos hj]
    rfl
theorem b3_loop (hk : 0 ≤ sk ∧ sk ≤ 1000) (hs : SLh 0 n cap s) (hn : A.length = n) (hA : AlOK A) (hn2 : n ≤ 1000) (hnum : num < 36) {l0 : List Int} (h0 : Rw sk A num l0) : ∀ (M : Nat) (b : JC), (b3Inv sk n num s A l0).P b → (b3Inv sk n num s A l0).μ b + 60 < M →
    LoopRT memoI [0, 1, 2, 3, 1004] 1 M none (.loop (bodyLp 30 2)) (b3Ts sk n num s A l0 b) [] (b3V sk n num s A l0 b 1005) [b3Out sk n num s A l0] := by
  refine loop_ruleT memoI_code (b3Inv sk n num s A l0) _ (N0 := 60) (n := 1005) (w := 1000) (by kernel_rfl) (by kernel_rfl) (fun b _ => ⟨rfl, clean_cons (by omega) clean_ro (clean4 (l' := lz36) (by omega) hs)⟩) ?_
  intro M b ⟨hb1, hb2⟩
  have hsc := hs.scrub (k := 1005) (by omega)
  by_cases hi : b.i < n
  · obtain ⟨h1, h2, h3, h4, h5, h6⟩ := hA b.i (by omega)
    have l78 := fun e fz => ld78 (A := A) (i := b.i) (e := e) (fz := fz) (by omega)
    have x1 := ix_nat h3
    have x2 := ix_nat h4
    have hg : Rw sk A num b.l := by rw [hb2]; exact psF_rw hA hk hnum h0 b.i (by omega)
    have hgd := cost_gd hA hk
    have hrg : ∀ j, j < 36 → 0 ≤ b.l.getD j 0 ∧ b.l.getD j 0 ≤ 2000 := fun j hj => by
      have a := hg.rg j hj
      have b := hgd.rg (36 * num + j) (by omega)
      omega
    have hl := hg.len
    revert h1 h2 h3 h4 h5 h6 x1 x2 l78
    generalize ha : A.getD b.i alZ = a
    obtain ⟨p, q, c⟩ := a
    intro h1 h2 h3 h4 h5 h6 l78 x1 x2
    dsimp only at h1 h2 h3 h4 h5 h6 x1 x2 l78
    have hw1 : 0 ≤ mnZ (b.l.getD (ixF p).toNat 0) (b.l.getD (ixF q).toNat 0 + c) ∧ mnZ (b.l.getD (ixF p).toNat 0) (b.l.getD (ixF q).toNat 0 + c) ≤ 2000 := by
      have r1 := hrg (ixF p).toNat x1.2
      have r2 := hrg (ixF q).toNat x2.2
      exact ⟨mnZ_nn r1.1 (by omega), Int.le_trans mnZ_le r1.2⟩
    have hr4 : 0 ≤ (b.l.set (ixF p).toNat (mnZ (b.l.getD (ixF p).toNat 0) (b.l.getD (ixF q).toNat 0 + c))).getD (ixF p).toNat 0 ∧ (b.l.set (ixF p).toNat (mnZ (b.l.getD (ixF p).toNat 0) (b.l.getD (ixF q).toNat 0 + c))).getD (ixF p).toNat 0 ≤ 2000 := by
      rw [gset (by omega), if_pos rfl]; exact hw1
    have r2 := hrg (ixF q).toNat x2.2
    refine ⟨_, (b3_body sk n num s A l0 p q c (b.l.getD (ixF p).toNat 0) (mnZ (b.l.getD (ixF p).toNat 0) (b.l.getD (ixF q).toNat 0 + c)) (b.l.getD (ixF q).toNat 0)
      ((b.l.set (ixF p).toNat (mnZ (b.l.getD (ixF p).toNat 0) (b.l.getD (ixF q).toNat 0 + c))).getD (ixF q).toNat 0)
      ((b.l.set (ixF p).toNat (mnZ (b.l.getD (ixF p).toNat 0) (b.l.getD (ixF q).toNat 0 + c))).getD (ixF p).toNat 0)
      (mnZ ((b.l.set (ixF p).toNat (mnZ (b.l.getD (ixF p).toNat 0) (b.l.getD (ixF q).toNat 0 + c))).getD (ixF q).toNat 0) ((b.l.set (ixF p).toNat (mnZ (b.l.getD (ixF p).toNat 0) (b.l.getD (ixF q).toNat 0 + c))).getD (ixF p).toNat 0 + c)) (ixF p).toNat (ixF q).toNat M b).mpr ⟨fun h => ?_, fun h => ?_⟩⟩
    · have ix := ob_ixS hs su22 si78 hi (off := 3 * b.i) (by omega)
      have px := ix3 x1.2
      have py := ix3 x2.2
      have hls : (b.l.set (ixF p).toNat (mnZ (b.l.getD (ixF p).toNat 0) (b.l.getD (ixF q).toNat 0 + c))).length = 36 := by rw [List.length_set, hl]
      refine ⟨ix, l78 _ _, oc_nb h1 h3 x1.1.symm _, oc_nb h2 h4 x2.1.symm _, px, ob_loadI ag2 (by omega) rfl, py, ob_loadI ag2 (by omega) rfl, ob_add64 (by omega) (by omega) rfl, ob_min rfl, px, st_int rfl (by omega),
        py, ob_loadI (l := (b.l.set (ixF p).toNat (mnZ (b.l.getD (ixF p).toNat 0) (b.l.getD (ixF q).toNat 0 + c)))) ag2 (by rw [hls]; exact x2.2) rfl, px, ob_loadI (l := (b.l.set (ixF p).toNat (mnZ (b.l.getD (ixF p).toNat 0) (b.l.getD (ixF q).toNat 0 + c)))) ag2 (by rw [hls]; exact x1.2) rfl, ob_add64 (by omega) (by omega) rfl, ob_min rfl, py, st_int (l := (b.l.set (ixF p).toNat (mnZ (b.l.getD (ixF p).toNat 0) (b.l.getD (ixF q).toNat 0 + c)))) rfl (by rw [hls]; exact x2.2), inc1 (by omega), ?_⟩
      rw [hsc, scrub_ints]
      refine .againL (fun ts => ⟨b.i + 1, _, lget ts⟩) ⟨hi, ?_⟩ (show n - (b.i + 1) < n - b.i by omega) rfl rfl rfl
      show _ = psF A l0 (b.i + 1)
      simp only [psF, ha, lowB]
      rw [← hb2]
    · have := ltZ_f h; omega
  · have hlt : b.i = n := by have : b.i ≤ n := hb1; omega
    refine ⟨_, (b3_body sk n num s A l0 0 0 0 0 0 0 0 0 0 0 0 M b).mpr ⟨fun h => ?_, fun h => ?_⟩⟩
    · have := ltZ_t h; omega
    · exact .outL (by simp) (b3Out sk n num s A l0) (by simp) (fun ts => ⟨b.i, b.l, lget ts⟩) (show b.l = psF A l0 n by rw [← hlt]; exact hb2) rfl rfl rfl rfl
theorem lp302 : loopOf 30 2 = .loop (bodyLp 30 2) := by kernel_rfl
theorem b2_loop (hk : 0 ≤ sk ∧ sk ≤ 1000) (hs : SLh 0 n cap s) (hn : A.length = n) (hA : AlOK A) (hn2 : n ≤ 1000) (hnum : num < 36) : ∀ (M : Nat) (b : JC), (b2Inv sk n num s A).P b → (b2Inv sk n num s A).μ b + 1200 < M →
    LoopRT memoI [0, 1, 2, 3, 1004] 1 M none (.loop (bodyLp 30 1)) (b2Ts sk n num s A b) [] (b2V sk n num s A b 1004) [b2Ret sk n num s A] := by
  refine loop_ruleT memoI_code (b2Inv sk n num s A) _ (N0 := 1200) (n := 1004) (w := 1000000) (by kernel_rfl) (by kernel_rfl) (fun b _ => ⟨rfl, clean4 (l' := lz36) (by omega) hs⟩) ?_
  intro M b hb
  have hb : Rw sk A num b.l := hb
  have hsc := hs.scrub (k := 1004) (by omega)
  have key := b2_body sk n num s A (M + 1140) b
  rw [show M + 1140 + 60 = M + 1200 by omega] at key
  have hp := psF_rw hA hk hnum hb n (by omega)
  have hl := hb.len
  have hl2 := hp.len
  refine ⟨_, key.mpr ⟨ld3 hl, st_arr hl (by simp) rfl, ob_len rfl su22 hs, ?_, fun z hz => ?_, trivial⟩⟩
  · rw [lp302]
    exact b3_loop hk hs hn hA hn2 hnum hb _ ⟨0, b.l, lget (b3Ts sk n num s A b.l ⟨0, b.l, lget (b2Ts sk n num s A b)⟩)⟩ ⟨by simp, rfl⟩ (show n - 0 + 60 < _ by omega)
  · have hz : z.l = psF A b.l n := hz
    rw [hz]
    refine ⟨ld3 hl2, ld3 hl, eql64 _ _ _ _ hl2 hl, fun he => ⟨ld3 hl2, st_arr hl2 (by simp [ints_len, lz36]) rfl, ?_⟩, fun he => ?_⟩
    · have he : psF A b.l n = b.l := of_decide_eq_true he
      rw [he]
      refine .outL (by simp) (b2Ret sk n num s A) (by simp) (fun ts => ⟨b.i, b.l, lget ts⟩) ?_ rfl rfl rfl rfl
      show b.l = rowR sk A num
      rw [← hn] at he
      exact psF_fix hA hk hnum hb he
    · have he : ¬ psF A b.l n = b.l := of_decide_eq_false he
      rw [hsc, scrub_ints, scrub_ints]
      refine .againL (fun ts => ⟨b.i, psF A b.l n, lget ts⟩) hp ?_ rfl rfl rfl
      show sumN (psF A b.l n) < sumN b.l
      have hgd := cost_gd hA hk
      obtain ⟨s1, s2⟩ := sum_le (l := b.l) (l' := psF A b.l n) (by rw [hl, hl2]) fun j hj => by
        have m := psF_mono hA hk hnum hb (i := 0) (j := j) n (by omega)
        rw [Nat.zero_add] at m
        have m' : (psF A b.l n).getD j 0 ≤ b.l.getD j 0 := m
        have a := hp.rg j (by omega)
        have c := hgd.rg (36 * num + j) (by omega)
        omega
      have : sumN (psF A b.l n) ≠ sumN b.l := fun e => he (s2 e)
      omega
theorem lp300 : loopOf 30 0 = .loop (bodyLp 30 0) := by kernel_rfl
theorem lp301 : loopOf 30 1 = .loop (bodyLp 30 1) := by kernel_rfl
end
end Go.Vm
