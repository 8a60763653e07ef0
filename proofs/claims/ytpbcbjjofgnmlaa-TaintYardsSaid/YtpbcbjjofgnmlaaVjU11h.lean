/- CheckArrivals: its loops (moves). -/
import Derived.Test.YtpbcbjjofgnmlaaVjU11c
import Derived.Test.YtpbcbjjofgnmlaaVjU11d
import Derived.Test.YtpbcbjjofgnmlaaVjU11e
set_option linter.unusedVariables false
namespace Go.Vm
set_option maxRecDepth 100000
set_option maxHeartbeats 8000000

theorem cm0_len {gl : List Int} (h : gl.length ≤ 20) : (cm0 gl).length = 20 := by
  unfold cm0
  rw [List.length_append, List.length_replicate]
  omega
theorem cm1_len {gl : List Int} {v t : Int} (h : gl.length ≤ 20) : (cm1 gl v t).length = 20 := by
  unfold cm1
  rw [List.length_set, cm0_len h]
theorem cmF_len {l c : List Int} : ∀ i, (cmF l c i).length = c.length
  | 0 => rfl
  | i + 1 => by
    simp only [cmF]
    cases leZ ((cmF l c i).getD (l.getD (4 * i + 1) 0).toNat 0) (eaZ (l.getD (4 * i + 2) 0) (l.getD (4 * i + 3) 0) ((cmF l c i).getD (l.getD (4 * i) 0).toNat 0)) with
    | true => exact cmF_len i
    | false => simp only [cond_false, List.length_set]; exact cmF_len i
theorem cmF_same {l c : List Int} {i : Nat} (h : leZ ((cmF l c i).getD (l.getD (4 * i + 1) 0).toNat 0) (eaZ (l.getD (4 * i + 2) 0) (l.getD (4 * i + 3) 0) ((cmF l c i).getD (l.getD (4 * i) 0).toNat 0)) = true) : cmF l c (i + 1) = cmF l c i := by
  simp only [cmF, h, cond_true]
theorem cmF_next {l c : List Int} {i : Nat} (h : leZ ((cmF l c i).getD (l.getD (4 * i + 1) 0).toNat 0) (eaZ (l.getD (4 * i + 2) 0) (l.getD (4 * i + 3) 0) ((cmF l c i).getD (l.getD (4 * i) 0).toNat 0)) = false) : cmF l c (i + 1) = (cmF l c i).set (l.getD (4 * i + 1) 0).toNat (eaZ (l.getD (4 * i + 2) 0) (l.getD (4 * i + 3) 0) ((cmF l c i).getD (l.getD (4 * i) 0).toNat 0)) := by
  simp only [cmF, h, cond_false]
theorem clean_sp {k : Nat} {V : Int} {s : Value} {cm : List Int} {mb : Nat} {e : TypeId} {fz : Nat × Nat} (hk : mb < k) (hs : scrubV k s = s) : CleanO k (.cells ⟨spC V s cm mb⟩ e fz) := clean_cells fun v hv => by
  rw [spC_eq] at hv
  simp only [List.mem_cons, List.mem_append, List.mem_replicate] at hv
  rcases hv with rfl | rfl | hv | rfl | ⟨_, rfl⟩
  · rfl
  · exact hs
  · unfold ints at hv
    obtain ⟨x, _, rfl⟩ := List.mem_map.1 hv
    rfl
  · have hb : mb.blt k = true := by rw [Nat.blt_eq]; exact hk
    simp [scrubV, hb]
  · rfl
theorem clean_map {k c : Nat} {es : Array MapEntry} (h : EntOK es.toList) : CleanO k (.map es c) := fun e he => by
  obtain ⟨a, b, h1⟩ := h.1 e he
  obtain ⟨z, h2⟩ := h.2 e he
  rw [h1, h2]
  exact ⟨rfl, rfl⟩
theorem cok38 : callOk TP 38 = true := by kernel_rfl
theorem lp120 : loopOf 12 0 = .loop (bodyLp 12 0) := by kernel_rfl
theorem lp400 : loopOf 40 0 = .loop (bodyLp 40 0) := by kernel_rfl

theorem aS1_clean {V v t e : Int} {n cap : Nat} {g : Value} {l gl : List Int} {b : JB} (hs : SLh 0 n cap (.slice (some ⟨0, 0, none⟩) n cap)) : Clean 4 (aS1V V v t e n cap g l gl b 4).objs := clean_cons (by omega) clean_two (clean_cons (by omega) (clean_ys (hs.scrub (by omega))) (clean_cons (by omega) clean_ro (clean_cons (by omega) clean_ro clean_nil)))
theorem aS2_clean {V v t e : Int} {n cap : Nat} {g : Value} {l gl : List Int} {b : JM} (hs : SLh 0 n cap (.slice (some ⟨0, 0, none⟩) n cap)) (he : EntOK b.es.toList) : Clean 1009 (aS2V V v t e n cap g l gl b b.c 1009).objs := clean_cons (by omega) clean_ro (clean_cons (by omega) clean_two (clean_cons (by omega) (clean_sp (by omega) (hs.scrub (by omega))) (clean_cons (by omega) (clean_map he) (clean_cons (by omega) clean_two (clean_cons (by omega) (clean_ys (hs.scrub (by omega))) (clean_cons (by omega) clean_ro (clean_cons (by omega) clean_ro clean_nil)))))))
theorem aS1_loop (V v t e : Int) (n cap : Nat) (cap' : Nat) (g : Value) (l gl : List Int) (h : HY n cap (.slice (some ⟨0, 0, none⟩) n cap) l) (hg : SLh 1 gl.length cap' g) (hn : gl.length ≤ 1000) : ∀ (M : Nat) (b : JB), (aS1Inv V v t e n cap g l gl).P b → (aS1Inv V v t e n cap g l gl).μ b + 60 < M →
    LoopRT memoF [0, 1, 2, 3, 1005, 1006, 1007, 1008] 1 M none (.loop (bodyLp 12 0)) (aS1Ts V v t e n cap g l gl b) [] (aS1V V v t e n cap g l gl b 4) [aS1Out V v t e n cap g l gl, aS1Ret V v t e n cap g l gl] := by
  refine loop_ruleT memoF_code (aS1Inv V v t e n cap g l gl) _ (N0 := 60) (n := 4) (w := 1000) (by kernel_rfl) (by kernel_rfl) (fun b _ => ⟨rfl, aS1_clean (V := V) (v := v) (t := t) (e := e) (g := g) (gl := gl) (b := b) h.s⟩) ?_
  intro M b ⟨hb1, hb2⟩
  have hgc := hg.scrub (k := 4) (by omega)
  refine ⟨_, (aS1_body V v t e n cap g l gl (gl.getD b.i 0) M b).mpr ⟨fun h0 => ?_, fun h0 => ?_⟩⟩
  · have hlt : b.i < gl.length := by have := ltZ_t h0; omega
    refine ⟨ob_ixS hg su28 si2 hlt (off := b.i) (by omega), ob_loadI (b := 1) (e := 2) (fz := (0, 1)) ag2 hlt rfl, oc_plain cok38 rfl rfl rfl (fam38_at _), fun h1 => ⟨ob_add64 (by omega) (by omega) (by omega), ?_⟩, fun h1 => ?_⟩
    · rw [hgc]
      exact .againL (fun ts => ⟨b.i + 1, lget ts⟩) ⟨hlt, upI_next hb2 h1⟩ (show gl.length - (b.i + 1) < gl.length - b.i by omega) rfl rfl rfl
    · exact .outV (by simp) (aS1Ret V v t e n cap g l gl) (by simp) (fun ts W => (⟨b.i, lget ts⟩, W)) ⟨b.i, hlt, h1⟩ rfl rfl rfl rfl
  · have hlt : ¬ b.i < gl.length := by have := ltZ_f h0; omega
    exact .outL (by simp) (aS1Out V v t e n cap g l gl) (by simp) (fun ts => ⟨b.i, lget ts⟩) (fun m hm => hb2 m (by omega)) rfl rfl rfl rfl
theorem aS2_loop (V v t e : Int) (n cap : Nat) (cap' : Nat) (g : Value) (l gl : List Int) (h : HY n cap (.slice (some ⟨0, 0, none⟩) n cap) l) (hfit : ∀ m, m < n → fitAt V l m = true) (hn : n ≤ 40) (hgl : gl.length ≤ 20) (hV : (gl.length : Int) = V) : ∀ (M : Nat) (b : JM), (aS2Inv V v t e n cap g l gl).P b → (aS2Inv V v t e n cap g l gl).μ b + 80 < M →
    LoopRT memoF [0, 1, 2, 3, 1005, 1006, 1007, 1008] 1 M none (.loop (bodyLp 40 0)) (aS2Ts V v t e n cap g l gl b) [] (aS2V V v t e n cap g l gl b b.c 1009) [aS2Out V v t e n cap g l gl] := by
  refine loop_ruleT memoF_code (aS2Inv V v t e n cap g l gl) _ (N0 := 80) (n := 1009) (w := 1000) (by kernel_rfl) (by kernel_rfl) (fun b hb => ⟨rfl, aS2_clean (V := V) (v := v) (t := t) (e := e) (g := g) (gl := gl) (b := b) h.s hb.2.2⟩) ?_
  intro M b ⟨hb1, hb2, hb3⟩
  have hcb : b.c + 1 < big := by show b.c + 1 < 1208925819614629174706176; omega
  obtain ⟨es1, he1, hdel⟩ := del_st (V := ⟨1012, [(1005, .map b.es b.c)]⟩) (r := 1005) (x := l.getD (4 * b.i + 1) 0) (y := (cmF l (cm1 gl v t) b.i).getD (l.getD (4 * b.i + 1) 0).toNat 0) rfl hcb hb3
  obtain ⟨es2, c2, he2, hc2, hupd⟩ := upd_st (V := ⟨1012, [(1005, .map es1 b.c)]⟩) (r := 1005) (x := l.getD (4 * b.i + 1) 0) (y := eaZ (l.getD (4 * b.i + 2) 0) (l.getD (4 * b.i + 3) 0) ((cmF l (cm1 gl v t) b.i).getD (l.getD (4 * b.i) 0).toNat 0)) (z := (b.i : Int)) rfl hcb he1
  have hlen : (cmF l (cm1 gl v t) b.i).length = 20 := by rw [cmF_len, cm1_len hgl]
  have hbig : b.i < n → _ ∧ _ := fun hlt => by
    have hf := fit_iff.1 (hfit b.i hlt)
    exact ⟨(by have := hf.1; omega : 0 ≤ l.getD (4 * b.i) 0 ∧ l.getD (4 * b.i) 0 < 20 ∧ (l.getD (4 * b.i) 0).toNat < 20), (by have := hf.2.1; omega : 0 ≤ l.getD (4 * b.i + 1) 0 ∧ l.getD (4 * b.i + 1) 0 < 20 ∧ (l.getD (4 * b.i + 1) 0).toNat < 20)⟩
  rcases hc2 with rfl | rfl
  · refine ⟨_, (aS2_body0 V v t e n cap g l gl (l.getD (4 * b.i) 0) (l.getD (4 * b.i + 1) 0) (l.getD (4 * b.i + 2) 0) (l.getD (4 * b.i + 3) 0) ((cmF l (cm1 gl v t) b.i).getD (l.getD (4 * b.i) 0).toNat 0) ((cmF l (cm1 gl v t) b.i).getD (l.getD (4 * b.i + 1) 0).toNat 0) es1 es2 M b.c (KL_of (by omega)) b).mpr ⟨fun h0 => ?_, fun h0 => ?_⟩⟩
    · have hlt : b.i < n := by have := ltZ_t h0; omega
      obtain ⟨ha, hb⟩ := hbig hlt
      have ixa := ix67 (b := 1006) (o := 2) ha.1 ha.2.1
      have ixb := ix67 (b := 1006) (o := 2) hb.1 hb.2.1
      refine ⟨ob_ixS h.s su22 si54 hlt (by omega), ob_load4 h.l hlt, ixa, ld_come (by omega) rfl, oc_plain cok33 rfl rfl rfl (fam33_at _ _ _ _ _), ⟨tab_none fun _ _ => rfl⟩, ixb, ld_come (by omega) rfl, fun h1 => ⟨ob_add64 (by omega) (by omega) (by omega), ?_⟩, fun h1 => ⟨ld_map hlen, ⟨tab_none fun _ _ => rfl⟩, ixb, ld_come (by omega) rfl, hdel _ rfl, ixb, st_come (by omega) rfl, ld_map (by rw [List.length_set]; exact hlen), hupd _ rfl, ob_add64 (by omega) (by omega) (by omega), ?_⟩⟩
      · rw [← cmF_same h1]
        exact .againL (fun ts => ⟨b.i + 1, b.es, b.c, lget ts⟩) ⟨hlt, by show b.c ≤ b.i + 1; omega, hb3⟩ (show n - (b.i + 1) < n - b.i by omega) rfl rfl rfl
      · rw [← cmF_next h1]
        exact .againL (fun ts => ⟨b.i + 1, es2, b.c, lget ts⟩) ⟨hlt, by show b.c ≤ b.i + 1; omega, he2⟩ (show n - (b.i + 1) < n - b.i by omega) rfl rfl rfl
    · have hlt : ¬ b.i < n := by have := ltZ_f h0; omega
      exact .outL (by simp) (aS2Out V v t e n cap g l gl) (by simp) (fun ts => ⟨b.i, b.es, b.c, lget ts⟩) (show b.i = n by have : b.i ≤ n := hb1; omega) rfl rfl rfl rfl
  · refine ⟨_, (aS2_body1 V v t e n cap g l gl (l.getD (4 * b.i) 0) (l.getD (4 * b.i + 1) 0) (l.getD (4 * b.i + 2) 0) (l.getD (4 * b.i + 3) 0) ((cmF l (cm1 gl v t) b.i).getD (l.getD (4 * b.i) 0).toNat 0) ((cmF l (cm1 gl v t) b.i).getD (l.getD (4 * b.i + 1) 0).toNat 0) es1 es2 M b.c (KL_of (by omega)) b).mpr ⟨fun h0 => ?_, fun h0 => ?_⟩⟩
    · have hlt : b.i < n := by have := ltZ_t h0; omega
      obtain ⟨ha, hb⟩ := hbig hlt
      have ixa := ix67 (b := 1006) (o := 2) ha.1 ha.2.1
      have ixb := ix67 (b := 1006) (o := 2) hb.1 hb.2.1
      refine ⟨ob_ixS h.s su22 si54 hlt (by omega), ob_load4 h.l hlt, ixa, ld_come (by omega) rfl, oc_plain cok33 rfl rfl rfl (fam33_at _ _ _ _ _), ⟨tab_none fun _ _ => rfl⟩, ixb, ld_come (by omega) rfl, fun h1 => ⟨ob_add64 (by omega) (by omega) (by omega), ?_⟩, fun h1 => ⟨ld_map hlen, ⟨tab_none fun _ _ => rfl⟩, ixb, ld_come (by omega) rfl, hdel _ rfl, ixb, st_come (by omega) rfl, ld_map (by rw [List.length_set]; exact hlen), hupd _ rfl, ob_add64 (by omega) (by omega) (by omega), ?_⟩⟩
      · rw [← cmF_same h1]
        exact .againL (fun ts => ⟨b.i + 1, b.es, b.c, lget ts⟩) ⟨hlt, by show b.c ≤ b.i + 1; omega, hb3⟩ (show n - (b.i + 1) < n - b.i by omega) rfl rfl rfl
      · rw [← cmF_next h1]
        exact .againL (fun ts => ⟨b.i + 1, es2, b.c + 1, lget ts⟩) ⟨hlt, by show b.c + 1 ≤ b.i + 1; omega, he2⟩ (show n - (b.i + 1) < n - b.i by omega) rfl rfl rfl
    · have hlt : ¬ b.i < n := by have := ltZ_f h0; omega
      exact .outL (by simp) (aS2Out V v t e n cap g l gl) (by simp) (fun ts => ⟨b.i, b.es, b.c, lget ts⟩) (show b.i = n by have : b.i ≤ n := hb1; omega) rfl rfl rfl rfl
end Go.Vm
