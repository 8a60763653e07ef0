/- CheckArrivals: its loops (no moves). -/
import Derived.Test.YtpbcbjjofgnmlaaVjU11f
import Derived.Test.YtpbcbjjofgnmlaaVjU11g
import Derived.Test.YtpbcbjjofgnmlaaVjU11h
set_option linter.unusedVariables false
namespace Go.Vm
set_option maxRecDepth 100000
set_option maxHeartbeats 8000000

theorem aN1_clean {V v t e : Int} {n cap : Nat} {g : Value} {l gl : List Int} {b : JB} (hs : SLh 0 n cap (.slice none 0 0)) : Clean 4 (aN1V V v t e n g l gl b 4).objs := clean_cons (by omega) clean_two (clean_cons (by omega) (clean_ys (hs.scrub (by omega))) (clean_cons (by omega) clean_ro (clean_cons (by omega) clean_ro clean_nil)))
theorem aN2_clean {V v t e : Int} {n cap : Nat} {g : Value} {l gl : List Int} {b : JM} (hs : SLh 0 n cap (.slice none 0 0)) (he : EntOK b.es.toList) : Clean 1009 (aN2V V v t e n g l gl b b.c 1009).objs := clean_cons (by omega) clean_ro (clean_cons (by omega) clean_two (clean_cons (by omega) (clean_sp (by omega) (hs.scrub (by omega))) (clean_cons (by omega) (clean_map he) (clean_cons (by omega) clean_two (clean_cons (by omega) (clean_ys (hs.scrub (by omega))) (clean_cons (by omega) clean_ro (clean_cons (by omega) clean_ro clean_nil)))))))
theorem aN1_loop (V v t e : Int) (n cap : Nat) (cap' : Nat) (g : Value) (l gl : List Int) (h : HY n cap (.slice none 0 0) l) (hg : SLh 1 gl.length cap' g) (hn : gl.length ≤ 1000) : ∀ (M : Nat) (b : JB), (aN1Inv V v t e n g l gl).P b → (aN1Inv V v t e n g l gl).μ b + 60 < M →
    LoopRT memoF [0, 1, 2, 3, 1005, 1006, 1007, 1008] 1 M none (.loop (bodyLp 12 0)) (aN1Ts V v t e n g l gl b) [] (aN1V V v t e n g l gl b 4) [aN1Out V v t e n g l gl, aN1Ret V v t e n g l gl] := by
  refine loop_ruleT memoF_code (aN1Inv V v t e n g l gl) _ (N0 := 60) (n := 4) (w := 1000) (by kernel_rfl) (by kernel_rfl) (fun b _ => ⟨rfl, aN1_clean (V := V) (v := v) (t := t) (e := e) (g := g) (gl := gl) (b := b) h.s⟩) ?_
  intro M b ⟨hb1, hb2⟩
  have hgc := hg.scrub (k := 4) (by omega)
  refine ⟨_, (aN1_body V v t e n g l gl (gl.getD b.i 0) M b).mpr ⟨fun h0 => ?_, fun h0 => ?_⟩⟩
  · have hlt : b.i < gl.length := by have := ltZ_t h0; omega
    refine ⟨ob_ixS hg su28 si2 hlt (off := b.i) (by omega), ob_loadI (b := 1) (e := 2) (fz := (0, 1)) ag2 hlt rfl, oc_plain cok38 rfl rfl rfl (fam38_at _), fun h1 => ⟨ob_add64 (by omega) (by omega) (by omega), ?_⟩, fun h1 => ?_⟩
    · rw [hgc]
      exact .againL (fun ts => ⟨b.i + 1, lget ts⟩) ⟨hlt, upI_next hb2 h1⟩ (show gl.length - (b.i + 1) < gl.length - b.i by omega) rfl rfl rfl
    · exact .outV (by simp) (aN1Ret V v t e n g l gl) (by simp) (fun ts W => (⟨b.i, lget ts⟩, W)) ⟨b.i, hlt, h1⟩ rfl rfl rfl rfl
  · have hlt : ¬ b.i < gl.length := by have := ltZ_f h0; omega
    exact .outL (by simp) (aN1Out V v t e n g l gl) (by simp) (fun ts => ⟨b.i, lget ts⟩) (fun m hm => hb2 m (by omega)) rfl rfl rfl rfl
theorem aN2_loop (V v t e : Int) (n cap : Nat) (cap' : Nat) (g : Value) (l gl : List Int) (h : HY n cap (.slice none 0 0) l) (hfit : ∀ m, m < n → fitAt V l m = true) (hn : n ≤ 40) (hgl : gl.length ≤ 20) (hV : (gl.length : Int) = V) (hn0 : n = 0) : ∀ (M : Nat) (b : JM), (aN2Inv V v t e n g l gl).P b → (aN2Inv V v t e n g l gl).μ b + 80 < M →
    LoopRT memoF [0, 1, 2, 3, 1005, 1006, 1007, 1008] 1 M none (.loop (bodyLp 40 0)) (aN2Ts V v t e n g l gl b) [] (aN2V V v t e n g l gl b b.c 1009) [aN2Out V v t e n g l gl] := by
  refine loop_ruleT memoF_code (aN2Inv V v t e n g l gl) _ (N0 := 80) (n := 1009) (w := 1000) (by kernel_rfl) (by kernel_rfl) (fun b hb => ⟨rfl, aN2_clean (V := V) (v := v) (t := t) (e := e) (g := g) (gl := gl) (b := b) h.s hb.2.2⟩) ?_
  intro M b ⟨hb1, hb2, hb3⟩
  refine ⟨_, (aN2_body0 V v t e n g l gl 0 0 0 0 0 0 b.es b.es M b.c (KL_of (by have : b.i ≤ n := hb1; have : b.c ≤ b.i := hb2; omega)) b).mpr ⟨fun h0 => ?_, fun h0 => ?_⟩⟩
  · have := ltZ_t h0; omega
  · exact .outL (by simp) (aN2Out V v t e n g l gl) (by simp) (fun ts => ⟨b.i, b.es, b.c, lget ts⟩) (show b.i = n by have : b.i ≤ n := hb1; omega) rfl rfl rfl rfl
end Go.Vm
