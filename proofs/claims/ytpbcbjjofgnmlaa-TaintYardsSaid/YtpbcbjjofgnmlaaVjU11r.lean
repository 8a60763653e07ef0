/- Contract of CheckArrivals. -/
import Derived.Test.YtpbcbjjofgnmlaaVjU11i
import Derived.Test.YtpbcbjjofgnmlaaVjU11p
set_option linter.unusedVariables false
namespace Go.Vm
set_option maxRecDepth 100000
set_option maxHeartbeats 8000000

theorem ld_arrC {V0 : Int} {s : Value} {cm : List Int} {mb b : Nat} {e : TypeId} {fz : Nat × Nat} (h : cm.length = 20) : OLoad 67 (.pointer (some ⟨b, 2, none⟩)) (some (.cells ⟨spC V0 s cm mb⟩ e fz)) (.agg ⟨ints cm⟩) := ld_arr h ⟨_, by rw [spC_eq]; rfl⟩
theorem ld_arr0 {cm : List Int} {b : Nat} {e : TypeId} {fz : Nat × Nat} (h : cm.length = 20) : OLoad 67 (.pointer (some ⟨b, 0, none⟩)) (some (.cells ⟨ints cm⟩ e fz)) (.agg ⟨ints cm⟩) := ld_arr h ⟨[], by simp⟩

theorem check12S (V v t : Int) (n cap cap' : Nat) (g : Value) (l gl : List Int) (h : HY n cap (.slice (some ⟨0, 0, none⟩) n cap) l) (hg : SLh 1 gl.length cap' g) (hn : gl.length ≤ 1000) (w : World) (bs offs : Nat → Nat) (hr : RowsAt w (bs 0) (offs 0) (ints l)) (hr2 : RowsAt w (bs 1) (offs 1) (ints gl)) :
    Calls TP 12 ([yaV V (.slice (some ⟨0, 0, none⟩) n cap), stV v t, g].map (shiftS bs offs)).toArray w fun e w' => e = .returned (.int .i64 (aeE V n l gl v t)) ∧ RowKit.Below w.heap.size w w' := by
  have o37 : ∀ (V' : View) (d0 : Nat), find V'.objs 0 = some (.cells ⟨ints l⟩ 2 (0, 1)) → firstId V'.objs = some d0 → OCall memoF 37 [yaV V (.slice (some ⟨0, 0, none⟩) n cap), stV v t] V' (.int .i64 (stE V n l v t)) := fun V' d0 hf hd => oc_yard cok37 h.s h.l h.n hf hd rfl rfl fun s' hs' => fam37_at V v t s' l (h.any hs') h.l
  refine run_one (call_viewsT (cs := [(ints l, 2), (ints gl, 2)]) memoF_ok memoF_code flI2 (tab_none fun _ _ => rfl) (okS_yg h hg) (fun v h => by rw [h]; rfl) ((aS_run V v t (stE V n l v t) n cap g l gl (aeE V n l gl v t)).mpr
    ⟨o37 _ _ rfl rfl, fun h1 => ?_, fun h1 => ⟨ob_len rfl su28 hg, fun h2 => ?_, fun h2 => ?_⟩⟩) w bs offs (all_at2 hr hr2))
  · have : eqZ (stE V n l v t) 0 = false := bfalse.2 fun h => neZ_t h1 (eqZ_t h)
    simp [aeE, this]
  · have e0 : eqZ (stE V n l v t) 0 = true := eq_iff.2 (neZ_f h1)
    simp [aeE, e0, h2]
  · have e0 : eqZ (stE V n l v t) 0 = true := eq_iff.2 (neZ_f h1)
    have hf := fine_of (neZ_f h1)
    have hV := neZ_f h2
    have hV1 := hf.V
    have hn4 := hf.n
    have hgl : gl.length ≤ 20 := by omega
    have hgs : ∃ c, g = .slice (some ⟨1, 0, none⟩) gl.length c := by
      rcases hg with ⟨hg, _⟩ | ⟨_, hg⟩
      · exact ⟨_, hg⟩
      · omega
    have l0 := cm0_len hgl
    have l1 := cm1_len (v := v) (t := t) hgl
    have hv : v.toNat < 20 := by have := hf.v; omega
    have ixv := ix67 (b := 1006) (o := 2) hf.v.1 (by have := hf.v.2; omega)
    refine ⟨ob_len rfl su28 hg, ?_, fun z hz => ⟨⟨tab_none fun _ _ => rfl⟩, ?_, ⟨tab_none fun _ _ => rfl⟩, ld_arrC l0, ?_, ixv, ld_come (by omega) rfl, ob_min rfl, ixv, st_come (by omega) rfl, ld_moves, ob_len rfl su22 h.s, ?_, fun z1 hz1 => ⟨?_, ld_arr0 l0, eql67 _ _ _ _ (by rw [cmF_len, l1]) l0, fun h3 => ?_, fun h3 => ?_⟩, trivial⟩, fun z hz => ?_, trivial⟩
    · rw [lp120]
      exact aS1_loop V v t (stE V n l v t) n cap cap' g l gl h hg hn 2994 ⟨0, fun _ => undef⟩ ⟨by simp, upI_zero⟩ (show gl.length - 0 + 60 < 2994 by omega)
    · obtain ⟨c, rfl⟩ := hgs
      have h1 := ob_copy (V := ⟨1007, [(1006, .cells ⟨spC V (.slice (some ⟨0, 0, none⟩) n cap) (List.replicate 20 0) 1005⟩ 71 (0, 0)), (1005, .map #[] 0), (3, .cells #[.int .i64 v, .int .i64 t] 26 (0, 0)), (2, .cells #[.int .i64 V, (.slice (some ⟨0, 0, none⟩) n cap)] 24 (0, 0)), (1, .cells ⟨ints gl⟩ 2 (0, 1)), (0, .cells ⟨ints l⟩ 2 (0, 1))]⟩) (b1 := 1) (b := 1006) (o := 2) (c := c) (gl := gl) rfl rfl (by omega) hgl (by rw [spC_eq]; simp only [List.length_cons, List.length_append, ints_len, List.length_replicate]; omega)
      rw [cpy_sp hgl] at h1
      exact h1
    · exact st_arr l0 rfl rfl
    · rw [lp400]
      exact aS2_loop V v t (stE V n l v t) n cap cap' g l gl h hf.fit hn4 hgl hV 2984 ⟨0, #[], 0, fun k => if k = 11 then .agg ⟨ints (cm0 gl)⟩ else undef⟩ ⟨by simp, by simp, ⟨fun e he => by simp at he, fun e he => by simp at he⟩⟩ (show n - 0 + 80 < 2984 by omega)
    · have hz1 : z1.i = n := hz1
      have : (cmF l (cm1 gl v t) z1.i).length = 20 := by rw [cmF_len, l1]
      rw [← hz1]
      exact ld_arrC this
    · have := rt_eq hf hV hz
      rw [h3] at this
      simp [aeE, e0, h2, allAr_t hz, ← this]
    · have := rt_eq hf hV hz
      rw [h3] at this
      simp [aeE, e0, h2, allAr_t hz, ← this]
    · simp [aeE, e0, h2, allAr_f hz]

theorem check12N (V v t : Int) (n cap cap' : Nat) (g : Value) (l gl : List Int) (h : HY n cap (.slice none 0 0) l) (hg : SLh 1 gl.length cap' g) (hn : gl.length ≤ 1000) (hn0 : n = 0) (w : World) (bs offs : Nat → Nat) (hr : RowsAt w (bs 0) (offs 0) (ints l)) (hr2 : RowsAt w (bs 1) (offs 1) (ints gl)) :
    Calls TP 12 ([yaV V (.slice none 0 0), stV v t, g].map (shiftS bs offs)).toArray w fun e w' => e = .returned (.int .i64 (aeE V n l gl v t)) ∧ RowKit.Below w.heap.size w w' := by
  have o37 : ∀ (V' : View) (d0 : Nat), find V'.objs 0 = some (.cells ⟨ints l⟩ 2 (0, 1)) → firstId V'.objs = some d0 → OCall memoF 37 [yaV V (.slice none 0 0), stV v t] V' (.int .i64 (stE V n l v t)) := fun V' d0 hf hd => oc_yard cok37 h.s h.l h.n hf hd rfl rfl fun s' hs' => fam37_at V v t s' l (h.any hs') h.l
  refine run_one (call_viewsT (cs := [(ints l, 2), (ints gl, 2)]) memoF_ok memoF_code flI2 (tab_none fun _ _ => rfl) (okS_yg h hg) (fun v h => by rw [h]; rfl) ((aN_run V v t (stE V n l v t) n g l gl (aeE V n l gl v t)).mpr
    ⟨o37 _ _ rfl rfl, fun h1 => ?_, fun h1 => ⟨ob_len rfl su28 hg, fun h2 => ?_, fun h2 => ?_⟩⟩) w bs offs (all_at2 hr hr2))
  · have : eqZ (stE V n l v t) 0 = false := bfalse.2 fun h => neZ_t h1 (eqZ_t h)
    simp [aeE, this]
  · have e0 : eqZ (stE V n l v t) 0 = true := eq_iff.2 (neZ_f h1)
    simp [aeE, e0, h2]
  · have e0 : eqZ (stE V n l v t) 0 = true := eq_iff.2 (neZ_f h1)
    have hf := fine_of (neZ_f h1)
    have hV := neZ_f h2
    have hV1 := hf.V
    have hn4 := hf.n
    have hgl : gl.length ≤ 20 := by omega
    have hgs : ∃ c, g = .slice (some ⟨1, 0, none⟩) gl.length c := by
      rcases hg with ⟨hg, _⟩ | ⟨_, hg⟩
      · exact ⟨_, hg⟩
      · omega
    have l0 := cm0_len hgl
    have l1 := cm1_len (v := v) (t := t) hgl
    have hv : v.toNat < 20 := by have := hf.v; omega
    have ixv := ix67 (b := 1006) (o := 2) hf.v.1 (by have := hf.v.2; omega)
    refine ⟨ob_len rfl su28 hg, ?_, fun z hz => ⟨⟨tab_none fun _ _ => rfl⟩, ?_, ⟨tab_none fun _ _ => rfl⟩, ld_arrC l0, ?_, ixv, ld_come (by omega) rfl, ob_min rfl, ixv, st_come (by omega) rfl, ld_moves, ob_len rfl su22 h.s, ?_, fun z1 hz1 => ⟨?_, ld_arr0 l0, eql67 _ _ _ _ (by rw [cmF_len, l1]) l0, fun h3 => ?_, fun h3 => ?_⟩, trivial⟩, fun z hz => ?_, trivial⟩
    · rw [lp120]
      exact aN1_loop V v t (stE V n l v t) n cap cap' g l gl h hg hn 2994 ⟨0, fun _ => undef⟩ ⟨by simp, upI_zero⟩ (show gl.length - 0 + 60 < 2994 by omega)
    · obtain ⟨c, rfl⟩ := hgs
      have h1 := ob_copy (V := ⟨1007, [(1006, .cells ⟨spC V (.slice none 0 0) (List.replicate 20 0) 1005⟩ 71 (0, 0)), (1005, .map #[] 0), (3, .cells #[.int .i64 v, .int .i64 t] 26 (0, 0)), (2, .cells #[.int .i64 V, (.slice none 0 0)] 24 (0, 0)), (1, .cells ⟨ints gl⟩ 2 (0, 1)), (0, .cells ⟨ints l⟩ 2 (0, 1))]⟩) (b1 := 1) (b := 1006) (o := 2) (c := c) (gl := gl) rfl rfl (by omega) hgl (by rw [spC_eq]; simp only [List.length_cons, List.length_append, ints_len, List.length_replicate]; omega)
      rw [cpy_sp hgl] at h1
      exact h1
    · exact st_arr l0 rfl rfl
    · rw [lp400]
      exact aN2_loop V v t (stE V n l v t) n cap cap' g l gl h hf.fit hn4 hgl hV hn0 2984 ⟨0, #[], 0, fun k => if k = 11 then .agg ⟨ints (cm0 gl)⟩ else undef⟩ ⟨by simp, by simp, ⟨fun e he => by simp at he, fun e he => by simp at he⟩⟩ (show n - 0 + 80 < 2984 by omega)
    · have hz1 : z1.i = n := hz1
      have : (cmF l (cm1 gl v t) z1.i).length = 20 := by rw [cmF_len, l1]
      rw [← hz1]
      exact ld_arrC this
    · have := rt_eq hf hV hz
      rw [h3] at this
      simp [aeE, e0, h2, allAr_t hz, ← this]
    · have := rt_eq hf hV hz
      rw [h3] at this
      simp [aeE, e0, h2, allAr_t hz, ← this]
    · simp [aeE, e0, h2, allAr_f hz]

theorem check12 (V v t : Int) (n cap cap' : Nat) (s g : Value) (l gl : List Int) (h : HY n cap s l) (hg : SLh 1 gl.length cap' g) (hn : gl.length ≤ 1000) (w : World) (bs offs : Nat → Nat) (hr : RowsAt w (bs 0) (offs 0) (ints l)) (hr2 : RowsAt w (bs 1) (offs 1) (ints gl)) :
    Calls TP 12 ([yaV V s, stV v t, g].map (shiftS bs offs)).toArray w fun e w' => e = .returned (.int .i64 (aeE V n l gl v t)) ∧ RowKit.Below w.heap.size w w' := by
  have hs := h.s
  rcases hs with ⟨rfl, _⟩ | ⟨rfl, hn0⟩
  · exact check12S V v t n cap cap' g l gl h hg hn w bs offs hr hr2
  · exact check12N V v t n cap cap' g l gl h hg hn hn0 w bs offs hr hr2
end Go.Vm
