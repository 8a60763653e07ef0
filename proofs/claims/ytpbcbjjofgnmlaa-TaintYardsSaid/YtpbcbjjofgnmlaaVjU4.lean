/- Contracts of taint's functions without loops, and of the document's. -/
import Derived.Test.YtpbcbjjofgnmlaaVjU3
set_option linter.unusedVariables false
namespace Go.Vm
set_option maxRecDepth 100000
set_option maxHeartbeats 4000000
set_option profiler true
set_option profiler.threshold 2000
def mxZ (a b : Int) : Int := if a < b then b else a
theorem r29 (V a b lo hi : Int) (r : Bool) : (callT memoA [0] 1 (.mk [] [(11, ixB V [a, b]), (17, neZ a b), (27, wiB 0 100000 [lo, hi]), (36, leZ lo hi)] [] [] []) 200 29 [.int .i64 V, .agg #[.int .i64 a, .int .i64 b, .int .i64 lo, .int .i64 hi]] (roV []) (fun v => v = .bool r)) = (
      OCall (memoA) 32 [(.int .i64 V), (.slice (Option.some (Go.Addr.mk 1 0 Option.none)) 2 2)] (View.mk 2 [(Prod.mk 1 (Go.Obj.cells #[(.int .i64 a), (.int .i64 b)] 3 (Prod.mk 0 0))), (Prod.mk 0 (Go.Obj.cells #[(.int .i64 a), (.int .i64 b), (.int .i64 lo), (.int .i64 hi)] 54 (Prod.mk 0 0)))]) (.bool (ixB V [a, b])) ∧
      (ixB V [a, b] = true →
      OBin .neq 3 (.tmp 14) (.tmp 16) (.int .i64 a) (.int .i64 b) (.bool (neZ a b)) ∧
        (neZ a b = true →
        OCall (memoA) 28 [(.int .i64 (0)), (.int .i64 (100000)), (.slice (Option.some (Go.Addr.mk 2 0 Option.none)) 2 2)] (View.mk 3 [(Prod.mk 2 (Go.Obj.cells #[(.int .i64 lo), (.int .i64 hi)] 2 (Prod.mk 0 0))), (Prod.mk 1 (Go.Obj.cells #[(.int .i64 a), (.int .i64 b)] 3 (Prod.mk 0 0))), (Prod.mk 0 (Go.Obj.cells #[(.int .i64 a), (.int .i64 b), (.int .i64 lo), (.int .i64 hi)] 54 (Prod.mk 0 0)))]) (.bool (wiB 0 100000 [lo, hi])) ∧
          (wiB 0 100000 [lo, hi] = true →
          OBin .leq 2 (.tmp 32) (.tmp 35) (.int .i64 lo) (.int .i64 hi) (.bool (leZ lo hi)) ∧
            (leZ lo hi = true →
            ((Go.Value.bool true) = (Go.Value.bool r))) ∧
            (leZ lo hi = false →
            ((Go.Value.bool false) = (Go.Value.bool r)))) ∧
          (wiB 0 100000 [lo, hi] = false →
          ((Go.Value.bool false) = (Go.Value.bool r)))) ∧
        (neZ a b = false →
        ((Go.Value.bool false) = (Go.Value.bool r)))) ∧
      (ixB V [a, b] = false →
      ((Go.Value.bool false) = (Go.Value.bool r)))) := by kernel_rfl
theorem r58 (V v t : Int) (s : Value) (l : List Int) (r : Bool) : (callT memoA [0] 1 (.mk [] [(10, ixB V [v]), (15, wiB 0 100000 [t])] [] [] []) 200 58 [.agg #[.int .i64 V, s], .agg #[.int .i64 v, .int .i64 t]] (roV [(ints l, 2)]) (fun v => v = .bool r)) = (
      OCall (memoA) 32 [(.int .i64 V), (.slice (Option.some (Go.Addr.mk 3 0 Option.none)) 1 1)] (View.mk 4 [(Prod.mk 3 (Go.Obj.cells #[(.int .i64 v)] 3 (Prod.mk 0 0))), (Prod.mk 2 (Go.Obj.cells #[(.int .i64 v), (.int .i64 t)] 26 (Prod.mk 0 0))), (Prod.mk 1 (Go.Obj.cells #[(.int .i64 V), s] 24 (Prod.mk 0 0))), (Prod.mk 0 (Go.Obj.cells (Array.mk (ints l)) 2 (Prod.mk 0 1)))]) (.bool (ixB V [v])) ∧
      (ixB V [v] = true →
      OCall (memoA) 28 [(.int .i64 (0)), (.int .i64 (100000)), (.slice (Option.some (Go.Addr.mk 4 0 Option.none)) 1 1)] (View.mk 5 [(Prod.mk 4 (Go.Obj.cells #[(.int .i64 t)] 2 (Prod.mk 0 0))), (Prod.mk 3 (Go.Obj.cells #[(.int .i64 v)] 3 (Prod.mk 0 0))), (Prod.mk 2 (Go.Obj.cells #[(.int .i64 v), (.int .i64 t)] 26 (Prod.mk 0 0))), (Prod.mk 1 (Go.Obj.cells #[(.int .i64 V), s] 24 (Prod.mk 0 0))), (Prod.mk 0 (Go.Obj.cells (Array.mk (ints l)) 2 (Prod.mk 0 1)))]) (.bool (wiB 0 100000 [t])) ∧
        (wiB 0 100000 [t] = true →
        ((Go.Value.bool true) = (Go.Value.bool r))) ∧
        (wiB 0 100000 [t] = false →
        ((Go.Value.bool false) = (Go.Value.bool r)))) ∧
      (ixB V [v] = false →
      ((Go.Value.bool false) = (Go.Value.bool r)))) := by kernel_rfl
theorem r38 (x : Int) (r : Bool) : (callT memoA [0] 1 (.mk [] [(4, eqZ x 1048576), (8, wiB 0 100000 [x])] [] [] []) 200 38 [.int .i64 x] (roV []) (fun v => v = .bool r)) = (
      OBin .eql 2 (.tmp 3) (.const (.int .i64 (1048576))) (.int .i64 x) (.int .i64 (1048576)) (.bool (eqZ x 1048576)) ∧
      (eqZ x 1048576 = true →
      ((Go.Value.bool true) = (Go.Value.bool r))) ∧
      (eqZ x 1048576 = false →
      OCall (memoA) 28 [(.int .i64 (0)), (.int .i64 (100000)), (.slice (Option.some (Go.Addr.mk 0 0 Option.none)) 1 1)] (View.mk 1 [(Prod.mk 0 (Go.Obj.cells #[(.int .i64 x)] 2 (Prod.mk 0 0)))]) (.bool (wiB 0 100000 [x])) ∧
        (wiB 0 100000 [x] = true →
        ((Go.Value.bool true) = (Go.Value.bool r))) ∧
        (wiB 0 100000 [x] = false →
        ((Go.Value.bool false) = (Go.Value.bool r))))) := by kernel_rfl
theorem r33 (a b lo hi x r : Int) : (callT memoA [0] 1 (.mk [(14, .int .i64 (mxZ x lo))] [(9, ltZ hi x)] [] [] []) 200 33 [.agg #[.int .i64 a, .int .i64 b, .int .i64 lo, .int .i64 hi], .int .i64 x] (roV []) (fun v => v = .int .i64 r)) = (
      OBin .gtr 2 (.tmp 5) (.tmp 8) (.int .i64 x) (.int .i64 hi) (.bool (ltZ hi x)) ∧
      (ltZ hi x = true →
      ((Go.Value.int Go.IntKind.i64 (1048576)) = (Go.Value.int Go.IntKind.i64 r))) ∧
      (ltZ hi x = false →
      OMax #[2, 2] 2 [(.int .i64 x), (.int .i64 lo)] (.int .i64 (mxZ x lo)) ∧
        ((Go.Value.int Go.IntKind.i64 (mxZ x lo)) = (Go.Value.int Go.IntKind.i64 r)))) := by kernel_rfl
theorem r34 (a b lo hi x r : Int) : (callT memoA [0] 1 (.mk [] [(9, ltZ lo x)] [] [] []) 200 34 [.agg #[.int .i64 a, .int .i64 b, .int .i64 lo, .int .i64 hi], .int .i64 x] (roV []) (fun v => v = .int .i64 r)) = (
      OBin .gtr 2 (.tmp 5) (.tmp 8) (.int .i64 x) (.int .i64 lo) (.bool (ltZ lo x)) ∧
      (ltZ lo x = true →
      ((Go.Value.int Go.IntKind.i64 (1048576)) = (Go.Value.int Go.IntKind.i64 r))) ∧
      (ltZ lo x = false →
      ((Go.Value.int Go.IntKind.i64 hi) = (Go.Value.int Go.IntKind.i64 r)))) := by kernel_rfl
theorem r30 (V x : Int) (s : Value) (l : List Int) (r : Bool) : (callT memoA [0] 1 (.mk [] [(6, leZ 0 x), (11, ltZ x V)] [] [] []) 200 30 [.agg #[.int .i64 V, s], .int .i64 x] (roV [(ints l, 2)]) (fun v => v = .bool r)) = (
      OBin .geq 3 (.tmp 5) (.const (.int .i64 (0))) (.int .i64 x) (.int .i64 (0)) (.bool (leZ 0 x)) ∧
      (leZ 0 x = true →
      OBin .lss 3 (.tmp 8) (.tmp 10) (.int .i64 x) (.int .i64 V) (.bool (ltZ x V)) ∧
        (ltZ x V = true →
        ((Go.Value.bool true) = (Go.Value.bool r))) ∧
        (ltZ x V = false →
        ((Go.Value.bool false) = (Go.Value.bool r)))) ∧
      (leZ 0 x = false →
      ((Go.Value.bool false) = (Go.Value.bool r)))) := by kernel_rfl
theorem r6 (V n : Int) (s : Value) (l : List Int) (r : Bool) : (callT memoA [0] 1 (.mk [(5, .int .i64 n)] [(6, ltZ 50 n)] [] [] []) 200 6 [.agg #[.int .i64 V, s]] (roV [(ints l, 2)]) (fun v => v = .bool r)) = (
      OLen #[22] 3 [s] (.int .i64 n) ∧
      OBin .gtr 3 (.tmp 5) (.const (.int .i64 (50))) (.int .i64 n) (.int .i64 (50)) (.bool (ltZ 50 n)) ∧
      (ltZ 50 n = true →
      ((Go.Value.bool true) = (Go.Value.bool r))) ∧
      (ltZ 50 n = false →
      ((Go.Value.bool false) = (Go.Value.bool r)))) := by kernel_rfl

noncomputable def fitB (V a b lo hi : Int) : Bool := ixB V [a, b] && (neZ a b && (wiB 0 100000 [lo, hi] && leZ lo hi))
noncomputable def sfB (V v t : Int) : Bool := ixB V [v] && wiB 0 100000 [t]
noncomputable def arB (x : Int) : Bool := eqZ x 1048576 || wiB 0 100000 [x]
def eaZ (lo hi x : Int) : Int := bif ltZ hi x then 1048576 else mxZ x lo
def suZ (lo hi x : Int) : Int := bif ltZ lo x then 1048576 else hi
def isVB (V x : Int) : Bool := leZ 0 x && ltZ x V
abbrev mvV (a b lo hi : Int) : Value := .agg #[.int .i64 a, .int .i64 b, .int .i64 lo, .int .i64 hi]
abbrev yaV (V : Int) (s : Value) : Value := .agg #[.int .i64 V, s]
abbrev stV (v t : Int) : Value := .agg #[.int .i64 v, .int .i64 t]
/-- the moves of a yard: n of four numbers each -/
def YS (s : Value) (l : List Int) : Prop := ∃ n cap, SLh 0 n cap s ∧ l.length = 4 * n ∧ n ≤ 1000
theorem YS.okS {s : Value} {l : List Int} {V : Int} (h : YS s l) : Vm.okS 1 (yaV V s) = true := by
  obtain ⟨n, cap, h, _⟩ := h
  have := h.ok (m := 1) (by omega)
  show ([Value.int .i64 V, s].all (okC 1)) = true
  simp only [List.all_cons, List.all_nil, this]
  rfl
theorem fit_any (V a b lo hi : Int) (w : World) (bs offs : Nat → Nat) : Calls TP 29 ([.int .i64 V, mvV a b lo hi].map (shiftS bs offs)).toArray w fun e w' => e = .returned (.bool (fitB V a b lo hi)) ∧ RowKit.Below w.heap.size w w' :=
  run_one (call_viewsT (cs := []) memoA_ok memoA_code rfl (tab_none fun _ _ => rfl) rfl (fun v h => by rw [h]; rfl) ((r29 V a b lo hi (fitB V a b lo hi)).mpr
    ⟨oc32 mA32 rfl (l := [a, b]) rfl rfl (by omega), fun h1 => ⟨ob_neq rfl, fun h2 => ⟨oc28 mA28 rfl (l := [lo, hi]) rfl rfl (by omega), fun h3 => ⟨ob_leq rfl, fun h4 => by simp [fitB, h1, h2, h3, h4], fun h4 => by simp [fitB, h4]⟩, fun h3 => by simp [fitB, h3]⟩, fun h2 => by simp [fitB, h2]⟩, fun h1 => by simp [fitB, h1]⟩) w bs offs (fun i c e h => by simp at h))
theorem sf_any (V v t : Int) (s : Value) (l : List Int) (hy : YS s l) (w : World) (bs offs : Nat → Nat) (hr : RowsAt w (bs 0) (offs 0) (ints l)) : Calls TP 58 ([yaV V s, stV v t].map (shiftS bs offs)).toArray w fun e w' => e = .returned (.bool (sfB V v t)) ∧ RowKit.Below w.heap.size w w' :=
  run_one (call_viewsT (cs := [(ints l, 2)]) memoA_ok memoA_code (by simp only [List.all_cons, List.all_nil, ints_flat]; rfl) (tab_none fun _ _ => rfl) (by simp only [List.all_cons, List.all_nil, List.length_cons, List.length_nil, hy.okS]; rfl) (fun v h => by rw [h]; rfl) ((r58 V v t s l (sfB V v t)).mpr
    ⟨oc32 mA32 rfl (l := [v]) rfl rfl (by omega), fun h1 => ⟨oc28 mA28 rfl (l := [t]) rfl rfl (by omega), fun h2 => by simp [sfB, h1, h2], fun h2 => by simp [sfB, h2]⟩, fun h1 => by simp [sfB, h1]⟩) w bs offs (all_at hr))
theorem ar_any (x : Int) (w : World) (bs offs : Nat → Nat) : Calls TP 38 ([Value.int .i64 x].map (shiftS bs offs)).toArray w fun e w' => e = .returned (.bool (arB x)) ∧ RowKit.Below w.heap.size w w' :=
  run_one (call_viewsT (cs := []) memoA_ok memoA_code rfl (tab_none fun _ _ => rfl) rfl (fun v h => by rw [h]; rfl) ((r38 x (arB x)).mpr
    ⟨ob_eql rfl, fun h1 => by simp [arB, h1], fun h1 => ⟨oc28 mA28 rfl (l := [x]) rfl rfl (by omega), fun h2 => by simp [arB, h2], fun h2 => by simp [arB, h1, h2]⟩⟩) w bs offs (fun i c e h => by simp at h))
theorem ea_any (a b lo hi x : Int) (w : World) (bs offs : Nat → Nat) : Calls TP 33 ([mvV a b lo hi, .int .i64 x].map (shiftS bs offs)).toArray w fun e w' => e = .returned (.int .i64 (eaZ lo hi x)) ∧ RowKit.Below w.heap.size w w' :=
  run_one (call_viewsT (cs := []) memoA_ok memoA_code rfl (tab_none fun _ _ => rfl) rfl (fun v h => by rw [h]; rfl) ((r33 a b lo hi x (eaZ lo hi x)).mpr
    ⟨ob_gtr rfl, fun h1 => by simp [eaZ, h1], fun h1 => ⟨ob_max rfl, by simp [eaZ, h1]⟩⟩) w bs offs (fun i c e h => by simp at h))
theorem su_any (a b lo hi x : Int) (w : World) (bs offs : Nat → Nat) : Calls TP 34 ([mvV a b lo hi, .int .i64 x].map (shiftS bs offs)).toArray w fun e w' => e = .returned (.int .i64 (suZ lo hi x)) ∧ RowKit.Below w.heap.size w w' :=
  run_one (call_viewsT (cs := []) memoA_ok memoA_code rfl (tab_none fun _ _ => rfl) rfl (fun v h => by rw [h]; rfl) ((r34 a b lo hi x (suZ lo hi x)).mpr
    ⟨ob_gtr rfl, fun h1 => by simp [suZ, h1], fun h1 => by simp [suZ, h1]⟩) w bs offs (fun i c e h => by simp at h))
theorem is_any (V x : Int) (s : Value) (l : List Int) (hy : YS s l) (w : World) (bs offs : Nat → Nat) (hr : RowsAt w (bs 0) (offs 0) (ints l)) : Calls TP 30 ([yaV V s, .int .i64 x].map (shiftS bs offs)).toArray w fun e w' => e = .returned (.bool (isVB V x)) ∧ RowKit.Below w.heap.size w w' :=
  run_one (call_viewsT (cs := [(ints l, 2)]) memoA_ok memoA_code (by simp only [List.all_cons, List.all_nil, ints_flat]; rfl) (tab_none fun _ _ => rfl) (by simp only [List.all_cons, List.all_nil, List.length_cons, List.length_nil, hy.okS]; rfl) (fun v h => by rw [h]; rfl) ((r30 V x s l (isVB V x)).mpr
    ⟨ob_geq rfl, fun h1 => ⟨ob_lss rfl, fun h2 => by simp [isVB, h1, h2], fun h2 => by simp [isVB, h2]⟩, fun h1 => by simp [isVB, h1]⟩) w bs offs (all_at hr))
theorem su22 : TP.underlying 22 = some (.slice 54) := by kernel_rfl
theorem si54 : (TP.info? 54).map (·.size) = some 4 := by kernel_rfl
theorem great_any (V : Int) (n cap : Nat) (s : Value) (l : List Int) (hs : SLh 0 n cap s) (hl : l.length = 4 * n) (hn : n ≤ 1000) (w : World) (bs offs : Nat → Nat) (hr : RowsAt w (bs 0) (offs 0) (ints l)) : Calls TP 6 ([yaV V s].map (shiftS bs offs)).toArray w fun e w' => e = .returned (.bool (ltZ 50 n)) ∧ RowKit.Below w.heap.size w w' :=
  run_one (call_viewsT (cs := [(ints l, 2)]) memoA_ok memoA_code (by simp only [List.all_cons, List.all_nil, ints_flat]; rfl) (tab_none fun _ _ => rfl) (by simp only [List.all_cons, List.all_nil, List.length_cons, List.length_nil, YS.okS (l := l) ⟨n, cap, hs, hl, hn⟩]; rfl) (fun v h => by rw [h]; rfl) ((r6 V n s l (ltZ 50 n)).mpr
    ⟨ob_len rfl su22 hs, ob_gtr rfl, fun h1 => by rw [h1], fun h1 => by rw [h1]⟩) w bs offs (all_at hr))

/-! tables -/
theorem flI {l : List Int} : [ints l].all (fun c => c.all (flatN 3)) = true := by simp only [List.all_cons, List.all_nil, ints_flat]; rfl
structure D29 where
  V : Int
  a : Int
  b : Int
  lo : Int
  hi : Int
noncomputable def fam29 : Fam := fam (δ := D29) (fun d => [.int .i64 d.V, mvV d.a d.b d.lo d.hi]) (fun _ => []) (fun _ => True) fun d => .bool (fitB d.V d.a d.b d.lo d.hi)
theorem fam29_ok : FamOK 29 fam29 := fam_ok fun d _ => ⟨rfl, rfl, fun w bs offs _ => fit_any d.V d.a d.b d.lo d.hi w bs offs⟩
theorem fam29_at (V a b lo hi : Int) : fam29 [.int .i64 V, mvV a b lo hi] [] = some (.bool (fitB V a b lo hi)) := fam_at (δ := D29) (d := ⟨V, a, b, lo, hi⟩) (fun d d' h1 _ => by simp at h1; obtain ⟨e0, e1, e2, e3, e4⟩ := h1; rw [e0, e1, e2, e3, e4]) trivial
noncomputable def fam33 : Fam := fam (δ := D29) (fun d => [mvV d.a d.b d.lo d.hi, .int .i64 d.V]) (fun _ => []) (fun _ => True) fun d => .int .i64 (eaZ d.lo d.hi d.V)
theorem fam33_ok : FamOK 33 fam33 := fam_ok fun d _ => ⟨rfl, rfl, fun w bs offs _ => ea_any d.a d.b d.lo d.hi d.V w bs offs⟩
theorem fam33_at (a b lo hi x : Int) : fam33 [mvV a b lo hi, .int .i64 x] [] = some (.int .i64 (eaZ lo hi x)) := fam_at (δ := D29) (d := ⟨x, a, b, lo, hi⟩) (fun d d' h1 _ => by simp at h1; obtain ⟨⟨_, _, e3, e4⟩, e0⟩ := h1; rw [e0, e3, e4]) trivial
noncomputable def fam34 : Fam := fam (δ := D29) (fun d => [mvV d.a d.b d.lo d.hi, .int .i64 d.V]) (fun _ => []) (fun _ => True) fun d => .int .i64 (suZ d.lo d.hi d.V)
theorem fam34_ok : FamOK 34 fam34 := fam_ok fun d _ => ⟨rfl, rfl, fun w bs offs _ => su_any d.a d.b d.lo d.hi d.V w bs offs⟩
theorem fam34_at (a b lo hi x : Int) : fam34 [mvV a b lo hi, .int .i64 x] [] = some (.int .i64 (suZ lo hi x)) := fam_at (δ := D29) (d := ⟨x, a, b, lo, hi⟩) (fun d d' h1 _ => by simp at h1; obtain ⟨⟨_, _, e3, e4⟩, e0⟩ := h1; rw [e0, e3, e4]) trivial
noncomputable def fam38 : Fam := fam (δ := Int) (fun x => [.int .i64 x]) (fun _ => []) (fun _ => True) fun x => .bool (arB x)
theorem fam38_ok : FamOK 38 fam38 := fam_ok fun d _ => ⟨rfl, rfl, fun w bs offs _ => ar_any d w bs offs⟩
theorem fam38_at (x : Int) : fam38 [.int .i64 x] [] = some (.bool (arB x)) := fam_at (δ := Int) (d := x) (fun d d' h1 _ => by simp at h1; rw [h1]) trivial
/-- a yard, a vessel and a time, moves -/
structure DY where
  V : Int
  v : Int
  t : Int
  s : Value
  l : List Int
noncomputable def fam58 : Fam := fam (δ := DY) (fun d => [yaV d.V d.s, stV d.v d.t]) (fun d => [ints d.l]) (fun d => YS d.s d.l) fun d => .bool (sfB d.V d.v d.t)
theorem fam58_ok : FamOK 58 fam58 := fam_ok fun d h => ⟨flI, rfl, fun w bs offs hr => sf_any d.V d.v d.t d.s d.l h w bs offs (hr 0 _ rfl)⟩
theorem fam58_at (V v t : Int) (s : Value) (l : List Int) (h : YS s l) : fam58 [yaV V s, stV v t] [ints l] = some (.bool (sfB V v t)) := fam_at (δ := DY) (d := ⟨V, v, t, s, l⟩) (fun d d' h1 _ => by simp at h1; obtain ⟨⟨e1, _⟩, e2, e3⟩ := h1; rw [e1, e2, e3]) h
noncomputable def fam30 : Fam := fam (δ := DY) (fun d => [yaV d.V d.s, .int .i64 d.v]) (fun d => [ints d.l]) (fun d => YS d.s d.l) fun d => .bool (isVB d.V d.v)
theorem fam30_ok : FamOK 30 fam30 := fam_ok fun d h => ⟨flI, rfl, fun w bs offs hr => is_any d.V d.v d.s d.l h w bs offs (hr 0 _ rfl)⟩
theorem fam30_at (V v : Int) (s : Value) (l : List Int) (h : YS s l) : fam30 [yaV V s, .int .i64 v] [ints l] = some (.bool (isVB V v)) := fam_at (δ := DY) (d := ⟨V, v, 0, s, l⟩) (fun d d' h1 _ => by simp at h1; obtain ⟨⟨e1, _⟩, e2⟩ := h1; rw [e1, e2]) h
noncomputable def tB : List (FuncId × Fam) := [(28, fam28), (32, fam32), (29, fam29), (33, fam33), (34, fam34), (38, fam38), (58, fam58), (30, fam30)]
noncomputable def memoB : Job → Option Out := oracleS (tabF tB)
theorem memoB_ok : SelfOK TP memoB := tab_ok fun p hp => by
  simp only [tB, List.mem_cons, List.not_mem_nil, or_false] at hp
  rcases hp with rfl | rfl | rfl | rfl | rfl | rfl | rfl | rfl
  · exact fam28_ok
  · exact fam32_ok
  · exact fam29_ok
  · exact fam33_ok
  · exact fam34_ok
  · exact fam38_ok
  · exact fam58_ok
  · exact fam30_ok
theorem memoB_code : ∀ ar c ts df V, memoB (.code ar c ts df V) = none := fun _ _ _ _ _ => rfl
/-- a call with plain arguments -/
theorem oc_plain {tbl : List (FuncId × Fam)} {g : FuncId} {args : List Value} {V : View} {d0 : Nat} {v : Value} (hok : callOk TP g = true) (hall : args.all okKS = true) (hd : firstId V.objs = some d0) (hcan : canA d0 0 args = (args, [])) (hF : tabF tbl g args [] = some v) : OCall (oracleS (tabF tbl)) g args V v :=
  oc_tab hok hall hd hcan rfl hF
/-- a call whose first argument is a yard whose moves lie in block i -/
theorem oc_yard {tbl : List (FuncId × Fam)} {g : FuncId} {V0 : Int} {s : Value} {l : List Int} {rest : List Value} {V : View} {d0 i n cap : Nat} {t : TypeId} {fz : Nat × Nat} {v : Value} (hok : callOk TP g = true) (hs : SLh i n cap s) (hl : l.length = 4 * n) (hn : n ≤ 1000)
    (hf : find V.objs i = some (.cells ⟨ints l⟩ t fz)) (hd : firstId V.objs = some d0) (hrest : rest.all okKS = true) (hcan : canA d0 1 rest = (rest, [])) (hF : ∀ s', SLh 0 n cap s' → tabF tbl g (yaV V0 s' :: rest) [ints l] = some v) : OCall (oracleS (tabF tbl)) g (yaV V0 s :: rest) V v := by
  obtain ⟨s', p, h1, h2, h3⟩ := hs.can (d := d0) (k := 0)
  have hcl : cellsAll V [p] = some [ints l] := by
    rcases h3 with rfl | ⟨rfl, h0⟩
    · simp only [cellsAll, hf]
    · have : l = [] := by rw [h0] at hl; exact List.length_eq_zero_iff.1 (by omega)
      subst this
      rfl
  refine oc_tab (args0 := yaV V0 s' :: rest) (bl := [p]) hok ?_ hd ?_ hcl (hF s' h2)
  · have := hs.okK
    show (([Value.int .i64 V0, s].all okK) && rest.all okKS) = true
    simp only [List.all_cons, List.all_nil, this, hrest]
    rfl
  · have e1 : canL d0 0 [Value.int .i64 V0, s] = ([.int .i64 V0, s'], [p]) := by
      unfold canL
      rw [show canC d0 0 (Value.int .i64 V0) = (.int .i64 V0, []) from rfl]
      dsimp only
      unfold canL
      rw [show 0 + ([] : List (Nat × Bool)).length = 0 from rfl, h1]
      rfl
    have e : canS d0 0 (yaV V0 s) = (yaV V0 s', [p]) := by
      show (match canL d0 0 [Value.int .i64 V0, s] with | (r, l) => (Value.agg ⟨r⟩, l)) = _
      rw [e1]
    simp only [canA, e, List.length_cons, List.length_nil, Nat.zero_add, hcan]
    rfl
end Go.Vm
