/- Contracts of the checks of starts and vessels, the program's and the document's. -/
import Derived.Test.YtpbcbjjofgnmlaaVjU5
set_option linter.unusedVariables false
namespace Go.Vm
set_option maxRecDepth 100000
set_option maxHeartbeats 4000000
def nOf (l : List Int) : Nat := l.length / 4
theorem nOf_eq {l : List Int} {n : Nat} (h : l.length = 4 * n) : nOf l = n := by unfold nOf; omega
noncomputable def fam8 : Fam := fam (δ := DY) (fun d => [yaV d.V d.s]) (fun d => [ints d.l]) (fun d => YS d.s d.l) fun d => .int .i64 (yErr d.V (nOf d.l) d.l)
theorem fam8_ok : FamOK 8 fam8 := fam_ok fun d ⟨n, cap, h, hl, hn⟩ => ⟨flI, rfl, fun w bs offs hr => by rw [nOf_eq hl]; exact yard8 d.V n cap d.s d.l h hl hn w bs offs (hr 0 _ rfl)⟩
theorem fam9_ok : FamOK 9 fam8 := fam_ok fun d ⟨n, cap, h, hl, hn⟩ => ⟨flI, rfl, fun w bs offs hr => by rw [nOf_eq hl]; exact yard9 d.V n cap d.s d.l h hl hn w bs offs (hr 0 _ rfl)⟩
theorem fam8_at (V : Int) (s : Value) (l : List Int) {n : Nat} (h : YS s l) (hn : l.length = 4 * n) : fam8 [yaV V s] [ints l] = some (.int .i64 (yErr V n l)) := by
  rw [← nOf_eq hn]
  exact fam_at (δ := DY) (d := ⟨V, 0, 0, s, l⟩) (fun d d' h1 h2 => by
    simp only [List.cons.injEq, and_true] at h2
    simp at h1
    rw [h1.1, ints_inj h2]) h
noncomputable def tC : List (FuncId × Fam) := (8, fam8) :: (9, fam8) :: tB
noncomputable def memoC : Job → Option Out := oracleS (tabF tC)
theorem tB_ok : ∀ p, p ∈ tB → FamOK p.1 p.2 := fun p hp => by
  simp only [tB, List.mem_cons, List.not_mem_nil, or_false] at hp
  rcases hp with rfl | rfl | rfl | rfl | rfl | rfl | rfl | rfl
  · exact fam28_ok
  · exact fam32_ok
  · exact fam29_ok
  · exact fam33_ok
  · exact fam34_ok
  · exact fam38_ok
  · exact fam58_ok
  · exact fam30_ok
theorem cons_ok {p : FuncId × Fam} {t : List (FuncId × Fam)} (h : FamOK p.1 p.2) (ht : ∀ p, p ∈ t → FamOK p.1 p.2) : ∀ q, q ∈ p :: t → FamOK q.1 q.2 := fun q hq => by
  rcases List.mem_cons.1 hq with e | e
  · subst e; exact h
  · exact ht q e
theorem tC_ok : ∀ p, p ∈ tC → FamOK p.1 p.2 := cons_ok fam8_ok (cons_ok fam9_ok tB_ok)
theorem memoC_ok : SelfOK TP memoC := tab_ok tC_ok
theorem memoC_code : ∀ ar c ts df V, memoC (.code ar c ts df V) = none := fun _ _ _ _ _ => rfl
theorem cok8 : callOk TP 8 = true := by kernel_rfl
theorem cok9 : callOk TP 9 = true := by kernel_rfl
theorem cok58 : callOk TP 58 = true := by kernel_rfl
noncomputable def stE (V : Int) (n : Nat) (l : List Int) (v t : Int) : Int := bif eqZ (yErr V n l) 0 && !sfB V v t then 2 else yErr V n l
noncomputable def vsE (V : Int) (n : Nat) (l : List Int) (v t x : Int) : Int := bif eqZ (stE V n l v t) 0 && !ixB V [x] then 3 else stE V n l v t
/-- a yard's moves lie in block 0 here -/
structure HY (n cap : Nat) (s : Value) (l : List Int) : Prop where
  s : SLh 0 n cap s
  l : l.length = 4 * n
  n : n ≤ 1000
theorem HY.ys {n cap : Nat} {s : Value} {l : List Int} (h : HY n cap s l) : YS s l := ⟨n, cap, h.s, h.l, h.n⟩
theorem HY.any {n cap cap' : Nat} {s s' : Value} {l : List Int} (h : HY n cap s l) (hs : SLh 0 n cap' s') : YS s' l := ⟨n, cap', hs, h.l, h.n⟩
theorem sf_iff {V v t : Int} : sfB V v t = true ↔ (0 ≤ v ∧ v < V) ∧ 0 ≤ t ∧ t ≤ 100000 := by simp only [sfB, Bool.and_eq_true, ix1, wi1]
theorem r37 (V v t x e r : Int) (s : Value) (l : List Int) : (callT memoC [0] 1 (.mk [(7, .int .i64 e)] [(9, eqZ e 0), (13, sfB V v t)] [] [] []) 200 37 [.agg #[.int .i64 V, s], .agg #[.int .i64 v, .int .i64 t]] (roV [(ints l, 2)]) (fun v => v = .int .i64 r)) = (
      OCall (memoC) 8 [(.agg #[(.int .i64 V), s])] (View.mk 3 [(Prod.mk 2 (Go.Obj.cells #[(.int .i64 v), (.int .i64 t)] 26 (Prod.mk 0 0))), (Prod.mk 1 (Go.Obj.cells #[(.int .i64 V), s] 24 (Prod.mk 0 0))), (Prod.mk 0 (Go.Obj.cells (Array.mk (ints l)) 2 (Prod.mk 0 1)))]) (.int .i64 e) ∧
      OBin .eql 31 (.tmp 8) (.const (.int .i64 (0))) (.int .i64 e) (.int .i64 (0)) (.bool (eqZ e 0)) ∧
      (eqZ e 0 = true →
      OCall (memoC) 58 [(.agg #[(.int .i64 V), s]), (.agg #[(.int .i64 v), (.int .i64 t)])] (View.mk 3 [(Prod.mk 2 (Go.Obj.cells #[(.int .i64 v), (.int .i64 t)] 26 (Prod.mk 0 0))), (Prod.mk 1 (Go.Obj.cells #[(.int .i64 V), s] 24 (Prod.mk 0 0))), (Prod.mk 0 (Go.Obj.cells (Array.mk (ints l)) 2 (Prod.mk 0 1)))]) (.bool (sfB V v t)) ∧
        (sfB V v t = true →
        ((Go.Value.int Go.IntKind.i64 e) = (Go.Value.int Go.IntKind.i64 r))) ∧
        (sfB V v t = false →
        ((Go.Value.int Go.IntKind.i64 (2)) = (Go.Value.int Go.IntKind.i64 r)))) ∧
      (eqZ e 0 = false →
      ((Go.Value.int Go.IntKind.i64 e) = (Go.Value.int Go.IntKind.i64 r)))) := by kernel_rfl
theorem r41 (V v t x e r : Int) (s : Value) (l : List Int) : (callT memoC [0] 1 (.mk [(6, .int .i64 e), (9, .int .i64 e)] [(7, neZ e 0), (13, isVB V v), (18, ltZ t 0), (23, ltZ 100000 t)] [] [] []) 200 41 [.agg #[.int .i64 V, s], .agg #[.int .i64 v, .int .i64 t]] (roV [(ints l, 2)]) (fun v => v = .int .i64 r)) = (
      OCall (memoC) 9 [(.agg #[(.int .i64 V), s])] (View.mk 3 [(Prod.mk 2 (Go.Obj.cells #[(.int .i64 v), (.int .i64 t)] 26 (Prod.mk 0 0))), (Prod.mk 1 (Go.Obj.cells #[(.int .i64 V), s] 24 (Prod.mk 0 0))), (Prod.mk 0 (Go.Obj.cells (Array.mk (ints l)) 2 (Prod.mk 0 1)))]) (.int .i64 e) ∧
      OBin .neq 31 (.tmp 6) (.const (.int .i64 (0))) (.int .i64 e) (.int .i64 (0)) (.bool (neZ e 0)) ∧
      (neZ e 0 = true →
      OCall (memoC) 9 [(.agg #[(.int .i64 V), s])] (View.mk 3 [(Prod.mk 2 (Go.Obj.cells #[(.int .i64 v), (.int .i64 t)] 26 (Prod.mk 0 0))), (Prod.mk 1 (Go.Obj.cells #[(.int .i64 V), s] 24 (Prod.mk 0 0))), (Prod.mk 0 (Go.Obj.cells (Array.mk (ints l)) 2 (Prod.mk 0 1)))]) (.int .i64 e) ∧
        ((Go.Value.int Go.IntKind.i64 e) = (Go.Value.int Go.IntKind.i64 r))) ∧
      (neZ e 0 = false →
      OCall (memoC) 30 [(.agg #[(.int .i64 V), s]), (.int .i64 v)] (View.mk 3 [(Prod.mk 2 (Go.Obj.cells #[(.int .i64 v), (.int .i64 t)] 26 (Prod.mk 0 0))), (Prod.mk 1 (Go.Obj.cells #[(.int .i64 V), s] 24 (Prod.mk 0 0))), (Prod.mk 0 (Go.Obj.cells (Array.mk (ints l)) 2 (Prod.mk 0 1)))]) (.bool (isVB V v)) ∧
        (isVB V v = true →
        OBin .lss 2 (.tmp 17) (.const (.int .i64 (0))) (.int .i64 t) (.int .i64 (0)) (.bool (ltZ t 0)) ∧
          (ltZ t 0 = true →
          ((Go.Value.int Go.IntKind.i64 (2)) = (Go.Value.int Go.IntKind.i64 r))) ∧
          (ltZ t 0 = false →
          OBin .gtr 2 (.tmp 22) (.const (.int .i64 (100000))) (.int .i64 t) (.int .i64 (100000)) (.bool (ltZ 100000 t)) ∧
            (ltZ 100000 t = true →
            ((Go.Value.int Go.IntKind.i64 (2)) = (Go.Value.int Go.IntKind.i64 r))) ∧
            (ltZ 100000 t = false →
            ((Go.Value.int Go.IntKind.i64 (0)) = (Go.Value.int Go.IntKind.i64 r))))) ∧
        (isVB V v = false →
        ((Go.Value.int Go.IntKind.i64 (2)) = (Go.Value.int Go.IntKind.i64 r))))) := by kernel_rfl

theorem okS_ya {V v t : Int} {s : Value} {n cap : Nat} {l : List Int} (h : HY n cap s l) : [yaV V s, stV v t].all (okS 1) = true := by
  simp only [List.all_cons, List.all_nil, h.ys.okS]; rfl
theorem okS_yx {V v t x : Int} {s : Value} {n cap : Nat} {l : List Int} (h : HY n cap s l) : [yaV V s, stV v t, .int .i64 x].all (okS 1) = true := by
  simp only [List.all_cons, List.all_nil, h.ys.okS]; rfl
theorem start37 (V v t : Int) {n cap : Nat} {s : Value} {l : List Int} (h : HY n cap s l) (w : World) (bs offs : Nat → Nat) (hr : RowsAt w (bs 0) (offs 0) (ints l)) :
    Calls TP 37 ([yaV V s, stV v t].map (shiftS bs offs)).toArray w fun e w' => e = .returned (.int .i64 (stE V n l v t)) ∧ RowKit.Below w.heap.size w w' := by
  refine run_one (call_viewsT (cs := [(ints l, 2)]) memoC_ok memoC_code flI' (tab_none fun _ _ => rfl) (okS_ya h) (fun v h => by rw [h]; rfl) ((r37 V v t 0 (yErr V n l) (stE V n l v t) s l).mpr ⟨oc_yard cok8 h.s h.l h.n rfl rfl rfl rfl fun s' hs' => fam8_at V s' l (h.any hs') h.l, ob_eql rfl, fun h1 => ⟨oc_yard cok58 h.s h.l h.n rfl rfl rfl rfl fun s' hs' => fam58_at V v t s' l (h.any hs'), fun h2 => ?_, fun h2 => ?_⟩, fun h1 => ?_⟩) w bs offs (all_at hr))
  · simp [stE, h1, h2]
  · simp [stE, h1, h2]
  · simp [stE, h1]
theorem start41 (V v t : Int) {n cap : Nat} {s : Value} {l : List Int} (h : HY n cap s l) (w : World) (bs offs : Nat → Nat) (hr : RowsAt w (bs 0) (offs 0) (ints l)) :
    Calls TP 41 ([yaV V s, stV v t].map (shiftS bs offs)).toArray w fun e w' => e = .returned (.int .i64 (stE V n l v t)) ∧ RowKit.Below w.heap.size w w' := by
  have o9 : ∀ (V' : View) (d0 : Nat), find V'.objs 0 = some (.cells ⟨ints l⟩ 2 (0, 1)) → firstId V'.objs = some d0 → OCall memoC 9 [yaV V s] V' (.int .i64 (yErr V n l)) := fun V' d0 hf hd => oc_yard cok9 h.s h.l h.n hf hd rfl rfl fun s' hs' => fam8_at V s' l (h.any hs') h.l
  refine run_one (call_viewsT (cs := [(ints l, 2)]) memoC_ok memoC_code flI' (tab_none fun _ _ => rfl) (okS_ya h) (fun v h => by rw [h]; rfl) ((r41 V v t 0 (yErr V n l) (stE V n l v t) s l).mpr ⟨o9 _ _ rfl rfl, ob_neq rfl, fun h1 => ⟨o9 _ _ rfl rfl, ?_⟩, fun h1 => ⟨oc_yard cok30 h.s h.l h.n rfl rfl rfl rfl fun s' hs' => fam30_at V v s' l (h.any hs'), fun h2 => ⟨ob_lss rfl, fun h3 => ?_, fun h3 => ⟨ob_gtr rfl, fun h4 => ?_, fun h4 => ?_⟩⟩, fun h2 => ?_⟩⟩) w bs offs (all_at hr))
  · have : eqZ (yErr V n l) 0 = false := bfalse.2 fun h => neZ_t h1 (eqZ_t h)
    simp [stE, this]
  · have e0 := neZ_f h1
    have : sfB V v t = false := bfalse.2 fun h => by have := sf_iff.1 h; have := ltZ_t h3; omega
    simp [stE, this, e0, eqZ]
  · have e0 := neZ_f h1
    have : sfB V v t = false := bfalse.2 fun h => by have := sf_iff.1 h; have := ltZ_t h4; omega
    simp [stE, this, e0, eqZ]
  · have e0 := neZ_f h1
    have : sfB V v t = true := sf_iff.2 (by have := is_iff.1 h2; have := ltZ_f h3; have := ltZ_f h4; omega)
    simp [stE, this, e0, eqZ]
  · have e0 := neZ_f h1
    have : sfB V v t = false := bfalse.2 fun h => by have := sf_iff.1 h; rw [is_iff.2 (by omega)] at h2; cases h2
    simp [stE, this, e0, eqZ]
noncomputable def fam37 : Fam := fam (δ := DY) (fun d => [yaV d.V d.s, stV d.v d.t]) (fun d => [ints d.l]) (fun d => YS d.s d.l) fun d => .int .i64 (stE d.V (nOf d.l) d.l d.v d.t)
theorem fam37_ok : FamOK 37 fam37 := fam_ok fun d ⟨n, cap, h, hl, hn⟩ => ⟨flI, rfl, fun w bs offs hr => by rw [nOf_eq hl]; exact start37 d.V d.v d.t ⟨h, hl, hn⟩ w bs offs (hr 0 _ rfl)⟩
theorem fam41_ok : FamOK 41 fam37 := fam_ok fun d ⟨n, cap, h, hl, hn⟩ => ⟨flI, rfl, fun w bs offs hr => by rw [nOf_eq hl]; exact start41 d.V d.v d.t ⟨h, hl, hn⟩ w bs offs (hr 0 _ rfl)⟩
theorem fam37_at (V v t : Int) (s : Value) (l : List Int) {n : Nat} (h : YS s l) (hn : l.length = 4 * n) : fam37 [yaV V s, stV v t] [ints l] = some (.int .i64 (stE V n l v t)) := by
  rw [← nOf_eq hn]
  exact fam_at (δ := DY) (d := ⟨V, v, t, s, l⟩) (fun d d' h1 h2 => by
    simp only [List.cons.injEq, and_true] at h2
    simp at h1
    obtain ⟨⟨e1, _⟩, e2, e3⟩ := h1
    rw [e1, e2, e3, ints_inj h2]) h
noncomputable def tD : List (FuncId × Fam) := (37, fam37) :: (41, fam37) :: tC
noncomputable def memoD : Job → Option Out := oracleS (tabF tD)
theorem tD_ok : ∀ p, p ∈ tD → FamOK p.1 p.2 := cons_ok fam37_ok (cons_ok fam41_ok tC_ok)
theorem memoD_ok : SelfOK TP memoD := tab_ok tD_ok
theorem memoD_code : ∀ ar c ts df V, memoD (.code ar c ts df V) = none := fun _ _ _ _ _ => rfl
theorem cok37 : callOk TP 37 = true := by kernel_rfl
theorem cok41 : callOk TP 41 = true := by kernel_rfl
theorem mD32 : tabF tD 32 = fam32 := rfl
theorem r31 (V v t x e r : Int) (s : Value) (l : List Int) : (callT memoD [0] 1 (.mk [(10, .int .i64 e)] [(12, eqZ e 0), (18, ixB V [x])] [] [] []) 200 31 [.agg #[.int .i64 V, s], .agg #[.int .i64 v, .int .i64 t], .int .i64 x] (roV [(ints l, 2)]) (fun v => v = .int .i64 r)) = (
      OCall (memoD) 37 [(.agg #[(.int .i64 V), s]), (.agg #[(.int .i64 v), (.int .i64 t)])] (View.mk 3 [(Prod.mk 2 (Go.Obj.cells #[(.int .i64 v), (.int .i64 t)] 26 (Prod.mk 0 0))), (Prod.mk 1 (Go.Obj.cells #[(.int .i64 V), s] 24 (Prod.mk 0 0))), (Prod.mk 0 (Go.Obj.cells (Array.mk (ints l)) 2 (Prod.mk 0 1)))]) (.int .i64 e) ∧
      OBin .eql 31 (.tmp 11) (.const (.int .i64 (0))) (.int .i64 e) (.int .i64 (0)) (.bool (eqZ e 0)) ∧
      (eqZ e 0 = true →
      OCall (memoD) 32 [(.int .i64 V), (.slice (Option.some (Go.Addr.mk 3 0 Option.none)) 1 1)] (View.mk 4 [(Prod.mk 3 (Go.Obj.cells #[(.int .i64 x)] 3 (Prod.mk 0 0))), (Prod.mk 2 (Go.Obj.cells #[(.int .i64 v), (.int .i64 t)] 26 (Prod.mk 0 0))), (Prod.mk 1 (Go.Obj.cells #[(.int .i64 V), s] 24 (Prod.mk 0 0))), (Prod.mk 0 (Go.Obj.cells (Array.mk (ints l)) 2 (Prod.mk 0 1)))]) (.bool (ixB V [x])) ∧
        (ixB V [x] = true →
        ((Go.Value.int Go.IntKind.i64 e) = (Go.Value.int Go.IntKind.i64 r))) ∧
        (ixB V [x] = false →
        ((Go.Value.int Go.IntKind.i64 (3)) = (Go.Value.int Go.IntKind.i64 r)))) ∧
      (eqZ e 0 = false →
      ((Go.Value.int Go.IntKind.i64 e) = (Go.Value.int Go.IntKind.i64 r)))) := by kernel_rfl
theorem r36 (V v t x e r : Int) (s : Value) (l : List Int) : (callT memoD [0] 1 (.mk [(9, .int .i64 e), (13, .int .i64 e)] [(10, neZ e 0), (16, isVB V x)] [] [] []) 200 36 [.agg #[.int .i64 V, s], .agg #[.int .i64 v, .int .i64 t], .int .i64 x] (roV [(ints l, 2)]) (fun v => v = .int .i64 r)) = (
      OCall (memoD) 41 [(.agg #[(.int .i64 V), s]), (.agg #[(.int .i64 v), (.int .i64 t)])] (View.mk 3 [(Prod.mk 2 (Go.Obj.cells #[(.int .i64 v), (.int .i64 t)] 26 (Prod.mk 0 0))), (Prod.mk 1 (Go.Obj.cells #[(.int .i64 V), s] 24 (Prod.mk 0 0))), (Prod.mk 0 (Go.Obj.cells (Array.mk (ints l)) 2 (Prod.mk 0 1)))]) (.int .i64 e) ∧
      OBin .neq 31 (.tmp 9) (.const (.int .i64 (0))) (.int .i64 e) (.int .i64 (0)) (.bool (neZ e 0)) ∧
      (neZ e 0 = true →
      OCall (memoD) 41 [(.agg #[(.int .i64 V), s]), (.agg #[(.int .i64 v), (.int .i64 t)])] (View.mk 3 [(Prod.mk 2 (Go.Obj.cells #[(.int .i64 v), (.int .i64 t)] 26 (Prod.mk 0 0))), (Prod.mk 1 (Go.Obj.cells #[(.int .i64 V), s] 24 (Prod.mk 0 0))), (Prod.mk 0 (Go.Obj.cells (Array.mk (ints l)) 2 (Prod.mk 0 1)))]) (.int .i64 e) ∧
        ((Go.Value.int Go.IntKind.i64 e) = (Go.Value.int Go.IntKind.i64 r))) ∧
      (neZ e 0 = false →
      OCall (memoD) 30 [(.agg #[(.int .i64 V), s]), (.int .i64 x)] (View.mk 3 [(Prod.mk 2 (Go.Obj.cells #[(.int .i64 v), (.int .i64 t)] 26 (Prod.mk 0 0))), (Prod.mk 1 (Go.Obj.cells #[(.int .i64 V), s] 24 (Prod.mk 0 0))), (Prod.mk 0 (Go.Obj.cells (Array.mk (ints l)) 2 (Prod.mk 0 1)))]) (.bool (isVB V x)) ∧
        (isVB V x = true →
        ((Go.Value.int Go.IntKind.i64 (0)) = (Go.Value.int Go.IntKind.i64 r))) ∧
        (isVB V x = false →
        ((Go.Value.int Go.IntKind.i64 (3)) = (Go.Value.int Go.IntKind.i64 r))))) := by kernel_rfl

theorem vessel31 (V v t x : Int) {n cap : Nat} {s : Value} {l : List Int} (h : HY n cap s l) (w : World) (bs offs : Nat → Nat) (hr : RowsAt w (bs 0) (offs 0) (ints l)) :
    Calls TP 31 ([yaV V s, stV v t, .int .i64 x].map (shiftS bs offs)).toArray w fun e w' => e = .returned (.int .i64 (vsE V n l v t x)) ∧ RowKit.Below w.heap.size w w' := by
  refine run_one (call_viewsT (cs := [(ints l, 2)]) memoD_ok memoD_code flI' (tab_none fun _ _ => rfl) (okS_yx h) (fun v h => by rw [h]; rfl) ((r31 V v t x (stE V n l v t) (vsE V n l v t x) s l).mpr ⟨oc_yard cok37 h.s h.l h.n rfl rfl rfl rfl fun s' hs' => fam37_at V v t s' l (h.any hs') h.l, ob_eql rfl, fun h1 => ⟨oc32 mD32 rfl (l := [x]) rfl rfl (by omega), fun h2 => ?_, fun h2 => ?_⟩, fun h1 => ?_⟩) w bs offs (all_at hr))
  · simp [vsE, h1, h2]
  · simp [vsE, h1, h2]
  · simp [vsE, h1]
theorem vessel36 (V v t x : Int) {n cap : Nat} {s : Value} {l : List Int} (h : HY n cap s l) (w : World) (bs offs : Nat → Nat) (hr : RowsAt w (bs 0) (offs 0) (ints l)) :
    Calls TP 36 ([yaV V s, stV v t, .int .i64 x].map (shiftS bs offs)).toArray w fun e w' => e = .returned (.int .i64 (vsE V n l v t x)) ∧ RowKit.Below w.heap.size w w' := by
  have o41 : ∀ (V' : View) (d0 : Nat), find V'.objs 0 = some (.cells ⟨ints l⟩ 2 (0, 1)) → firstId V'.objs = some d0 → OCall memoD 41 [yaV V s, stV v t] V' (.int .i64 (stE V n l v t)) := fun V' d0 hf hd => oc_yard cok41 h.s h.l h.n hf hd rfl rfl fun s' hs' => fam37_at V v t s' l (h.any hs') h.l
  refine run_one (call_viewsT (cs := [(ints l, 2)]) memoD_ok memoD_code flI' (tab_none fun _ _ => rfl) (okS_yx h) (fun v h => by rw [h]; rfl) ((r36 V v t x (stE V n l v t) (vsE V n l v t x) s l).mpr ⟨o41 _ _ rfl rfl, ob_neq rfl, fun h1 => ⟨o41 _ _ rfl rfl, ?_⟩, fun h1 => ⟨oc_yard cok30 h.s h.l h.n rfl rfl rfl rfl fun s' hs' => fam30_at V x s' l (h.any hs'), fun h2 => ?_, fun h2 => ?_⟩⟩) w bs offs (all_at hr))
  · have : eqZ (stE V n l v t) 0 = false := bfalse.2 fun h => neZ_t h1 (eqZ_t h)
    simp [vsE, this]
  · have e0 := neZ_f h1
    have : ixB V [x] = true := ix1.2 (is_iff.1 h2)
    simp [vsE, this, e0, eqZ]
  · have e0 := neZ_f h1
    have : ixB V [x] = false := bfalse.2 fun h => by rw [is_iff.2 (ix1.1 h)] at h2; cases h2
    simp [vsE, this, e0, eqZ]
structure DV where
  V : Int
  v : Int
  t : Int
  x : Int
  s : Value
  l : List Int
noncomputable def fam31 : Fam := fam (δ := DV) (fun d => [yaV d.V d.s, stV d.v d.t, .int .i64 d.x]) (fun d => [ints d.l]) (fun d => YS d.s d.l) fun d => .int .i64 (vsE d.V (nOf d.l) d.l d.v d.t d.x)
theorem fam31_ok : FamOK 31 fam31 := fam_ok fun d ⟨n, cap, h, hl, hn⟩ => ⟨flI, rfl, fun w bs offs hr => by rw [nOf_eq hl]; exact vessel31 d.V d.v d.t d.x ⟨h, hl, hn⟩ w bs offs (hr 0 _ rfl)⟩
theorem fam36_ok : FamOK 36 fam31 := fam_ok fun d ⟨n, cap, h, hl, hn⟩ => ⟨flI, rfl, fun w bs offs hr => by rw [nOf_eq hl]; exact vessel36 d.V d.v d.t d.x ⟨h, hl, hn⟩ w bs offs (hr 0 _ rfl)⟩
theorem fam31_at (V v t x : Int) (s : Value) (l : List Int) {n : Nat} (h : YS s l) (hn : l.length = 4 * n) : fam31 [yaV V s, stV v t, .int .i64 x] [ints l] = some (.int .i64 (vsE V n l v t x)) := by
  rw [← nOf_eq hn]
  exact fam_at (δ := DV) (d := ⟨V, v, t, x, s, l⟩) (fun d d' h1 h2 => by
    simp only [List.cons.injEq, and_true] at h2
    simp at h1
    obtain ⟨⟨e1, _⟩, ⟨e2, e3⟩, e4⟩ := h1
    rw [e1, e2, e3, e4, ints_inj h2]) h
noncomputable def tE : List (FuncId × Fam) := (31, fam31) :: (36, fam31) :: tD
noncomputable def memoE : Job → Option Out := oracleS (tabF tE)
theorem tE_ok : ∀ p, p ∈ tE → FamOK p.1 p.2 := cons_ok fam31_ok (cons_ok fam36_ok tD_ok)
theorem memoE_ok : SelfOK TP memoE := tab_ok tE_ok
theorem memoE_code : ∀ ar c ts df V, memoE (.code ar c ts df V) = none := fun _ _ _ _ _ => rfl
theorem cok31 : callOk TP 31 = true := by kernel_rfl
theorem cok36 : callOk TP 36 = true := by kernel_rfl
end Go.Vm
