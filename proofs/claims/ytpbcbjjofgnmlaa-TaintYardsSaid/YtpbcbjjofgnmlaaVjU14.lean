/- The statement's body answers true. -/
import Derived.Test.YtpbcbjjofgnmlaaVjU13
set_option linter.unusedVariables false
namespace Go.Vm
set_option maxRecDepth 100000
set_option maxHeartbeats 8000000
theorem body3 (V v t x e8 e10 e12 : Int) (sure : Bool) (n : Nat) (s tr g : Value) (l tl gl : List Int) : (callT memoH [0, 1, 2] 1 (.mk [(17, .int .i64 tl.length), (18, autoV), (22, .int .i64 gl.length), (23, autoV), (25, .bool true), (27, .int .i64 e8), (29, .int .i64 e8), (30, .bool true), (37, .int .i64 e10), (43, .int .i64 e10), (44, .bool true), (50, .int .i64 e12), (54, .int .i64 e12), (55, .bool true), (58, .bool true)] [(14, ltZ 50 n)] [] [] []) 1000 3 [yaV V s, stV v t, .int .i64 x, tr, .bool sure, g] (roV [(ints l, 2), (ints tl, 2), (ints gl, 2)]) (fun v => v = .bool true)) = (
      OCall (memoH) 6 [(.agg #[(.int .i64 V), s])] (View.mk 5 [(Prod.mk 4 (Go.Obj.cells #[(.int .i64 v), (.int .i64 t)] 26 (Prod.mk 0 0))), (Prod.mk 3 (Go.Obj.cells #[(.int .i64 V), s] 24 (Prod.mk 0 0))), (Prod.mk 2 (Go.Obj.cells (Array.mk (ints gl)) 2 (Prod.mk 0 1))), (Prod.mk 1 (Go.Obj.cells (Array.mk (ints tl)) 2 (Prod.mk 0 1))), (Prod.mk 0 (Go.Obj.cells (Array.mk (ints l)) 2 (Prod.mk 0 1)))]) (.bool (ltZ 50 ↑n)) ∧
      (ltZ 50 ↑n = true →
      OCall (memoH) 7 [] (View.mk 5 [(Prod.mk 4 (Go.Obj.cells #[(.int .i64 v), (.int .i64 t)] 26 (Prod.mk 0 0))), (Prod.mk 3 (Go.Obj.cells #[(.int .i64 V), s] 24 (Prod.mk 0 0))), (Prod.mk 2 (Go.Obj.cells (Array.mk (ints gl)) 2 (Prod.mk 0 1))), (Prod.mk 1 (Go.Obj.cells (Array.mk (ints tl)) 2 (Prod.mk 0 1))), (Prod.mk 0 (Go.Obj.cells (Array.mk (ints l)) 2 (Prod.mk 0 1)))]) (.bool true) ∧
        ((Go.Value.bool true) = (Go.Value.bool true))) ∧
      (ltZ 50 ↑n = false →
      OLen #[27] 3 [tr] (.int .i64 (↑tl.length)) ∧
        (ltZ 60 ↑tl.length = true →
        OCall (memoH) 7 [] (View.mk 5 [(Prod.mk 4 (Go.Obj.cells #[(.int .i64 v), (.int .i64 t)] 26 (Prod.mk 0 0))), (Prod.mk 3 (Go.Obj.cells #[(.int .i64 V), s] 24 (Prod.mk 0 0))), (Prod.mk 2 (Go.Obj.cells (Array.mk (ints gl)) 2 (Prod.mk 0 1))), (Prod.mk 1 (Go.Obj.cells (Array.mk (ints tl)) 2 (Prod.mk 0 1))), (Prod.mk 0 (Go.Obj.cells (Array.mk (ints l)) 2 (Prod.mk 0 1)))]) (.bool true) ∧
          ((Go.Value.bool true) = (Go.Value.bool true))) ∧
        (ltZ 60 ↑tl.length = false →
        OLen #[28] 3 [g] (.int .i64 (↑gl.length)) ∧
          (ltZ 40 ↑gl.length = true →
          OCall (memoH) 7 [] (View.mk 5 [(Prod.mk 4 (Go.Obj.cells #[(.int .i64 v), (.int .i64 t)] 26 (Prod.mk 0 0))), (Prod.mk 3 (Go.Obj.cells #[(.int .i64 V), s] 24 (Prod.mk 0 0))), (Prod.mk 2 (Go.Obj.cells (Array.mk (ints gl)) 2 (Prod.mk 0 1))), (Prod.mk 1 (Go.Obj.cells (Array.mk (ints tl)) 2 (Prod.mk 0 1))), (Prod.mk 0 (Go.Obj.cells (Array.mk (ints l)) 2 (Prod.mk 0 1)))]) (.bool true) ∧
            ((Go.Value.bool true) = (Go.Value.bool true))) ∧
          (ltZ 40 ↑gl.length = false →
          OCall (memoH) 8 [(.agg #[(.int .i64 V), s])] (View.mk 5 [(Prod.mk 4 (Go.Obj.cells #[(.int .i64 v), (.int .i64 t)] 26 (Prod.mk 0 1))), (Prod.mk 3 (Go.Obj.cells #[(.int .i64 V), s] 24 (Prod.mk 0 1))), (Prod.mk 2 (Go.Obj.cells (Array.mk (ints gl)) 2 (Prod.mk 0 1))), (Prod.mk 1 (Go.Obj.cells (Array.mk (ints tl)) 2 (Prod.mk 0 1))), (Prod.mk 0 (Go.Obj.cells (Array.mk (ints l)) 2 (Prod.mk 0 1)))]) (.int .i64 e8) ∧
            OCall (memoH) 9 [(.agg #[(.int .i64 V), s])] (View.mk 5 [(Prod.mk 4 (Go.Obj.cells #[(.int .i64 v), (.int .i64 t)] 26 (Prod.mk 0 0))), (Prod.mk 3 (Go.Obj.cells #[(.int .i64 V), s] 24 (Prod.mk 0 0))), (Prod.mk 2 (Go.Obj.cells (Array.mk (ints gl)) 2 (Prod.mk 0 1))), (Prod.mk 1 (Go.Obj.cells (Array.mk (ints tl)) 2 (Prod.mk 0 1))), (Prod.mk 0 (Go.Obj.cells (Array.mk (ints l)) 2 (Prod.mk 0 1)))]) (.int .i64 e8) ∧
            OBin .eql 31 (.tmp 27) (.tmp 29) (.int .i64 e8) (.int .i64 e8) (.bool true) ∧
            OCall (memoH) 10 [(.agg #[(.int .i64 V), s]), (.agg #[(.int .i64 v), (.int .i64 t)]), (.int .i64 x), tr, (.bool sure)] (View.mk 5 [(Prod.mk 4 (Go.Obj.cells #[(.int .i64 v), (.int .i64 t)] 26 (Prod.mk 0 1))), (Prod.mk 3 (Go.Obj.cells #[(.int .i64 V), s] 24 (Prod.mk 0 1))), (Prod.mk 2 (Go.Obj.cells (Array.mk (ints gl)) 2 (Prod.mk 0 1))), (Prod.mk 1 (Go.Obj.cells (Array.mk (ints tl)) 2 (Prod.mk 0 1))), (Prod.mk 0 (Go.Obj.cells (Array.mk (ints l)) 2 (Prod.mk 0 1)))]) (.int .i64 e10) ∧
            OCall (memoH) 11 [(.agg #[(.int .i64 V), s]), (.agg #[(.int .i64 v), (.int .i64 t)]), (.int .i64 x), tr, (.bool sure)] (View.mk 5 [(Prod.mk 4 (Go.Obj.cells #[(.int .i64 v), (.int .i64 t)] 26 (Prod.mk 0 0))), (Prod.mk 3 (Go.Obj.cells #[(.int .i64 V), s] 24 (Prod.mk 0 0))), (Prod.mk 2 (Go.Obj.cells (Array.mk (ints gl)) 2 (Prod.mk 0 1))), (Prod.mk 1 (Go.Obj.cells (Array.mk (ints tl)) 2 (Prod.mk 0 1))), (Prod.mk 0 (Go.Obj.cells (Array.mk (ints l)) 2 (Prod.mk 0 1)))]) (.int .i64 e10) ∧
            OBin .eql 31 (.tmp 37) (.tmp 43) (.int .i64 e10) (.int .i64 e10) (.bool true) ∧
            OCall (memoH) 12 [(.agg #[(.int .i64 V), s]), (.agg #[(.int .i64 v), (.int .i64 t)]), g] (View.mk 5 [(Prod.mk 4 (Go.Obj.cells #[(.int .i64 v), (.int .i64 t)] 26 (Prod.mk 0 1))), (Prod.mk 3 (Go.Obj.cells #[(.int .i64 V), s] 24 (Prod.mk 0 1))), (Prod.mk 2 (Go.Obj.cells (Array.mk (ints gl)) 2 (Prod.mk 0 1))), (Prod.mk 1 (Go.Obj.cells (Array.mk (ints tl)) 2 (Prod.mk 0 1))), (Prod.mk 0 (Go.Obj.cells (Array.mk (ints l)) 2 (Prod.mk 0 1)))]) (.int .i64 e12) ∧
            OCall (memoH) 13 [(.agg #[(.int .i64 V), s]), (.agg #[(.int .i64 v), (.int .i64 t)]), g] (View.mk 5 [(Prod.mk 4 (Go.Obj.cells #[(.int .i64 v), (.int .i64 t)] 26 (Prod.mk 0 0))), (Prod.mk 3 (Go.Obj.cells #[(.int .i64 V), s] 24 (Prod.mk 0 0))), (Prod.mk 2 (Go.Obj.cells (Array.mk (ints gl)) 2 (Prod.mk 0 1))), (Prod.mk 1 (Go.Obj.cells (Array.mk (ints tl)) 2 (Prod.mk 0 1))), (Prod.mk 0 (Go.Obj.cells (Array.mk (ints l)) 2 (Prod.mk 0 1)))]) (.int .i64 e12) ∧
            OBin .eql 31 (.tmp 50) (.tmp 54) (.int .i64 e12) (.int .i64 e12) (.bool true) ∧
            OCall (memoH) 7 [] (View.mk 5 [(Prod.mk 4 (Go.Obj.cells #[(.int .i64 v), (.int .i64 t)] 26 (Prod.mk 0 0))), (Prod.mk 3 (Go.Obj.cells #[(.int .i64 V), s] 24 (Prod.mk 0 0))), (Prod.mk 2 (Go.Obj.cells (Array.mk (ints gl)) 2 (Prod.mk 0 1))), (Prod.mk 1 (Go.Obj.cells (Array.mk (ints tl)) 2 (Prod.mk 0 1))), (Prod.mk 0 (Go.Obj.cells (Array.mk (ints l)) 2 (Prod.mk 0 1)))]) (.bool true) ∧
            ((Go.Value.bool true) = (Go.Value.bool true)))))) := by kernel_rfl
theorem flI3 {l tl gl : List Int} : [(ints l, (2 : TypeId)), (ints tl, 2), (ints gl, 2)].all (fun p => p.1.all (flatN 3)) = true := by simp only [List.all_cons, List.all_nil, ints_flat]; rfl
theorem all_at3 {w : World} {bs offs : Nat → Nat} {l tl gl : List Int} (h0 : RowsAt w (bs 0) (offs 0) (ints l)) (h1 : RowsAt w (bs 1) (offs 1) (ints tl)) (h2 : RowsAt w (bs 2) (offs 2) (ints gl)) : AllAt w bs offs [(ints l, 2), (ints tl, 2), (ints gl, 2)] := fun i c e h => by
  match i with
  | 0 => cases h; exact h0
  | 1 => cases h; exact h1
  | 2 => cases h; exact h2
  | i + 3 => simp at h
theorem okS_all {V v t x : Int} {s tr g : Value} {sure : Bool} {n k m cap cap' cap2 : Nat} (h : SLh 0 n cap s) (ht : SLh 1 k cap' tr) (hg : SLh 2 m cap2 g) : [yaV V s, stV v t, .int .i64 x, tr, .bool sure, g].all (okS 3) = true := by
  have e : Vm.okS 3 (yaV V s) = true := by
    have := h.ok (m := 3) (by omega)
    show ([Value.int .i64 V, s].all (okC 3)) = true
    simp only [List.all_cons, List.all_nil, this]
    rfl
  simp only [List.all_cons, List.all_nil, e, ht.okS (m := 3) (by omega), hg.okS (m := 3) (by omega)]
  rfl
theorem taint_body (V v t x : Int) (sure : Bool) (n cap cap' cap2 : Nat) (s tr g : Value) (l tl gl : List Int) (hs : SLh 0 n cap s) (hl : l.length = 4 * n) (ht : SLh 1 tl.length cap' tr) (hg : SLh 2 gl.length cap2 g) (w : World) (bs offs : Nat → Nat) (hr : RowsAt w (bs 0) (offs 0) (ints l)) (hr1 : RowsAt w (bs 1) (offs 1) (ints tl)) (hr2 : RowsAt w (bs 2) (offs 2) (ints gl)) :
    Calls TP 3 ([yaV V s, stV v t, .int .i64 x, tr, .bool sure, g].map (shiftS bs offs)).toArray w fun e w' => e = .returned (.bool true) ∧ RowKit.Below w.heap.size w w' := by
  have o7 : ∀ (V' : View) (d0 : Nat), firstId V'.objs = some d0 → OCall memoH 7 [] V' (.bool true) := fun V' d0 hd => oc_plain cok7 rfl hd rfl fam7_at
  refine run_one (call_viewsT (cs := [(ints l, 2), (ints tl, 2), (ints gl, 2)]) memoH_ok memoH_code flI3 (tab_none fun _ _ => rfl) (okS_all hs ht hg) (fun v h => by rw [h]; rfl) ((body3 V v t x (yErr V n l) (teE V n l tl v t x (tkB sure l tl v t x)) (aeE V n l gl v t) sure n s tr g l tl gl).mpr
    ⟨oc_yardF cok6 hs hl rfl rfl rfl rfl fun s' hs' => fam6_at V s' l hs' hl, fun h1 => ⟨o7 _ _ rfl, rfl⟩, fun h1 => ⟨ob_len rfl su27 ht, fun h2 => ⟨o7 _ _ rfl, rfl⟩, fun h2 => ⟨ob_len rfl su28 hg, fun h3 => ⟨o7 _ _ rfl, rfl⟩, fun h3 => ?_⟩⟩⟩) w bs offs (all_at3 hr hr1 hr2))
  have hn : n ≤ 1000 := by have := ltZ_f h1; omega
  have hn1 : tl.length ≤ 1000 := by have := ltZ_f h2; omega
  have hn2 : gl.length ≤ 1000 := by have := ltZ_f h3; omega
  have h : HY n cap s l := ⟨hs, hl, hn⟩
  have c1 : ∀ d0 : Nat, ∀ y, y ∈ [stV v t, Value.int .i64 x] → ∀ k, canS d0 k y = (y, []) := fun d0 y hv k => by simp at hv; rcases hv with rfl | rfl <;> rfl
  have c2 : ∀ d0 : Nat, ∀ y, y ∈ [Value.bool sure] → ∀ k, canS d0 k y = (y, []) := fun d0 y hv k => by simp at hv; rw [hv]; rfl
  have c3 : ∀ d0 : Nat, ∀ y, y ∈ [stV v t] → ∀ k, canS d0 k y = (y, []) := fun d0 y hv k => by simp at hv; rw [hv]; rfl
  have c4 : ∀ d0 : Nat, ∀ y, y ∈ ([] : List Value) → ∀ k, canS d0 k y = (y, []) := fun d0 y hv k => by simp at hv
  refine ⟨oc_yard cok8 hs hl hn rfl rfl rfl rfl fun s' hs' => fam8_at V s' l (h.any hs') hl, oc_yard cok9 hs hl hn rfl rfl rfl rfl fun s' hs' => fam8_at V s' l (h.any hs') hl, ob_eql (by simp),
    oc_yt (mid := [stV v t, .int .i64 x]) (post := [.bool sure]) cok10 h.i ht rfl rfl rfl rfl rfl (c1 _) (c2 _) fun s' tr' hs' ht' => fam10_at V v t x s' tr' l tl sure ⟨h.any hs', ⟨cap', ht'⟩, hn1⟩ hl,
    oc_yt (mid := [stV v t, .int .i64 x]) (post := [.bool sure]) cok11 h.i ht rfl rfl rfl rfl rfl (c1 _) (c2 _) fun s' tr' hs' ht' => fam10_at V v t x s' tr' l tl sure ⟨h.any hs', ⟨cap', ht'⟩, hn1⟩ hl, ob_eql (by simp),
    oc_yt (mid := [stV v t]) (post := []) cok12 h.i hg rfl rfl rfl rfl rfl (c3 _) (c4 _) fun s' tr' hs' ht' => fam12_at V v t s' tr' l gl ⟨h.any hs', ⟨cap2, ht'⟩, hn2⟩ hl,
    oc_yt (mid := [stV v t]) (post := []) cok13 h.i hg rfl rfl rfl rfl rfl (c3 _) (c4 _) fun s' tr' hs' ht' => fam12_at V v t s' tr' l gl ⟨h.any hs', ⟨cap2, ht'⟩, hn2⟩ hl, ob_eql (by simp), o7 _ _ rfl, rfl⟩
end Go.Vm
