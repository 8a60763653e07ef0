/- What the statement's body calls. -/
import Derived.Test.YtpbcbjjofgnmlaaVjU12
import Derived.Test.YtpbcbjjofgnmlaaVjTwz
set_option linter.unusedVariables false
namespace Go.Vm
set_option maxRecDepth 100000
set_option maxHeartbeats 8000000
structure DE where
theorem run_le {f : FuncId} {args : Array Value} {w : World} {v v' : Value} (he : v = v') (h : Calls TP f args w fun e w' => e = .returned v ∧ RowKit.Below w.heap.size w w') : Calls TP f args w fun e w' => e = .returned v' ∧ RowKit.Below w.heap.size w w' := he ▸ h
noncomputable def fam7 : Fam := fam (δ := DE) (fun _ => []) (fun _ => []) (fun _ => True) fun _ => .bool true
theorem fam7_ok : FamOK 7 fam7 := fam_ok fun d _ => ⟨rfl, rfl, fun w bs offs _ => taint_works w⟩
theorem fam7_at : fam7 [] [] = some (.bool true) := fam_at (δ := DE) (d := ⟨⟩) (fun _ _ _ _ => rfl) trivial
noncomputable def fam10 : Fam := fam (δ := DT) (fun d => [yaV d.V d.s, stV d.v d.t, .int .i64 d.x, d.tr, .bool d.sure]) (fun d => [ints d.l, ints d.tl]) (fun d => YT d.s d.tr d.l d.tl) fun d => .int .i64 (teE d.V (nOf d.l) d.l d.tl d.v d.t d.x (tkB d.sure d.l d.tl d.v d.t d.x))
theorem fam10_ok : FamOK 10 fam10 := fam_ok fun d ⟨⟨n, cap, h, hl, hn⟩, ⟨cap', ht⟩, hk⟩ => ⟨flI22, rfl, fun w bs offs hr => by
  rw [nOf_eq hl, ← te_eq]
  cases hs : d.sure with
  | true => exact check10_true d.V d.v d.t d.x n cap cap' d.s d.tr d.l d.tl ⟨h, hl, hn⟩ ht hk w bs offs (hr 0 _ rfl) (hr 1 _ rfl)
  | false => exact check10_false d.V d.v d.t d.x n cap cap' d.s d.tr d.l d.tl ⟨h, hl, hn⟩ ht hk w bs offs (hr 0 _ rfl) (hr 1 _ rfl)⟩
theorem fam11_ok : FamOK 11 fam10 := fam_ok fun d ⟨⟨n, cap, h, hl, hn⟩, ⟨cap', ht⟩, hk⟩ => ⟨flI22, rfl, fun w bs offs hr => by
  rw [nOf_eq hl]
  cases hs : d.sure with
  | true => exact check11_true d.V d.v d.t d.x n cap cap' d.s d.tr d.l d.tl ⟨h, hl, hn⟩ ht hk w bs offs (hr 0 _ rfl) (hr 1 _ rfl)
  | false => exact check11_false d.V d.v d.t d.x n cap cap' d.s d.tr d.l d.tl ⟨h, hl, hn⟩ ht hk w bs offs (hr 0 _ rfl) (hr 1 _ rfl)⟩
theorem fam10_at (V v t x : Int) (s tr : Value) (l tl : List Int) (sure : Bool) {n : Nat} (h : YT s tr l tl) (hn : l.length = 4 * n) : fam10 [yaV V s, stV v t, .int .i64 x, tr, .bool sure] [ints l, ints tl] = some (.int .i64 (teE V n l tl v t x (tkB sure l tl v t x))) := by
  rw [← nOf_eq hn]
  exact fam_at (δ := DT) (d := ⟨V, v, t, x, s, tr, l, tl, sure⟩) (fun d d' h1 h2 => by
    simp only [List.cons.injEq, and_true] at h2
    simp at h1
    obtain ⟨⟨e1, _⟩, ⟨e2, e3⟩, e4, _, e5⟩ := h1
    rw [e1, e2, e3, e4, e5, ints_inj h2.1, ints_inj h2.2]) h
noncomputable def fam12 : Fam := fam (δ := DT) (fun d => [yaV d.V d.s, stV d.v d.t, d.tr]) (fun d => [ints d.l, ints d.tl]) (fun d => YT d.s d.tr d.l d.tl) fun d => .int .i64 (aeE d.V (nOf d.l) d.l d.tl d.v d.t)
theorem fam12_ok : FamOK 12 fam12 := fam_ok fun d ⟨⟨n, cap, h, hl, hn⟩, ⟨cap', ht⟩, hk⟩ => ⟨flI22, rfl, fun w bs offs hr => by
  rw [nOf_eq hl]
  exact check12 d.V d.v d.t n cap cap' d.s d.tr d.l d.tl ⟨h, hl, hn⟩ ht hk w bs offs (hr 0 _ rfl) (hr 1 _ rfl)⟩
theorem fam13_ok : FamOK 13 fam12 := fam_ok fun d ⟨⟨n, cap, h, hl, hn⟩, ⟨cap', ht⟩, hk⟩ => ⟨flI22, rfl, fun w bs offs hr => by
  rw [nOf_eq hl]
  exact check13 d.V d.v d.t n cap cap' d.s d.tr d.l d.tl ⟨h, hl, hn⟩ ht hk w bs offs (hr 0 _ rfl) (hr 1 _ rfl)⟩
theorem fam12_at (V v t : Int) (s tr : Value) (l tl : List Int) {n : Nat} (h : YT s tr l tl) (hn : l.length = 4 * n) : fam12 [yaV V s, stV v t, tr] [ints l, ints tl] = some (.int .i64 (aeE V n l tl v t)) := by
  rw [← nOf_eq hn]
  exact fam_at (δ := DT) (d := ⟨V, v, t, 0, s, tr, l, tl, true⟩) (fun d d' h1 h2 => by
    simp only [List.cons.injEq, and_true] at h2
    simp at h1
    obtain ⟨⟨e1, _⟩, ⟨e2, e3⟩, _⟩ := h1
    rw [e1, e2, e3, ints_inj h2.1, ints_inj h2.2]) h
theorem oc_yardF {tbl : List (FuncId × Fam)} {g : FuncId} {V0 : Int} {s : Value} {l : List Int} {rest : List Value} {V : View} {d0 i n cap : Nat} {t : TypeId} {fz : Nat × Nat} {v : Value} (hok : callOk TP g = true) (hs : SLh i n cap s) (hl : l.length = 4 * n)
    (hf : find V.objs i = some (.cells ⟨ints l⟩ t fz)) (hd : firstId V.objs = some d0) (hrest : rest.all okKS = true) (hcan : canA d0 1 rest = (rest, [])) (hF : ∀ s', SLh 0 n cap s' → tabF tbl g (yaV V0 s' :: rest) [ints l] = some v) : OCall (oracleS (tabF tbl)) g (yaV V0 s :: rest) V v := by
  obtain ⟨s', p, h1, h2, h3⟩ := hs.can (d := d0) (k := 0)
  have hcl : cellsAll V [p] = some [ints l] := by
    rcases h3 with rfl | ⟨rfl, h0⟩
    · simp only [cellsAll, hf]
    · have : l = [] := by rw [h0] at hl; exact List.length_eq_zero_iff.1 (by omega)
      subst this
      rfl
  refine oc_tab (args0 := yaV V0 s' :: rest) (bl := [p]) hok ?_ hd ?_ hcl (hF s' h2)
  · have := hs.okK
    show (([Value.int .i64 V0, s].all okK) && rest.all okKS) = true
    simp only [List.all_cons, List.all_nil, this, hrest]
    rfl
  · have e1 : canL d0 0 [Value.int .i64 V0, s] = ([.int .i64 V0, s'], [p]) := by
      unfold canL
      rw [show canC d0 0 (Value.int .i64 V0) = (.int .i64 V0, []) from rfl]
      dsimp only
      unfold canL
      rw [show 0 + ([] : List (Nat × Bool)).length = 0 from rfl, h1]
      rfl
    have e : canS d0 0 (yaV V0 s) = (yaV V0 s', [p]) := by
      show (match canL d0 0 [Value.int .i64 V0, s] with | (r, l) => (Value.agg ⟨r⟩, l)) = _
      rw [e1]
    simp only [canA, e, List.length_cons, List.length_nil, Nat.zero_add, hcan]
    rfl

theorem okS_yF {V : Int} {s : Value} {n cap m : Nat} (h : SLh 0 n cap s) : [yaV V s].all (okS (m + 1)) = true := by
  have := h.ok (m := m + 1) (by omega)
  show ([Value.int .i64 V, s].all (okC (m + 1)) && true) = true
  simp only [List.all_cons, List.all_nil, this]
  rfl
theorem all_at1 {w : World} {bs offs : Nat → Nat} {l : List Int} (h0 : RowsAt w (bs 0) (offs 0) (ints l)) : AllAt w bs offs [(ints l, 2)] := fun i c e h => by
  match i with
  | 0 => cases h; exact h0
  | i + 1 => simp at h

theorem run6 (V : Int) (n : Nat) (s : Value) (l : List Int) (r : Bool) : (callT memoC [0, 1] 1 (.mk [(5, .int .i64 n), (6, autoV)] [] [] [] []) 1000 6 [yaV V s] (roV [(ints l, 2)]) (fun v => v = .bool r)) = (
      OLen #[22] 3 [s] (.int .i64 (↑n)) ∧
      (ltZ 50 ↑n = true →
      ((Go.Value.bool true) = (Go.Value.bool r))) ∧
      (ltZ 50 ↑n = false →
      ((Go.Value.bool false) = (Go.Value.bool r)))) := by kernel_rfl
theorem great6 (V : Int) (n cap : Nat) (s : Value) (l : List Int) (hs : SLh 0 n cap s) (w : World) (bs offs : Nat → Nat) (hr : RowsAt w (bs 0) (offs 0) (ints l)) :
    Calls TP 6 ([yaV V s].map (shiftS bs offs)).toArray w fun e w' => e = .returned (.bool (ltZ 50 n)) ∧ RowKit.Below w.heap.size w w' :=
  run_one (call_viewsT (cs := [(ints l, 2)]) memoC_ok memoC_code flI' (tab_none fun _ _ => rfl) (okS_yF hs) (fun v h => by rw [h]; rfl) ((run6 V n s l (ltZ 50 n)).mpr
    ⟨ob_len rfl su22 hs, fun h1 => by rw [h1], fun h1 => by rw [h1]⟩) w bs offs (all_at1 hr))
noncomputable def fam6 : Fam := fam (δ := DY) (fun d => [yaV d.V d.s]) (fun d => [ints d.l]) (fun d => ∃ n cap, SLh 0 n cap d.s ∧ d.l.length = 4 * n) fun d => .bool (ltZ 50 (nOf d.l))
theorem fam6_ok : FamOK 6 fam6 := fam_ok fun d ⟨n, cap, h, hl⟩ => ⟨flI, rfl, fun w bs offs hr => by rw [nOf_eq hl]; exact great6 d.V n cap d.s d.l h w bs offs (hr 0 _ rfl)⟩
theorem fam6_at (V : Int) (s : Value) (l : List Int) {n cap : Nat} (h : SLh 0 n cap s) (hn : l.length = 4 * n) : fam6 [yaV V s] [ints l] = some (.bool (ltZ 50 n)) := by
  rw [← nOf_eq hn]
  exact fam_at (δ := DY) (d := ⟨V, 0, 0, s, l⟩) (fun d d' h1 h2 => by
    simp only [List.cons.injEq, and_true] at h2
    rw [ints_inj h2]) ⟨n, cap, h, hn⟩
noncomputable def tH : List (FuncId × Fam) := (6, fam6) :: (7, fam7) :: (10, fam10) :: (11, fam10) :: (12, fam12) :: (13, fam12) :: tC
noncomputable def memoH : Job → Option Out := oracleS (tabF tH)
theorem tH_ok : ∀ p, p ∈ tH → FamOK p.1 p.2 := cons_ok fam6_ok (cons_ok fam7_ok (cons_ok fam10_ok (cons_ok fam11_ok (cons_ok fam12_ok (cons_ok fam13_ok tC_ok)))))
theorem memoH_ok : SelfOK TP memoH := tab_ok tH_ok
theorem memoH_code : ∀ ar c ts df V, memoH (.code ar c ts df V) = none := fun _ _ _ _ _ => rfl
theorem cok7 : callOk TP 7 = true := by kernel_rfl
theorem cok10 : callOk TP 10 = true := by kernel_rfl
theorem cok11 : callOk TP 11 = true := by kernel_rfl
theorem cok12 : callOk TP 12 = true := by kernel_rfl
theorem cok13 : callOk TP 13 = true := by kernel_rfl
theorem cok6 : callOk TP 6 = true := by kernel_rfl
end Go.Vm
