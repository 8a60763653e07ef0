/- Contracts of taint's within and indexes. -/
import Derived.Test.YtpbcbjjofgnmlaaVjU1
set_option linter.unusedVariables false
namespace Go.Vm
set_option maxRecDepth 100000
set_option maxHeartbeats 4000000

def wTs (lo hi : Int) (s : Value) (n : Nat) (b : JB) : List Value := [.int .i64 lo, .int .i64 hi, s, undef, undef, undef, .bool false, undef, b.j 8, s, .int .i64 n, .int .i64 b.i, b.j 12, b.j 13, b.j 14, b.j 15, b.j 16, b.j 17, b.j 18, b.j 19, b.j 20, b.j 21, b.j 22, b.j 23]
def wInv (lo hi : Int) (s : Value) (l : List Int) : LInv := ⟨JB, wTs lo hi s l.length, [], fun _ => roV [(ints l, 2)], fun b => b.i ≤ l.length ∧ upI (fun m => lo ≤ l.getD m 0 ∧ l.getD m 0 ≤ hi) b.i, fun b => l.length - b.i⟩
def wOut (lo hi : Int) (s : Value) (l : List Int) : LoopEnd := ⟨JB, fun _ => .exit 0, wTs lo hi s l.length, [], fun _ => ⟨1001, roL 0 [(ints l, 2)]⟩, fun b => ∀ m, m < l.length → lo ≤ l.getD m 0 ∧ l.getD m 0 ≤ hi⟩
def wRet (lo hi : Int) (s : Value) (l : List Int) : LoopEnd := ⟨JB, fun _ => .ret, wTs lo hi s l.length, [], fun _ => ⟨1001, roL 0 [(ints l, 2)]⟩, fun b => ∃ m, m < l.length ∧ ¬ (lo ≤ l.getD m 0 ∧ l.getD m 0 ≤ hi)⟩
def xTs (cnt : Int) (s : Value) (n : Nat) (b : JB) : List Value := [.int .i64 cnt, s, undef, undef, .bool false, undef, b.j 6, s, .int .i64 n, .int .i64 b.i, b.j 10, b.j 11, b.j 12, b.j 13, b.j 14, b.j 15, b.j 16, b.j 17, b.j 18, b.j 19, b.j 20]
def xInv (cnt : Int) (s : Value) (l : List Int) : LInv := ⟨JB, xTs cnt s l.length, [], fun _ => roV [(ints l, 2)], fun b => b.i ≤ l.length ∧ upI (fun m => 0 ≤ l.getD m 0 ∧ l.getD m 0 < cnt) b.i, fun b => l.length - b.i⟩
def xOut (cnt : Int) (s : Value) (l : List Int) : LoopEnd := ⟨JB, fun _ => .exit 0, xTs cnt s l.length, [], fun _ => ⟨1001, roL 0 [(ints l, 2)]⟩, fun b => ∀ m, m < l.length → 0 ≤ l.getD m 0 ∧ l.getD m 0 < cnt⟩
def xRet (cnt : Int) (s : Value) (l : List Int) : LoopEnd := ⟨JB, fun _ => .ret, xTs cnt s l.length, [], fun _ => ⟨1001, roL 0 [(ints l, 2)]⟩, fun b => ∃ m, m < l.length ∧ ¬ (0 ≤ l.getD m 0 ∧ l.getD m 0 < cnt)⟩
def noF : Job → Option Out := oracle fun _ _ => none
theorem w_body (lo hi x : Int) (s : Value) (l : List Int) (M : Nat) (b : JB) : (codeT noF [0] 1 (M + 20) (.mk [(13, .pointer (some ⟨0, b.i, none⟩)), (14, .int .i64 x), (23, .int .i64 (↑(b.i + 1)))] [(12, ltZ b.i l.length), (17, ltZ x lo), (21, ltZ hi x)] [] [] []) none (bodyLp 28 0) (wTs lo hi s l.length b) [] (roV [(ints l, 2)]) (roundK (wInv lo hi s l) [0] 1 1000 b [wOut lo hi s l, wRet lo hi s l])) = (
      OBin .lss 3 (.tmp 11) (.tmp 10) (.int .i64 (↑b.i)) (.int .i64 (↑l.length)) (.bool (ltZ ↑b.i ↑l.length)) ∧
      (ltZ ↑b.i ↑l.length = true →
      OIx 28 s (.int .i64 (↑b.i)) (.pointer (Option.some (Go.Addr.mk 0 (b.i) Option.none))) ∧
        OLoad 2 (.pointer (Option.some (Go.Addr.mk 0 (b.i) Option.none))) (Option.some (Go.Obj.cells (Array.mk (ints l)) 2 (Prod.mk 0 1))) (.int .i64 x) ∧
        OBin .lss 2 (.tmp 15) (.tmp 16) (.int .i64 x) (.int .i64 lo) (.bool (ltZ x lo)) ∧
        (ltZ x lo = true →
        RoundEnd (wInv lo hi s l) b ([wOut lo hi s l, wRet lo hi s l]) Ex.ret [(.int .i64 lo), (.int .i64 hi), s, (.tuple #[]), (.tuple #[]), (.tuple #[]), (.bool false), (.tuple #[]), (.int .i64 x), s, (.int .i64 (↑l.length)), (.int .i64 (↑b.i)), (.bool true), (.pointer (Option.some (Go.Addr.mk 0 (b.i) Option.none))), (.int .i64 x), (.int .i64 x), (.int .i64 lo), (.bool true), (.bool true), (.tuple #[]), (.tuple #[]), (.tuple #[]), (.bool true), (b.j 23)] [] (View.mk 1001 [(Prod.mk 0 (Go.Obj.cells (Array.mk (ints l)) 2 (Prod.mk 0 1)))])) ∧
        (ltZ x lo = false →
        OBin .gtr 2 (.tmp 19) (.tmp 20) (.int .i64 x) (.int .i64 hi) (.bool (ltZ hi x)) ∧
          (ltZ hi x = true →
          RoundEnd (wInv lo hi s l) b ([wOut lo hi s l, wRet lo hi s l]) Ex.ret [(.int .i64 lo), (.int .i64 hi), s, (.tuple #[]), (.tuple #[]), (.tuple #[]), (.bool false), (.tuple #[]), (.int .i64 x), s, (.int .i64 (↑l.length)), (.int .i64 (↑b.i)), (.bool true), (.pointer (Option.some (Go.Addr.mk 0 (b.i) Option.none))), (.int .i64 x), (.int .i64 x), (.int .i64 lo), (.bool false), (.bool false), (.int .i64 x), (.int .i64 hi), (.bool true), (.bool true), (b.j 23)] [] (View.mk 1001 [(Prod.mk 0 (Go.Obj.cells (Array.mk (ints l)) 2 (Prod.mk 0 1)))])) ∧
          (ltZ hi x = false →
          OBin .add 3 (.tmp 11) (.const (.int .i64 (1))) (.int .i64 (↑b.i)) (.int .i64 (1)) (.int .i64 (↑(b.i + 1))) ∧
            RoundEnd (wInv lo hi s l) b ([wOut lo hi s l, wRet lo hi s l]) Ex.normal [(.int .i64 lo), (.int .i64 hi), (scrubV 1 s), (.tuple #[]), (.tuple #[]), (.tuple #[]), (.bool false), (.tuple #[]), (.int .i64 x), (scrubV 1 s), (.int .i64 (↑l.length)), (.int .i64 (↑(b.i + 1))), (.bool true), (.pointer (Option.some (Go.Addr.mk 0 (b.i) Option.none))), (.int .i64 x), (.int .i64 x), (.int .i64 lo), (.bool false), (.bool false), (.int .i64 x), (.int .i64 hi), (.bool false), (.bool false), (.int .i64 (↑(b.i + 1)))] [] (View.mk 1 [(Prod.mk 0 (Go.Obj.cells (Array.mk (ints l)) 2 (Prod.mk 0 1)))])))) ∧
      (ltZ ↑b.i ↑l.length = false →
      RoundEnd (wInv lo hi s l) b ([wOut lo hi s l, wRet lo hi s l]) (Ex.exit 0) [(.int .i64 lo), (.int .i64 hi), s, (.tuple #[]), (.tuple #[]), (.tuple #[]), (.bool false), (.tuple #[]), (b.j 8), s, (.int .i64 (↑l.length)), (.int .i64 (↑b.i)), (.bool false), (b.j 13), (b.j 14), (b.j 15), (b.j 16), (b.j 17), (b.j 18), (b.j 19), (b.j 20), (b.j 21), (b.j 22), (b.j 23)] [] (View.mk 1001 [(Prod.mk 0 (Go.Obj.cells (Array.mk (ints l)) 2 (Prod.mk 0 1)))]))) := by kernel_rfl
theorem w_run (lo hi : Int) (s : Value) (l : List Int) (r : Bool) : (callT noF [0] 1 (.mk [(10, .int .i64 l.length)] [] [] [] [wOut lo hi s l, wRet lo hi s l]) 2000 28 [.int .i64 lo, .int .i64 hi, s] (roV [(ints l, 2)]) (fun v => v = .bool r)) = (
      OLen #[28] 3 [s] (.int .i64 (↑l.length)) ∧
      LoopRT (noF) [0] 1 1996 Option.none (loopOf 28 0) [(.int .i64 lo), (.int .i64 hi), s, (.tuple #[]), (.tuple #[]), (.tuple #[]), (.bool false), (.tuple #[]), (.tuple #[]), s, (.int .i64 (↑l.length)), (.int .i64 (0)), (.tuple #[]), (.tuple #[]), (.tuple #[]), (.tuple #[]), (.tuple #[]), (.tuple #[]), (.tuple #[]), (.tuple #[]), (.tuple #[]), (.tuple #[]), (.tuple #[]), (.tuple #[])] [] (View.mk 1 [(Prod.mk 0 (Go.Obj.cells (Array.mk (ints l)) 2 (Prod.mk 0 1)))]) ([wOut lo hi s l, wRet lo hi s l]) ∧
      (∀ z0 : (wOut lo hi s l).α,
      ((wOut lo hi s l).P z0 →
        ((Go.Value.bool true) = (Go.Value.bool r)))) ∧
      (∀ z0 : (wRet lo hi s l).α,
      ((wRet lo hi s l).P z0 →
        ((Go.Value.bool false) = (Go.Value.bool r)))) ∧
      True) := by kernel_rfl
theorem x_body (cnt x : Int) (s : Value) (l : List Int) (M : Nat) (b : JB) : (codeT noF [0] 1 (M + 20) (.mk [(11, .pointer (some ⟨0, b.i, none⟩)), (12, .int .i64 x), (20, .int .i64 (↑(b.i + 1)))] [(10, ltZ b.i l.length), (14, ltZ x 0), (18, leZ cnt x)] [] [] []) none (bodyLp 32 0) (xTs cnt s l.length b) [] (roV [(ints l, 2)]) (roundK (xInv cnt s l) [0] 1 1000 b [xOut cnt s l, xRet cnt s l])) = (
      OBin .lss 3 (.tmp 9) (.tmp 8) (.int .i64 (↑b.i)) (.int .i64 (↑l.length)) (.bool (ltZ ↑b.i ↑l.length)) ∧
      (ltZ ↑b.i ↑l.length = true →
      OIx 27 s (.int .i64 (↑b.i)) (.pointer (Option.some (Go.Addr.mk 0 (b.i) Option.none))) ∧
        OLoad 3 (.pointer (Option.some (Go.Addr.mk 0 (b.i) Option.none))) (Option.some (Go.Obj.cells (Array.mk (ints l)) 2 (Prod.mk 0 1))) (.int .i64 x) ∧
        OBin .lss 3 (.tmp 13) (.const (.int .i64 (0))) (.int .i64 x) (.int .i64 (0)) (.bool (ltZ x 0)) ∧
        (ltZ x 0 = true →
        RoundEnd (xInv cnt s l) b ([xOut cnt s l, xRet cnt s l]) Ex.ret [(.int .i64 cnt), s, (.tuple #[]), (.tuple #[]), (.bool false), (.tuple #[]), (.int .i64 x), s, (.int .i64 (↑l.length)), (.int .i64 (↑b.i)), (.bool true), (.pointer (Option.some (Go.Addr.mk 0 (b.i) Option.none))), (.int .i64 x), (.int .i64 x), (.bool true), (.bool true), (.tuple #[]), (.tuple #[]), (.tuple #[]), (.bool true), (b.j 20)] [] (View.mk 1001 [(Prod.mk 0 (Go.Obj.cells (Array.mk (ints l)) 2 (Prod.mk 0 1)))])) ∧
        (ltZ x 0 = false →
        OBin .geq 3 (.tmp 16) (.tmp 17) (.int .i64 x) (.int .i64 cnt) (.bool (leZ cnt x)) ∧
          (leZ cnt x = true →
          RoundEnd (xInv cnt s l) b ([xOut cnt s l, xRet cnt s l]) Ex.ret [(.int .i64 cnt), s, (.tuple #[]), (.tuple #[]), (.bool false), (.tuple #[]), (.int .i64 x), s, (.int .i64 (↑l.length)), (.int .i64 (↑b.i)), (.bool true), (.pointer (Option.some (Go.Addr.mk 0 (b.i) Option.none))), (.int .i64 x), (.int .i64 x), (.bool false), (.bool false), (.int .i64 x), (.int .i64 cnt), (.bool true), (.bool true), (b.j 20)] [] (View.mk 1001 [(Prod.mk 0 (Go.Obj.cells (Array.mk (ints l)) 2 (Prod.mk 0 1)))])) ∧
          (leZ cnt x = false →
          OBin .add 3 (.tmp 9) (.const (.int .i64 (1))) (.int .i64 (↑b.i)) (.int .i64 (1)) (.int .i64 (↑(b.i + 1))) ∧
            RoundEnd (xInv cnt s l) b ([xOut cnt s l, xRet cnt s l]) Ex.normal [(.int .i64 cnt), (scrubV 1 s), (.tuple #[]), (.tuple #[]), (.bool false), (.tuple #[]), (.int .i64 x), (scrubV 1 s), (.int .i64 (↑l.length)), (.int .i64 (↑(b.i + 1))), (.bool true), (.pointer (Option.some (Go.Addr.mk 0 (b.i) Option.none))), (.int .i64 x), (.int .i64 x), (.bool false), (.bool false), (.int .i64 x), (.int .i64 cnt), (.bool false), (.bool false), (.int .i64 (↑(b.i + 1)))] [] (View.mk 1 [(Prod.mk 0 (Go.Obj.cells (Array.mk (ints l)) 2 (Prod.mk 0 1)))])))) ∧
      (ltZ ↑b.i ↑l.length = false →
      RoundEnd (xInv cnt s l) b ([xOut cnt s l, xRet cnt s l]) (Ex.exit 0) [(.int .i64 cnt), s, (.tuple #[]), (.tuple #[]), (.bool false), (.tuple #[]), (b.j 6), s, (.int .i64 (↑l.length)), (.int .i64 (↑b.i)), (.bool false), (b.j 11), (b.j 12), (b.j 13), (b.j 14), (b.j 15), (b.j 16), (b.j 17), (b.j 18), (b.j 19), (b.j 20)] [] (View.mk 1001 [(Prod.mk 0 (Go.Obj.cells (Array.mk (ints l)) 2 (Prod.mk 0 1)))]))) := by kernel_rfl
theorem x_run (cnt : Int) (s : Value) (l : List Int) (r : Bool) : (callT noF [0] 1 (.mk [(8, .int .i64 l.length)] [] [] [] [xOut cnt s l, xRet cnt s l]) 2000 32 [.int .i64 cnt, s] (roV [(ints l, 2)]) (fun v => v = .bool r)) = (
      OLen #[27] 3 [s] (.int .i64 (↑l.length)) ∧
      LoopRT (noF) [0] 1 1996 Option.none (loopOf 32 0) [(.int .i64 cnt), s, (.tuple #[]), (.tuple #[]), (.bool false), (.tuple #[]), (.tuple #[]), s, (.int .i64 (↑l.length)), (.int .i64 (0)), (.tuple #[]), (.tuple #[]), (.tuple #[]), (.tuple #[]), (.tuple #[]), (.tuple #[]), (.tuple #[]), (.tuple #[]), (.tuple #[]), (.tuple #[]), (.tuple #[])] [] (View.mk 1 [(Prod.mk 0 (Go.Obj.cells (Array.mk (ints l)) 2 (Prod.mk 0 1)))]) ([xOut cnt s l, xRet cnt s l]) ∧
      (∀ z0 : (xOut cnt s l).α,
      ((xOut cnt s l).P z0 →
        ((Go.Value.bool true) = (Go.Value.bool r)))) ∧
      (∀ z0 : (xRet cnt s l).α,
      ((xRet cnt s l).P z0 →
        ((Go.Value.bool false) = (Go.Value.bool r)))) ∧
      True) := by kernel_rfl

theorem noF_ok : SelfOK TP noF := oracle_ok fun f args v h => by cases h
theorem noF_code : ∀ ar c ts df V, noF (.code ar c ts df V) = none := fun _ _ _ _ _ => rfl
theorem su28 : TP.underlying 28 = some (.slice 2) := by kernel_rfl
theorem su27 : TP.underlying 27 = some (.slice 3) := by kernel_rfl
theorem si2 : (TP.info? 2).map (·.size) = some 1 := by kernel_rfl
theorem si3 : (TP.info? 3).map (·.size) = some 1 := by kernel_rfl
theorem ag2 : aggB TP 2 = some false := by kernel_rfl
theorem ag3 : aggB TP 3 = some false := by kernel_rfl
theorem clean_one {l : List Int} {e : TypeId} : Clean 1 (roL 0 [(ints l, e)]) := fun b o h => by
  obtain ⟨j, c, e', h1, h2, rfl⟩ := find_roL _ _ _ _ h
  have : j = 0 := by have := (List.getElem?_eq_some_iff.1 h2).1; simpa using this
  subst this
  cases h2
  exact ⟨by omega, clean_ro⟩
theorem w_loop (lo hi : Int) (s : Value) (l : List Int) (cap : Nat) (hs : SLh 0 l.length cap s) (hn : l.length ≤ 1000) : ∀ (M : Nat) (b : JB), (wInv lo hi s l).P b → (wInv lo hi s l).μ b + 20 < M →
    LoopRT noF [0] 1 M none (.loop (bodyLp 28 0)) (wTs lo hi s l.length b) [] (roV [(ints l, 2)]) [wOut lo hi s l, wRet lo hi s l] := by
  refine loop_ruleT noF_code (wInv lo hi s l) _ (N0 := 20) (n := 1) (w := 1000) (by kernel_rfl) (by kernel_rfl) (fun b _ => ⟨rfl, clean_one⟩) ?_
  intro M b ⟨hb1, hb2⟩
  have hsc := hs.scrub (k := 1) (by omega)
  refine ⟨_, (w_body lo hi (l.getD b.i 0) s l M b).mpr ⟨ob_lss rfl, fun h => ?_, fun h => ?_⟩⟩
  · have hlt : b.i < l.length := by have := ltZ_t h; omega
    refine ⟨ob_ixS hs su28 si2 hlt (by omega), ob_loadI ag2 hlt rfl, ob_lss rfl, fun h1 => ?_, fun h1 => ⟨ob_gtr rfl, fun h2 => ?_, fun h2 => ⟨ob_add64 (by omega) (by omega) (by omega), ?_⟩⟩⟩
    · exact .outL (by simp) (wRet lo hi s l) (by simp) (fun ts => ⟨b.i, lget ts⟩) ⟨b.i, hlt, fun h => by have := ltZ_t h1; omega⟩ rfl rfl rfl rfl
    · exact .outL (by simp) (wRet lo hi s l) (by simp) (fun ts => ⟨b.i, lget ts⟩) ⟨b.i, hlt, fun h => by have := ltZ_t h2; omega⟩ rfl rfl rfl rfl
    · rw [hsc]
      exact .againL (fun ts => ⟨b.i + 1, lget ts⟩) ⟨hlt, upI_next hb2 (by have := ltZ_f h1; have := ltZ_f h2; omega)⟩ (show l.length - (b.i + 1) < l.length - b.i by omega) rfl rfl rfl
  · have hlt : ¬ b.i < l.length := by have := ltZ_f h; omega
    exact .outL (by simp) (wOut lo hi s l) (by simp) (fun ts => ⟨b.i, lget ts⟩) (fun m hm => hb2 m (by omega)) rfl rfl rfl rfl
theorem mem_getD {l : List Int} {x : Int} (h : x ∈ l) : ∃ m, m < l.length ∧ l.getD m 0 = x := by
  obtain ⟨m, hm, e⟩ := List.mem_iff_getElem.1 h
  exact ⟨m, hm, by rw [List.getD_eq_getElem?_getD, List.getElem?_eq_getElem hm]; exact e⟩
theorem getD_mem {l : List Int} {m : Nat} (h : m < l.length) : l.getD m 0 ∈ l := by
  rw [List.getD_eq_getElem?_getD, List.getElem?_eq_getElem h]
  exact List.getElem_mem h
theorem allB_of {Q : Int → Prop} {l : List Int} (h : ∀ m, m < l.length → Q (l.getD m 0)) : allB Q l = true := allB_true fun x hx => by
  obtain ⟨m, hm, rfl⟩ := mem_getD hx
  exact h m hm
theorem allB_not {Q : Int → Prop} {l : List Int} (h : ∃ m, m < l.length ∧ ¬ Q (l.getD m 0)) : allB Q l = false := by
  obtain ⟨m, hm, hq⟩ := h
  exact allB_false (getD_mem hm) hq
theorem all_at {w : World} {bs offs : Nat → Nat} {l : List Int} (hr : RowsAt w (bs 0) (offs 0) (ints l)) : AllAt w bs offs [(ints l, 2)] := fun i c e h => by
  have : i = 0 := by have := (List.getElem?_eq_some_iff.1 h).1; simpa using this
  subst this
  cases h
  exact hr
theorem within_any (lo hi : Int) (s : Value) (l : List Int) (cap : Nat) (hs : SLh 0 l.length cap s) (hn : l.length ≤ 1000) (w : World) (bs offs : Nat → Nat) (hr : RowsAt w (bs 0) (offs 0) (ints l)) :
    Calls TP 28 ([.int .i64 lo, .int .i64 hi, s].map (shiftS bs offs)).toArray w fun e w' => e = .returned (.bool (allB (fun x => lo ≤ x ∧ x ≤ hi) l)) ∧ RowKit.Below w.heap.size w w' := by
  have hc : callT noF [0] 1 (.mk [(10, .int .i64 l.length)] [] [] [] [wOut lo hi s l, wRet lo hi s l]) 2000 28 [.int .i64 lo, .int .i64 hi, s] (roV [(ints l, 2)]) (fun v => v = .bool (allB (fun x => lo ≤ x ∧ x ≤ hi) l)) := by
    rw [w_run]
    refine ⟨ob_len rfl su28 hs, ?_, fun z hz => ?_, fun z hz => ?_, trivial⟩
    · exact w_loop lo hi s l cap hs hn 1996 ⟨0, fun _ => undef⟩ ⟨by simp, upI_zero⟩ (show l.length - 0 + 20 < 1996 by omega)
    · rw [allB_of (Q := fun x => lo ≤ x ∧ x ≤ hi) hz]
    · rw [allB_not (Q := fun x => lo ≤ x ∧ x ≤ hi) hz]
  have hos : okS 1 s = true := hs.okS (by omega)
  exact run_one (call_viewsT noF_ok noF_code (by simp only [List.all_cons, List.all_nil, ints_flat]; rfl) rfl (by simp only [List.all_cons, List.all_nil, List.length_cons, List.length_nil, hos]; rfl) (fun v h => by rw [h]; rfl) hc w bs offs (all_at hr))
theorem x_loop (cnt : Int) (s : Value) (l : List Int) (cap : Nat) (hs : SLh 0 l.length cap s) (hn : l.length ≤ 1000) : ∀ (M : Nat) (b : JB), (xInv cnt s l).P b → (xInv cnt s l).μ b + 20 < M →
    LoopRT noF [0] 1 M none (.loop (bodyLp 32 0)) (xTs cnt s l.length b) [] (roV [(ints l, 2)]) [xOut cnt s l, xRet cnt s l] := by
  refine loop_ruleT noF_code (xInv cnt s l) _ (N0 := 20) (n := 1) (w := 1000) (by kernel_rfl) (by kernel_rfl) (fun b _ => ⟨rfl, clean_one⟩) ?_
  intro M b ⟨hb1, hb2⟩
  have hsc := hs.scrub (k := 1) (by omega)
  refine ⟨_, (x_body cnt (l.getD b.i 0) s l M b).mpr ⟨ob_lss rfl, fun h => ?_, fun h => ?_⟩⟩
  · have hlt : b.i < l.length := by have := ltZ_t h; omega
    refine ⟨ob_ixS hs su27 si3 hlt (by omega), ob_loadI ag3 hlt rfl, ob_lss rfl, fun h1 => ?_, fun h1 => ⟨ob_geq rfl, fun h2 => ?_, fun h2 => ⟨ob_add64 (by omega) (by omega) (by omega), ?_⟩⟩⟩
    · exact .outL (by simp) (xRet cnt s l) (by simp) (fun ts => ⟨b.i, lget ts⟩) ⟨b.i, hlt, fun h => by have := ltZ_t h1; omega⟩ rfl rfl rfl rfl
    · exact .outL (by simp) (xRet cnt s l) (by simp) (fun ts => ⟨b.i, lget ts⟩) ⟨b.i, hlt, fun h => by have := leZ_t h2; omega⟩ rfl rfl rfl rfl
    · rw [hsc]
      exact .againL (fun ts => ⟨b.i + 1, lget ts⟩) ⟨hlt, upI_next hb2 (by have := ltZ_f h1; have := leZ_f h2; omega)⟩ (show l.length - (b.i + 1) < l.length - b.i by omega) rfl rfl rfl
  · have hlt : ¬ b.i < l.length := by have := ltZ_f h; omega
    exact .outL (by simp) (xOut cnt s l) (by simp) (fun ts => ⟨b.i, lget ts⟩) (fun m hm => hb2 m (by omega)) rfl rfl rfl rfl
theorem indexes_any (cnt : Int) (s : Value) (l : List Int) (cap : Nat) (hs : SLh 0 l.length cap s) (hn : l.length ≤ 1000) (w : World) (bs offs : Nat → Nat) (hr : RowsAt w (bs 0) (offs 0) (ints l)) :
    Calls TP 32 ([.int .i64 cnt, s].map (shiftS bs offs)).toArray w fun e w' => e = .returned (.bool (allB (fun x => 0 ≤ x ∧ x < cnt) l)) ∧ RowKit.Below w.heap.size w w' := by
  have hc : callT noF [0] 1 (.mk [(8, .int .i64 l.length)] [] [] [] [xOut cnt s l, xRet cnt s l]) 2000 32 [.int .i64 cnt, s] (roV [(ints l, 2)]) (fun v => v = .bool (allB (fun x => 0 ≤ x ∧ x < cnt) l)) := by
    rw [x_run]
    refine ⟨ob_len rfl su27 hs, ?_, fun z hz => ?_, fun z hz => ?_, trivial⟩
    · exact x_loop cnt s l cap hs hn 1996 ⟨0, fun _ => undef⟩ ⟨by simp, upI_zero⟩ (show l.length - 0 + 20 < 1996 by omega)
    · rw [allB_of (Q := fun x => 0 ≤ x ∧ x < cnt) hz]
    · rw [allB_not (Q := fun x => 0 ≤ x ∧ x < cnt) hz]
  have hos : okS 1 s = true := hs.okS (by omega)
  exact run_one (call_viewsT noF_ok noF_code (by simp only [List.all_cons, List.all_nil, ints_flat]; rfl) rfl (by simp only [List.all_cons, List.all_nil, List.length_cons, List.length_nil, hos]; rfl) (fun v h => by rw [h]; rfl) hc w bs offs (all_at hr))
end Go.Vm
