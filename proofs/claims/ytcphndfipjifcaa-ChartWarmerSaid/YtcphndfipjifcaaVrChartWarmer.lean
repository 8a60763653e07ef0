/- For every world and all arguments the call of ChartWarmer returns true and leaves all old memory as it was. No condition. -/
import Derived.Test.YtcphndfipjifcaaRows
import Derived.WalkKit
import Derived.ProofKit
import Derived.OpenShut
import Derived.Test.YtcphndfipjifcaaVrWm
import Derived.Test.YtcphndfipjifcaaVrWa
import Derived.Test.YtcphndfipjifcaaVrCd1z
namespace Go.Vm
set_option maxHeartbeats 0 in
set_option maxRecDepth 100000 in
/-- the works function of charts answers true: computed, with both of its long calls told in parts -/
theorem chart_works (w : World) : Calls Go.Proofs.Try.prog 15 #[] w fun e w' => e = .returned (.bool true) ∧ RowKit.Below w.heap.size w w' :=
  closedG (memo := memoOf [cd1k, cd0k]) cd1kok (memoOf_code _) (N := 20000) (v := .bool true) rfl (by decide +kernel) w
end Go.Vm
namespace Go.Proofs.Ytcphndfipjifcaa.chartWarmer
open Go.ChangeShapes Go.WideShapes Go.ChangeAt Go.RowKit
set_option linter.unusedVariables false      -- a walk need not use every 'w<i>' (that an integer argument fits its kind)

theorem own : ownKnob Try.prog.godebug = none := by kernel_rfl

theorem bd32 {n : Int} (h : (Lit.int .u32 n).wf = true) : 0 ≤ n ∧ n ≤ 4294967295 := by simp [Lit.wf, IntKind.min, IntKind.max, IntKind.signed, IntKind.bits] at h; omega
theorem bd16 {n : Int} (h : (Lit.int .u16 n).wf = true) : 0 ≤ n ∧ n ≤ 65535 := by simp [Lit.wf, IntKind.min, IntKind.max, IntKind.signed, IntKind.bits] at h; omega
theorem bd8 {n : Int} (h : (Lit.int .u8 n).wf = true) : 0 ≤ n ∧ n ≤ 255 := by simp [Lit.wf, IntKind.min, IntKind.max, IntKind.signed, IntKind.bits] at h; omega

set_option maxRecDepth 100000 in
open Go.Vm in
/-- the call, whatever its arguments are -/
theorem walk (L M a0 a1 b0 b1 c0 c1 c2 c3 d0 d1 : Int) (hL : 0 ≤ L ∧ L ≤ 4294967295) (hM : 0 ≤ M ∧ M ≤ 4294967295) (ha0 : 0 ≤ a0 ∧ a0 ≤ 65535) (ha1 : 0 ≤ a1 ∧ a1 ≤ 65535) (hb0 : 0 ≤ b0 ∧ b0 ≤ 65535) (hb1 : 0 ≤ b1 ∧ b1 ≤ 65535)
    (hc0 : 0 ≤ c0 ∧ c0 ≤ 255) (hc1 : 0 ≤ c1 ∧ c1 ≤ 255) (hc2 : 0 ≤ c2 ∧ c2 ≤ 255) (hc3 : 0 ≤ c3 ∧ c3 ≤ 255) (hd0 : 0 ≤ d0 ∧ d0 ≤ 65535) (hd1 : 0 ≤ d1 ∧ d1 ≤ 65535) (w : World) :
    Calls Try.prog 3 #[.int .u32 L, .int .u32 M, .agg #[.int .u16 a0, .int .u16 a1], .agg #[.int .u16 b0, .int .u16 b1], .agg #[.int .u8 c0, .int .u8 c1, .int .u8 c2, .int .u8 c3], .agg #[.int .u16 d0, .int .u16 d1]] w fun e w' => e = .returned (.bool true) ∧ Below w.heap.size w w' := by
  obtain ⟨adv, h⟩ := warm_core L M a0 a1 b0 b1 c0 c1 c2 c3 d0 d1 hL hM ha0 ha1 hb0 hb1 hc0 hc1 hc2 hc3 hd0 hd1
  refine (call_sym (wmF_ok chart_works) (oracle_code _) rfl rfl (fun v h => by rw [h]; rfl) h w).mono ?_
  rintro e w' ⟨⟨v, rfl, rfl⟩, hb⟩
  exact ⟨rfl, hb⟩

theorem ar24 : Try.prog.underlying 24 = some (.array 2 23) := by kernel_rfl
theorem ar25 : Try.prog.underlying 25 = some (.array 4 5) := by kernel_rfl
theorem in22 : Try.prog.underlying 22 = some (.int .u32) := by kernel_rfl
theorem in23 : Try.prog.underlying 23 = some (.int .u16) := by kernel_rfl
theorem in5 : Try.prog.underlying 5 = some (.int .u8) := by kernel_rfl
theorem ce23 : Try.prog.cellsOf 23 = 1 := by kernel_rfl
theorem ce5 : Try.prog.cellsOf 5 = 1 := by kernel_rfl
theorem ce24 : Try.prog.cellsOf 24 = 2 := by kernel_rfl
theorem ce25 : Try.prog.cellsOf 25 = 4 := by kernel_rfl

/-! ### THE ROW's STEP: WRITTEN OUT: LEAVE IT -/
set_option maxRecDepth 100000 in
theorem lifted (os : Os) (started : os.Started) (H : Type) (enc : TypeId × Value → H) :
    ReturnsInHanded {} Try.checked os 3 .any (Rows.chartWarmerSpec.pre6 enc Try.prog Try.f3 Rows.chartWarmerRow.domain false) (Rows.chartWarmerSpec.post enc Try.prog Try.f3 false true false false) := by
  refine returnsInHanded_of_change (C := Try.checked) own started (by kernel_rfl) Try.func3
    (ChangeSpec.witness6 (enc := enc) (C := Try.checked) false ⟨#[], #[.int .u32 0, .int .u32 0, .agg #[.int .u16 0, .int .u16 0], .agg #[.int .u16 0, .int .u16 0], .agg #[.int .u8 0, .int .u8 0, .int .u8 0, .int .u8 0], .agg #[.int .u16 0, .int .u16 0]], []⟩ 8 (by kernel_rfl) (by kernel_rfl) (by kernel_rfl) (by kernel_rfl)) ?_
  intro W base args ds gs before hval0 hW hcnd _
  have hval : ∀ (j : Nat) t v, Try.f3.params[j]? = some t → args[j]? = some v → Value.okWide Try.prog W .any base t v := hval0
  have hW' := hW
  obtain ⟨p, q, hA0, hV, rfl, hfz, hnd⟩ := hW
  have hA : DataW.TrodAll enc Try.prog W 0 (fun _ => true) true Try.f3.params.toList args.toList ds p := hA0
  rw [Try.params3] at hA hval
  obtain ⟨v0, vs0, d0, ds0, p0, q0, hargs, rfl, rfl, h0, r0⟩ := trodAll_cons hA
  obtain ⟨v1, vs1, d1, ds1, p1, q1, rfl, rfl, rfl, h1, r1⟩ := trodAll_cons r0
  obtain ⟨v2, vs2, d2, ds2, p2, q2, rfl, rfl, rfl, h2, r2⟩ := trodAll_cons r1
  obtain ⟨v3, vs3, d3, ds3, p3, q3, rfl, rfl, rfl, h3, r3⟩ := trodAll_cons r2
  obtain ⟨v4, vs4, d4, ds4, p4, q4, rfl, rfl, rfl, h4, r4⟩ := trodAll_cons r3
  obtain ⟨v5, vs5, d5, ds5, p5, q5, rfl, rfl, rfl, h5, r5⟩ := trodAll_cons r4
  obtain ⟨rfl, rfl, rfl⟩ := trodAll_nil r5
  obtain rfl : args = #[v0, v1, v2, v3, v4, v5] := by cases args; simp_all
  obtain ⟨rfl, rfl⟩ := trodVars_none hV
  obtain ⟨L, rfl, rfl, rfl, w0⟩ := open_int in22 (hval 0 22 v0 rfl rfl) h0
  obtain ⟨M, rfl, rfl, rfl, w1⟩ := open_int in22 (hval 1 22 v1 rfl rfl) h1
  obtain ⟨a0, a1, rfl, rfl, rfl, w2, w3⟩ := Go.Vm.open_arr2 ar24 in23 ce23 ce24 (hval 2 24 v2 rfl rfl) h2
  obtain ⟨b0, b1, rfl, rfl, rfl, w4, w5⟩ := Go.Vm.open_arr2 ar24 in23 ce23 ce24 (hval 3 24 v3 rfl rfl) h3
  obtain ⟨c0, c1, c2, c3, rfl, rfl, rfl, w6, w7, w8, w9⟩ := Go.Vm.open_arr4 ar25 in5 ce5 ce25 (hval 4 25 v4 rfl rfl) h4
  obtain ⟨e0, e1, rfl, rfl, rfl, w10, w11⟩ := Go.Vm.open_arr2 ar24 in23 ce23 ce24 (hval 5 24 v5 rfl rfl) h5
  clear hA0 hval0
  simp only [List.append_nil] at hW'
  refine (walk L M a0 a1 b0 b1 c0 c1 c2 c3 e0 e1 (bd32 w0) (bd32 w1) (bd16 w2) (bd16 w3) (bd16 w4) (bd16 w5) (bd8 w6) (bd8 w7) (bd8 w8) (bd8 w9) (bd16 w10) (bd16 w11) W).mono fun e W' ⟨he, hg⟩ => ?_
  subst he
  exact ⟨_, rfl, Go.Vm.post_below (pa := []) (pv := []) hW' hg rfl
    (fun sp _ => trodAll_cons_mk (shut_int in22 w0) (trodAll_cons_mk (shut_int in22 w1) (trodAll_cons_mk (Go.Vm.shut_arr2 ar24 in23 ce23 ce24 w2 w3) (trodAll_cons_mk (Go.Vm.shut_arr2 ar24 in23 ce23 ce24 w4 w5) (trodAll_cons_mk (Go.Vm.shut_arr4 ar25 in5 ce5 ce25 w6 w7 w8 w9) (trodAll_cons_mk (Go.Vm.shut_arr2 ar24 in23 ce23 ce24 w10 w11) trodAll_mk0))))))
    (fun _ _ => rfl) (fun _ _ _ => trodAll_cons_mk (shut_bool Try.underlying4 _) trodAll_mk0) (ok_one (by kernel_rfl) rfl (okWide_bool_mk Try.underlying4 _))⟩

theorem over : Rows.chartWarmerRow.holds Try.pinned (OpenSpec.ofChange Rows.chartWarmerSpec) :=
  OpenClaim.holds_of_wide 3 Try.f3 rfl rfl rfl rfl rfl rfl rfl ⟨rfl, rfl, rfl, rfl, rfl⟩ rfl rfl rfl rfl rfl (by kernel_rfl) Try.func3 (by kernel_rfl)
    (of_decide_eq_true (by kernel_rfl)) (by unfold Func.isWrapper; first | (rw [if_pos (by decide +kernel)]; kernel_rfl) | (rw [if_neg (by decide +kernel)]; exact ⟨rfl, rfl⟩))
    (fun os started H enc _ => lifted os started H enc)

/-- the given statement -/
theorem proved : Rows.ChartWarmerSaid :=
  over
end Go.Proofs.Ytcphndfipjifcaa.chartWarmer
