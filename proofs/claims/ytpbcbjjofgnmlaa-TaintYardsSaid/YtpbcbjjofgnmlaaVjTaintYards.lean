/- For every world and all arguments the call of TaintYards returns true and leaves all old memory as it was. No condition. -/
import Derived.Test.YtpbcbjjofgnmlaaRows
import Derived.WalkKit
import Derived.ProofKit
import Derived.OpenShut
import Derived.Carry
import Derived.Lib.SmallJoins
import Derived.HandedShaped
import Derived.Test.YtpbcbjjofgnmlaaVjU15
namespace Go.Proofs.Ytpbcbjjofgnmlaa.taintYards
open Go.ChangeShapes Go.WideShapes Go.ChangeAt Go.RowKit Go.Joins
set_option linter.unusedVariables false      -- a walk need not use every 'w<i>' (that an integer argument fits its kind)

theorem own : ownKnob Try.prog.godebug = none := by kernel_rfl
theorem str24 : Try.prog.underlying 24 = some (.struct #[(Try.prog.fieldsOf 24)[0]!, (Try.prog.fieldsOf 24)[1]!]) := by kernel_rfl
theorem cel24 : Try.prog.cellsOf 24 = 2 := by kernel_rfl
theorem ct24 : Try.prog.cellTypes Try.prog.depth 24 = some [3, 22] := by kernel_rfl
theorem str26 : Try.prog.underlying 26 = some (.struct #[(Try.prog.fieldsOf 26)[0]!, (Try.prog.fieldsOf 26)[1]!]) := by kernel_rfl
theorem cel26 : Try.prog.cellsOf 26 = 2 := by kernel_rfl
theorem int3 : Try.prog.underlying 3 = some (.int .i64) := by kernel_rfl
theorem int2 : Try.prog.underlying 2 = some (.int .i64) := by kernel_rfl
theorem sl22 : Try.prog.underlying 22 = some (.slice 54) := by kernel_rfl
theorem sl27 : Try.prog.underlying 27 = some (.slice 3) := by kernel_rfl
theorem sl28 : Try.prog.underlying 28 = some (.slice 2) := by kernel_rfl

/-! ### THE ROW's STEP: WRITTEN OUT: LEAVE IT -/
set_option maxRecDepth 100000 in
theorem lifted (os : Os) (started : os.Started) (H : Type) (enc : TypeId × Value → H) :
    ReturnsInHanded {} Try.checked os 3 .any (Rows.taintYardsSpec.pre6 enc Try.prog Try.f3 Rows.taintYardsRow.domain false) (Rows.taintYardsSpec.post enc Try.prog Try.f3 false true false false) := by
  refine returnsInHanded_of_change_shaped (C := Try.checked) own started (by kernel_rfl) Try.func3
    (ChangeSpec.witness6 (enc := enc) (C := Try.checked) false ⟨#[], #[.agg #[.int .i64 0, .slice none 0 0], .agg #[.int .i64 0, .int .i64 0], .int .i64 0, .slice none 0 0, .bool false, .slice none 0 0], []⟩ 8 (by kernel_rfl) (by kernel_rfl) (by kernel_rfl) (by kernel_rfl)) ?_
  intro W base args ds gs before hval0 hW hcnd _ hshape _
  have hpos := Go.Vm.heap_pos hshape
  have hval : ∀ (j : Nat) t v, Try.f3.params[j]? = some t → args[j]? = some v → Value.okWide Try.prog W .any base t v := hval0
  have hW' := hW
  obtain ⟨p, q, hA0, hV, rfl, hfz, hnd⟩ := hW
  have hA : DataW.TrodAll enc Try.prog W 0 (fun _ => true) true Try.f3.params.toList args.toList ds p := hA0
  rw [Try.params3] at hA hval
  obtain ⟨v0, vs0, d0, ds0, p0, q0, hargs, rfl, rfl, h0, r0⟩ := trodAll_cons hA
  obtain ⟨v1, vs1, d1, ds1, p1, q1, rfl, rfl, rfl, h1, r1⟩ := trodAll_cons r0
  obtain ⟨v2, vs2, d2, ds2, p2, q2, rfl, rfl, rfl, h2, r2⟩ := trodAll_cons r1
  obtain ⟨v3, vs3, d3, ds3, p3, q3, rfl, rfl, rfl, h3, r3⟩ := trodAll_cons r2
  obtain ⟨v4, vs4, d4, ds4, p4, q4, rfl, rfl, rfl, h4, r4⟩ := trodAll_cons r3
  obtain ⟨v5, vs5, d5, ds5, p5, q5, rfl, rfl, rfl, h5, r5⟩ := trodAll_cons r4
  obtain ⟨rfl, rfl, rfl⟩ := trodAll_nil r5
  obtain rfl : args = #[v0, v1, v2, v3, v4, v5] := by cases args; simp_all
  obtain ⟨rfl, rfl⟩ := trodVars_none hV
  obtain ⟨a0, a1, y0, y1, m, rfl, hd0, hp0, hy0, hy1⟩ := open_agg2 str24 (by kernel_rfl) cel24 (hval 0 24 v0 rfl rfl) h0
  obtain ⟨b0, b1, x0, x1, m1, rfl, hd1, hp1, hx0, hx1⟩ := open_agg2 str26 (by kernel_rfl) cel26 (hval 1 26 v1 rfl rfl) h1
  obtain ⟨x, rfl, rfl, rfl, w2⟩ := open_int int3 (hval 2 3 v2 rfl rfl) h2
  obtain ⟨sure, rfl, rfl, rfl⟩ := open_bool Try.underlying4 (hval 4 4 v4 rfl rfl) h4
  have t0 : ((Try.prog.fieldsOf 24)[0]!).type = 3 := by kernel_rfl
  have t1 : ((Try.prog.fieldsOf 24)[1]!).type = 22 := by kernel_rfl
  have s0 : ((Try.prog.fieldsOf 26)[0]!).type = 3 := by kernel_rfl
  have s1 : ((Try.prog.fieldsOf 26)[1]!).type = 2 := by kernel_rfl
  rw [t0] at hy0
  rw [t1] at hy1
  rw [s0] at hx0
  rw [s1] at hx1
  obtain ⟨V, e0, _, _⟩ := DataW.trod_int int3 hy0
  obtain ⟨v, e1, _, _⟩ := DataW.trod_int int3 hx0
  obtain ⟨t, e2, _, _⟩ := DataW.trod_int int2 hx1
  simp at e0 e1 e2
  subst e0 e1 e2
  have okm : Cell.okWide Try.prog W .any base 22 a1 := by
    have h := hval 0 24 _ rfl rfl
    obtain ⟨cs, e, _, ts, h1, _, h2⟩ := (show ∃ cs, Value.agg #[.int .i64 V, a1] = .agg cs ∧ cs.size = Try.prog.cellsOf 24 ∧ Row.okWide Try.prog W .any base 24 cs by
      unfold Value.okWide at h
      rw [str24] at h
      exact h)
    cases e
    rw [ct24] at h1
    cases h1
    obtain ⟨u, hu, hc⟩ := h2 1 a1 rfl
    cases hu
    exact hc
  obtain ⟨o0, n0, c0, rfl⟩ := okWide_slice sl22 (Go.Vm.okv sl22 okm)
  obtain ⟨o1, n1, c1, rfl⟩ := okWide_slice sl27 (hval 3 27 v3 rfl rfl)
  obtain ⟨o2, n2, c2, rfl⟩ := okWide_slice sl28 (hval 5 28 v5 rfl rfl)
  obtain ⟨f1, g1⟩ := h3
  obtain ⟨f2, g2⟩ := h5
  obtain ⟨k0, of0, s, l, hs, hl, hr, hsh⟩ := Go.Vm.slice_open (i := 0) sl22 Go.Vm.cel54 (Nat.zero_lt_succ _) Go.Vm.each_move hpos okm hy1
  obtain ⟨k1, of1, tr, tl, ht, hl1, hr1, hsh1⟩ := Go.Vm.slice_open (i := 1) sl27 Go.Vm.cel3 (Nat.zero_lt_succ _) (Go.Vm.each_int int3) hpos (Go.Vm.okc sl27 (hval 3 27 _ rfl rfl)) g1
  obtain ⟨k2, of2, g, gl, hg2, hl2, hr2, hsh2⟩ := Go.Vm.slice_open (i := 2) sl28 Go.Vm.cel2 (Nat.zero_lt_succ _) (Go.Vm.each_int int2) hpos (Go.Vm.okc sl28 (hval 5 28 _ rfl rfl)) g2
  rw [Nat.one_mul] at hl1 hl2
  subst hl1 hl2
  clear hA0 hval0
  simp only [List.append_nil] at hW'
  have hrun : Calls Try.prog 3 #[.agg #[.int .i64 V, .slice o0 n0 c0], .agg #[.int .i64 v, .int .i64 t], .int .i64 x, .slice o1 tl.length c1, .bool sure, .slice o2 gl.length c2] W fun e w' => e = .returned (.bool true) ∧ Below W.heap.size W w' := by
    have h := Go.Vm.taint_body V v t x sure n0 c0 c1 c2 s tr g l tl gl hs hl ht hg2 W (fun i => match i with | 0 => k0 | 1 => k1 | _ => k2) (fun i => match i with | 0 => of0 | 1 => of1 | _ => of2) hr hr1 hr2
    have e0 := hsh (fun i => match i with | 0 => k0 | 1 => k1 | _ => k2) (fun i => match i with | 0 => of0 | 1 => of1 | _ => of2) rfl rfl
    have e1 := hsh1 (fun i => match i with | 0 => k0 | 1 => k1 | _ => k2) (fun i => match i with | 0 => of0 | 1 => of1 | _ => of2) rfl rfl
    have e2 := hsh2 (fun i => match i with | 0 => k0 | 1 => k1 | _ => k2) (fun i => match i with | 0 => of0 | 1 => of1 | _ => of2) rfl rfl
    have q1 : Go.Vm.shiftS (fun i => match i with | 0 => k0 | 1 => k1 | _ => k2) (fun i => match i with | 0 => of0 | 1 => of1 | _ => of2) tr = .slice o1 tl.length c1 := by
      rcases ht with ⟨rfl, _⟩ | ⟨rfl, _⟩ <;> exact e1
    have q2 : Go.Vm.shiftS (fun i => match i with | 0 => k0 | 1 => k1 | _ => k2) (fun i => match i with | 0 => of0 | 1 => of1 | _ => of2) g = .slice o2 gl.length c2 := by
      rcases hg2 with ⟨rfl, _⟩ | ⟨rfl, _⟩ <;> exact e2
    have q0 : Go.Vm.shiftS (fun i => match i with | 0 => k0 | 1 => k1 | _ => k2) (fun i => match i with | 0 => of0 | 1 => of1 | _ => of2) (Go.Vm.yaV V s) = .agg #[.int .i64 V, .slice o0 n0 c0] := by
      show Value.agg ⟨[Value.int .i64 V, s].map (Go.Vm.shiftC _ _)⟩ = _
      simp only [List.map_cons, List.map_nil, e0]
      rfl
    simp only [List.map_cons, List.map_nil, q0, q1, q2] at h
    exact h
  have hlow := hW'.lt
  refine hrun.mono fun e W' ⟨he, hg⟩ => ?_
  subst he
  have hl : laidOutB Try.prog = true := by kernel_rfl
  have hr24 : Try.prog.readableRec 24 = true := by kernel_rfl
  have hr26 : Try.prog.readableRec 26 = true := by kernel_rfl
  have hr27 : Try.prog.readableRec 27 = true := by kernel_rfl
  have hr28 : Try.prog.readableRec 28 = true := by kernel_rfl
  have hs24 : 24 < Try.prog.types.size := of_decide_eq_true (by kernel_rfl)
  have hs26 : 26 < Try.prog.types.size := of_decide_eq_true (by kernel_rfl)
  have hs27 : 27 < Try.prog.types.size := of_decide_eq_true (by kernel_rfl)
  have hs28 : 28 < Try.prog.types.size := of_decide_eq_true (by kernel_rfl)
  exact ⟨_, rfl, Go.Vm.post_below (pv := []) hW' hg (by simp)
    (fun sp hsp => trodAll_cons_mk (WideElems.Trod_stays (P := Try.prog) hl hr24 hs24 h0 (fun x hx => hg.same (hlow x (by simp [hx]))) (fun x hx => hsp x (by simp [hx])))
      (trodAll_cons_mk (WideElems.Trod_stays (P := Try.prog) hl hr26 hs26 h1 (fun x hx => hg.same (hlow x (by simp [hx]))) (fun x hx => hsp x (by simp [hx])))
      (trodAll_cons_mk (shut_int int3 w2)
      (trodAll_cons_mk (WideElems.Trod_stays (P := Try.prog) hl hr27 hs27 ⟨f1, g1⟩ (fun x hx => hg.same (hlow x (by simp [hx]))) (fun x hx => hsp x (by simp [hx])))
      (trodAll_cons_mk (shut_bool Try.underlying4 _)
      (trodAll_cons_mk (WideElems.Trod_stays (P := Try.prog) hl hr28 hs28 ⟨f2, g2⟩ (fun x hx => hg.same (hlow x (by simp [hx]))) (fun x hx => hsp x (by simp [hx]))) trodAll_mk0))))))
    (fun _ _ => rfl) (fun _ _ _ => trodAll_cons_mk (shut_bool Try.underlying4 _) trodAll_mk0) (ok_one (by kernel_rfl) rfl (okWide_bool_mk Try.underlying4 _))⟩

theorem over : Rows.taintYardsRow.holds Try.pinned (OpenSpec.ofChange Rows.taintYardsSpec) :=
  OpenClaim.holds_of_wide 3 Try.f3 rfl rfl rfl rfl rfl rfl rfl ⟨rfl, rfl, rfl, rfl, rfl⟩ rfl rfl rfl rfl rfl (by kernel_rfl) Try.func3 (by kernel_rfl)
    (of_decide_eq_true (by kernel_rfl)) (by unfold Func.isWrapper; first | (rw [if_pos (by decide +kernel)]; kernel_rfl) | (rw [if_neg (by decide +kernel)]; exact ⟨rfl, rfl⟩))
    (fun os started H enc _ => lifted os started H enc)

/-- the given statement -/
theorem proved : Rows.TaintYardsSaid :=
  over
end Go.Proofs.Ytpbcbjjofgnmlaa.taintYards
