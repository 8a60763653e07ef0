/- For every world and all arguments the call of StockCans returns true and leaves all old memory as it was. No condition. -/
import Derived.Test.YtcphndfipjifcaaRows
import Derived.WalkKit
import Derived.ProofKit
import Derived.OpenShut
import Derived.Carry
import Derived.Lib.SmallJoins
import Derived.Test.YtcphndfipjifcaaVrSy
import Derived.Test.YtcphndfipjifcaaVrSw
import Derived.Test.YtcphndfipjifcaaVrWa
namespace Go.Vm
open Go.ChangeShapes Go.WideShapes Go.RowKit
set_option maxRecDepth 100000
theorem str71 : TP.underlying 71 = some (.struct #[(TP.fieldsOf 71)[0]!, (TP.fieldsOf 71)[1]!]) := by kernel_rfl
theorem in2 : TP.underlying 2 = some (.int .i64) := by kernel_rfl
theorem cel71 : TP.cellsOf 71 = 2 := by kernel_rfl
theorem cel2 : TP.cellsOf 2 = 1 := by kernel_rfl
section
variable {H : Type} {enc : TypeId × Value → H}
theorem add_add (a : Addr) (i j : Nat) : (a.add i).add j = a.add (i + j) := by
  unfold Addr.add
  by_cases h1 : i = 0
  · subst h1; simp
  · by_cases h2 : j = 0
    · subst h2; simp
    · simp [h1, h2, Nat.add_assoc]
/-- one can, read -/
theorem open_can {w : World} {base fuel : Nat} {spare : Nat → Bool} {held : Bool} {cs : List Value} {y : DataW H × List MemPlace} (h : DataW.trod enc TP w base spare held fuel 71 cs = some y) : ∃ p : Int × Int, cs = [.int .i64 p.1, .int .i64 p.2] := by
  have hl0 : cs.length = 2 := by
    obtain ⟨_, _, _, _, hl, _⟩ := trod_struct2 str71 h
    rw [hl, cel71]
  obtain ⟨c0, c1, rfl⟩ : ∃ a b, cs = [a, b] := by
    match cs, hl0 with
    | [a, b], _ => exact ⟨a, b, rfl⟩
  obtain ⟨y0, y1, n, _, _, h0, h1⟩ := trod_struct2 str71 h
  have t0 : ((TP.fieldsOf 71)[0]!).type = 2 := by kernel_rfl
  have t1 : ((TP.fieldsOf 71)[1]!).type = 2 := by kernel_rfl
  have f0 : ((TP.fieldsOf 71)[0]!).offset = 0 := by kernel_rfl
  have f1 : ((TP.fieldsOf 71)[1]!).offset = 1 := by kernel_rfl
  rw [t0, f0, cel2] at h0
  rw [t1, f1, cel2] at h1
  obtain ⟨a, ha, _, _⟩ := DataW.trod_int in2 h0
  obtain ⟨b, hb, _, _⟩ := DataW.trod_int in2 h1
  simp at ha hb
  subst ha hb
  exact ⟨(a, b), rfl⟩
/-- a slice of cans, read -/
theorem open_cans {w : World} {spare : Nat → Bool} {held : Bool} {fuel len cap : Nat} {o : Option Addr} {y : DataW H × List MemPlace} (h : DataW.trod enc TP w 0 spare held fuel 65 [.slice o len cap] = some y) :
    (len ≤ cap ∧ cap < big) ∧ (len = 0 ∨ ∃ (b off : Nat) (l : List (Int × Int)), o = some ⟨b, off, none⟩ ∧ l.length = len ∧ RowsAt w b off (cells l)) := by
  cases fuel with
  | zero => simp [DataW.trod] at h
  | succ m =>
    unfold DataW.trod at h
    rw [su65] at h
    cases o with
    | none =>
      split at h <;> simp_all
      unfold big; omega
    | some a =>
      simp only at h
      split at h
      · rename_i hc
        obtain ⟨_, h1, h2⟩ := hc
        refine ⟨⟨by omega, by unfold Go.maxLen at h2; unfold big; omega⟩, ?_⟩
        rcases Nat.eq_zero_or_pos len with h0 | h0
        · exact .inl h0
        · refine .inr ?_
          rw [Option.bind_eq_some_iff] at h
          obtain ⟨elems, he, _⟩ := h
          have hlen : elems.length = len := by have := mapM_some_length he; simpa using this
          have each : ∀ i, i < len → ∃ p : Int × Int, w.cell? (a.add (2 * i)) = some (.int .i64 p.1) ∧ w.cell? (a.add (2 * i + 1)) = some (.int .i64 p.2) := by
            intro i hi
            have h3 := mapM_some_get he i i (by simp [hi])
            have h4 : ∃ y, elems[i]? = some y := ⟨elems[i]'(by omega), List.getElem?_eq_getElem (by omega)⟩
            obtain ⟨y, hy⟩ := h4
            rw [hy, Option.bind_eq_some_iff] at h3
            obtain ⟨cs, h5, h6⟩ := h3
            obtain ⟨p, rfl⟩ := open_can h6
            rw [cel71] at h5
            unfold World.cells? at h5
            split at h5
            · have g0 := mapM_some_get h5 0 0 rfl
              have g1 := mapM_some_get h5 1 1 rfl
              simp only [add_add, Nat.add_zero, List.getElem?_cons_zero, List.getElem?_cons_succ] at g0 g1
              rw [Nat.mul_comm] at g0 g1
              exact ⟨p, g0, g1⟩
            · cases h5
          have hs : a.spot = none := by
            obtain ⟨p, hp, _⟩ := each 0 h0
            simp only [Nat.mul_zero] at hp
            have ha0 : a.add 0 = a := by simp [Addr.add]
            rw [ha0] at hp
            unfold World.cell? at hp
            split at hp
            · cases hq : a.spot with
              | none => rfl
              | some z => rw [hq] at hp; simp at hp
            · cases hp
          obtain ⟨b, off, spot⟩ := a
          simp only at hs
          subst hs
          have addr : ∀ k, (⟨b, off, none⟩ : Addr).add k = ⟨b, off + k, none⟩ := fun k => by
            unfold Addr.add
            split
            · rename_i hk; subst hk; rfl
            · rfl
          simp only [addr] at each
          have hex : ∃ l : List (Int × Int), l.length = len ∧ ∀ i p, l[i]? = some p → w.cell? ⟨b, off + 2 * i, none⟩ = some (.int .i64 p.1) ∧ w.cell? ⟨b, off + (2 * i + 1), none⟩ = some (.int .i64 p.2) := by
            have : ∀ n, n ≤ len → ∃ l : List (Int × Int), l.length = n ∧ ∀ i p, l[i]? = some p → w.cell? ⟨b, off + 2 * i, none⟩ = some (.int .i64 p.1) ∧ w.cell? ⟨b, off + (2 * i + 1), none⟩ = some (.int .i64 p.2) := by
              intro n
              induction n with
              | zero => intro _; exact ⟨[], rfl, fun i p h => by simp at h⟩
              | succ n ih =>
                intro hn
                obtain ⟨l, hl, hg⟩ := ih (by omega)
                obtain ⟨p, hp⟩ := each n (by omega)
                refine ⟨l ++ [p], by simp [hl], fun i q hq => ?_⟩
                rw [List.getElem?_append] at hq
                split at hq
                · exact hg i q hq
                · rename_i hni
                  have : i = n := by
                    have := (List.getElem?_eq_some_iff.1 hq).1
                    simp at this; omega
                  subst this
                  rw [hl, Nat.sub_self] at hq
                  simp at hq
                  subst hq
                  exact hp
            exact this len (Nat.le_refl _)
          obtain ⟨l, hl, hg⟩ := hex
          refine ⟨b, off, l, rfl, hl, ?_, fun m v hm => ?_⟩
          · obtain ⟨p, hp, _⟩ := each 0 h0
            unfold World.cell? at hp
            split at hp
            · rename_i hb2
              exact (Array.getElem?_eq_some_iff.1 hb2).1
            · cases hp
          · have hlt : m < (cells l).length := (List.getElem?_eq_some_iff.1 hm).1
            have hcl : ∀ l : List (Int × Int), (cells l).length = 2 * l.length := by
              intro l
              induction l with
              | nil => rfl
              | cons q l ih => rw [cells_cons]; simp [ih]; omega
            rw [hcl] at hlt
            obtain ⟨p, hp⟩ : ∃ p, l[m / 2]? = some p := ⟨l[m / 2]'(by omega), List.getElem?_eq_getElem (by omega)⟩
            rcases Nat.mod_two_eq_zero_or_one m with h2 | h2
            · have e : m = 2 * (m / 2) := by omega
              rw [e, cells_fst hp] at hm
              cases hm
              rw [e]
              exact (hg _ _ hp).1
            · have e : m = 2 * (m / 2) + 1 := by omega
              rw [e, cells_snd hp] at hm
              cases hm
              rw [e]
              exact (hg _ _ hp).2
      · cases h
end
end Go.Vm
namespace Go.Proofs.Ytcphndfipjifcaa.stockCans
open Go.ChangeShapes Go.WideShapes Go.ChangeAt Go.RowKit Go.Joins
set_option linter.unusedVariables false      -- a walk need not use every 'w<i>' (that an integer argument fits its kind)

theorem own : ownKnob Try.prog.godebug = none := by kernel_rfl
theorem ar69 : Try.prog.underlying 69 = some (.array 2 5) := by kernel_rfl
theorem in22 : Try.prog.underlying 22 = some (.int .u32) := by kernel_rfl
theorem in5 : Try.prog.underlying 5 = some (.int .u8) := by kernel_rfl
theorem ce5 : Try.prog.cellsOf 5 = 1 := by kernel_rfl
theorem ce69 : Try.prog.cellsOf 69 = 2 := by kernel_rfl
theorem bd32 {n : Int} (h : (Lit.int .u32 n).wf = true) : 0 ≤ n ∧ n ≤ 4294967295 := by simp [Lit.wf, IntKind.min, IntKind.max, IntKind.signed, IntKind.bits] at h; omega
theorem bd8 {n : Int} (h : (Lit.int .u8 n).wf = true) : 0 ≤ n ∧ n ≤ 255 := by simp [Lit.wf, IntKind.min, IntKind.max, IntKind.signed, IntKind.bits] at h; omega

set_option maxRecDepth 100000 in
theorem lifted (os : Os) (started : os.Started) (H : Type) (enc : TypeId × Value → H) :
    ReturnsInHanded {} Try.checked os 7 .any (Rows.stockCansSpec.pre6 enc Try.prog Try.f7 Rows.stockCansRow.domain false) (Rows.stockCansSpec.post enc Try.prog Try.f7 false true false false) := by
  refine returnsInHanded_of_change (C := Try.checked) own started (by kernel_rfl) Try.func7
    (ChangeSpec.witness6 (enc := enc) (C := Try.checked) false ⟨#[], #[.slice none 0 0, .int .u32 0, .int .u32 0, .agg #[.int .u8 0, .int .u8 0], .agg #[.int .u8 0, .int .u8 0]], []⟩ 8 (by kernel_rfl) (by kernel_rfl) (by kernel_rfl) (by kernel_rfl)) ?_
  intro W base args ds gs before hval0 hW hcnd _
  have hval : ∀ (j : Nat) t v, Try.f7.params[j]? = some t → args[j]? = some v → Value.okWide Try.prog W .any base t v := hval0
  have hW' := hW
  obtain ⟨p, q, hA0, hV, rfl, hfz, hnd⟩ := hW
  have hA : DataW.TrodAll enc Try.prog W 0 (fun _ => true) true Try.f7.params.toList args.toList ds p := hA0
  rw [Try.params7] at hA hval
  obtain ⟨v0, vs0, d0, ds0, p0, q0, hargs, rfl, rfl, h0, r0⟩ := trodAll_cons hA
  obtain ⟨v1, vs1, d1, ds1, p1, q1, rfl, rfl, rfl, h1, r1⟩ := trodAll_cons r0
  obtain ⟨v2, vs2, d2, ds2, p2, q2, rfl, rfl, rfl, h2, r2⟩ := trodAll_cons r1
  obtain ⟨v3, vs3, d3, ds3, p3, q3, rfl, rfl, rfl, h3, r3⟩ := trodAll_cons r2
  obtain ⟨v4, vs4, d4, ds4, p4, q4, rfl, rfl, rfl, h4, r4⟩ := trodAll_cons r3
  obtain ⟨rfl, rfl, rfl⟩ := trodAll_nil r4
  obtain rfl : args = #[v0, v1, v2, v3, v4] := by cases args; simp_all
  obtain ⟨rfl, rfl⟩ := trodVars_none hV
  obtain ⟨o, len, cap, rfl⟩ := okWide_slice Go.Vm.su65 (hval 0 65 v0 rfl rfl)
  have hcans : (len ≤ cap ∧ cap < Go.Vm.big) ∧ (len = 0 ∨ ∃ (b off : Nat) (l : List (Int × Int)), o = some ⟨b, off, none⟩ ∧ l.length = len ∧ Go.Vm.RowsAt W b off (Go.Vm.cells l)) := by
    obtain ⟨fuel, hf⟩ := h0
    exact Go.Vm.open_cans hf
  obtain ⟨sh, rfl, rfl, rfl, w1⟩ := open_int in22 (hval 1 22 v1 rfl rfl) h1
  obtain ⟨mo, rfl, rfl, rfl, w2⟩ := open_int in22 (hval 2 22 v2 rfl rfl) h2
  obtain ⟨o0, o1, rfl, rfl, rfl, w3, w4⟩ := Go.Vm.open_arr2 ar69 in5 ce5 ce69 (hval 3 69 v3 rfl rfl) h3
  obtain ⟨x0, x1, rfl, rfl, rfl, w5, w6⟩ := Go.Vm.open_arr2 ar69 in5 ce5 ce69 (hval 4 69 v4 rfl rfl) h4
  clear hA0 hval0
  simp only [List.append_nil] at hW'
  have N : Go.Vm.Nums sh mo o0 o1 x0 x1 (sh % 100001) (min 100000 (sh % 100001 + mo)) (o0 % 201) (o0 % 201 - 100) (min 100 (o0 % 201 - 100 + o1)) (max (-100) (o0 % 201 - 100 - x0)) (min 100 (min 100 (o0 % 201 - 100 + o1) + x1)) :=
    ⟨bd32 w1, bd32 w2, bd8 w3, bd8 w4, bd8 w5, bd8 w6, rfl, rfl, rfl, rfl, rfl, rfl, rfl⟩
  have hrun : Calls Try.prog 7 #[.slice o len cap, .int .u32 sh, .int .u32 mo, .agg #[.int .u8 o0, .int .u8 o1], .agg #[.int .u8 x0, .int .u8 x1]] W fun e w' => e = .returned (.bool true) ∧ Below W.heap.size W w' := by
    obtain ⟨⟨hlc, hcap⟩, hz | ⟨b, off, l, rfl, rfl, hr⟩⟩ := hcans
    · subst hz
      exact Go.Vm.cans_none N Go.Vm.stock_works o cap hcap W
    · rcases Nat.eq_zero_or_pos l.length with hz | hz
      · rw [hz]
        exact Go.Vm.cans_none N Go.Vm.stock_works _ cap hcap W
      · by_cases hbig : 20 < l.length
        · exact Go.Vm.cans_many Go.Vm.stock_works l hbig cap hcap W b off hr
        · by_cases hgood : Go.Vm.Cans l
          · exact Go.Vm.cans_ok N Go.Vm.stock_works l hz (by omega) cap hlc hcap hgood W b off hr
          · obtain ⟨er, he, hw⟩ := Go.Vm.wornV_bad (l := l) (by omega) (fun h => hgood h.2)
            exact Go.Vm.cans_bad N Go.Vm.stock_works l hz (by omega) cap hcap he hw W b off hr
  have hlow := hW'.lt
  refine hrun.mono fun e W' ⟨he, hg⟩ => ?_
  subst he
  have hl : laidOutB Try.prog = true := by kernel_rfl
  have hr65 : Try.prog.readableRec 65 = true := by kernel_rfl
  have hs65 : 65 < Try.prog.types.size := of_decide_eq_true (by kernel_rfl)
  exact ⟨_, rfl, Go.Vm.post_below (pv := []) hW' hg (by simp)
    (fun sp hsp => trodAll_cons_mk (WideElems.Trod_stays (P := Try.prog) hl hr65 hs65 h0 (fun x hx => hg.same (hlow x (by simp [hx]))) (fun x hx => hsp x (by simp [hx])))
      (trodAll_cons_mk (shut_int in22 w1) (trodAll_cons_mk (shut_int in22 w2) (trodAll_cons_mk (Go.Vm.shut_arr2 ar69 in5 ce5 ce69 w3 w4) (trodAll_cons_mk (Go.Vm.shut_arr2 ar69 in5 ce5 ce69 w5 w6) trodAll_mk0)))))
    (fun _ _ => rfl) (fun _ _ _ => trodAll_cons_mk (shut_bool Try.underlying4 _) trodAll_mk0) (ok_one (by kernel_rfl) rfl (okWide_bool_mk Try.underlying4 _))⟩

theorem over : Rows.stockCansRow.holds Try.pinned (OpenSpec.ofChange Rows.stockCansSpec) :=
  OpenClaim.holds_of_wide 7 Try.f7 rfl rfl rfl rfl rfl rfl rfl ⟨rfl, rfl, rfl, rfl, rfl⟩ rfl rfl rfl rfl rfl (by kernel_rfl) Try.func7 (by kernel_rfl)
    (of_decide_eq_true (by kernel_rfl)) (by unfold Func.isWrapper; first | (rw [if_pos (by decide +kernel)]; kernel_rfl) | (rw [if_neg (by decide +kernel)]; exact ⟨rfl, rfl⟩))
    (fun os started H enc _ => lifted os started H enc)

/-- the given statement -/
theorem proved : Rows.StockCansSaid :=
  over
end Go.Proofs.Ytcphndfipjifcaa.stockCans
