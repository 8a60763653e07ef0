/- The document's table of costs: what a call leaves, wherever it is made. -/
import Derived.Test.YtomokhdkagedpaaVjQ3
set_option linter.unusedVariables false
namespace Go.Vm
set_option maxRecDepth 100000
set_option maxHeartbeats 4000000
theorem body_of {f : FuncId} (hf : hasBody f = true) : TP.funcs[f]? = some (fnOf f) ∧ (fnOf f).body = some (bodyOf f) := by
  unfold hasBody at hf
  unfold bodyOf fnOf
  split at hf
  · rename_i fn hfn
    rw [hfn]
    refine ⟨rfl, ?_⟩
    simp only [Option.getD_some]
    cases hb : fn.body with
    | none => rw [hb] at hf; cases hf
    | some c => rfl
  · cases hf
/-- what letters cost for each other -/
def costR (k : Int) (A : List Al) : List Int := fwM (prF A (i0 k) A.length) 36
theorem lp330 : loopOf 33 0 = .loop (bodyLp 33 0) := by kernel_rfl
theorem lp331 : loopOf 33 1 = .loop (bodyLp 33 1) := by kernel_rfl
theorem lp332 : loopOf 33 2 = .loop (bodyLp 33 2) := by kernel_rfl
theorem lp333 : loopOf 33 3 = .loop (bodyLp 33 3) := by kernel_rfl
theorem mk_zeros (sk : Int) (s : Value) (A : List Al) : runV TP (makeSliceL 48 1296 1296) ⟨2, [(1, .cells #[s, .int .i64 sk] 24 (0, 0)), (0, .cells ⟨alC A⟩ 78 (0, 1))]⟩ =
    some (.slice (some ⟨2, 0, none⟩) 1296 1296, ⟨3, [(2, .cells ⟨ints lzs⟩ 2 (0, 0)), (1, .cells #[s, .int .i64 sk] 24 (0, 0)), (0, .cells ⟨alC A⟩ 78 (0, 1))]⟩) := by kernel_rfl
theorem cost_code {sk : Int} {n cap : Nat} {s : Value} {A : List Al} (hk : 0 ≤ sk ∧ sk ≤ 1000) (hs : SLh 0 n cap s) (hn : A.length = n) (hA : AlOK A) (hn2 : n ≤ 1000) :
    ∃ ts m, rmQ memoI [0, 1, 2] 1 3000 (.code none (bodyOf 33) ([bkV s sk] ++ List.replicate ((fnOf 33).ntmps - 1) undef) [] (roV [(alC A, 78)])) =
      some (.code .ret ts [] ⟨m, [(2, .cells ⟨ints (costR sk A)⟩ 2 (0, 0)), (1, .cells #[s, .int .i64 sk] 24 (0, 0)), (0, .cells ⟨alC A⟩ 78 (0, 1))]⟩) ∧ lget ts 2 = .slice (some ⟨2, 0, none⟩) 1296 1296 := by
  have hc := (c_run sk n s A lzs fun e ts df V => e = .ret ∧ df = [] ∧ lget ts 2 = .slice (some ⟨2, 0, none⟩) 1296 1296 ∧
      ∃ m, V = ⟨m, [(2, .cells ⟨ints (costR sk A)⟩ 2 (0, 0)), (1, .cells #[s, .int .i64 sk] 24 (0, 0)), (0, .cells ⟨alC A⟩ 78 (0, 1))]⟩).mpr (by
    refine ⟨⟨⟨_, _, 1296, 1296, rfl, rfl, mk_zeros sk s A⟩⟩, ?_, fun z hz => ⟨?_, fun z1 hz1 => ⟨?_, fun z2 hz2 => ⟨?_, fun z3 hz3 => ⟨rfl, rfl, rfl, ?_⟩, trivial⟩, trivial⟩, trivial⟩, trivial⟩
    · rw [lp330]
      exact a1_loop hk hs _ ⟨0, lzs, fun _ => undef⟩ ⟨by simp, skP_zero⟩ (show 1296 - 0 + 60 < _ by omega)
    · rw [lp331]
      exact a2_loop hs _ ⟨0, z.l, lget (a1Ts sk n s A z)⟩ ⟨by simp, dgP_zero hz⟩ (show 36 - 0 + 60 < _ by omega)
    · have e : z1.l = i0 sk := hz1
      rw [lp332]
      exact a3_loop hk hs hn hA hn2 _ ⟨0, z1.l, lget (a2Ts sk n s A z1)⟩ ⟨by simp, e⟩ (show n - 0 + 60 < _ by omega)
    · have e : z2.l = prF A (i0 sk) n := hz2
      rw [lp333]
      exact am_loop hk hs hn hA _ ⟨0, z2.l, lget (a3Ts sk n s A z2)⟩ ⟨by simp, e⟩ (show 36 - 0 + 400 < _ by omega)
    · have e : z3.l = fwM (prF A (i0 sk) n) 36 := hz3
      refine ⟨1000003003, ?_⟩
      rw [show costR sk A = z3.l by rw [e, ← hn]; rfl])
  obtain ⟨e, ts, df, V, h1, h5, h6, h2, m, h7⟩ := codeT_ok memoI_code _ _ _ _ _ _ _ _ hc
  subst h5 h6 h7
  exact ⟨ts, m, h1, h2⟩
theorem refs_ints : ∀ l : List Int, ((ints l).map (refsN 4)).flatten = []
  | [] => rfl
  | x :: l => by
    show refsN 4 (.int .i64 x) ++ ((ints l).map (refsN 4)).flatten = []
    rw [refs_ints l]
    rfl
theorem cost_call {sk : Int} {n cap : Nat} {s : Value} {A : List Al} (hk : 0 ≤ sk ∧ sk ≤ 1000) (hs : SLh 0 n cap s) (hn : A.length = n) (hA : AlOK A) (hn2 : n ≤ 1000) :
    ∃ V2, rmQ memoI [0, 1, 2] 1 3001 (.call 33 [bkV s sk] (roV [(alC A, 78)])) = some (.value (.slice (some ⟨2, 0, none⟩) 1296 1296) V2) ∧ find V2.objs 2 = some (.cells ⟨ints (costR sk A)⟩ 2 (0, 0)) := by
  obtain ⟨ts, m, h1, h2⟩ := cost_code hk hs hn hA hn2
  obtain ⟨hf, hc⟩ := body_of (f := 33) (by kernel_rfl)
  refine ⟨_, by
    rw [ends_callT (s1 := ⟨ts, [], ⟨m, [(2, .cells ⟨ints (costR sk A)⟩ 2 (0, 0)), (1, .cells #[s, .int .i64 sk] 24 (0, 0)), (0, .cells ⟨alC A⟩ 78 (0, 1))]⟩⟩) (e := .ret) (rfl : memoI _ = none) hf hc h1]
    have hr : (fnOf 33).results.toList = [.tmp 2] := by kernel_rfl
    have hv : runV TP (resultsL [.tmp 2] ts) ⟨m, [(2, .cells ⟨ints (costR sk A)⟩ 2 (0, 0)), (1, .cells #[s, .int .i64 sk] 24 (0, 0)), (0, .cells ⟨alC A⟩ 78 (0, 1))]⟩ = some ([lget ts 2], ⟨m, [(2, .cells ⟨ints (costR sk A)⟩ 2 (0, 0)), (1, .cells #[s, .int .i64 sk] 24 (0, 0)), (0, .cells ⟨alC A⟩ 78 (0, 1))]⟩) := rfl
    rw [hr]
    simp only [finish, takeAll, hv, shut, h2]
    rfl, ?_⟩
  have e1 : rootsOf false 1 (.slice (some ⟨2, 0, none⟩) 1296 1296) [(2, .cells ⟨ints (costR sk A)⟩ 2 (0, 0)), (1, .cells #[s, .int .i64 sk] 24 (0, 0)), (0, .cells ⟨alC A⟩ 78 (0, 1))] = [2] := by
    have e : refsO (.cells ⟨ints (costR sk A)⟩ 2 (0, 0)) = [] := refs_ints _
    have hb : Nat.blt 2 1 = false := rfl
    have hm : memN 2 [] = false := rfl
    have hfd : find [(2, Obj.cells ⟨ints (costR sk A)⟩ 2 (0, 0)), (1, .cells #[s, .int .i64 sk] 24 (0, 0)), (0, .cells ⟨alC A⟩ 78 (0, 1))] 2 = some (.cells ⟨ints (costR sk A)⟩ 2 (0, 0)) := rfl
    have key : ∀ f, reach 1 [(2, .cells ⟨ints (costR sk A)⟩ 2 (0, 0)), (1, .cells #[s, .int .i64 sk] 24 (0, 0)), (0, .cells ⟨alC A⟩ 78 (0, 1))] (f + 2) [2] [] = [2] := fun f => by
      simp only [reach, hb, hm, Bool.or_self, hfd, e, List.append_nil]
    unfold rootsOf
    exact key 9998
  show find (keepR 1 (rootsOf false 1 _ _) _) 2 = _
  rw [e1]
  rfl
end Go.Vm
