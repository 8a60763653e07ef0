/- What one letter costs for each one: the contract of the program's search, wherever it is called. -/
import Derived.Test.YtomokhdkagedpaaVjQb
set_option linter.unusedVariables false
namespace Go.Vm
set_option maxRecDepth 100000
set_option maxHeartbeats 4000000
/-- what is shown of a call in a small memory holds in every world -/
theorem call_views_of {memo : Job → Option Out} {K : List Nat} {W : Nat} (hs : SelfOK TP memo) (hm : ∀ ar c ts df V, memo (.code ar c ts df V) = none) {N : Nat} {f : FuncId} {args : List Value} {v : Value} {V2 : View} {cs : List (List Value × TypeId)} (hc : cs.all (fun p => p.1.all (flatN 3)) = true)
    (ha : args.all (okS cs.length) = true) (hkv : flatN 3 v = true) (h3 : rmQ memo K W N (.call f args (roV cs)) = some (.value v V2)) (w : World) (bs offs : Nat → Nat) (hr : AllAt w bs offs cs) :
    Calls TP f (args.map (shiftS bs offs)).toArray w fun e w' => e = .returned v ∧ RowKit.Below w.heap.size w w' := by
  obtain ⟨_, ok⟩ := (rmQ_ok (K := K) (W := W) hs hm N).call _ _ _ _ _ h3
  have hV : ∀ x o, (roV cs).get x = some o → ∃ c e, cs[x]? = some (c, e) ∧ o = .cells ⟨c⟩ e (0, 1) := fun x o hx => by
    obtain ⟨j, c, e, h1, h2, h3⟩ := find_roL cs 0 x o hx
    exact ⟨c, e, by rw [h1, Nat.zero_add]; exact h2, h3⟩
  have hl : LRel (VRel (renS bs offs) (fun x => x < cs.length)) args (args.map (shiftS bs offs)) := LRel.of_get (by simp) fun i x y hx hy => by
    rw [List.getElem?_map, hx] at hy
    cases hy
    exact shiftS_rel (List.all_eq_true.1 ha x (List.mem_of_getElem? hx))
  have hw : WRel TP (renS bs offs) (fun x => x < cs.length) (roV cs).get w := by
    refine ⟨fun x o hx => ?_, fun x o hx => ?_, fun x o hx ho => ?_, fun x c e fz hx hz i v hi => ?_, fun x es c hx => ?_, fun x y o o' hx hy ho => ?_⟩
    · obtain ⟨c, e, h1, _⟩ := hV x o hx; exact (List.getElem?_eq_some_iff.1 h1).1
    · obtain ⟨c, e, h1, _⟩ := hV x o hx; exact (hr x c e h1).1
    · obtain ⟨c, e, _, rfl⟩ := hV x o hx; cases ho
    · obtain ⟨c', e', h1, h4⟩ := hV x _ hx
      cases h4
      have hi : c'[i]? = some v := by simpa using hi
      have hall := List.all_eq_true.1 hc _ (List.mem_of_getElem? h1)
      exact ⟨v, (hr x c' e h1).2 i v hi, VRel.of_flatN 3 v (List.all_eq_true.1 hall v (List.mem_of_getElem? hi))⟩
    · obtain ⟨c', e', _, h4⟩ := hV x _ hx; cases h4
    · obtain ⟨c, e, _, rfl⟩ := hV x o hx; cases ho
  have := ok _ _ w (args.map (shiftS bs offs)).toArray 5 hw hl (fun x h1 _ h => by
    have h : x < cs.length := h
    have h1 : cs.length ≤ x := h1
    omega)
  refine (callsIn_wide.1 this).mono ?_
  rintro e w' ⟨ρ1, v', rfl, st, hrel⟩
  have hv' := hrel.flatN_eq 3 hkv
  subst hv'
  exact ⟨rfl, st.os, st.tape, st.output, st.size, fun k hk => st.frame k hk fun x o hx ho => by obtain ⟨c, e, _, rfl⟩ := hV x o hx; cases ho⟩
section
variable {sk : Int} {n num cap : Nat} {s : Value} {A : List Al}
theorem row_code (hk : 0 ≤ sk ∧ sk ≤ 1000) (hs : SLh 0 n cap s) (hn : A.length = n) (hA : AlOK A) (hn2 : n ≤ 1000) (hnum : num < 36) :
    ∃ ts m r, rmQ memoI [0, 1, 2, 3, 1004] 1 100000 (.code none (bodyOf 30) ([bkV s sk, .int .i64 ((num : Nat) : Int)] ++ List.replicate ((fnOf 30).ntmps - 2) undef) [] (roV [(alC A, 78)])) =
      some (.code .ret ts [] ⟨m, r⟩) ∧ lget ts 4 = .pointer (some ⟨2, 0, none⟩) ∧ find r 2 = some (.cells ⟨ints (rowR sk A num)⟩ 64 (0, 0)) := by
  have hc := (e_run sk n num s A fun e ts df V => e = .ret ∧ df = [] ∧ lget ts 4 = .pointer (some ⟨2, 0, none⟩) ∧ find V.objs 2 = some (.cells ⟨ints (rowR sk A num)⟩ 64 (0, 0))).mpr (by
    refine ⟨?_, fun z hz => ⟨ix3 hnum, ?_, ?_, fun z1 hz1 => ⟨rfl, rfl, rfl, ?_⟩, trivial⟩, trivial⟩
    · rw [lp300]
      exact b1_loop hk hs _ ⟨0, lz36, fun _ => undef⟩ ⟨by simp, skQ_zero⟩ (show 36 - 0 + 60 < _ by omega)
    · have e : z.l = lk36 sk := hz
      rw [e]
      exact st_int rfl (by simp [lk36, hnum])
    · rw [lp301]
      have hw := w0_rw hA hk hnum
      refine b2_loop hk hs hn hA hn2 hnum _ ⟨0, w036 sk num, lget (b1Ts sk n num s A z)⟩ hw ?_
      have : sumN (w036 sk num) ≤ 2000 * (w036 sk num).length := sum_top fun j hj => by
        rw [hw.len] at hj
        have := hw.rg j hj
        omega
      rw [hw.len] at this
      show sumN (w036 sk num) + 1200 < _
      omega
    · have e : z1.l = rowR sk A num := hz1
      rw [← e]
      rfl)
  obtain ⟨e, ts, df, V, h1, h5, h6, h2, h7⟩ := codeT_ok memoI_code _ _ _ _ _ _ _ _ hc
  subst h5 h6
  exact ⟨ts, V.next, V.objs, h1, h2, h7⟩
theorem row_len : (rowR sk A num).length = 36 := rmap_len
theorem row_flat (l : List Int) : flatN 3 (.agg ⟨ints l⟩) = true := by
  show (ints l).all (flatN 2) = true
  refine List.all_eq_true.2 fun v hv => ?_
  unfold ints at hv
  obtain ⟨x, _, rfl⟩ := List.mem_map.1 hv
  rfl
theorem load_row {ts : List Value} {m : Nat} {r : List (Nat × Obj)} {l : List Int} (h4 : lget ts 4 = .pointer (some ⟨2, 0, none⟩)) (hf : find r 2 = some (.cells ⟨ints l⟩ 64 (0, 0))) (hl : l.length = 36) : runV TP (resultsL [.cell 4 64] ts) ⟨m, r⟩ = some ([.agg ⟨ints l⟩], ⟨m, r⟩) := by
  have h1 : fLoad TP 64 (.pointer (some ⟨2, 0, none⟩)) ⟨m, r⟩ = some (.agg ⟨ints l⟩) := by
    have := (ld3 (b := 2) (e := 64) (fz := (0, 0)) hl).run
    unfold loadO at this
    unfold fLoad cellAt
    simp only [hf]
    exact this
  have h2 := fLoad_run h1
  have h3 : runV TP (loadVar 64 ⟨2, 0, none⟩) ⟨m, r⟩ = some (.agg ⟨ints l⟩, ⟨m, r⟩) := by
    unfold val at h2
    split at h2
    · rename_i v V2 hv
      cases h2
      exact hv
    · cases h2
  simp only [resultsL, h4]
  rw [runV_bind]
  have e : runV TP (asAddr (.pointer (some ⟨2, 0, none⟩))) ⟨m, r⟩ = some (⟨2, 0, none⟩, ⟨m, r⟩) := rfl
  rw [e]
  simp only [Option.bind_some]
  rw [runV_bind, h3]
  rfl
theorem row_call (hk : 0 ≤ sk ∧ sk ≤ 1000) (hs : SLh 0 n cap s) (hn : A.length = n) (hA : AlOK A) (hn2 : n ≤ 1000) (hnum : num < 36) :
    ∃ V2, rmQ memoI [0, 1, 2, 3, 1004] 1 100001 (.call 30 [bkV s sk, .int .i64 ((num : Nat) : Int)] (roV [(alC A, 78)])) = some (.value (.agg ⟨ints (rowR sk A num)⟩) V2) := by
  obtain ⟨ts, m, r, h1, h2, h3⟩ := row_code hk hs hn hA hn2 hnum
  obtain ⟨hf, hc⟩ := body_of (f := 30) (by kernel_rfl)
  refine ⟨_, by
    rw [ends_callT (s1 := ⟨ts, [], ⟨m, r⟩⟩) (e := .ret) (rfl : memoI _ = none) hf hc h1]
    have hr : (fnOf 30).results.toList = [.cell 4 64] := by kernel_rfl
    rw [hr]
    simp only [finish, takeAll, load_row h2 h3 row_len, shut]
    rfl⟩
theorem row_any (hk : 0 ≤ sk ∧ sk ≤ 1000) (hs : SLh 0 n cap s) (hn : A.length = n) (hA : AlOK A) (hn2 : n ≤ 1000) (hnum : num < 36) (w : World) (bs offs : Nat → Nat) (hr : RowsAt w (bs 0) (offs 0) (alC A)) :
    Calls TP 30 ([bkV s sk, .int .i64 ((num : Nat) : Int)].map (shiftS bs offs)).toArray w fun e w' => e = .returned (.agg ⟨ints (rowR sk A num)⟩) ∧ RowKit.Below w.heap.size w w' := by
  obtain ⟨V2, h3⟩ := row_call hk hs hn hA hn2 hnum
  have ha : [bkV s sk, .int .i64 ((num : Nat) : Int)].all (okS 1) = true := by
    have h := hs.ok (m := 1) (by omega)
    show (([s, Value.int .i64 sk].all (okC 1)) && (true && true)) = true
    simp only [List.all_cons, List.all_nil, h]
    rfl
  refine call_views_of memoI_ok memoI_code (cs := [(alC A, 78)]) (by simp only [List.all_cons, List.all_nil, alC_flat]; rfl) ha (row_flat _) h3 w bs offs fun i c e h => ?_
  have : i = 0 := by have := (List.getElem?_eq_some_iff.1 h).1; simpa using this
  subst this
  cases h
  exact hr
end
end Go.Vm
