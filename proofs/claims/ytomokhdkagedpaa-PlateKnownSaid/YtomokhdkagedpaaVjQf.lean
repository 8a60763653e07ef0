/- A camera: what a call leaves, wherever it is made. -/
import Derived.Test.YtomokhdkagedpaaVjQe
set_option linter.unusedVariables false
namespace Go.Vm
set_option maxRecDepth 100000
set_option maxHeartbeats 4000000
theorem row_get {l r : List Int} {i j : Nat} (hr : r.length = 36) (hl : 36 * i + 36 ≤ l.length) : (stRow l i r).getD j 0 = if j < 36 * i then l.getD j 0 else if j < 36 * i + 36 then r.getD (j - 36 * i) 0 else l.getD j 0 := by
  have h1 : (l.take (36 * i)).length = 36 * i := by rw [List.length_take]; omega
  unfold stRow
  rw [List.getD_eq_getElem?_getD, List.append_assoc]
  split
  · rename_i h
    rw [List.getElem?_append_left (by omega), List.getElem?_take, if_pos h, List.getD_eq_getElem?_getD]
  · rw [List.getElem?_append_right (by omega), h1]
    split
    · rw [List.getElem?_append_left (by omega), List.getD_eq_getElem?_getD]
    · rw [List.getElem?_append_right (by omega), hr, List.getElem?_drop, List.getD_eq_getElem?_getD, show 36 * i + 36 + (j - 36 * i - 36) = j by omega]
theorem row_len2 {l r : List Int} {i : Nat} (hr : r.length = 36) (hl : 36 * i + 36 ≤ l.length) : (stRow l i r).length = l.length := by
  unfold stRow
  rw [List.length_append, List.length_append, List.length_take, List.length_drop, hr]
  omega
theorem caP_next {k : Int} {A : List Al} {i : Nat} {l : List Int} (h : caP k A i l) (hi : i < 36) : caP k A (i + 1) (stRow l i (rowR k A i)) := by
  have hl := h.1
  refine ⟨by rw [row_len2 row_len (by omega), hl], fun j hj => ?_⟩
  rw [row_get row_len (by omega)]
  split
  · rename_i h1; exact h.2 j h1
  · rw [if_pos (by omega)]
    unfold rowR
    rw [rmap_get (by omega)]
    congr 1
    omega
theorem caP_zero {k : Int} {A : List Al} : caP k A 0 lz1296 := ⟨by simp [lz1296], fun j hj => by omega⟩
theorem scrub_ca {n : Nat} {s : Value} {k : Int} {l : List Int} (h : scrubV n s = s) : ∀ v, v ∈ caC s k l → scrubV n v = v := fun v hv => by
  rw [caC_eq] at hv
  simp only [List.mem_cons] at hv
  rcases hv with rfl | rfl | hv
  · exact h
  · exact scrub_int
  · unfold ints at hv
    obtain ⟨x, _, rfl⟩ := List.mem_map.1 hv
    exact scrub_int
theorem ar113 : TP.underlying 113 = some (.array 36 64) := by kernel_rfl
theorem ix113 {b i : Nat} (h : i < 36) : OIx 113 (.pointer (some ⟨b, 2, none⟩)) (.int .i64 (i : Int)) (.pointer (some ⟨b, 2 + 36 * i, none⟩)) := ⟨fun V => by
  have h2 := si64
  cases hi : TP.info? 64 with
  | none => rw [hi] at h2; cases h2
  | some info =>
    rw [hi] at h2
    have hs : info.size = 36 := by simpa using h2
    have h1 := index_run (P := TP) hi (n := 36) (j := i) (b := b) (o := 2) h (.inr ⟨ar113, rfl⟩) V
    rw [hs, Nat.mul_comm] at h1
    unfold val at h1
    split at h1
    · rename_i v V2 hv
      cases h1
      exact hv
    · cases h1⟩
section
variable {sk : Int} {n cap : Nat} {s : Value} {A : List Al}
theorem cm_loop (hk : 0 ≤ sk ∧ sk ≤ 1000) (hs : SLh 0 n cap s) (hn : A.length = n) (hA : AlOK A) (hn2 : n ≤ 1000) : ∀ (M : Nat) (b : JC), (cmInv sk n s A).P b → (cmInv sk n s A).μ b + 60 < M →
    LoopRT memoJ [0, 1, 2] 1 M none (.loop (bodyLp 36 0)) (cmTs sk n s A b) [] (cmV sk n s A b 3) [cmOut sk n s A] := by
  refine loop_ruleT memoJ_code (cmInv sk n s A) _ (N0 := 60) (n := 3) (w := 1000) (by kernel_rfl) (by kernel_rfl) (fun b _ => ⟨rfl, clean_cons (by omega) (clean_cells (scrub_ca (hs.scrub (by omega)))) (clean_cons (by omega) (clean_bk (hs.scrub (by omega))) (clean_cons (by omega) clean_al clean_nil))⟩) ?_
  intro M b ⟨hb1, hb2⟩
  have hsc := hs.scrub (k := 3) (by omega)
  refine ⟨_, (cm_body sk n s A (rowR sk A b.i) M b).mpr ⟨fun h => ?_, fun h => ?_⟩⟩
  · have hlt : b.i < 36 := by have := ltZ_t h; omega
    refine ⟨oc_row (by rw [hn]; exact hs) hk hA (by omega) hlt rfl rfl, ix113 hlt, st_row row_len (by rw [hb2.1]; omega) rfl, inc1 (by omega), ?_⟩
    rw [hsc]
    exact .againL (fun ts => ⟨b.i + 1, stRow b.l b.i (rowR sk A b.i), lget ts⟩) ⟨hlt, caP_next hb2 hlt⟩ (show 36 - (b.i + 1) < 36 - b.i by omega) rfl rfl rfl
  · have hlt : b.i = 36 := by have := ltZ_f h; have : b.i ≤ 36 := hb1; omega
    refine .outL (by simp) (cmOut sk n s A) (by simp) (fun ts => ⟨b.i, b.l, lget ts⟩) ?_ rfl rfl rfl rfl
    show b.l = costR sk A
    refine ext_getD (by rw [hb2.1, (cost_gd hA hk).len]) fun j hj => hb2.2 j (by rw [hb2.1] at hj; omega)
theorem lp360 : loopOf 36 0 = .loop (bodyLp 36 0) := by kernel_rfl
theorem cam_code (hk : 0 ≤ sk ∧ sk ≤ 1000) (hs : SLh 0 n cap s) (hn : A.length = n) (hA : AlOK A) (hn2 : n ≤ 1000) :
    ∃ ts m, rmQ memoJ [0, 1, 2] 1 3000 (.code none (bodyOf 36) ([bkV s sk] ++ List.replicate ((fnOf 36).ntmps - 1) undef) [] (roV [(alC A, 78)])) =
      some (.code .ret ts [] ⟨m, [(2, .cells ⟨caC s sk (costR sk A)⟩ 115 (0, 0)), (1, .cells #[s, .int .i64 sk] 24 (0, 0)), (0, .cells ⟨alC A⟩ 78 (0, 1))]⟩) ∧ lget ts 2 = .pointer (some ⟨2, 0, none⟩) := by
  have hc := (g_run sk n s A fun e ts df V => e = .ret ∧ df = [] ∧ lget ts 2 = .pointer (some ⟨2, 0, none⟩) ∧
      ∃ m, V = ⟨m, [(2, .cells ⟨caC s sk (costR sk A)⟩ 115 (0, 0)), (1, .cells #[s, .int .i64 sk] 24 (0, 0)), (0, .cells ⟨alC A⟩ 78 (0, 1))]⟩).mpr (by
    refine ⟨?_, fun z hz => ⟨rfl, rfl, rfl, ?_⟩, trivial⟩
    · rw [lp360]
      exact cm_loop hk hs hn hA hn2 _ ⟨0, lz1296, fun t => match t with | 6 => .agg ⟨caC s sk lz1296⟩ | _ => undef⟩ ⟨by simp, caP_zero⟩ (show 36 - 0 + 60 < _ by omega)
    · have e : z.l = costR sk A := hz
      refine ⟨1003, ?_⟩
      rw [← e])
  obtain ⟨e, ts, df, V, h1, h5, h6, h2, m, h7⟩ := codeT_ok memoJ_code _ _ _ _ _ _ _ _ hc
  subst h5 h6 h7
  exact ⟨ts, m, h1, h2⟩
theorem cam_call (hk : 0 ≤ sk ∧ sk ≤ 1000) (hs : SLh 0 n cap s) (hn : A.length = n) (hA : AlOK A) (hn2 : n ≤ 1000) :
    ∃ V2, rmQ memoJ [0, 1, 2] 1 3001 (.call 36 [bkV s sk] (roV [(alC A, 78)])) = some (.value (.pointer (some ⟨2, 0, none⟩)) V2) ∧ find V2.objs 2 = some (.cells ⟨caC s sk (costR sk A)⟩ 115 (0, 0)) := by
  obtain ⟨ts, m, h1, h2⟩ := cam_code hk hs hn hA hn2
  obtain ⟨hf, hc⟩ := body_of (f := 36) (by kernel_rfl)
  have e : ∃ r, refsO (.cells ⟨caC s sk (costR sk A)⟩ 115 (0, 0)) = r ∧ (r = [0] ∨ r = []) := by
    refine ⟨_, rfl, ?_⟩
    show ((caC s sk (costR sk A)).map (refsN 4)).flatten = [0] ∨ ((caC s sk (costR sk A)).map (refsN 4)).flatten = []
    rw [caC_eq]
    show refsN 4 s ++ (refsN 4 (.int .i64 sk) ++ ((ints (costR sk A)).map (refsN 4)).flatten) = [0] ∨ refsN 4 s ++ (refsN 4 (.int .i64 sk) ++ ((ints (costR sk A)).map (refsN 4)).flatten) = []
    rw [refs_ints]
    rcases hs with ⟨rfl, _⟩ | ⟨rfl, _⟩
    · exact .inl rfl
    · exact .inr rfl
  obtain ⟨r, e, hr2⟩ := e
  refine ⟨_, by
    rw [ends_callT (s1 := ⟨ts, [], ⟨m, [(2, .cells ⟨caC s sk (costR sk A)⟩ 115 (0, 0)), (1, .cells #[s, .int .i64 sk] 24 (0, 0)), (0, .cells ⟨alC A⟩ 78 (0, 1))]⟩⟩) (e := .ret) (show memoJ _ = none from tab_none fun _ _ => rfl) hf hc h1]
    have hr : (fnOf 36).results.toList = [.tmp 2] := by kernel_rfl
    have hv : runV TP (resultsL [.tmp 2] ts) ⟨m, [(2, .cells ⟨caC s sk (costR sk A)⟩ 115 (0, 0)), (1, .cells #[s, .int .i64 sk] 24 (0, 0)), (0, .cells ⟨alC A⟩ 78 (0, 1))]⟩ = some ([lget ts 2], ⟨m, [(2, .cells ⟨caC s sk (costR sk A)⟩ 115 (0, 0)), (1, .cells #[s, .int .i64 sk] 24 (0, 0)), (0, .cells ⟨alC A⟩ 78 (0, 1))]⟩) := rfl
    rw [hr]
    simp only [finish, takeAll, hv, shut, h2]
    rfl, ?_⟩
  have hb : Nat.blt 2 1 = false := rfl
  have hb0 : Nat.blt 0 1 = true := rfl
  have hm : memN 2 [] = false := rfl
  have hfd : find [(2, Obj.cells ⟨caC s sk (costR sk A)⟩ 115 (0, 0)), (1, .cells #[s, .int .i64 sk] 24 (0, 0)), (0, .cells ⟨alC A⟩ 78 (0, 1))] 2 = some (.cells ⟨caC s sk (costR sk A)⟩ 115 (0, 0)) := rfl
  have key : ∀ f, reach 1 [(2, .cells ⟨caC s sk (costR sk A)⟩ 115 (0, 0)), (1, .cells #[s, .int .i64 sk] 24 (0, 0)), (0, .cells ⟨alC A⟩ 78 (0, 1))] (f + 3) [2] [] = [2] := fun f => by
    rcases hr2 with rfl | rfl <;> simp only [reach, hb, hb0, hm, Bool.or_self, Bool.true_or, hfd, e, List.append_nil]
  have e1 : rootsOf false 1 (.pointer (some ⟨2, 0, none⟩)) [(2, .cells ⟨caC s sk (costR sk A)⟩ 115 (0, 0)), (1, .cells #[s, .int .i64 sk] 24 (0, 0)), (0, .cells ⟨alC A⟩ 78 (0, 1))] = [2] := by
    unfold rootsOf
    exact key 9997
  show find (keepR 1 (rootsOf false 1 _ _) _) 2 = _
  rw [e1]
  rfl
end
end Go.Vm
