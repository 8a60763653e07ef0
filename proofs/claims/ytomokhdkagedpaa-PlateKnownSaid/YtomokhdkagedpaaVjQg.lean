/- A camera: what a call leaves, wherever it is made. -/
import Derived.Test.YtomokhdkagedpaaVjQf
import Derived.Test.YtomokhdkagedpaaVjQ6
set_option linter.unusedVariables false
namespace Go.Vm
set_option maxRecDepth 100000
set_option maxHeartbeats 4000000
theorem cam_any {sk : Int} {n cap : Nat} {A : List Al} (hk : 0 ≤ sk ∧ sk ≤ 1000) (hcap : cap < big) (hn : A.length = n) (hA : AlOK A) (hn2 : n ≤ 1000) (w : World) (bs offs : Nat → Nat) (hr : RowsAt w (bs 0) (offs 0) (alC A)) :
    Calls TP 36 ([bkV (.slice (some ⟨0, 0, none⟩) n cap) sk].map (shiftS bs offs)).toArray w fun e w' => ∃ (B : Nat) (c : Array Value), e = .returned (.pointer (some ⟨B, 0, none⟩)) ∧ w.heap.size ≤ B ∧ w'.heap[B]? = some (.cells c 115 (0, 0)) ∧ 1298 ≤ c.size ∧
      c[0]? = some (.slice (some ⟨bs 0, offs 0, none⟩) n cap) ∧ (∀ (j : Nat) (v : Value), (.int .i64 sk :: ints (costR sk A))[j]? = some v → c[j + 1]? = some v) ∧ RowKit.Below w.heap.size w w' := by
  have hs : SLh 0 n cap (.slice (some ⟨0, 0, none⟩) n cap) := .inl ⟨rfl, hcap⟩
  obtain ⟨V2, h3, h2⟩ := cam_call hk hs hn hA hn2
  obtain ⟨_, ok⟩ := (rmQ_ok (K := [0, 1, 2]) (W := 1) memoJ_ok memoJ_code 3001).call _ _ _ _ _ h3
  have ha : [bkV (.slice (some ⟨0, 0, none⟩) n cap) sk].all (okS 1) = true := by
    have h := hs.ok (m := 1) (by omega)
    show (([Value.slice (some ⟨0, 0, none⟩) n cap, Value.int .i64 sk].all (okC 1)) && true) = true
    simp only [List.all_cons, List.all_nil, h]
    rfl
  have hV : ∀ x o, (roV [(alC A, 78)]).get x = some o → x = 0 ∧ o = .cells ⟨alC A⟩ 78 (0, 1) := fun x o hx => by
    obtain ⟨j, c, e, h1, h2, h3⟩ := find_roL [(alC A, 78)] 0 x o hx
    have : j = 0 := by have := (List.getElem?_eq_some_iff.1 h2).1; simpa using this
    subst this
    cases h2
    exact ⟨h1, h3⟩
  have hl : LRel (VRel (renS bs offs) (fun x => x < 1)) [bkV (.slice (some ⟨0, 0, none⟩) n cap) sk] ([bkV (.slice (some ⟨0, 0, none⟩) n cap) sk].map (shiftS bs offs)) := LRel.of_get (by simp) fun i x y hx hy => by
    rw [List.getElem?_map, hx] at hy
    cases hy
    exact shiftS_rel (List.all_eq_true.1 ha x (List.mem_of_getElem? hx))
  have hw : WRel TP (renS bs offs) (fun x => x < 1) (roV [(alC A, 78)]).get w := by
    refine ⟨fun x o hx => ?_, fun x o hx => ?_, fun x o hx ho => ?_, fun x c e fz hx hz i v hi => ?_, fun x es c hx => ?_, fun x y o o' hx hy ho => ?_⟩
    · obtain ⟨rfl, _⟩ := hV x o hx; exact Nat.lt_succ_self 0
    · obtain ⟨rfl, _⟩ := hV x o hx; exact hr.1
    · obtain ⟨_, rfl⟩ := hV x o hx; cases ho
    · obtain ⟨rfl, h4⟩ := hV x _ hx
      cases h4
      have hi : (alC A)[i]? = some v := by simpa using hi
      exact ⟨v, hr.2 i v hi, VRel.of_flatN 3 v (List.all_eq_true.1 (alC_flat A) v (List.mem_of_getElem? hi))⟩
    · obtain ⟨_, h4⟩ := hV x _ hx; cases h4
    · obtain ⟨_, rfl⟩ := hV x o hx; cases ho
  have := ok _ _ w ([bkV (.slice (some ⟨0, 0, none⟩) n cap) sk].map (shiftS bs offs)).toArray 5 hw hl (fun x h1 _ h => by
    have h : x < 1 := h
    have h1 : 1 ≤ x := h1
    omega)
  refine (callsIn_wide.1 this).mono ?_
  rintro e w' ⟨ρ1, v', rfl, st, hrel⟩
  obtain ⟨q1, o', q2, q3⟩ := st.rel.own 2 _ h2 rfl
  have hag : Agree (renS bs offs) ρ1 (fun x => x < 1) := st.agree fun x h1 _ h => by
    have h : x < 1 := h
    have h1 : 1 ≤ x := h1
    omega
  have hB : w.heap.size ≤ ρ1.b 2 := by
    rcases st.fresh 2 _ h2 rfl with h | ⟨b0, o0, h4, h5, _⟩
    · exact h
    · obtain ⟨_, rfl⟩ := hV _ _ h4; cases h5
  have hv : v' = .pointer (some ⟨ρ1.b 2, 0, none⟩) := by
    cases hrel with
    | flat hf => simp [Vm.flat] at hf
    | ptr ha =>
      show Value.pointer (some (ρ1.addr ⟨2, 0, none⟩)) = _
      simp [Ren.addr, q1]
  have hce : caC (.slice (some ⟨0, 0, none⟩) n cap) sk (costR sk A) = .slice (some ⟨0, 0, none⟩) n cap :: .int .i64 sk :: ints (costR sk A) := caC_eq _ _ _
  have hz : (ints (costR sk A)).length = 1296 := by rw [ints_len]; exact (cost_gd hA hk).len
  rw [hce] at q3
  cases q3 with
  | cells hsz hes hle hvv =>
    refine ⟨ρ1.b 2, _, by rw [hv], hB, q2, ?_, ?_, fun j v hj => ?_, st.os, st.tape, st.output, st.size, fun k hk => st.frame k hk fun x o hx ho => by obtain ⟨_, rfl⟩ := hV x o hx; cases ho⟩
    · have : (Array.mk (Value.slice (some ⟨0, 0, none⟩) n cap :: Value.int .i64 sk :: ints (costR sk A))).size = 1298 := by
        show (Value.slice (some ⟨0, 0, none⟩) n cap :: Value.int .i64 sk :: ints (costR sk A)).length = 1298
        simp [hz]
      omega
    · obtain ⟨v2, h6, h7⟩ := hvv 0 (.slice (some ⟨0, 0, none⟩) n cap) rfl
      rw [h6]
      rcases h7.sliceInv with ⟨e, _⟩ | ⟨a0, c2, e, hD, rfl, ⟨rfl, _⟩ | ⟨e2, _⟩⟩
      · cases e
      · cases e
        show some (Value.slice (some (ρ1.addr ⟨0, 0, none⟩)) n _) = _
        rw [hag.addr (a := ⟨0, 0, none⟩) (Nat.lt_succ_self 0)]
        rfl
      · exact absurd e2 (by omega)
    · obtain ⟨v2, h6, h7⟩ := hvv (j + 1) v (by simpa using hj)
      have hfl : flatN 3 v = true := by
        have : (.int .i64 sk :: ints (costR sk A)).all (flatN 3) = true := by
          simp only [List.all_cons, ints_flat]
          rfl
        exact List.all_eq_true.1 this v (List.mem_of_getElem? hj)
      have := h7.flatN_eq 3 hfl
      subst this
      exact h6
/-- calls that are known, wherever they are made -/
def oracleD (F : Int → Nat → List Value → Option (List Int)) (j : Job) : Option Out := match j with
  | .call f args V => match Nat.beq f 36 with
    | true => match args with
      | [.agg cs] => match cs.toList with
        | [.slice (some a) n cap, .int .i64 k] => match Nat.beq a.off 0 && !a.spot.isSome && Nat.blt cap big with
          | true => match find V.objs a.block with
            | some (.cells c _ _) => match F k n c.toList with
              | some L => some (.value (.pointer (some ⟨V.next, 0, none⟩)) ⟨V.next + 1, (V.next, .cells ⟨.slice (some ⟨a.block, 0, none⟩) n cap :: .int .i64 k :: ints L⟩ 115 (0, 0)) :: V.objs⟩)
              | none => none
            | _ => none
          | false => none
        | _ => none
      | _ => none
    | false => none
  | _ => none
theorem oracleD_code (F : Int → Nat → List Value → Option (List Int)) : ∀ ar c ts df V, oracleD F (.code ar c ts df V) = none := fun _ _ _ _ _ => rfl
theorem oracleD_ok {F : Int → Nat → List Value → Option (List Int)} (h : ∀ k n c L, F k n c = some L → ∃ A, c = alC A ∧ A.length = n ∧ AlOK A ∧ (0 ≤ k ∧ k ≤ 1000) ∧ n ≤ 1000 ∧ L = costR k A) : SelfOK TP (oracleD F) := by
  refine ⟨(fun _ _ _ _ _ _ _ _ _ h => by cases h), (fun _ _ _ _ _ _ _ _ _ h => by cases h), fun f args V v V1 hj => ?_⟩
  simp only [oracleD] at hj
  split at hj
  case h_2 => cases hj
  rename_i hf
  have := Nat.eq_of_beq_eq_true hf
  subst this
  split at hj
  case h_2 => cases hj
  rename_i cs
  split at hj
  case h_2 => cases hj
  rename_i a n cap k hcs
  split at hj
  case h_2 => cases hj
  rename_i ha
  split at hj
  case h_2 => cases hj
  rename_i c e fz hfd
  split at hj
  case h_2 => cases hj
  rename_i L hF
  cases hj
  obtain ⟨A, hc, hn, hA, hk, hn2, rfl⟩ := h _ _ _ _ hF
  simp only [Bool.and_eq_true, Nat.blt_eq] at ha
  obtain ⟨⟨ha0, hsp⟩, hcap⟩ := ha
  have ha0 := Nat.eq_of_beq_eq_true ha0
  have hsp : a.spot = none := by cases hq : a.spot <;> simp_all
  refine ⟨Nat.le_succ _, ?_⟩
  intro ρ D w args' m hw hl hd
  have hdn : ¬ D V.next := hd _ (Nat.le_refl _) (Nat.lt_succ_self _)
  have hDa : D a.block := hw.dom _ _ hfd
  have hcs2 : cs = #[.slice (some a) n cap, .int .i64 k] := by cases cs; simp only at hcs; rw [hcs]
  subst hcs2
  let bs : Nat → Nat := fun _ => ρ.b a.block
  let offs : Nat → Nat := fun _ => ρ.o a.block
  have hok : [Value.agg #[.slice (some a) n cap, .int .i64 k]].all okKS = true := by
    show (((Nat.blt cap big && a.spot.isNone) && (true && true)) && true) = true
    rw [hsp, (by rw [Nat.blt_eq]; exact hcap : Nat.blt cap big = true)]
    rfl
  have hcan : (canA 0 0 [Value.agg #[.slice (some a) n cap, .int .i64 k]]) = ([bkV (.slice (some ⟨0, a.off, none⟩) n cap) k], [(a.block, true)]) := rfl
  have e1 : args'.toList = (canA 0 0 [Value.agg #[.slice (some a) n cap, .int .i64 k]]).1.map (shiftS bs offs) := canA_rel (bs := bs) (offs := offs) hl hok fun i p hi => by
    rw [hcan] at hi
    have : i = 0 := by have := (List.getElem?_eq_some_iff.1 hi).1; simpa using this
    subst this
    cases hi
    exact ⟨rfl, rfl⟩
  rw [hcan, ha0] at e1
  have e2 : args' = ([bkV (.slice (some ⟨0, 0, none⟩) n cap) k].map (shiftS bs offs)).toArray := by cases args'; simp only at e1; rw [e1]
  rw [e2]
  have hrow : RowsAt w (bs 0) (offs 0) (alC A) := by
    refine ⟨hw.real a.block _ hfd, fun j v hj => ?_⟩
    obtain ⟨v', h2, h3⟩ := hw.cell (a := ⟨a.block, j, none⟩) (v := v) (by unfold Vm.cell; rw [hfd]; rw [← hc] at hj; simpa using hj)
    have := h3.flatN_eq 3 (List.all_eq_true.1 (alC_flat A) v (List.mem_of_getElem? hj))
    subst this
    exact h2
  refine (callsIn_wide.2 (cam_any hk hcap hn hA hn2 w bs offs hrow)).mono ?_
  rintro e w' ⟨B, c', he, hB, hBo, hsz, hc0, hcells, hbl⟩
  have hz : (ints (costR k A)).length = 1296 := by rw [ints_len]; exact (cost_gd hA hk).len
  have hag : Agree ρ (ρ.put V.next B c'.size (TP.cellsOf 115)) D := agree_put hdn
  refine ⟨ρ.put V.next B c'.size (TP.cellsOf 115), _, he, ?_, ?_⟩
  · rw [get_cons]
    refine Stepped.newBlock hw hdn (.cells (by simp [Ren.put]) (by simp [Ren.put]) ?_ fun i v hi => ?_) rfl ⟨_, _, rfl⟩ hB hBo hbl
    · have : (Array.mk (Value.slice (some ⟨a.block, 0, none⟩) n cap :: Value.int .i64 k :: ints (costR k A))).size = 1298 := by
        show (Value.slice (some ⟨a.block, 0, none⟩) n cap :: Value.int .i64 k :: ints (costR k A)).length = 1298
        simp [hz]
      omega
    · cases i with
      | zero =>
        have hi : some (Value.slice (some ⟨a.block, 0, none⟩) n cap) = some v := by simpa using hi
        cases hi
        refine ⟨_, hc0, ?_⟩
        have := VRel.slice (ρ := ρ.put V.next B c'.size (TP.cellsOf 115)) (D := grow D V.next (V.next + 1)) (a := ⟨a.block, 0, none⟩) (len := n) (cap := cap) (.inl hDa) hcap
        rw [hag.addr (a := ⟨a.block, 0, none⟩) hDa] at this
        exact this
      | succ i =>
        have hi : (Value.int .i64 k :: ints (costR k A))[i]? = some v := by simpa using hi
        refine ⟨v, hcells i v hi, VRel.of_flatN 3 v ?_⟩
        have : (.int .i64 k :: ints (costR k A)).all (flatN 3) = true := by
          simp only [List.all_cons, ints_flat]
          rfl
        exact List.all_eq_true.1 this v (List.mem_of_getElem? hi)
  · have := VRel.ptr (ρ := ρ.put V.next B c'.size (TP.cellsOf 115)) (D := grow D V.next (V.next + 1)) (a := ⟨V.next, 0, none⟩) (.inr (by simp))
    simpa [Ren.addr, Ren.put] using this
def memoK36 : Job → Option Out := orF (oracleD bkF) memoK33
theorem bkF_spec : ∀ k n c L, bkF k n c = some L → ∃ A, c = alC A ∧ A.length = n ∧ AlOK A ∧ (0 ≤ k ∧ k ≤ 1000) ∧ n ≤ 1000 ∧ L = costR k A := fun k n c L h => by
  unfold bkF at h
  split at h
  case h_2 => cases h
  rename_i hh
  cases h
  simp only [Bool.and_eq_true, beq_iff_eq] at hh
  obtain ⟨⟨rfl, h2⟩, h3⟩ := hh
  have h2 := Nat.eq_of_beq_eq_true h2
  subst h2
  have h3 := beqL_eq (beqV_eq 4) _ _ h3
  exact ⟨bkA, h3, rfl, bk_ok, by omega, by omega, bk_cost.symm⟩
theorem memoK36_ok : SelfOK TP memoK36 := SelfOK.or (oracleD_ok bkF_spec) memoK33_ok
theorem memoK36_code : ∀ ar c ts df V, memoK36 (.code ar c ts df V) = none := fun _ _ _ _ _ => rfl
end Go.Vm
