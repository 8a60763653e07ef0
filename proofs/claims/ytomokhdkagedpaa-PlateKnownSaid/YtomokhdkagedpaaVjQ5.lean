/- The document's table of costs: what a call leaves, wherever it is made. -/
import Derived.Test.YtomokhdkagedpaaVjQ4
set_option linter.unusedVariables false
namespace Go.Vm
set_option maxRecDepth 100000
set_option maxHeartbeats 4000000
theorem cost_any {sk : Int} {n cap : Nat} {s : Value} {A : List Al} (hk : 0 ≤ sk ∧ sk ≤ 1000) (hs : SLh 0 n cap s) (hn : A.length = n) (hA : AlOK A) (hn2 : n ≤ 1000) (w : World) (bs offs : Nat → Nat) (hr : RowsAt w (bs 0) (offs 0) (alC A)) :
    Calls TP 33 ([bkV s sk].map (shiftS bs offs)).toArray w fun e w' => ∃ (B : Nat) (c : Array Value), e = .returned (.slice (some ⟨B, 0, none⟩) 1296 1296) ∧ w.heap.size ≤ B ∧ w'.heap[B]? = some (.cells c 2 (0, 0)) ∧ 1296 ≤ c.size ∧
      (∀ (j : Nat) (v : Value), (ints (costR sk A))[j]? = some v → c[j]? = some v) ∧ RowKit.Below w.heap.size w w' := by
  obtain ⟨V2, h3, h2⟩ := cost_call hk hs hn hA hn2
  obtain ⟨_, ok⟩ := (rmQ_ok (K := [0, 1, 2]) (W := 1) memoI_ok memoI_code 3001).call _ _ _ _ _ h3
  have ha : [bkV s sk].all (okS 1) = true := by
    have h := hs.ok (m := 1) (by omega)
    show (([s, Value.int .i64 sk].all (okC 1)) && true) = true
    simp only [List.all_cons, List.all_nil, h]
    rfl
  have hV : ∀ x o, (roV [(alC A, 78)]).get x = some o → x = 0 ∧ o = .cells ⟨alC A⟩ 78 (0, 1) := fun x o hx => by
    obtain ⟨j, c, e, h1, h2, h3⟩ := find_roL [(alC A, 78)] 0 x o hx
    have : j = 0 := by have := (List.getElem?_eq_some_iff.1 h2).1; simpa using this
    subst this
    cases h2
    exact ⟨h1, h3⟩
  have hl : LRel (VRel (renS bs offs) (fun x => x < 1)) [bkV s sk] ([bkV s sk].map (shiftS bs offs)) := LRel.of_get (by simp) fun i x y hx hy => by
    rw [List.getElem?_map, hx] at hy
    cases hy
    exact shiftS_rel (List.all_eq_true.1 ha x (List.mem_of_getElem? hx))
  have hw : WRel TP (renS bs offs) (fun x => x < 1) (roV [(alC A, 78)]).get w := by
    refine ⟨fun x o hx => ?_, fun x o hx => ?_, fun x o hx ho => ?_, fun x c e fz hx hz i v hi => ?_, fun x es c hx => ?_, fun x y o o' hx hy ho => ?_⟩
    · obtain ⟨rfl, _⟩ := hV x o hx; exact Nat.lt_succ_self 0
    · obtain ⟨rfl, _⟩ := hV x o hx; exact hr.1
    · obtain ⟨_, rfl⟩ := hV x o hx; cases ho
    · obtain ⟨rfl, h4⟩ := hV x _ hx
      cases h4
      have hi : (alC A)[i]? = some v := by simpa using hi
      exact ⟨v, hr.2 i v hi, VRel.of_flatN 3 v (List.all_eq_true.1 (alC_flat A) v (List.mem_of_getElem? hi))⟩
    · obtain ⟨_, h4⟩ := hV x _ hx; cases h4
    · obtain ⟨_, rfl⟩ := hV x o hx; cases ho
  have := ok _ _ w ([bkV s sk].map (shiftS bs offs)).toArray 5 hw hl (fun x h1 _ h => by
    have h : x < 1 := h
    have h1 : 1 ≤ x := h1
    omega)
  refine (callsIn_wide.1 this).mono ?_
  rintro e w' ⟨ρ1, v', rfl, st, hrel⟩
  obtain ⟨q1, o', q2, q3⟩ := st.rel.own 2 _ h2 rfl
  have hB : w.heap.size ≤ ρ1.b 2 := by
    rcases st.fresh 2 _ h2 rfl with h | ⟨b0, o0, h4, h5, _⟩
    · exact h
    · obtain ⟨_, rfl⟩ := hV _ _ h4; cases h5
  have hv : v' = .slice (some ⟨ρ1.b 2, 0, none⟩) 1296 1296 := by
    rcases hrel.sliceInv with ⟨e, _⟩ | ⟨a0, c2, e, hD, rfl, ⟨rfl, _⟩ | ⟨e2, _⟩⟩
    · cases e
    · cases e
      show Value.slice (some (ρ1.addr ⟨2, 0, none⟩)) 1296 1296 = _
      simp [Ren.addr, q1]
    · exact absurd e2 (by unfold big; omega)
  cases q3 with
  | cells hsz hes hle hvv =>
    refine ⟨ρ1.b 2, _, by rw [hv], hB, q2, ?_, fun j v hj => ?_, st.os, st.tape, st.output, st.size, fun k hk => st.frame k hk fun x o hx ho => by obtain ⟨_, rfl⟩ := hV x o hx; cases ho⟩
    · have hz : (ints (costR sk A)).length = 1296 := by rw [ints_len]; exact (fwM_gd (prF_gd hA (i0_gd hk) A.length (Nat.le_refl _)) 36 (Nat.le_refl _)).len
      have : (⟨ints (costR sk A)⟩ : Array Value).size = 1296 := hz
      omega
    · obtain ⟨v2, h6, h7⟩ := hvv j v (by simpa using hj)
      have hfl : flatN 3 v = true := List.all_eq_true.1 (ints_flat (costR sk A)) v (List.mem_of_getElem? hj)
      have := h7.flatN_eq 3 hfl
      subst this
      exact h6
/-- a new block beside others that are forgotten -/
theorem Stepped.newBlock {P : Program} {ρ : Ren} {D : Nat → Prop} {g : Nat → Option Obj} {n : Nat} {w w1 : World} (h : WRel P ρ D g w) (hd : ¬ D n) {o o' : Obj} {B sz es : Nat} (hr : ORel P (ρ.put n B sz es) (grow D n (n + 1)) n o o') (ho : owned o = true)
    (ho2 : ∃ (c : Array Value) (e : TypeId), o = .cells c e (0, 0)) (hB : w.heap.size ≤ B) (hBo : w1.heap[B]? = some o') (hbl : RowKit.Below w.heap.size w w1) :
    Stepped P ρ D g n w (ρ.put n B sz es) (fun k => if k = n then some o else g k) (n + 1) w1 := by
  have hag : Agree ρ (ρ.put n B sz es) D := agree_put hd
  have hg : ∀ k, D k → grow D n (n + 1) k := fun k hk => .inl hk
  obtain ⟨b1, b2, b3, b4, b5⟩ := hbl
  have hB1 : B < w1.heap.size := (Array.getElem?_eq_some_iff.1 hBo).1
  obtain ⟨c0, e0, rfl⟩ := ho2
  refine { next := by omega, b := fun k hk => if_neg (by omega), o := fun k hk => if_neg (by omega), sz := fun k hk => if_neg (by omega), es := fun k hk => if_neg (by omega), rel := ?_, os := b1, tape := b2, output := b3, size := b4, frame := fun k hk _ => b5 k hk, fresh := ?_ }
  · refine ⟨fun k x hk => ?_, fun k x hk => ?_, fun k x hk hx => ?_, fun k cs' e' fz hk hfz i v hi => ?_, fun k es c hk => ?_, fun k c x y hk hc hx hne => ?_⟩
    · (try dsimp only at hk); split at hk
      · exact .inr (by omega)
      · exact .inl (h.dom _ _ hk)
    · (try dsimp only at hk); split at hk
      · subst_vars; simp [Ren.put]; omega
      · rw [hag.b _ (h.dom _ _ hk)]; have := h.real _ _ hk; omega
    · (try dsimp only at hk); split at hk
      · subst_vars; cases hk; exact ⟨by simp [Ren.put], o', by simp [Ren.put]; exact hBo, hr⟩
      · obtain ⟨h4, x', h5, h6⟩ := h.own _ _ hk hx
        refine ⟨by rw [hag.o _ (h.dom _ _ hk)]; exact h4, x', ?_, h6.ext hag hg (h.dom _ _ hk)⟩
        rw [hag.b _ (h.dom _ _ hk), b5 _ (h.real _ _ hk)]
        exact h5
    · (try dsimp only at hk); split at hk
      · cases hk; exact absurd rfl hfz
      · obtain ⟨v', h4, h5⟩ := h.ro _ _ _ _ hk hfz i v hi
        refine ⟨v', ?_, h5.ext hag hg⟩
        rw [hag.b _ (h.dom _ _ hk), hag.o _ (h.dom _ _ hk), ← h4]
        unfold World.cell?
        rw [b5 _ (h.real _ _ hk)]
    · (try dsimp only at hk); split at hk
      · cases hk
      · obtain ⟨es', c', h4, h5⟩ := h.rom _ _ _ hk
        refine ⟨es', c', ?_, h5.mono fun _ _ r => r.ext hag hg⟩
        rw [hag.b _ (h.dom _ _ hk), b5 _ (h.real _ _ hk)]
        exact h4
    · (try dsimp only at hk hc)
      split at hk
      · split at hc
        · subst_vars; exact absurd rfl hne
        · subst_vars
          rw [hag.b _ (h.dom _ _ hc)]
          have := h.real _ _ hc
          simp [Ren.put]; omega
      · split at hc
        · subst_vars
          rw [hag.b _ (h.dom _ _ hk)]
          have := h.real _ _ hk
          simp [Ren.put]; omega
        · rw [hag.b _ (h.dom _ _ hk), hag.b _ (h.dom _ _ hc)]; exact h.inj _ _ _ _ hk hc hx hne
  · intro k x hk hx
    (try dsimp only at hk); split at hk
    · subst_vars; exact .inl (by simp [Ren.put]; exact hB)
    · exact .inr ⟨k, x, hk, hx, hag.b _ (h.dom _ _ hk)⟩
/-- calls that are known, wherever they are made -/
def oracleC (F : Int → Nat → List Value → Option (List Int)) (j : Job) : Option Out := match j with
  | .call f args V => match Nat.beq f 33 with
    | true => match args with
      | [.agg cs] => match cs.toList with
        | [.slice (some a) n cap, .int .i64 k] => match Nat.beq a.off 0 && !a.spot.isSome && Nat.blt cap big with
          | true => match find V.objs a.block with
            | some (.cells c _ _) => match F k n c.toList with
              | some L => some (.value (.slice (some ⟨V.next, 0, none⟩) 1296 1296) ⟨V.next + 1, (V.next, .cells ⟨ints L⟩ 2 (0, 0)) :: V.objs⟩)
              | none => none
            | _ => none
          | false => none
        | _ => none
      | _ => none
    | false => none
  | _ => none
theorem oracleC_code (F : Int → Nat → List Value → Option (List Int)) : ∀ ar c ts df V, oracleC F (.code ar c ts df V) = none := fun _ _ _ _ _ => rfl
theorem oracleC_ok {F : Int → Nat → List Value → Option (List Int)} (h : ∀ k n c L, F k n c = some L → ∃ A, c = alC A ∧ A.length = n ∧ AlOK A ∧ (0 ≤ k ∧ k ≤ 1000) ∧ n ≤ 1000 ∧ L = costR k A) : SelfOK TP (oracleC F) := by
  refine ⟨(fun _ _ _ _ _ _ _ _ _ h => by cases h), (fun _ _ _ _ _ _ _ _ _ h => by cases h), fun f args V v V1 hj => ?_⟩
  simp only [oracleC] at hj
  split at hj
  case h_2 => cases hj
  rename_i hf
  have := Nat.eq_of_beq_eq_true hf
  subst this
  split at hj
  case h_2 => cases hj
  rename_i cs
  split at hj
  case h_2 => cases hj
  rename_i a n cap k hcs
  split at hj
  case h_2 => cases hj
  rename_i ha
  split at hj
  case h_2 => cases hj
  rename_i c e fz hfd
  split at hj
  case h_2 => cases hj
  rename_i L hF
  cases hj
  obtain ⟨A, hc, hn, hA, hk, hn2, rfl⟩ := h _ _ _ _ hF
  simp only [Bool.and_eq_true, Nat.blt_eq] at ha
  obtain ⟨⟨ha0, hsp⟩, hcap⟩ := ha
  have ha0 := Nat.eq_of_beq_eq_true ha0
  have hsp : a.spot = none := by cases hq : a.spot <;> simp_all
  refine ⟨Nat.le_succ _, ?_⟩
  intro ρ D w args' m hw hl hd
  have hdn : ¬ D V.next := hd _ (Nat.le_refl _) (Nat.lt_succ_self _)
  have hcs2 : cs = #[.slice (some a) n cap, .int .i64 k] := by cases cs; simp only at hcs; rw [hcs]
  subst hcs2
  let bs : Nat → Nat := fun _ => ρ.b a.block
  let offs : Nat → Nat := fun _ => ρ.o a.block
  have hok : [Value.agg #[.slice (some a) n cap, .int .i64 k]].all okKS = true := by
    show (((Nat.blt cap big && a.spot.isNone) && (true && true)) && true) = true
    rw [hsp, (by rw [Nat.blt_eq]; exact hcap : Nat.blt cap big = true)]
    rfl
  have hcan : (canA 0 0 [Value.agg #[.slice (some a) n cap, .int .i64 k]]) = ([bkV (.slice (some ⟨0, a.off, none⟩) n cap) k], [(a.block, true)]) := rfl
  have e1 : args'.toList = (canA 0 0 [Value.agg #[.slice (some a) n cap, .int .i64 k]]).1.map (shiftS bs offs) := canA_rel (bs := bs) (offs := offs) hl hok fun i p hi => by
    rw [hcan] at hi
    have : i = 0 := by have := (List.getElem?_eq_some_iff.1 hi).1; simpa using this
    subst this
    cases hi
    exact ⟨rfl, rfl⟩
  rw [hcan, ha0] at e1
  have e2 : args' = ([bkV (.slice (some ⟨0, 0, none⟩) n cap) k].map (shiftS bs offs)).toArray := by cases args'; simp only at e1; rw [e1]
  rw [e2]
  have hrow : RowsAt w (bs 0) (offs 0) (alC A) := by
    refine ⟨hw.real a.block _ hfd, fun j v hj => ?_⟩
    obtain ⟨v', h2, h3⟩ := hw.cell (a := ⟨a.block, j, none⟩) (v := v) (by unfold Vm.cell; rw [hfd]; rw [← hc] at hj; simpa using hj)
    have := h3.flatN_eq 3 (List.all_eq_true.1 (alC_flat A) v (List.mem_of_getElem? hj))
    subst this
    exact h2
  refine (callsIn_wide.2 (cost_any hk (.inl ⟨rfl, hcap⟩) hn hA hn2 w bs offs hrow)).mono ?_
  rintro e w' ⟨B, c', he, hB, hBo, hsz, hcells, hbl⟩
  refine ⟨ρ.put V.next B c'.size (TP.cellsOf 2), _, he, ?_, ?_⟩
  · rw [get_cons]
    refine Stepped.newBlock hw hdn (.cells (by simp [Ren.put]) (by simp [Ren.put]) ?_ fun i v hi => ?_) rfl ⟨_, _, rfl⟩ hB hBo hbl
    · have hz : (ints (costR k A)).length = 1296 := by rw [ints_len]; exact (fwM_gd (prF_gd hA (i0_gd hk) A.length (Nat.le_refl _)) 36 (Nat.le_refl _)).len
      have : (⟨ints (costR k A)⟩ : Array Value).size = 1296 := hz
      omega
    · have hi : (ints (costR k A))[i]? = some v := by simpa using hi
      exact ⟨v, hcells i v hi, VRel.of_flatN 3 v (List.all_eq_true.1 (ints_flat _) v (List.mem_of_getElem? hi))⟩
  · have := VRel.slice (ρ := ρ.put V.next B c'.size (TP.cellsOf 2)) (D := grow D V.next (V.next + 1)) (a := ⟨V.next, 0, none⟩) (len := 1296) (cap := 1296) (.inr (by simp)) (by unfold big; omega)
    simpa [Ren.addr, Ren.put] using this
end Go.Vm
