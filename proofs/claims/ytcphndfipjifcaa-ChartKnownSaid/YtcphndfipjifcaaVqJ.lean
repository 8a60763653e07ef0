/- append and copy are what the small memory has them be. -/
import Derived.Test.YtcphndfipjifcaaVqI
namespace Go.Vm
variable {P : Program} {ρ ρ1 ρ2 : Ren} {D D1 : Nat → Prop} {V : View} {α β γ δ : Type} {w w1 : World}

theorem zero_size (z : Array Value) (n : Nat) : (Builtin.zeroCells z n).size = n * z.size := by simp [Builtin.zeroCells]
theorem grown_rel {c c' r' : Array Value} {k : Nat} {elem : TypeId} (h : ARel ρ D c c') (hsz : (c' ++ r').size = ρ.sz k) (hes : P.cellsOf elem = ρ.es k) : ORel P ρ D k (.cells c elem) (.cells (c' ++ r') elem) := by
  refine .cells hsz hes (by simp [h.1]) fun i v hi => ?_
  obtain ⟨v', h1, h2⟩ := h.get hi
  refine ⟨v', ?_, h2⟩
  rw [Array.getElem?_append, if_pos (by rw [← h.1]; exact (Array.getElem?_eq_some_iff.1 hi).1)]
  exact h1
theorem get_cons (n m : Nat) (o : Obj) (l : List (Nat × Obj)) : View.get ⟨m, (n, o) :: l⟩ = fun k => if k = n then some o else find l k := by
  funext k
  simp only [View.get, find]
  by_cases hk : k = n
  · subst hk; simp
  · rw [beq_ne (Ne.symm hk), if_neg hk]

theorem one_rel {v v' : Value} (h : VRel ρ D v v') (h1 : one v = true) : one v' = true := by cases h <;> simp_all [one]
theorem one_all {xs ys : List Value} (h : LRel (VRel ρ D) xs ys) (h1 : ∀ x, x ∈ xs → one x = true) : ∀ y, y ∈ ys → one y = true := by
  induction h with
  | nil => intro y hy; cases hy
  | cons hv _ ih =>
    intro y hy
    rcases List.mem_cons.1 hy with rfl | hy
    · exact one_rel hv (h1 _ (by simp))
    · exact ih (fun x hx => h1 x (by simp [hx])) y hy
theorem loadFrom_get {a : Addr} : ∀ (n i : Nat) {acc cs : Array Value} {V1 : View}, runV P (Go.loadCellsFrom a i n acc) V = some (cs, V1) →
    (∀ k, k < acc.size → cs[k]? = acc[k]?) ∧ ∀ k, k < n → cs[acc.size + k]? = cell V (a.add (i + k)) := by
  intro n
  induction n with
  | zero => intro i acc cs V1 hr; simp only [Go.loadCellsFrom] at hr; cases hr; exact ⟨fun _ _ => rfl, fun k hk => by omega⟩
  | succ n ih =>
    intro i acc cs V1 hr
    simp only [Go.loadCellsFrom] at hr
    rw [runV_bind] at hr
    simp only [Go.load, runV] at hr
    cases hc : cell V (a.add i) with
    | none => simp [hc] at hr
    | some v =>
      simp only [hc, Option.bind_some] at hr
      obtain ⟨h1, h2⟩ := ih (i + 1) hr
      refine ⟨fun k hk => ?_, fun k hk => ?_⟩
      · rw [h1 k (by simp; omega), Array.getElem?_push, if_neg (by omega)]
      · cases k with
        | zero => rw [Nat.add_zero, Nat.add_zero, hc, h1 acc.size (by simp)]; simp
        | succ k =>
          have := h2 k (by omega)
          rw [show acc.size + (k + 1) = (acc.push v).size + k by simp; omega, this, show i + 1 + k = i + (k + 1) by omega]
set_option maxRecDepth 4000 in
theorem append_sound (hP : Good P) {ts : Array TypeId} {t : TypeId} {s x s' x' v : Value} {V1 : View} (hr : appendV P ts s x V = some (v, V1)) (hs : VRel ρ D s s') (hx : VRel ρ D x x') (hw : WRel P ρ D V.get w) (hd : ∀ b, V.next ≤ b → b < V1.next → ¬ D b) :
    ∃ ρ1 v' w1, (Builtin.append_ ts t #[s', x']).run P w = .ok v' w1 ∧ Stepped P ρ D V.get V.next w ρ1 V1.get V1.next w1 ∧ VRel ρ1 (grow D V.next V1.next) v v' := by
  unfold appendV at hr
  split at hr
  case h_2 => cases hr
  rename_i st xt h0 h1
  split at hr
  case h_2 => cases hr
  rename_i elem e2 hst hxt
  split at hr
  case h_2 => cases hr
  rename_i info hi
  split at hr
  case h_2 => cases hr
  rename_i z hz
  split at hr
  case h_2 => cases hr
  rename_i base sLen sCap xb n xc
  split at hr
  case h_2 => cases hr
  rename_i hsm
  simp only [Bool.and_eq_true, Nat.ble_eq] at hsm
  obtain ⟨hs1, hs2⟩ := hsm
  split at hr
  case h_2 => cases hr
  rename_i new Vn hnew
  split at hr
  case h_2 => cases hr
  rename_i hnz
  have hnz := Nat.eq_of_beq_eq_true hnz
  obtain ⟨xc', rfl⟩ : ∃ xc', x' = .slice (xb.map ρ.addr) n xc' := by
    rcases hx.sliceInv with ⟨rfl, rfl⟩ | ⟨a, c', rfl, ha, rfl, _⟩ <;> exact ⟨_, rfl⟩
  have hnewr : ∀ w, WRel P ρ D V.get w → ∃ new', (Builtin.firstCells info.size n (.slice (xb.map ρ.addr) n xc')).run P w = .ok new' w ∧ ARel ρ D new new' := fun w hw => (first_run hw hx hnew).2
  split at hr
  · rename_i hbig
    split at hr
    · rename_i hle
      have hle : sLen + n ≤ sCap := by simpa using hle
      split at hr
      · rename_i a
        split at hr
        case h_2 => cases hr
        rename_i u V2 hst2
        cases hr
        have hcap : sCap ≠ big := fun e => by rw [e, Nat.beq_refl] at hbig; cases hbig
        rcases hs.sliceInv with ⟨e, _⟩ | ⟨a0, c', e, ha, rfl, ⟨rfl, hc⟩ | ⟨e2, _⟩⟩
        · cases e
        · cases e
          obtain ⟨new', hn1, hn2⟩ := hnewr w hw
          have hsim := Sim.storeCells (P := P) (V := V) (a := a.add (sLen * info.size)) 0 (by rw [add_block]; exact ha) hn2.list w hw u V1 hst2 hd
          obtain ⟨ρ1, u', w1, h5, h6, _⟩ := hsim
          refine ⟨ρ1, _, w1, append_run1 h0 h1 hst hxt hi hle hn1 (by rw [Ren.addr_add]; exact h5), h6, ?_⟩
          have hag := h6.agree hd
          rw [← hag.addr ha]
          exact .slice (.inl ha) hc
        · exact absurd e2 hcap
      · cases hr
        rcases hs.sliceInv with ⟨_, rfl⟩ | ⟨a0, c', e, _⟩
        · obtain ⟨new', hn1, hn2⟩ := hnewr w hw
          exact ⟨ρ, _, w, append_run0 h0 h1 hst hxt hi hle hn1, .refl hw, .flat rfl⟩
        · cases e
    · rename_i hle
      have hle : sCap < sLen + n := by
        rcases Nat.lt_or_ge sCap (sLen + n) with h | h
        · exact h
        · rw [Nat.ble_eq_true_of_le h] at hle; cases hle
      split at hr
      case h_2 => cases hr
      rename_i old Vo hold
      split at hr
      case h_2 => cases hr
      rename_i hoz
      have hoz := Nat.eq_of_beq_eq_true hoz
      cases hr
      have hcap : sCap ≠ big := fun e => by rw [e, Nat.beq_refl] at hbig; cases hbig
      obtain ⟨hs', -⟩ : s' = .slice (base.map ρ.addr) sLen sCap ∧ True := by
        rcases hs.sliceInv with ⟨rfl, rfl⟩ | ⟨a0, c', rfl, ha, rfl, ⟨rfl, hc⟩ | ⟨e2, _⟩⟩
        · exact ⟨rfl, trivial⟩
        · exact ⟨rfl, trivial⟩
        · exact absurd e2 hcap
      have hwd : WRel P ρ D V.get w.drew := ⟨hw.dom, hw.real, hw.own, hw.ro, hw.inj⟩
      obtain ⟨new', hn1, hn2⟩ := hnewr w.drew hwd
      obtain ⟨_, old', ho1, ho2⟩ := first_run hwd hs hold
      subst hs'
      obtain ⟨nc, hnc, hrun⟩ := append_run2 (t := t) h0 h1 hst hxt hi hz hle hs1 hs2 ho1 hn1
      have hdn : ¬ D V.next := hd _ (Nat.le_refl _) (Nat.lt_succ_self _)
      have hag : ∀ a b c, Agree ρ (ρ.put V.next a b c) D := fun a b c => agree_put hdn
      have hcs := hP.zsize _ _ _ hi hz
      have htot : ((old' ++ new') ++ Builtin.zeroCells z.cells (nc - (sLen + n))).size = nc * info.size := by
        simp only [Array.size_append, zero_size, hcs, ← ho2.1, ← hn2.1, hoz, hnz]
        rw [← Nat.add_mul, ← Nat.add_mul, Nat.add_sub_cancel' hnc]
      refine ⟨ρ.put V.next w.heap.size (nc * info.size) info.size, _, _, hrun, ?_, ?_⟩
      · rw [get_cons]
        have := Stepped.alloc (n := V.next) (w := w.drew) (o := .cells (old ++ new) elem) (sz := nc * info.size) (es := info.size) hwd hdn
          (grown_rel ((ho2.append hn2).ext (hag _ _ _) fun k hk => .inl hk) (by rw [htot]; simp [Ren.put]) (by simp [Ren.put, Program.cellsOf, hi])) rfl (fun _ _ _ h => by cases h; rfl)
        exact ⟨this.next, this.b, this.o, this.sz, this.es, this.rel, this.os, this.tape, this.output, this.size, this.frame, this.fresh⟩
      · have := VRel.grown (ρ := ρ.put V.next w.heap.size (nc * info.size) info.size) (D := grow D V.next (V.next + 1)) (a := ⟨V.next, 0, none⟩) (len := sLen + n) (cap' := nc) (.inr (by simp)) hnc (by simp [Ren.put])
        simpa [Ren.addr, Ren.put] using this
  · rename_i hbig
    have hbig := Nat.eq_of_beq_eq_true hbig
    subst hbig
    split at hr
    case h_2 => cases hr
    rename_i a
    split at hr
    case h_2 => cases hr
    rename_i c0 e lo hi' hf
    split at hr
    case h_2 => cases hr
    rename_i hok
    simp only [Bool.and_eq_true, Bool.not_eq_true', List.all_eq_true] at hok
    obtain ⟨⟨⟨⟨k1, k2⟩, k3⟩, k4⟩, k5⟩ := hok
    have k1 := Nat.eq_of_beq_eq_true k1
    have k2 := Nat.eq_of_beq_eq_true k2
    have k4 := Nat.eq_of_beq_eq_true k4
    subst k1 k4
    split at hr
    case h_2 => cases hr
    rename_i old Vo hold
    split at hr
    case h_2 => cases hr
    rename_i hoz
    have hoz := Nat.eq_of_beq_eq_true hoz
    cases hr
    have hdn : ¬ D V.next := hd _ (Nat.le_refl _) (Nat.lt_succ_self _)
    have hag : ∀ a b c, Agree ρ (ρ.put V.next a b c) D := fun a b c => agree_put hdn
    have hcs := hP.zsize _ _ _ hi hz
    obtain ⟨hro, o', hheap, hor⟩ := hw.own a.block _ hf rfl
    rcases hs.sliceInv with ⟨e, _⟩ | ⟨a0, c', e, ha, rfl, ⟨rfl, hc⟩ | ⟨_, hl, hsz⟩⟩
    · cases e
    · exact absurd hc (by unfold big; omega)
    cases e
    have hspot : a.spot = none := by cases hq : a.spot <;> simp_all
    by_cases hfit : sLen + n ≤ c'
    · -- in place
      obtain ⟨new', hn1, hn2⟩ := hnewr w hw
      obtain ⟨_, old', ho1, ho2⟩ := first_run hw hs hold
      cases hor with
      | @cells _ cc _ hsz1 hes hle hvv =>
        have hesz : ρ.es a.block = info.size := by rw [← hes]; simp [Program.cellsOf, hi]
        have e1 : new'.toList.length = n * info.size := by simp [← hn2.1, hnz]
        have hroom : 0 + sLen * info.size + new'.toList.length ≤ cc.size := by
          have e2 : (sLen + n) * info.size ≤ c' * info.size := Nat.mul_le_mul_right _ hfit
          rw [Nat.add_mul] at e2
          rw [hesz, k2] at hsz
          rw [e1, hsz1]; omega
        have hone := one_all hn2.list (fun v hv => k5 v (by simpa using hv))
        have haddr : (ρ.addr a).add (sLen * info.size) = ⟨ρ.b a.block, sLen * info.size, none⟩ := by
          unfold Ren.addr Addr.add
          rw [hro, k2, hspot]
          split
          · rename_i h; simp [h]
          · simp
        obtain ⟨w1, c1, q1, q2, q3, q4, q5, q6, q7, q8, q9, q10⟩ := store_run (P := P) (b := ρ.b a.block) (e := e) new'.toList (sLen * info.size) 0 w cc hheap (by omega) hone
        refine ⟨ρ.put V.next (ρ.b a.block) (ρ.sz a.block) info.size, _, w1, append_run1 h0 h1 hst hxt hi hfit hn1 (by rw [haddr]; exact q1), ?_, ?_⟩
        · rw [get_cons]
          have hget : (fun k => if k = V.next then some (Obj.cells (old ++ new) e) else find (drop V.objs a.block) k) = (fun k => if k = V.next then some (Obj.cells (old ++ new) e) else if k = a.block then none else V.get k) := by
            funext k; rw [find_drop]; rfl
          rw [hget]
          refine Stepped.move hw hdn hf rfl ?_ rfl q7 q2 q6 q8 q9 q10
          refine .cells (by simp [Ren.put, q3, hsz1]) (by simp [Ren.put, Program.cellsOf, hi]) ?_ ?_
          · rw [q3]; simp [hoz, hnz]
            have : new'.toList.length = n * info.size := by simp [← hn2.1, hnz]
            omega
          · intro i v hiv
            rw [Array.getElem?_append] at hiv
            split at hiv
            · rename_i hlt
              rw [hoz] at hlt
              have g0 := (loadFrom_get (sLen * info.size) 0 hold).2 i hlt
              simp only [Array.size_empty, Nat.zero_add] at g0
              rw [hiv] at g0
              have g1 : c0[i]? = some v := by
                have : (a.add i).block = a.block := add_block _ _
                unfold Vm.cell at g0
                rw [this, hf] at g0
                simp only at g0
                split at g0
                · cases g0
                · rw [g0]; unfold Addr.add; split
                  · rename_i h; rw [k2, h]
                  · simp [k2]
              obtain ⟨v', p1, p2⟩ := hvv i v g1
              refine ⟨v', ?_, p2.ext (hag _ _ _) fun k hk => .inl hk⟩
              rw [q4 i (by omega)]; exact p1
            · rename_i hlt
              obtain ⟨v', p1, p2⟩ := hn2.get hiv
              refine ⟨v', ?_, p2.ext (hag _ _ _) fun k hk => .inl hk⟩
              rw [hoz] at hlt p1
              have := q5 (i - sLen * info.size) (by have := (Array.getElem?_eq_some_iff.1 p1).1; simpa using this)
              rw [show sLen * info.size + 0 + (i - sLen * info.size) = i by omega] at this
              rw [this]; simpa using p1
        · have := VRel.grown (ρ := ρ.put V.next (ρ.b a.block) (ρ.sz a.block) info.size) (D := grow D V.next (V.next + 1)) (a := ⟨V.next, 0, none⟩) (len := sLen + n) (cap' := c') (.inr (by simp)) hfit (by simp [Ren.put]; rw [k2, hesz] at hsz; simpa using hsz)
          have he : ρ.addr a = ⟨ρ.b a.block, 0, none⟩ := by simp [Ren.addr, hro, k2, hspot]
          rw [he]
          simpa [Ren.addr, Ren.put] using this
    · -- grown
      have hwd : WRel P ρ D V.get w.drew := ⟨hw.dom, hw.real, hw.own, hw.ro, hw.inj⟩
      obtain ⟨new', hn1, hn2⟩ := hnewr w.drew hwd
      obtain ⟨_, old', ho1, ho2⟩ := first_run hwd hs hold
      obtain ⟨nc, hnc, hrun⟩ := append_run2 (t := t) h0 h1 hst hxt hi hz (by omega) hs1 hs2 ho1 hn1
      have htot : ((old' ++ new') ++ Builtin.zeroCells z.cells (nc - (sLen + n))).size = nc * info.size := by
        simp only [Array.size_append, zero_size, hcs, ← ho2.1, ← hn2.1, hoz, hnz]
        rw [← Nat.add_mul, ← Nat.add_mul, Nat.add_sub_cancel' hnc]
      refine ⟨ρ.put V.next w.heap.size (nc * info.size) info.size, _, _, hrun, ?_, ?_⟩
      · have hget := get_cons V.next (V.next + 1) (.cells (old ++ new) e) (drop V.objs a.block)
        simp only [hget]
        have := Stepped.alloc (n := V.next) (w := w.drew) (o := .cells (old ++ new) e) (sz := nc * info.size) (es := info.size) hwd hdn
          (grown_rel ((ho2.append hn2).ext (hag _ _ _) fun k hk => .inl hk) (by rw [htot]; simp [Ren.put]) (by simp [Ren.put, Program.cellsOf, hi])) rfl (fun _ _ _ h => by cases h; rfl)
        have := this.sub (g2 := fun k => if k = V.next then some (Obj.cells (old ++ new) e) else find (drop V.objs a.block) k) (fun b o h => by
          (try dsimp only at h ⊢)
          split at h
          · rename_i hb; rw [if_pos hb]; exact h
          · rename_i hb; rw [if_neg hb]; rw [find_drop] at h; split at h
            · cases h
            · exact h)
        exact ⟨this.next, this.b, this.o, this.sz, this.es, this.rel, this.os, this.tape, this.output, this.size, this.frame, this.fresh⟩
      · have := VRel.grown (ρ := ρ.put V.next w.heap.size (nc * info.size) info.size) (D := grow D V.next (V.next + 1)) (a := ⟨V.next, 0, none⟩) (len := sLen + n) (cap' := nc) (.inr (by simp)) hnc (by simp [Ren.put])
        simpa [Ren.addr, Ren.put] using this
end Go.Vm
