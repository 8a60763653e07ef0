/- Loads, stores, new blocks. -/
import Derived.Test.YtcphndfipjifcaaVqC
namespace Go.Vm
variable {P : Program} {ρ ρ1 ρ2 : Ren} {D D1 : Nat → Prop} {g g1 g2 : Nat → Option Obj} {n m m2 : Nat} {w w1 w2 : World} {V : View}

theorem owned_cells {c : Array Value} {e : TypeId} {lo hi : Nat} : owned (.cells c e (lo, hi)) = Nat.beq hi 0 := rfl

theorem WRel.cell (h : WRel P ρ D V.get w) {a : Addr} {v : Value} (hc : cell V a = some v) : ∃ v', w.cell? (ρ.addr a) = some v' ∧ VRel ρ D v v' := by
  unfold Vm.cell at hc
  split at hc
  · rename_i c e fz hf
    obtain ⟨lo, hi⟩ := fz
    split at hc
    · cases hc
    · rename_i hs
      have hsp : a.spot = none := by cases hq : a.spot <;> simp_all
      by_cases h0 : hi = 0
      · subst h0
        obtain ⟨ho, o', hw, hr⟩ := h.own a.block _ hf rfl
        cases hr with
        | cells hsz hes hle hv =>
          obtain ⟨v', h1, h2⟩ := hv a.off v hc
          refine ⟨v', ?_, h2⟩
          simp [Ren.addr, World.cell?, hw, hsp, ho, h1]
      · obtain ⟨v', h1, h2⟩ := h.ro a.block c e (lo, hi) hf h0 a.off v hc
        refine ⟨v', ?_, h2⟩
        rw [← h1]; simp [Ren.addr, hsp]
  · cases hc

/-- a block of one's own is turned -/
theorem Stepped.update (h : WRel P ρ D g w) {b : Nat} {o0 o o' : Obj} (hb : g b = some o0) (ho : owned o0 = true) (hr : ORel P ρ D b o o') (ho1 : owned o = true)
    (hz : w1.heap.size = w.heap.size) (hw : w1.heap[ρ.b b]? = some o') (hs : ∀ k, k ≠ ρ.b b → w1.heap[k]? = w.heap[k]?) (h1 : w1.os = w.os) (h2 : w1.tape = w.tape) (h3 : w1.output = w.output) :
    Stepped P ρ D g n w ρ (fun k => if k = b then some o else g k) n w1 where
  next := Nat.le_refl _
  b _ _ := rfl
  o _ _ := rfl
  sz _ _ := rfl
  es _ _ := rfl
  rel := by
    rw [grow_nil]
    refine ⟨fun k x hk => ?_, fun k x hk => ?_, fun k x hk hx => ?_, fun k cs e fz hk hfz i v hi => ?_, fun k c x y hk hc hx hne => ?_⟩
    · (try dsimp only at hk); split at hk
      · subst_vars; exact h.dom _ _ hb
      · exact h.dom _ _ hk
    · rw [hz]; (try dsimp only at hk); split at hk
      · subst_vars; exact h.real _ _ hb
      · exact h.real _ _ hk
    · (try dsimp only at hk); split at hk
      · subst_vars; cases hk; exact ⟨(h.own _ _ hb ho).1, o', hw, hr⟩
      · rename_i hne
        obtain ⟨h4, x', h5, h6⟩ := h.own _ _ hk hx
        exact ⟨h4, x', by rw [hs _ (h.inj k b _ _ hk hb hx hne)]; exact h5, h6⟩
    · (try dsimp only at hk); split at hk
      · cases hk; simp [owned] at ho1; exact absurd ho1 hfz
      · rename_i hne
        obtain ⟨v', h4, h5⟩ := h.ro _ _ _ _ hk hfz i v hi
        refine ⟨v', ?_, h5⟩
        rw [← h4]; unfold World.cell?; rw [hs _ (fun e => h.inj b k _ _ hb hk ho (fun e2 => hne e2.symm) e.symm)]
    · (try dsimp only at hk hc)
      split at hk
      · split at hc
        · subst_vars; exact absurd rfl hne
        · subst_vars; exact h.inj _ _ _ _ hb hc ho hne
      · split at hc
        · subst_vars; exact h.inj _ _ _ _ hk hb hx hne
        · exact h.inj _ _ _ _ hk hc hx hne
  os := h1
  tape := h2
  output := h3
  size := by omega
  frame k hk hn := hs k (fun e => hn b o0 hb ho e.symm)
  fresh k x hk hx := by
    (try dsimp only at hk); split at hk
    · subst_vars; exact .inr ⟨_, o0, hb, ho, rfl⟩
    · exact .inr ⟨k, x, hk, hx, rfl⟩

def Ren.put (ρ : Ren) (n b sz es : Nat) : Ren :=
  ⟨fun k => if k = n then b else ρ.b k, fun k => if k = n then 0 else ρ.o k, fun k => if k = n then sz else ρ.sz k, fun k => if k = n then es else ρ.es k⟩
theorem agree_put {b sz es : Nat} (hd : ¬ D n) : Agree ρ (ρ.put n b sz es) D :=
  ⟨fun k hk => if_neg (fun (e : k = n) => hd (e ▸ hk)), fun k hk => if_neg (fun (e : k = n) => hd (e ▸ hk)), fun k hk => if_neg (fun (e : k = n) => hd (e ▸ hk)), fun k hk => if_neg (fun (e : k = n) => hd (e ▸ hk))⟩

/-- a new block -/
theorem Stepped.alloc (h : WRel P ρ D g w) (hd : ¬ D n) {o o' : Obj} {sz es : Nat} (hr : ORel P (ρ.put n w.heap.size sz es) (grow D n (n + 1)) n o o') (ho : owned o = true) (ho2 : ∀ (c : Array Value) (e : TypeId) (fz : Nat × Nat), o = .cells c e fz → fz = (0, 0)) :
    Stepped P ρ D g n w (ρ.put n w.heap.size sz es) (fun k => if k = n then some o else g k) (n + 1) { w with heap := w.heap.push o' } := by
  have hag : Agree ρ (ρ.put n w.heap.size sz es) D := agree_put hd
  have hg : ∀ k, D k → grow D n (n + 1) k := fun k hk => .inl hk
  have hgn : g n = none := by
    cases hq : g n with
    | none => rfl
    | some x => exact absurd (h.dom _ _ hq) hd
  refine { next := by omega, b := fun k hk => if_neg (by omega), o := fun k hk => if_neg (by omega), sz := fun k hk => if_neg (by omega), es := fun k hk => if_neg (by omega), rel := ?_, os := rfl, tape := rfl, output := rfl, size := by simp, frame := fun k hk _ => by simp [Array.getElem?_push, Nat.ne_of_lt hk], fresh := ?_ }
  · refine ⟨fun k x hk => ?_, fun k x hk => ?_, fun k x hk hx => ?_, fun k cs e fz hk hfz i v hi => ?_, fun k c x y hk hc hx hne => ?_⟩
    · (try dsimp only at hk); split at hk
      · exact .inr (by omega)
      · exact .inl (h.dom _ _ hk)
    · (try dsimp only at hk); split at hk
      · subst_vars; simp [Ren.put]
      · rw [hag.b _ (h.dom _ _ hk)]; have := h.real _ _ hk; simp; omega
    · (try dsimp only at hk); split at hk
      · subst_vars; cases hk; refine ⟨by simp [Ren.put], o', by simp [Ren.put], hr⟩
      · obtain ⟨h4, x', h5, h6⟩ := h.own _ _ hk hx
        refine ⟨by rw [hag.o _ (h.dom _ _ hk)]; exact h4, x', ?_, h6.ext hag hg (h.dom _ _ hk)⟩
        rw [hag.b _ (h.dom _ _ hk)]
        have := h.real _ _ hk
        simp [Array.getElem?_push, Nat.ne_of_lt this]; exact h5
    · (try dsimp only at hk); split at hk
      · cases hk; exact absurd (by rw [ho2 _ _ _ rfl]) hfz
      · obtain ⟨v', h4, h5⟩ := h.ro _ _ _ _ hk hfz i v hi
        refine ⟨v', ?_, h5.ext hag hg⟩
        rw [hag.b _ (h.dom _ _ hk), hag.o _ (h.dom _ _ hk), ← h4]
        have := h.real _ _ hk
        unfold World.cell?
        simp [Array.getElem?_push, Nat.ne_of_lt this]
    · (try dsimp only at hk hc)
      split at hk
      · split at hc
        · subst_vars; exact absurd rfl hne
        · subst_vars
          rw [hag.b _ (h.dom _ _ hc)]
          have := h.real _ _ hc
          simp [Ren.put]; omega
      · split at hc
        · subst_vars
          rw [hag.b _ (h.dom _ _ hk)]
          have := h.real _ _ hk
          simp [Ren.put]; omega
        · rw [hag.b _ (h.dom _ _ hk), hag.b _ (h.dom _ _ hc)]; exact h.inj _ _ _ _ hk hc hx hne
  · intro k x hk hx
    (try dsimp only at hk); split at hk
    · subst_vars; exact .inl (by simp [Ren.put])
    · exact .inr ⟨k, x, hk, hx, hag.b _ (h.dom _ _ hk)⟩

section
variable {α β : Type} {Φ : Ren → (Nat → Prop) → α → β → Prop}
abbrev VR : Ren → (Nat → Prop) → Value → Value → Prop := VRel

theorem Sim.load {a : Addr} : Sim P ρ D V (Go.load a) (Go.load (ρ.addr a)) VR := by
  intro w hw v V1 hr hd
  simp only [Go.load, runV] at hr
  split at hr
  · rename_i v0 hv
    (try simp only [runV] at hr)
    cases hr
    obtain ⟨v', h1, h2⟩ := hw.cell hv
    exact ⟨ρ, v', w, by simp [Go.load, Sem.run, h1], .refl hw, by rw [grow_nil]; exact h2⟩
  · cases hr

theorem Sim.store {a : Addr} {v v' : Value} (hv : VRel ρ D v v') : Sim P ρ D V (Go.store a v) (Go.store (ρ.addr a) v') (fun _ _ _ _ => True) := by
  intro w hw u V1 hr hd
  simp only [Go.store, runV] at hr
  split at hr
  · rename_i c e lo hi hf
    split at hr
    · rename_i hok
      (try simp only [runV] at hr)
      cases hr
      simp only [okStore, Bool.and_eq_true, Bool.not_eq_true', Nat.blt_eq] at hok
      obtain ⟨⟨⟨h0, hs⟩, hlt⟩, h1⟩ := hok
      have h0 : hi = 0 := Nat.eq_of_beq_eq_true h0
      subst h0
      obtain ⟨ho, o', hw', hr'⟩ := hw.own a.block _ hf rfl
      cases hr' with
      | @cells _ c' _ hsz hes hle hvv =>
        have hsp : a.spot = none := by cases hq : a.spot <;> simp_all
        have hlt' : a.off < c'.size := by omega
        have hcell : w.cell? (ρ.addr a) = some c'[a.off] := by simp [Ren.addr, World.cell?, hw', hsp, ho, hlt']
        have hfr : w.frozen? (ρ.addr a) = false := by simp [Ren.addr, World.frozen?, hw']
        have hset : (w.setCell (ρ.addr a) v').heap = w.heap.setIfInBounds (ρ.b a.block) (.cells (c'.setIfInBounds a.off v') e (0, 0)) := by
          apply Array.ext_getElem?
          intro i
          simp only [World.setCell, Ren.addr, ho, Nat.zero_add, hsp, Array.getElem?_modify, Array.getElem?_setIfInBounds]
          split
          · rename_i hi
            subst hi
            obtain ⟨hlt2, hv2⟩ := Array.getElem?_eq_some_iff.1 hw'
            simp [hlt2, hv2]
          · rfl
        have hob : one v' = true := by
          cases hv <;> simp_all [one]
        have hlt2 := (Array.getElem?_eq_some_iff.1 hw').1
        refine ⟨ρ, (), w.setCell (ρ.addr a) v', ?_, ?_, trivial⟩
        · have : v' ≠ .agg #[] := by rintro rfl; simp [one] at hob
          cases v' <;> first | (simp [one] at hob; done) | simp [Go.store, Sem.run, hcell, hfr]
        · have hst := Stepped.update (n := V.next) (w1 := w.setCell (ρ.addr a) v') (o := .cells (c.setIfInBounds a.off v) e (0, 0)) (o' := .cells (c'.setIfInBounds a.off v') e (0, 0)) hw hf rfl
            (.cells (by simpa using hsz) hes (by simpa using hle) (fun i x hx => by
              rw [Array.getElem?_setIfInBounds] at hx ⊢
              split at hx
              · rename_i hi
                subst hi
                (try rw [if_pos hlt] at hx)
                cases hx
                exact ⟨v', by simp [hlt'], hv⟩
              · rename_i hi
                rw [if_neg hi]; exact hvv i x hx)) rfl
            (by rw [hset]; simp) (by rw [hset]; simp [hlt2]) (fun k hk => by rw [hset]; simp [Array.getElem?_setIfInBounds, Ne.symm hk]) rfl rfl rfl
          refine (funext fun k => ?_ : (View.get ⟨V.next, put V.objs a.block (.cells (c.setIfInBounds a.off v) e (0, 0))⟩) = _) ▸ hst
          show find (put V.objs a.block _) k = _
          rw [find_put, hf]
          rfl
    · cases hr
  · cases hr

theorem Sim.newCells {c c' : Array Value} {e : TypeId} (hc : ARel ρ D c c') : Sim P ρ D V (newObj (.cells c e)) (newObj (.cells c' e)) (fun ρ1 D1 r r' => D1 r ∧ r' = ρ1.b r ∧ ρ1.o r = 0 ∧ ρ1.sz r = c'.size ∧ ρ1.es r = P.cellsOf e) := by
  intro w hw r V1 hr hd
  simp only [newObj, runV, okNew, Nat.beq_refl, Bool.and_self] at hr
  cases hr
  have hn : ¬ D V.next := hd _ (Nat.le_refl _) (Nat.lt_succ_self _)
  have hag : Agree ρ (ρ.put V.next w.heap.size c'.size (P.cellsOf e)) D := agree_put hn
  refine ⟨ρ.put V.next w.heap.size c'.size (P.cellsOf e), w.heap.size, { w with heap := w.heap.push (.cells c' e) }, by simp [newObj, Sem.run], ?_, ?_⟩
  · have := Stepped.alloc (n := V.next) (o := .cells c e) (o' := .cells c' e) (sz := c'.size) (es := P.cellsOf e) hw hn
      (.cells (by simp [Ren.put]) (by simp [Ren.put]) (by rw [hc.1]; exact Nat.le_refl _) (fun i v hi => by
        obtain ⟨v', h1, h2⟩ := hc.get hi
        exact ⟨v', h1, h2.ext hag (fun k hk => .inl hk)⟩)) rfl (fun _ _ _ h => by cases h; rfl)
    refine (funext fun k => ?_ : (View.get ⟨V.next + 1, (V.next, .cells c e) :: V.objs⟩) = _) ▸ this
    show find (_ :: _) k = _
    simp only [find]
    by_cases hk : k = V.next
    · subst hk; simp
    · rw [beq_ne (Ne.symm hk), if_neg hk]; rfl
  · exact ⟨.inr (by simp), by simp [Ren.put], by simp [Ren.put], by simp [Ren.put], by simp [Ren.put]⟩

theorem Sim.newObj {o o' : Obj} (hn : isRow o = false) (ho : ∀ ρ1 D1 k, Agree ρ ρ1 D → (∀ b, D b → D1 b) → ORel P ρ1 D1 k o o') : Sim P ρ D V (Go.newObj o) (Go.newObj o') (fun ρ1 D1 r r' => D1 r ∧ r' = ρ1.b r) := by
  intro w hw r V1 hr hd
  simp only [Go.newObj, runV] at hr
  split at hr
  · cases hr
    have hnn : ¬ D V.next := hd _ (Nat.le_refl _) (Nat.lt_succ_self _)
    have hag : Agree ρ (ρ.put V.next w.heap.size 0 0) D := agree_put hnn
    refine ⟨ρ.put V.next w.heap.size 0 0, w.heap.size, { w with heap := w.heap.push o' }, by simp [Go.newObj, Sem.run], ?_, ?_⟩
    · have := Stepped.alloc (n := V.next) (o := o) (o' := o') (sz := 0) (es := 0) hw hnn (ho _ _ _ hag fun k hk => .inl hk) (by cases o <;> first | rfl | simp [isRow] at hn) (fun _ _ _ h => by subst h; simp [isRow] at hn)
      refine (funext fun k => ?_ : (View.get ⟨V.next + 1, (V.next, o) :: V.objs⟩) = _) ▸ this
      show find (_ :: _) k = _
      simp only [find]
      by_cases hk : k = V.next
      · subst hk; simp
      · rw [beq_ne (Ne.symm hk), if_neg hk]; rfl
    · exact ⟨.inr (by simp), by simp [Ren.put]⟩
  · cases hr

theorem Sim.getObj {r : Nat} : Sim P ρ D V (Go.getObj r) (Go.getObj (ρ.b r)) (fun ρ1 D1 o o' => isRow o = false ∧ ORel P ρ1 D1 r o o' ∧ find V.objs r = some o) := by
  intro w hw o V1 hr hd
  simp only [Go.getObj, runV] at hr
  split at hr
  · rename_i o0 hf
    split at hr
    · cases hr
    · rename_i hrow
      (try simp only [runV] at hr)
      cases hr
      have hro : isRow o = false := by cases hq : isRow o <;> simp_all
      obtain ⟨h1, o', h2, h3⟩ := hw.own r o hf (by cases o <;> first | rfl | simp [isRow] at hro)
      refine ⟨ρ, o', w, ?_, .refl hw, by rw [grow_nil]; exact ⟨hro, h3, hf⟩⟩
      cases h3 <;> simp [isRow] at hro <;> simp [Go.getObj, Sem.run, h2]
  · cases hr

theorem Sim.setObj {r : Nat} {o o' : Obj} (hn : isRow o = false) (ho : ORel P ρ D r o o') : Sim P ρ D V (Go.setObj r o) (Go.setObj (ρ.b r) o') (fun _ _ _ _ => True) := by
  intro w hw u V1 hr hd
  simp only [Go.setObj, runV] at hr
  split at hr
  · rename_i o0 hf
    split at hr
    · cases hr
    · rename_i hrow
      (try simp only [runV] at hr)
      cases hr
      have hrow0 : isRow o0 = false := by cases hq : isRow o0 <;> simp_all
      have hown : owned o0 = true := by cases o0 <;> first | rfl | simp [isRow] at hrow0
      obtain ⟨h1, x', h2, h3⟩ := hw.own r o0 hf hown
      have hlt := (Array.getElem?_eq_some_iff.1 h2).1
      refine ⟨ρ, (), { w with heap := w.heap.setIfInBounds (ρ.b r) o' }, ?_, ?_, trivial⟩
      · cases h3 <;> simp [isRow] at hrow0 <;> simp [Go.setObj, Sem.run, h2]
      · have := Stepped.update (n := V.next) (w1 := { w with heap := w.heap.setIfInBounds (ρ.b r) o' }) hw hf hown ho (by cases o <;> first | rfl | simp [isRow] at hn) (by simp) (by simp [hlt]) (fun k hk => by simp [Array.getElem?_setIfInBounds, Ne.symm hk]) rfl rfl rfl
        refine (funext fun k => ?_ : (View.get ⟨V.next, put V.objs r o⟩) = _) ▸ this
        show find (put V.objs r o) k = _
        rw [find_put, hf]
        rfl
  · cases hr
end
end Go.Vm
