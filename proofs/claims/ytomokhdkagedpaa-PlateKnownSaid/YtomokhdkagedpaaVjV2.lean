/- A small memory to compute in: appends, maps, one operation. -/
import Derived.Test.YtomokhdkagedpaaVjV1
import Derived.Lib.ConvBytes
set_option linter.unusedVariables false
/- append -/
namespace Go.Vm
variable {P : Program} {ρ ρ1 ρ2 : Ren} {D D1 : Nat → Prop} {V : View} {α β γ δ : Type} {w w1 : World}

theorem append_run1 {ts : Array TypeId} {t st xt elem e2 : TypeId} {info : TypeInfo} {a : Addr} {xb : Option Addr} {sLen cap n xc : Nat} {new : Array Value} (h0 : ts[0]? = some st) (h1 : ts[1]? = some xt) (hs : P.underlying st = some (.slice elem)) (hx : P.underlying xt = some (.slice e2))
    (hi : P.info? elem = some info) (hn : sLen + n ≤ cap) (hnew : (Builtin.firstCells info.size n (.slice xb n xc)).run P w = .ok new w) (hst : (Go.storeCells (a.add (sLen * info.size)) new.toList).run P w = .ok () w1) :
    (Builtin.append_ ts t #[.slice (some a) sLen cap, .slice xb n xc]).run P w = .ok (.slice (some a) (sLen + n) cap) w1 := by
  unfold Builtin.append_
  simp [h0, h1, Sem.run_bind, run_und hs, run_und hx, run_siz hi, Result.andThen, Builtin.lenOf, hn, hnew, hst]
theorem append_run0 {ts : Array TypeId} {t st xt elem e2 : TypeId} {info : TypeInfo} {xb : Option Addr} {sLen cap n xc : Nat} {new : Array Value} (h0 : ts[0]? = some st) (h1 : ts[1]? = some xt) (hs : P.underlying st = some (.slice elem)) (hx : P.underlying xt = some (.slice e2))
    (hi : P.info? elem = some info) (hn : sLen + n ≤ cap) (hnew : (Builtin.firstCells info.size n (.slice xb n xc)).run P w = .ok new w) :
    (Builtin.append_ ts t #[.slice none sLen cap, .slice xb n xc]).run P w = .ok (.slice none (sLen + n) cap) w := by
  unfold Builtin.append_
  simp [h0, h1, Sem.run_bind, run_und hs, run_und hx, run_siz hi, Result.andThen, Builtin.lenOf, hn, hnew]
theorem grow_le2 : ∀ (r c m : Nat), c < m → Builtin.growBy m r c ≤ 2 * m + 768
  | 0, c, m, h => by simp [Builtin.growBy]; omega
  | r + 1, c, m, h => by
    unfold Builtin.growBy
    split
    · omega
    · by_cases h2 : c + (c + 768) / 4 < m
      · exact grow_le2 r _ m h2
      · cases r with
        | zero => simp [Builtin.growBy]; omega
        | succ r => unfold Builtin.growBy; rw [if_pos (by omega)]; omega
theorem next_le (need cap : Nat) (h : cap < need) : Builtin.nextslicecap need cap ≤ 2 * need + 768 := by
  unfold Builtin.nextslicecap
  split
  · omega
  · split
    · omega
    · exact grow_le2 4 cap need h
theorem append_run2 {ts : Array TypeId} {t st xt elem e2 : TypeId} {info : TypeInfo} {z : Value} {base xb : Option Addr} {sLen cap n xc : Nat} {old new : Array Value} (h0 : ts[0]? = some st) (h1 : ts[1]? = some xt) (hs : P.underlying st = some (.slice elem)) (hx : P.underlying xt = some (.slice e2))
    (hi : P.info? elem = some info) (hz : info.zero = some z) (hn : cap < sLen + n) (hb : sLen + n ≤ 2 ^ 20) (hb2 : info.bytes ≤ 2 ^ 20)
    (hold : (Builtin.firstCells info.size sLen (.slice base sLen cap)).run P w.drew = .ok old w.drew)
    (hnew : (Builtin.firstCells info.size n (.slice xb n xc)).run P w.drew = .ok new w.drew) :
    ∃ newCap, sLen + n ≤ newCap ∧ (Builtin.append_ ts t #[.slice base sLen cap, .slice xb n xc]).run P w =
      .ok (.slice (some ⟨w.heap.size, 0, none⟩) (sLen + n) newCap) (w.drew.alloc (.cells (old ++ new ++ Builtin.zeroCells z.cells (newCap - (sLen + n))) elem)) := by
  have hq : (Question.appendCap (sLen + n) cap elem).forced = false := rfl
  refine ⟨(Question.appendCap (sLen + n) cap elem).cut (w.tape w.drawn (Question.appendCap (sLen + n) cap elem)), by simp [Question.cut], ?_⟩
  have hnc := next_le (sLen + n) cap hn
  have hm : ¬ (Builtin.nextslicecap (sLen + n) cap * info.bytes > 2 ^ 48) := by
    have : Builtin.nextslicecap (sLen + n) cap * info.bytes ≤ (2 * 2 ^ 20 + 768) * 2 ^ 20 := Nat.mul_le_mul (by omega) hb2
    omega
  have hm2 : ¬ (((sLen + n : Nat) : Int) > IntKind.i64.max ∧ (false = true ∨ info.bytes = 0)) := by
    intro h
    have := h.1
    simp [IntKind.max, IntKind.bits, IntKind.signed] at this
    omega
  have hm3 : ¬ (9223372036854775807 < (sLen : Int) + n ∧ info.bytes = 0) := by omega
  have hle : ¬ (sLen + n ≤ cap) := by omega
  have hask : ∀ (k : Nat) (f : Unit → Sem Value) (w : World), (Go.askRoom k >>= f).run P w = (f ()).run P w := by
    intro k f w
    unfold askRoom
    split
    · rw [Sem.run_bind]; simp [Go.mark, Sem.run, Result.andThen]
    · rfl
  unfold Builtin.append_
  simp [h0, h1, Sem.run_bind, run_und hs, run_und hx, run_siz hi, run_inf hi, run_zer hi hz, Result.andThen, Builtin.lenOf, hle, hm, hm3, hq, choose, Sem.run, hask, hold, hnew, Go.newRow, Go.newObj]
  rfl

/-- a block is turned and bears a new name from here on -/
theorem Stepped.move {g : Nat → Option Obj} {n : Nat} (h : WRel P ρ D g w) (hd : ¬ D n) {b : Nat} {o0 o o' : Obj} {sz es : Nat} (hb : g b = some o0) (ho : owned o0 = true) (hr : ORel P (ρ.put n (ρ.b b) sz es) (grow D n (n + 1)) n o o') (ho1 : owned o = true)
    (hz : w1.heap.size = w.heap.size) (hw : w1.heap[ρ.b b]? = some o') (hs : ∀ k, k ≠ ρ.b b → w1.heap[k]? = w.heap[k]?) (h1 : w1.os = w.os) (h2 : w1.tape = w.tape) (h3 : w1.output = w.output) :
    Stepped P ρ D g n w (ρ.put n (ρ.b b) sz es) (fun k => if k = n then some o else if k = b then none else g k) (n + 1) w1 := by
  have hag : Agree ρ (ρ.put n (ρ.b b) sz es) D := agree_put hd
  have hg : ∀ k, D k → grow D n (n + 1) k := fun k hk => .inl hk
  refine { next := by omega, b := fun k hk => if_neg (by omega), o := fun k hk => if_neg (by omega), sz := fun k hk => if_neg (by omega), es := fun k hk => if_neg (by omega), rel := ?_, os := h1, tape := h2, output := h3, size := by omega, frame := fun k hk hn => hs k (fun e => hn b o0 hb ho e.symm), fresh := ?_ }
  · refine ⟨fun k x hk => ?_, fun k x hk => ?_, fun k x hk hx => ?_, fun k cs e fz hk hfz i v hi => ?_, fun k es c hk => ?_, fun k c x y hk hc hx hne => ?_⟩
    · (try dsimp only at hk); split at hk
      · exact .inr (by omega)
      · split at hk
        · cases hk
        · exact .inl (h.dom _ _ hk)
    · (try dsimp only at hk); rw [hz]; split at hk
      · subst_vars; simp [Ren.put]; exact h.real _ _ hb
      · split at hk
        · cases hk
        · rw [hag.b _ (h.dom _ _ hk)]; exact h.real _ _ hk
    · (try dsimp only at hk); split at hk
      · subst_vars; cases hk; exact ⟨by simp [Ren.put], o', by simp [Ren.put]; exact hw, hr⟩
      · split at hk
        · cases hk
        · rename_i hne
          obtain ⟨h4, x', h5, h6⟩ := h.own _ _ hk hx
          refine ⟨by rw [hag.o _ (h.dom _ _ hk)]; exact h4, x', ?_, h6.ext hag hg (h.dom _ _ hk)⟩
          rw [hag.b _ (h.dom _ _ hk), hs _ (h.inj k b _ _ hk hb hx hne)]; exact h5
    · (try dsimp only at hk); split at hk
      · cases hk; simp [owned] at ho1; exact absurd ho1 hfz
      · split at hk
        · cases hk
        · rename_i hne
          obtain ⟨v', h4, h5⟩ := h.ro _ _ _ _ hk hfz i v hi
          refine ⟨v', ?_, h5.ext hag hg⟩
          rw [hag.b _ (h.dom _ _ hk), hag.o _ (h.dom _ _ hk), ← h4]; unfold World.cell?; rw [hs _ (fun e => h.inj b k _ _ hb hk ho (fun e2 => hne e2.symm) e.symm)]
    · (try dsimp only at hk); split at hk
      · subst_vars; cases hk
        cases hr with
        | map hm => exact ⟨_, c, by simp [Ren.put]; exact hw, hm⟩
      · split at hk
        · cases hk
        · rename_i hne
          obtain ⟨es', c', h4, h5⟩ := h.rom _ _ _ hk
          refine ⟨es', c', ?_, h5.mono fun _ _ r => r.ext hag hg⟩
          rw [hag.b _ (h.dom _ _ hk), hs _ (fun e => h.inj b k _ _ hb hk ho (fun e2 => hne e2.symm) e.symm)]; exact h4
    · (try dsimp only at hk hc)
      split at hk
      · split at hc
        · subst_vars; exact absurd rfl hne
        · split at hc
          · cases hc
          · rename_i hcb
            rw [hag.b _ (h.dom _ _ hc)]
            subst_vars
            simp only [Ren.put, if_true]
            exact h.inj _ _ _ _ hb hc ho (fun e => hcb e.symm)
      · split at hk
        · cases hk
        · rename_i hb2
          split at hc
          · subst_vars
            rw [hag.b _ (h.dom _ _ hk)]
            simp only [Ren.put, if_true]
            exact h.inj _ _ _ _ hk hb hx hb2
          · split at hc
            · cases hc
            · rw [hag.b _ (h.dom _ _ hk), hag.b _ (h.dom _ _ hc)]; exact h.inj _ _ _ _ hk hc hx hne
  · intro k x hk hx
    (try dsimp only at hk); split at hk
    · subst_vars; exact .inr ⟨b, o0, hb, ho, by simp [Ren.put]⟩
    · split at hk
      · cases hk
      · exact .inr ⟨k, x, hk, hx, hag.b _ (h.dom _ _ hk)⟩

def appendV (P : Program) (ts : Array TypeId) (s x : Value) (V : View) : Option (Value × View) :=
  match ts[0]?, ts[1]? with
  | some st, some xt => match P.underlying st, P.underlying xt with
    | some (.slice elem), some (.slice _) => match P.info? elem with
      | some info => match info.zero with
        | some _ => match s, x with
          | .slice base sLen sCap, .slice xb n xc =>
            match Nat.ble (sLen + n) (2 ^ 20) && Nat.ble info.bytes (2 ^ 20) with
            | true => match runV P (Builtin.firstCells info.size n (.slice xb n xc)) V with
              | some (new, _) => match Nat.beq new.size (n * info.size) with
                | true => match Nat.beq sCap big with
                  | false => match Nat.ble (sLen + n) sCap with
                    | true => match base with
                      | some a => match runV P (Go.storeCells (a.add (sLen * info.size)) new.toList) V with
                        | some (_, V1) => some (.slice (some a) (sLen + n) sCap, V1)
                        | none => none
                      | none => some (.slice none (sLen + n) sCap, V)
                    | false => match runV P (Builtin.firstCells info.size sLen (.slice base sLen sCap)) V with
                      | some (old, _) => match Nat.beq old.size (sLen * info.size) with
                        | true => some (.slice (some ⟨V.next, 0, none⟩) (sLen + n) big, ⟨V.next + 1, (V.next, .cells (old ++ new) elem) :: V.objs⟩)
                        | false => none
                      | none => none
                  | true => match base with
                    | some a => match find V.objs a.block with
                      | some (.cells _ e (_, hi)) => match Nat.beq hi 0 && Nat.beq a.off 0 && !a.spot.isSome && Nat.beq e elem && new.toList.all one with
                        | true => match runV P (Builtin.firstCells info.size sLen (.slice (some a) sLen sCap)) V with
                          | some (old, _) => match Nat.beq old.size (sLen * info.size) with
                            | true => some (.slice (some ⟨V.next, 0, none⟩) (sLen + n) big, ⟨V.next + 1, (V.next, .cells (old ++ new) elem) :: drop V.objs a.block⟩)
                            | false => none
                          | none => none
                        | false => none
                      | _ => none
                    | none => none
                | false => none
              | none => none
            | false => none
          | _, _ => none
        | none => none
      | none => none
    | _, _ => none
  | _, _ => none
end Go.Vm
/- append and copy are what the small memory has them be. -/
namespace Go.Vm
variable {P : Program} {ρ ρ1 ρ2 : Ren} {D D1 : Nat → Prop} {V : View} {α β γ δ : Type} {w w1 : World}

theorem zero_size (z : Array Value) (n : Nat) : (Builtin.zeroCells z n).size = n * z.size := by simp [Builtin.zeroCells]
theorem grown_rel {c c' r' : Array Value} {k : Nat} {elem : TypeId} (h : ARel ρ D c c') (hsz : (c' ++ r').size = ρ.sz k) (hes : P.cellsOf elem = ρ.es k) : ORel P ρ D k (.cells c elem) (.cells (c' ++ r') elem) := by
  refine .cells hsz hes (by simp [h.1]) fun i v hi => ?_
  obtain ⟨v', h1, h2⟩ := h.get hi
  refine ⟨v', ?_, h2⟩
  rw [Array.getElem?_append, if_pos (by rw [← h.1]; exact (Array.getElem?_eq_some_iff.1 hi).1)]
  exact h1
theorem get_cons (n m : Nat) (o : Obj) (l : List (Nat × Obj)) : View.get ⟨m, (n, o) :: l⟩ = fun k => if k = n then some o else find l k := by
  funext k
  simp only [View.get, find]
  by_cases hk : k = n
  · subst hk; simp
  · rw [beq_ne (Ne.symm hk), if_neg hk]

theorem one_rel {v v' : Value} (h : VRel ρ D v v') (h1 : one v = true) : one v' = true := by
  cases h with
  | junk h => cases v' <;> first | rfl | (simp [scalar] at h)
  | _ => simp_all [one]
theorem one_all {xs ys : List Value} (h : LRel (VRel ρ D) xs ys) (h1 : ∀ x, x ∈ xs → one x = true) : ∀ y, y ∈ ys → one y = true := by
  induction h with
  | nil => intro y hy; cases hy
  | cons hv _ ih =>
    intro y hy
    rcases List.mem_cons.1 hy with rfl | hy
    · exact one_rel hv (h1 _ (by simp))
    · exact ih (fun x hx => h1 x (by simp [hx])) y hy
theorem loadFrom_get {a : Addr} : ∀ (n i : Nat) {acc cs : Array Value} {V1 : View}, runV P (Go.loadCellsFrom a i n acc) V = some (cs, V1) →
    (∀ k, k < acc.size → cs[k]? = acc[k]?) ∧ ∀ k, k < n → cs[acc.size + k]? = cell V (a.add (i + k)) := by
  intro n
  induction n with
  | zero => intro i acc cs V1 hr; simp only [Go.loadCellsFrom] at hr; cases hr; exact ⟨fun _ _ => rfl, fun k hk => by omega⟩
  | succ n ih =>
    intro i acc cs V1 hr
    simp only [Go.loadCellsFrom] at hr
    rw [runV_bind] at hr
    simp only [Go.load, runV] at hr
    cases hc : cell V (a.add i) with
    | none => simp [hc] at hr
    | some v =>
      simp only [hc, Option.bind_some] at hr
      obtain ⟨h1, h2⟩ := ih (i + 1) hr
      refine ⟨fun k hk => ?_, fun k hk => ?_⟩
      · rw [h1 k (by simp; omega), Array.getElem?_push, if_neg (by omega)]
      · cases k with
        | zero => rw [Nat.add_zero, Nat.add_zero, hc, h1 acc.size (by simp)]; simp
        | succ k =>
          have := h2 k (by omega)
          rw [show acc.size + (k + 1) = (acc.push v).size + k by simp; omega, this, show i + 1 + k = i + (k + 1) by omega]
set_option maxRecDepth 4000 in
theorem append_sound (hP : Good P) {ts : Array TypeId} {t : TypeId} {s x s' x' v : Value} {V1 : View} (hr : appendV P ts s x V = some (v, V1)) (hs : VRel ρ D s s') (hx : VRel ρ D x x') (hw : WRel P ρ D V.get w) (hd : ∀ b, V.next ≤ b → b < V1.next → ¬ D b) :
    ∃ ρ1 v' w1, (Builtin.append_ ts t #[s', x']).run P w = .ok v' w1 ∧ Stepped P ρ D V.get V.next w ρ1 V1.get V1.next w1 ∧ VRel ρ1 (grow D V.next V1.next) v v' := by
  unfold appendV at hr
  split at hr
  case h_2 => cases hr
  rename_i st xt h0 h1
  split at hr
  case h_2 => cases hr
  rename_i elem e2 hst hxt
  split at hr
  case h_2 => cases hr
  rename_i info hi
  split at hr
  case h_2 => cases hr
  rename_i z hz
  split at hr
  case h_2 => cases hr
  rename_i base sLen sCap xb n xc
  split at hr
  case h_2 => cases hr
  rename_i hsm
  simp only [Bool.and_eq_true, Nat.ble_eq] at hsm
  obtain ⟨hs1, hs2⟩ := hsm
  split at hr
  case h_2 => cases hr
  rename_i new Vn hnew
  split at hr
  case h_2 => cases hr
  rename_i hnz
  have hnz := Nat.eq_of_beq_eq_true hnz
  obtain ⟨xc', rfl⟩ : ∃ xc', x' = .slice (xb.map ρ.addr) n xc' := by
    rcases hx.sliceInv with ⟨rfl, rfl⟩ | ⟨a, c', rfl, ha, rfl, _⟩ <;> exact ⟨_, rfl⟩
  have hnewr : ∀ w, WRel P ρ D V.get w → ∃ new', (Builtin.firstCells info.size n (.slice (xb.map ρ.addr) n xc')).run P w = .ok new' w ∧ ARel ρ D new new' := fun w hw => (first_run hw hx hnew).2
  split at hr
  · rename_i hbig
    split at hr
    · rename_i hle
      have hle : sLen + n ≤ sCap := by simpa using hle
      split at hr
      · rename_i a
        split at hr
        case h_2 => cases hr
        rename_i u V2 hst2
        cases hr
        have hcap : sCap ≠ big := fun e => by rw [e, Nat.beq_refl] at hbig; cases hbig
        rcases hs.sliceInv with ⟨e, _⟩ | ⟨a0, c', e, ha, rfl, ⟨rfl, hc⟩ | ⟨e2, _⟩⟩
        · cases e
        · cases e
          obtain ⟨new', hn1, hn2⟩ := hnewr w hw
          have hsim := Sim.storeCells (P := P) (V := V) (a := a.add (sLen * info.size)) 0 (by rw [add_block]; exact ha) hn2.list w hw u V1 hst2 hd
          obtain ⟨ρ1, u', w1, h5, h6, _⟩ := hsim
          refine ⟨ρ1, _, w1, append_run1 h0 h1 hst hxt hi hle hn1 (by rw [Ren.addr_add]; exact h5), h6, ?_⟩
          have hag := h6.agree hd
          rw [← hag.addr ha]
          exact .slice (.inl ha) hc
        · exact absurd e2 hcap
      · cases hr
        rcases hs.sliceInv with ⟨_, rfl⟩ | ⟨a0, c', e, _⟩
        · obtain ⟨new', hn1, hn2⟩ := hnewr w hw
          exact ⟨ρ, _, w, append_run0 h0 h1 hst hxt hi hle hn1, .refl hw, .flat rfl⟩
        · cases e
    · rename_i hle
      have hle : sCap < sLen + n := by
        rcases Nat.lt_or_ge sCap (sLen + n) with h | h
        · exact h
        · rw [Nat.ble_eq_true_of_le h] at hle; cases hle
      split at hr
      case h_2 => cases hr
      rename_i old Vo hold
      split at hr
      case h_2 => cases hr
      rename_i hoz
      have hoz := Nat.eq_of_beq_eq_true hoz
      cases hr
      have hcap : sCap ≠ big := fun e => by rw [e, Nat.beq_refl] at hbig; cases hbig
      obtain ⟨hs', -⟩ : s' = .slice (base.map ρ.addr) sLen sCap ∧ True := by
        rcases hs.sliceInv with ⟨rfl, rfl⟩ | ⟨a0, c', rfl, ha, rfl, ⟨rfl, hc⟩ | ⟨e2, _⟩⟩
        · exact ⟨rfl, trivial⟩
        · exact ⟨rfl, trivial⟩
        · exact absurd e2 hcap
      have hwd : WRel P ρ D V.get w.drew := ⟨hw.dom, hw.real, hw.own, hw.ro, hw.rom, hw.inj⟩
      obtain ⟨new', hn1, hn2⟩ := hnewr w.drew hwd
      obtain ⟨_, old', ho1, ho2⟩ := first_run hwd hs hold
      subst hs'
      obtain ⟨nc, hnc, hrun⟩ := append_run2 (t := t) h0 h1 hst hxt hi hz hle hs1 hs2 ho1 hn1
      have hdn : ¬ D V.next := hd _ (Nat.le_refl _) (Nat.lt_succ_self _)
      have hag : ∀ a b c, Agree ρ (ρ.put V.next a b c) D := fun a b c => agree_put hdn
      have hcs := hP.zsize _ _ _ hi hz
      have htot : ((old' ++ new') ++ Builtin.zeroCells z.cells (nc - (sLen + n))).size = nc * info.size := by
        simp only [Array.size_append, zero_size, hcs, ← ho2.1, ← hn2.1, hoz, hnz]
        rw [← Nat.add_mul, ← Nat.add_mul, Nat.add_sub_cancel' hnc]
      refine ⟨ρ.put V.next w.heap.size (nc * info.size) info.size, _, _, hrun, ?_, ?_⟩
      · rw [get_cons]
        have := Stepped.alloc (n := V.next) (w := w.drew) (o := .cells (old ++ new) elem) (sz := nc * info.size) (es := info.size) hwd hdn
          (grown_rel ((ho2.append hn2).ext (hag _ _ _) fun k hk => .inl hk) (by rw [htot]; simp [Ren.put]) (by simp [Ren.put, Program.cellsOf, hi])) rfl (fun _ _ _ h => by cases h; rfl)
        exact ⟨this.next, this.b, this.o, this.sz, this.es, this.rel, this.os, this.tape, this.output, this.size, this.frame, this.fresh⟩
      · have := VRel.grown (ρ := ρ.put V.next w.heap.size (nc * info.size) info.size) (D := grow D V.next (V.next + 1)) (a := ⟨V.next, 0, none⟩) (len := sLen + n) (cap' := nc) (.inr (by simp)) hnc (by simp [Ren.put])
        simpa [Ren.addr, Ren.put] using this
  · rename_i hbig
    have hbig := Nat.eq_of_beq_eq_true hbig
    subst hbig
    split at hr
    case h_2 => cases hr
    rename_i a
    split at hr
    case h_2 => cases hr
    rename_i c0 e lo hi' hf
    split at hr
    case h_2 => cases hr
    rename_i hok
    simp only [Bool.and_eq_true, Bool.not_eq_true', List.all_eq_true] at hok
    obtain ⟨⟨⟨⟨k1, k2⟩, k3⟩, k4⟩, k5⟩ := hok
    have k1 := Nat.eq_of_beq_eq_true k1
    have k2 := Nat.eq_of_beq_eq_true k2
    have k4 := Nat.eq_of_beq_eq_true k4
    subst k1 k4
    split at hr
    case h_2 => cases hr
    rename_i old Vo hold
    split at hr
    case h_2 => cases hr
    rename_i hoz
    have hoz := Nat.eq_of_beq_eq_true hoz
    cases hr
    have hdn : ¬ D V.next := hd _ (Nat.le_refl _) (Nat.lt_succ_self _)
    have hag : ∀ a b c, Agree ρ (ρ.put V.next a b c) D := fun a b c => agree_put hdn
    have hcs := hP.zsize _ _ _ hi hz
    obtain ⟨hro, o', hheap, hor⟩ := hw.own a.block _ hf rfl
    rcases hs.sliceInv with ⟨e, _⟩ | ⟨a0, c', e, ha, rfl, ⟨rfl, hc⟩ | ⟨_, hl, hsz⟩⟩
    · cases e
    · exact absurd hc (by unfold big; omega)
    cases e
    have hspot : a.spot = none := by cases hq : a.spot <;> simp_all
    by_cases hfit : sLen + n ≤ c'
    · -- in place
      obtain ⟨new', hn1, hn2⟩ := hnewr w hw
      obtain ⟨_, old', ho1, ho2⟩ := first_run hw hs hold
      cases hor with
      | @cells _ cc _ hsz1 hes hle hvv =>
        have hesz : ρ.es a.block = info.size := by rw [← hes]; simp [Program.cellsOf, hi]
        have e1 : new'.toList.length = n * info.size := by simp [← hn2.1, hnz]
        have hroom : 0 + sLen * info.size + new'.toList.length ≤ cc.size := by
          have e2 : (sLen + n) * info.size ≤ c' * info.size := Nat.mul_le_mul_right _ hfit
          rw [Nat.add_mul] at e2
          rw [hesz, k2] at hsz
          rw [e1, hsz1]; omega
        have hone := one_all hn2.list (fun v hv => k5 v (by simpa using hv))
        have haddr : (ρ.addr a).add (sLen * info.size) = ⟨ρ.b a.block, sLen * info.size, none⟩ := by
          unfold Ren.addr Addr.add
          rw [hro, k2, hspot]
          split
          · rename_i h; simp [h]
          · simp
        obtain ⟨w1, c1, q1, q2, q3, q4, q5, q6, q7, q8, q9, q10⟩ := store_run (P := P) (b := ρ.b a.block) (e := e) new'.toList (sLen * info.size) 0 w cc hheap (by omega) hone
        refine ⟨ρ.put V.next (ρ.b a.block) (ρ.sz a.block) info.size, _, w1, append_run1 h0 h1 hst hxt hi hfit hn1 (by rw [haddr]; exact q1), ?_, ?_⟩
        · rw [get_cons]
          have hget : (fun k => if k = V.next then some (Obj.cells (old ++ new) e) else find (drop V.objs a.block) k) = (fun k => if k = V.next then some (Obj.cells (old ++ new) e) else if k = a.block then none else V.get k) := by
            funext k; rw [find_drop]; rfl
          rw [hget]
          refine Stepped.move hw hdn hf rfl ?_ rfl q7 q2 q6 q8 q9 q10
          refine .cells (by simp [Ren.put, q3, hsz1]) (by simp [Ren.put, Program.cellsOf, hi]) ?_ ?_
          · rw [q3]; simp [hoz, hnz]
            have : new'.toList.length = n * info.size := by simp [← hn2.1, hnz]
            omega
          · intro i v hiv
            rw [Array.getElem?_append] at hiv
            split at hiv
            · rename_i hlt
              rw [hoz] at hlt
              have g0 := (loadFrom_get (sLen * info.size) 0 hold).2 i hlt
              simp only [Array.size_empty, Nat.zero_add] at g0
              rw [hiv] at g0
              have g1 : c0[i]? = some v := by
                have : (a.add i).block = a.block := add_block _ _
                unfold Vm.cell at g0
                rw [this, hf] at g0
                simp only at g0
                split at g0
                · cases g0
                · rw [g0]; unfold Addr.add; split
                  · rename_i h; rw [k2, h]
                  · simp [k2]
              obtain ⟨v', p1, p2⟩ := hvv i v g1
              refine ⟨v', ?_, p2.ext (hag _ _ _) fun k hk => .inl hk⟩
              rw [q4 i (by omega)]; exact p1
            · rename_i hlt
              obtain ⟨v', p1, p2⟩ := hn2.get hiv
              refine ⟨v', ?_, p2.ext (hag _ _ _) fun k hk => .inl hk⟩
              rw [hoz] at hlt p1
              have := q5 (i - sLen * info.size) (by have := (Array.getElem?_eq_some_iff.1 p1).1; simpa using this)
              rw [show sLen * info.size + 0 + (i - sLen * info.size) = i by omega] at this
              rw [this]; simpa using p1
        · have := VRel.grown (ρ := ρ.put V.next (ρ.b a.block) (ρ.sz a.block) info.size) (D := grow D V.next (V.next + 1)) (a := ⟨V.next, 0, none⟩) (len := sLen + n) (cap' := c') (.inr (by simp)) hfit (by simp [Ren.put]; rw [k2, hesz] at hsz; simpa using hsz)
          have he : ρ.addr a = ⟨ρ.b a.block, 0, none⟩ := by simp [Ren.addr, hro, k2, hspot]
          rw [he]
          simpa [Ren.addr, Ren.put] using this
    · -- grown
      have hwd : WRel P ρ D V.get w.drew := ⟨hw.dom, hw.real, hw.own, hw.ro, hw.rom, hw.inj⟩
      obtain ⟨new', hn1, hn2⟩ := hnewr w.drew hwd
      obtain ⟨_, old', ho1, ho2⟩ := first_run hwd hs hold
      obtain ⟨nc, hnc, hrun⟩ := append_run2 (t := t) h0 h1 hst hxt hi hz (by omega) hs1 hs2 ho1 hn1
      have htot : ((old' ++ new') ++ Builtin.zeroCells z.cells (nc - (sLen + n))).size = nc * info.size := by
        simp only [Array.size_append, zero_size, hcs, ← ho2.1, ← hn2.1, hoz, hnz]
        rw [← Nat.add_mul, ← Nat.add_mul, Nat.add_sub_cancel' hnc]
      refine ⟨ρ.put V.next w.heap.size (nc * info.size) info.size, _, _, hrun, ?_, ?_⟩
      · have hget := get_cons V.next (V.next + 1) (.cells (old ++ new) e) (drop V.objs a.block)
        simp only [hget]
        have := Stepped.alloc (n := V.next) (w := w.drew) (o := .cells (old ++ new) e) (sz := nc * info.size) (es := info.size) hwd hdn
          (grown_rel ((ho2.append hn2).ext (hag _ _ _) fun k hk => .inl hk) (by rw [htot]; simp [Ren.put]) (by simp [Ren.put, Program.cellsOf, hi])) rfl (fun _ _ _ h => by cases h; rfl)
        have := this.sub (g2 := fun k => if k = V.next then some (Obj.cells (old ++ new) e) else find (drop V.objs a.block) k) (fun b o h => by
          (try dsimp only at h ⊢)
          split at h
          · rename_i hb; rw [if_pos hb]; exact h
          · rename_i hb; rw [if_neg hb]; rw [find_drop] at h; split at h
            · cases h
            · exact h)
        exact ⟨this.next, this.b, this.o, this.sz, this.es, this.rel, this.os, this.tape, this.output, this.size, this.frame, this.fresh⟩
      · have := VRel.grown (ρ := ρ.put V.next w.heap.size (nc * info.size) info.size) (D := grow D V.next (V.next + 1)) (a := ⟨V.next, 0, none⟩) (len := sLen + n) (cap' := nc) (.inr (by simp)) hnc (by simp [Ren.put])
        simpa [Ren.addr, Ren.put] using this
end Go.Vm
/- One operation. -/
namespace Go.Vm
variable {P : Program} {ρ ρ1 ρ2 : Ren} {D D1 : Nat → Prop} {V : View} {α β γ δ : Type} {w w1 : World}
  {Φ : Ren → (Nat → Prop) → α → β → Prop} {Ψ : Ren → (Nat → Prop) → γ → δ → Prop}

inductive NRel (ρ : Ren) (D : Nat → Prop) : Next → Next → Prop
  | value {v v'} (h : VRel ρ D v v') : NRel ρ D (.value v) (.value v')
  | skip : NRel ρ D .skip .skip
  | enter {f xs ys} (h : ARel ρ D xs ys) : NRel ρ D (.enter f xs) (.enter f ys)
  | round {l fn fn' xs ys a b} (hl : D l) (h : ARel ρ D xs ys) : NRel ρ D (.round l fn xs a b) (.round (ρ.b l) fn' ys a b)

theorem Sim.lenOf {v v' : Value} (hv : VRel ρ D v v') : Sim P ρ D V (Builtin.lenOf v) (Builtin.lenOf v') (Eq2 Nat) := by
  cases v <;> try exact .stuck
  · obtain rfl := hv.strInv; exact .pure rfl
  · rcases hv.sliceInv with ⟨rfl, rfl⟩ | ⟨a, c', rfl, ha, rfl, _⟩ <;> exact .pure rfl
theorem Sim.firstCells {size n : Nat} {v v' : Value} (hs : ∀ s, v ≠ .string s) (hv : VRel ρ D v v') : Sim P ρ D V (Builtin.firstCells size n v) (Builtin.firstCells size n v') ARel := by
  cases v <;> try exact .stuck
  · exact absurd rfl (hs _)
  · rcases hv.sliceInv with ⟨rfl, rfl⟩ | ⟨a, c', rfl, ha, rfl, _⟩
    · exact .pure .nil
    · exact .loadCells _ ha
theorem Sim.copy {ts : Array TypeId} {t : TypeId} {s x s' x' : Value} (hx0 : ∀ s, x ≠ .string s) (hs : VRel ρ D s s') (hx : VRel ρ D x x') : Sim P ρ D V (Builtin.copy_ ts t #[s, x]) (Builtin.copy_ ts t #[s', x']) VR := by
  unfold Builtin.copy_
  cases h0 : ts[0]? with
  | none => exact .stuck
  | some st =>
    simp only [List.size_toArray, List.length_cons, List.length_nil, Nat.zero_add, Nat.lt_add_one, getElem?_pos, List.getElem_toArray, List.getElem_cons_zero, Nat.reduceAdd, Nat.reduceLT, List.getElem_cons_succ]
    refine .bind .underlying ?_
    rintro ρ1 D1 V1 d _ hag hD ⟨rfl, -⟩
    replace hs := hs.ext hag hD
    replace hx := hx.ext hag hD
    cases d <;> try exact .stuck
    rename_i elem
    cases s <;> try exact .stuck
    rename_i base dLen dCap
    obtain ⟨c', rfl⟩ : ∃ c', s' = .slice (base.map ρ1.addr) dLen c' := by
      rcases hs.sliceInv with ⟨rfl, rfl⟩ | ⟨a, c', rfl, ha, rfl, _⟩ <;> exact ⟨_, rfl⟩
    have hb : ∀ a, base = some a → D1 a.block := by
      intro a ha
      rcases hs.sliceInv with ⟨e, _⟩ | ⟨a', c2, e, h1, _⟩
      · rw [e] at ha; cases ha
      · rw [e] at ha; cases ha; exact h1
    (try dsimp only)
    refine .bind (.lenOf hx) ?_
    rintro ρ2 D2 V2 n _ hag2 hD2 rfl
    have hx := hx.ext hag2 hD2
    refine .bind .sizeOf ?_
    rintro ρ3 D3 V3 size _ hag3 hD3 ⟨rfl, -⟩
    have hx := hx.ext hag3 hD3
    refine .bind (.firstCells hx0 hx) ?_
    intro ρ4 D4 V4 cs cs' hag4 hD4 hcs
    (try dsimp only)
    cases base with
    | none => exact .pure (.flat rfl)
    | some a =>
      simp only [Option.map_some]
      have ha := hb a rfl
      have hag' : ρ4.addr a = ρ1.addr a := by rw [hag4.addr (hD3 _ (hD2 _ ha)), hag3.addr (hD2 _ ha), hag2.addr ha]
      rw [← hag']
      refine .bind (.storeCells 0 (hD4 _ (hD3 _ (hD2 _ ha))) hcs.list) ?_
      intro _ _ _ _ _ _ _ _
      exact .pure (.flat rfl)

/-- 'yield', over lists -/
def yieldL (l : Nat) (args : Array Value) : Sem Next := do
  match ← Go.getObj l with
  | .loop r => if args.size ≠ r.params.size then Go.stuck "" else
    pure (.round l r.fn ((r.params.toList.zip args.toList).foldl (fun tmps (p : Tmp × Value) => tmps.setIfInBounds p.1 p.2) r.tmps) r.assign r.body)
  | _ => Go.stuck ""
theorem zip_rel : ∀ (ps : List Tmp) {xs ys : List Value}, LRel (VRel ρ D) xs ys → ∀ {ts ts' : Array Value}, ARel ρ D ts ts' →
    ARel ρ D ((ps.zip xs).foldl (fun tmps (p : Tmp × Value) => tmps.setIfInBounds p.1 p.2) ts) ((ps.zip ys).foldl (fun tmps (p : Tmp × Value) => tmps.setIfInBounds p.1 p.2) ts')
  | [], _, _, _, _, _, h => by simpa using h
  | p :: ps, _, _, .nil, _, _, h => by simpa using h
  | p :: ps, _, _, .cons hv ht, _, _, h => by
    simp only [List.zip_cons_cons, List.foldl_cons]
    exact zip_rel ps ht (h.set _ hv)
theorem Sim.yield {l : Nat} {xs ys : Array Value} (hl : D l) (hx : ARel ρ D xs ys) : Sim P ρ D V (yieldL l xs) (Instr.yield (ρ.b l) ys) NRel := by
  unfold yieldL Instr.yield Instr.getLoop
  simp only [bind_assoc]
  refine .bind .getObj ?_
  rintro ρ1 D1 V1 o o' hag hD ⟨_, ho, -⟩
  cases ho with
  | loop hr =>
    rename_i r r'
    (try dsimp only)
    simp only [pure_bind]
    rw [← hx.1, ← hr.params]
    split
    · exact .stuck
    · rw [← hag.b _ hl, ← hr.assign, ← hr.body]
      refine .pure (.round (hD _ hl) ?_)
      rw [← Array.foldl_toList, Array.toList_zip]
      exact zip_rel _ (hx.ext hag hD).list hr.tmps
  | _ => exact .stuck

def callOk (P : Program) (f : FuncId) : Bool := match P.funcs[f]? with
  | some fn => fn.name != "runtime.NumGoroutine" && fn.body.isSome
  | none => false
theorem callOk_run {f : FuncId} (h : callOk P f = true) (args : Array Value) (w : World) : (callFunc f args).run P w = .ok (.enter f args) w := by
  unfold callOk at h
  split at h
  · rename_i fn hf
    simp only [Bool.and_eq_true, bne_iff_ne, ne_eq] at h
    unfold callFunc
    rw [Sem.run_bind]
    simp [Go.program, Sem.run, Result.andThen, hf, h.1, Option.isSome_iff_ne_none.1 h.2]
  · cases h

def okConst : Operand → Bool
  | .const v => flatN 3 v
  | .global _ => false
  | _ => true
def val (r : Option (Value × View)) : Option (Next × View) := match r with
  | some (v, V) => some (.value v, V)
  | none => none
def valc (r : Option (Value × View)) : Option (Next × View) := match r with
  | some (.slice (some a) n c, V) => match Nat.blt c big with
    | true => some (.value (.slice (some a) n c), V)
    | false => none
  | some (v, V) => some (.value v, V)
  | none => none
/-- an operation over values without addresses -/
def pureV (P : Program) (s : Sem Value) (V : View) : Option (Next × View) := match pureRun P s with
  | some v => match flatN 3 v with
    | true => some (.value v, V)
    | false => none
  | none => none
def flatO (o : Option Value) : Bool := match o with
  | some v => flat v
  | none => true


/-! maps whose keys are numbers, strings or bools -/
def simpleKey : TypeDesc → Bool
  | .int _ | .string | .bool => true
  | _ => false
def wideKey : TypeDesc → Bool
  | .struct _ | .array _ _ => true
  | _ => false
def keyKind (P : Program) (t : TypeId) : Option ((TypeId × TypeDesc) × TypeId) := match P.underlying t with
  | some (.map kt elem) => match P.underlying kt with
    | some d => some ((kt, d), elem)
    | none => none
  | _ => none
/-- keys without addresses, compared by their type -/
def findQ (P : Program) (kt : TypeId) (k : Value) : List MapEntry → Nat → Option (Option (Nat × Value))
  | [], _ => some none
  | e :: es, i => match flatN 3 e.key with
    | true => match pureRun P (Op.equal kt k e.key) with
      | some true => some (some (i, e.val))
      | some false => findQ P kt k es (i + 1)
      | none => none
    | false => none
def findV (P : Program) (q : TypeId × TypeDesc) (k : Value) (es : List MapEntry) : Option (Option (Nat × Value)) := match simpleKey q.2 with
  | true => Instr.findNow q.2 k es 0
  | false => match wideKey q.2 with
    | true => match pureRun P (Instr.checkKey true 10000 q.1 k) with
      | some _ => match pureRun P (Instr.checkKey false 10000 q.1 k) with
        | some _ => findQ P q.1 k es 0
        | none => none
      | none => none
    | false => none
def zeroOf (P : Program) (t : TypeId) : Option Value := match P.info? t with
  | some i => i.zero
  | none => none
def lookupV (P : Program) (t : TypeId) (m k : Value) (ok : Bool) (V : View) : Option Value := match keyKind P t with
  | some (d, elem) => match (match m with
      | .map none => some []
      | .map (some r) => (match find V.objs r with
        | some (.map es _) => some es.toList
        | _ => none)
      | _ => none) with
    | some es => match findV P d k es with
      | some (some (_, v)) => some (match ok with | true => .tuple #[v, .bool true] | false => v)
      | some none => match zeroOf P elem with
        | some z => some (match ok with | true => .tuple #[z, .bool false] | false => z)
        | none => none
      | none => none
    | none => none
  | none => none
def setMap (V : View) (r : Nat) (es : List MapEntry) (clock : Nat) : View := ⟨V.next, put V.objs r (.map es.toArray clock)⟩
/-- a map that may be turned -/
def ownMap (V : View) (r : Nat) : Option (Array MapEntry × Nat) := match find V.objs r with
  | some (.map es clock) => match Nat.blt (clock + 1) big with
    | true => some (es, clock)
    | false => none
  | _ => none
def mapEntryV (P : Program) (t : TypeId) (m k : Value) (V : View) : Option (Value × View) := match keyKind P t with
  | some (d, elem) => match m with
    | .map (some r) => match ownMap V r with
      | some (es, clock) => match flatN 3 k with
        | true => match findV P d k es.toList with
          | some (some (i, _)) => match es.toList[i]? with
            | some e => match flatN 3 e.key && Instr.sameBits 10000 e.key k with
              | true => some (.tuple #[e.val, goInt e.born], setMap V r (es.toList.set i { e with key := k }) clock)
              | false => none
            | none => none
          | some none => match zeroOf P elem with
            | some z => some (.tuple #[z, goInt clock], setMap V r (es.toList ++ [{ key := k, val := z, born := clock }]) (clock + 1))
            | none => none
          | none => none
        | false => none
      | none => none
    | _ => none
  | none => none
def bornAt (born : Int) : List MapEntry → Nat → Option Nat
  | [], _ => none
  | e :: es, i => match decide ((e.born : Int) = born) with
    | true => some i
    | false => bornAt born es (i + 1)
def entryStoreV (m stamp x : Value) (V : View) : Option View := match m, stamp with
  | .map (some r), .int _ born => match ownMap V r with
    | some (es, clock) => match bornAt born es.toList 0 with
      | some i => match es.toList[i]? with
        | some e => some (setMap V r (es.toList.set i { e with val := x }) clock)
        | none => none
      | none => none
    | _ => none
  | _, _ => none
def deleteV (P : Program) (t : TypeId) (m k : Value) (V : View) : Option View := match keyKind P t with
  | some (d, _) => match m with
    | .map none => match findV P d k [] with
      | some _ => some V
      | none => none
    | .map (some r) => match ownMap V r with
      | some (es, clock) => match findV P d k es.toList with
        | some (some (i, _)) => some (setMap V r (es.toList.eraseIdx i) clock)
        | some none => some (setMap V r es.toList clock)
        | none => none
      | none => none
    | _ => none
  | none => none

def mapUpdateV (P : Program) (t : TypeId) (m k x : Value) (V : View) : Option View := match keyKind P t with
  | some (d, _) => match m with
    | .map (some r) => match ownMap V r with
      | some (es, clock) => match flatN 3 k with
        | true => match findV P d k es.toList with
          | some (some (i, _)) => match es.toList[i]? with
            | some e => match flatN 3 e.key && Instr.sameBits 10000 e.key k with
              | true => some (setMap V r (es.toList.set i { e with key := k, val := x }) clock)
              | false => none
            | none => none
          | some none => some (setMap V r (es.toList ++ [{ key := k, val := x, born := clock }]) (clock + 1))
          | none => none
        | false => none
      | none => none
    | _ => none
  | none => none
/-- a slice of unknown capacity, from an index below its length on -/
def sliceBigV (P : Program) (t : TypeId) (a : Addr) (n : Nat) (lo : Value) (V : View) : Option Value := match P.underlying t with
  | some (.slice elem) => match P.info? elem with
    | some info => match find V.objs a.block with
      | some (.cells _ e2 (_, hi)) => match lo with
        | .int _ (.ofNat l) => match Nat.beq hi 0 && Nat.beq e2 elem && Nat.blt l n with
          | true => some (.slice (some (a.add (l * info.size))) (n - l) big)
          | false => none
        | _ => none
      | _ => none
    | none => none
  | _ => none
/-- the first elements of a slice whose capacity is not known, with a capacity that is -/
def sliceTopV (P : Program) (t : TypeId) (a : Addr) (n : Nat) (hi mx : Value) : Option Value := match P.underlying t with
  | some (.slice elem) => match P.info? elem with
    | some _ => match hi with
      | .int _ (.ofNat l) => match mx with
        | .int _ (.ofNat m) => match Nat.ble l m && Nat.ble m n && Nat.blt m big with
          | true => some (.slice (some a) l m)
          | false => none
        | _ => none
      | _ => none
    | none => none
  | _ => none
def clearMapV (P : Program) (t : TypeId) (r : Nat) (V : View) : Option View := match P.underlying t with
  | some _ => match ownMap V r with
    | some (_, clock) => some (setMap V r [] clock)
    | _ => none
  | none => none
theorem zero_rel {z : Value} {k : Nat} (hz : ∀ (i : Nat) (x : Value), z.cells[i]? = some x → flatN 3 x = true) : LRel (VRel ρ D) (Builtin.zeroCells z.cells k).toList (Builtin.zeroCells z.cells k).toList := by
  refine LRel.of_get rfl fun i x y h1 h2 => ?_
  rw [h1] at h2; cases h2
  have hm : x ∈ Builtin.zeroCells z.cells k := Array.mem_toList_iff.1 (List.mem_of_getElem? h1)
  have hx : x ∈ z.cells := by
    unfold Builtin.zeroCells at hm
    simp at hm
    obtain ⟨j, hj, rfl⟩ := hm
    have h0 : 0 < z.cells.size := by
      rcases Nat.eq_zero_or_pos z.cells.size with h | h
      · rw [h] at hj; omega
      · exact h
    have hlt := Nat.mod_lt j h0
    rw [getElem!_pos z.cells _ hlt]
    exact Array.getElem_mem hlt
  obtain ⟨j, hj⟩ := Array.mem_iff_getElem?.1 hx
  exact VRel.of_flatN 3 x (hz j x hj)
theorem Sim.clearSlice (hP : Good P) {ts : Array TypeId} {t : TypeId} {a : Addr} {n c c' : Nat} (ha : D a.block) : Sim P ρ D V (Builtin.clear_ ts t #[.slice (some a) n c]) (Builtin.clear_ ts t #[.slice (some (ρ.addr a)) n c']) VR := by
  unfold Builtin.clear_
  cases h0 : ts[0]? with
  | none => exact .stuck
  | some st =>
    refine .bind .underlying ?_
    rintro ρ1 D1 V1 d _ hag hD ⟨rfl, -⟩
    have hag' := hag.addr ha
    rw [← hag']
    have unit : ∀ {ρ : Ren} {D : Nat → Prop} {V : View}, Sim P ρ D V (Pure.pure (Value.tuple #[])) (Pure.pure (Value.tuple #[])) VR := fun {ρ D V} => .pure (VRel.of_flatN 3 _ rfl)
    have stk : ∀ {ρ : Ren} {D : Nat → Prop} {V : View} {why : String}, Sim P ρ D V (do Go.stuck (α := Unit) why; Pure.pure (Value.tuple #[])) (do Go.stuck (α := Unit) why; Pure.pure (Value.tuple #[])) VR := fun {ρ D V why} =>
      .bind (Φ := Any2 Unit Unit) .stuck fun _ _ _ _ _ _ _ _ => .pure (VRel.of_flatN 3 _ rfl)
    cases n with
    | zero => exact unit
    | succ n =>
      cases d <;> try exact stk
      rename_i elem
      refine .bind (.zeroValue hP) ?_
      rintro ρ2 D2 V2 z _ hag2 hD2 ⟨rfl, hz⟩
      dsimp only
      rw [← hag2.addr (hD _ ha)]
      exact .bind (.storeCells 0 (hD2 _ (hD _ ha)) (zero_rel (flatN_cells hz))) fun _ _ _ _ _ _ _ _ => unit

def runCall (P : Program) (e : Operand → Value) (c : Call) (type : TypeId) (V : View) : Option (Next × View) :=
  let args := (c.args.toList.map e).toArray
  match c.callee with
  | .value f => match e f with
    | .func (.func g) first captured => match callOk P g with
      | true => some (.enter g ((first ++ args) ++ captured), V)
      | false => none
    | .func (.yield l) first _ => runV P (yieldL l (first ++ args)) V
    | _ => none
  | .builtin .len => val (runV P (Builtin.len_ c.argTypes type args) V)
  | .builtin .append => match args.toList with
    | [s, x] => val (appendV P c.argTypes s x V)
    | _ => none
  | .builtin .copy => match args.toList with
    | [s, .slice a n c2] => val (runV P (Builtin.copy_ c.argTypes type #[s, .slice a n c2]) V)
    | _ => none
  | .builtin .delete => match c.argTypes[0]?, args.toList with
    | some t, [m, k] => match flatN 3 k with
      | true => match deleteV P t m k V with
        | some V1 => some (.value (.tuple #[]), V1)
        | none => none
      | false => none
    | _, _ => none
  | .builtin .clear => match c.argTypes[0]?, args.toList with
    | some _, [.slice (some a) n c2] => val (runV P (Builtin.clear_ c.argTypes type #[.slice (some a) n c2]) V)
    | some t, [.map (some r)] => match clearMapV P t r V with
      | some V1 => some (.value (.tuple #[]), V1)
      | none => none
    | _, _ => none
  | .builtin .max => match args.toList.all flat with
    | true => pureV P (Builtin.max_ c.argTypes type args) V
    | false => none
  | .builtin .min => match args.toList.all flat with
    | true => pureV P (Builtin.min_ c.argTypes type args) V
    | false => none
  | _ => none

/-- a slice with an array is not the nil slice -/
def nilCmp (P : Program) (op : BinOp) (t : TypeId) (x y : Value) : Option Value := match x, y with
  | .slice (some _) _ _, .slice none _ _ => match P.underlying t with
    | some (.slice _) => match op with
      | .eql => some (.bool false)
      | .neq => some (.bool true)
      | _ => none
    | _ => none
  | _, _ => none
/-- the bytes of a string, in a new block that is only read -/
def bytesV (P : Program) (s d : TypeId) (x : Value) (V : View) : Option (Value × View) := match x with
  | .string b => match P.underlying s, P.underlying d with
    | some _, some (.slice el) => match P.underlying el with
      | some (.int .u8) => some (.slice (some ⟨V.next, 0, none⟩) b.size big, ⟨V.next + 1, (V.next, .cells (b.data.map fun c => Value.int .u8 c.toNat) el (0, 1)) :: V.objs⟩)
      | _ => none
    | _, _ => none
  | _ => none
theorem bytes_sound {s d : TypeId} {x v : Value} {V1 : View} (hr : bytesV P s d x V = some (v, V1)) (hw : WRel P ρ D V.get w) (hd : ∀ b, V.next ≤ b → b < V1.next → ¬ D b) :
    ∃ ρ1 v' w1, (convert s d x).run P w = .ok v' w1 ∧ Stepped P ρ D V.get V.next w ρ1 V1.get V1.next w1 ∧ VRel ρ1 (grow D V.next V1.next) v v' := by
  unfold bytesV at hr
  split at hr
  case h_2 => cases hr
  rename_i b
  split at hr
  case h_2 => cases hr
  rename_i u el hs hdd
  split at hr
  case h_2 => cases hr
  rename_i he
  cases hr
  have hcap : b.size ≤ grownCap w b.size 0 el := by simp [grownCap, Question.cut]
  refine ⟨ρ.put V.next w.heap.size (grownCap w b.size 0 el) 1, _, _, Lib.run_convert_string_bytes w s d el b hs hdd he, ?_, ?_⟩
  · rw [get_cons]
    refine Stepped.allocRo hw (hd _ (Nat.le_refl _) (Nat.lt_succ_self _)) (Lib.bytesWorld_size w el b) (fun k hk => Lib.bytesWorld_at_old w el b k hk) (fun i v hi => ?_) rfl rfl rfl
    have hlt : i < b.size := by
      have := (Array.getElem?_eq_some_iff.1 hi).1
      simpa using this
    have := Lib.bytesWorld_cell w el b i hlt
    rw [Array.getElem?_map] at hi
    have hb : b.data[i]? = some (b.data[i]'hlt) := Array.getElem?_eq_getElem hlt
    rw [hb] at hi
    cases hi
    refine ⟨rfl, ?_⟩
    rw [this]
    have e : b.data.toList.getD i 0 = b.data[i]'hlt := by
      rw [List.getD_eq_getElem?_getD, Array.getElem?_toList, hb]
      rfl
    rw [e]
  · have := VRel.grown (ρ := ρ.put V.next w.heap.size (grownCap w b.size 0 el) 1) (D := grow D V.next (V.next + 1)) (a := ⟨V.next, 0, none⟩) (len := b.size) (cap' := grownCap w b.size 0 el) (.inr (by simp)) hcap (by simp [Ren.put])
    simpa [Ren.addr, Ren.put] using this
theorem bytesV_next {s d : TypeId} {x v : Value} {V1 : View} (h : bytesV P s d x V = some (v, V1)) : V.next ≤ V1.next := by
  unfold bytesV at h
  repeat' split at h
  all_goals first
    | (cases h; done)
    | (cases h; exact Nat.le_succ _)
def runOp (P : Program) (e : Operand → Value) (o : Oper) (V : View) : Option (Next × View) :=
  match o.op with
  | .move x | .assign x => some (.value (e x), V)
  | .pick c a b => match e c with
    | .bool true => some (.value (e a), V)
    | .bool false => some (.value (e b), V)
    | _ => none
  | .alloc t => val (runV P (Instr.alloc t true (.tuple #[])) V)
  | .box t x => val (runV P (Instr.box t (e x)) V)
  | .build t ps => val (runV P (buildL t (ps.toList.map fun p => (p.1, e p.2))) V)
  | .buildSlice t n ps => match Nat.blt n big with
    | true => val (runV P (buildSliceL t n (ps.toList.map fun p => (p.1, e p.2))) V)
    | false => none
  | .load t a => val (runV P (Instr.loadAt t (e a)) V)
  | .store t a x => match runV P (Instr.storeAt t (e a) (e x)) V with
    | some (_, V1) => some (.skip, V1)
    | none => none
  | .nilCheck x => match e x with
    | .pointer (some a) => some (.value (.pointer (some a)), V)
    | .func (.func g) a b => some (.value (.func (.func g) a b), V)
    | .func (.yield g) a b => some (.value (.func (.yield g) a b), V)
    | _ => none
  | .binOp op t x y _ => match flatN 3 (e x) && flatN 3 (e y) with
    | true => pureV P (do eqGuard op t x y (e x) (e y); binOp op t (e x) (e y)) V
    | false => match nilCmp P op t (e x) (e y) with
      | some v => some (.value v, V)
      | none => none
  | .unOp op _ x => match flat (e x) with
    | true => pureV P (Op.unary op (e x)) V
    | false => none
  | .convert s d x => match flat (e x) with
    | true => match pureV P (convert s d (e x)) V with
      | some r => some r
      | none => match bytesV P s d (e x) V with
        | some (v, V1) => some (.value v, V1)
        | none => none
    | false => none
  | .makeFunc fn first captured => match fn with
    | .func g => some (.value (.func (.func g) (first.toList.map e).toArray (captured.toList.map e).toArray), V)
    | _ => none
  | .makeSlice t n c => match e n, e c with
    | .int _ (.ofNat n), .int _ (.ofNat c) => val (runV P (makeSliceL t n c) V)
    | _, _ => none
  | .slice t x lo hi mx => match flatO (lo.map e) && flatO (hi.map e) && flatO (mx.map e) with
    | true => match e x with
      | .slice (some a) n c => match Nat.beq c big with
        | true => match lo, hi, mx with
          | some lo, none, none => match sliceBigV P t a n (e lo) V with
            | some v => some (.value v, V)
            | none => none
          | none, some hi, some mx => match sliceTopV P t a n (e hi) (e mx) with
            | some v => some (.value v, V)
            | none => none
          | _, _, _ => none
        | false => valc (runV P (Instr.sliceAt t (.slice (some a) n c) (lo.map e) (hi.map e) (mx.map e)) V)
      | v => valc (runV P (Instr.sliceAt t v (lo.map e) (hi.map e) (mx.map e)) V)
    | false => none
  | .fieldAddr t x k => val (runV P (Instr.fieldAt t (e x) k) V)
  | .field t x k => val (runV P (Instr.field t (e x) k) V)
  | .indexAddr t x i => val (runV P (Instr.indexAt t (e x) (e i)) V)
  | .index t x i => val (runV P (Instr.index t (e x) (e i)) V)
  | .extract x k => val (runV P (Instr.extract (e x) k) V)
  | .makeMap t r => match r with
    | none => val (runV P (Instr.makeMap t none) V)
    | some _ => none
  | .lookup t m k ok => match flatN 3 (e k) with
    | true => match lookupV P t (e m) (e k) ok V with
      | some v => some (.value v, V)
      | none => none
    | false => none
  | .mapEntry t m k => val (mapEntryV P t (e m) (e k) V)
  | .entryStore _ m s x => match entryStoreV (e m) (e s) (e x) V with
    | some V1 => some (.skip, V1)
    | none => none
  | .mapUpdate t m k x | .insert t m k x => match mapUpdateV P t (e m) (e k) (e x) V with
    | some V1 => some (.skip, V1)
    | none => none
  | .call c => runCall P e c o.type V
  | _ => none
end Go.Vm
/- Maps. -/
namespace Go.Vm
variable {P : Program} {ρ ρ1 ρ2 : Ren} {D D1 : Nat → Prop} {V V1 : View} {w w1 : World}

theorem own_map {r : Nat} {es : Array MapEntry} {clock : Nat} (h : ownMap V r = some (es, clock)) : find V.objs r = some (.map es clock) ∧ clock + 1 < big := by
  unfold ownMap at h
  split at h
  · rename_i es0 c0 hf
    split at h
    · rename_i hb; cases h; exact ⟨hf, by rwa [Nat.blt_eq] at hb⟩
    · cases h
  · cases h
theorem map_set (hw : WRel P ρ D V.get w) {r : Nat} {es : Array MapEntry} {clock : Nat} (hf : ownMap V r = some (es, clock)) : ∃ es', w.heap[ρ.b r]? = some (.map es' clock) ∧ LRel (MRel ρ D) es.toList es'.toList ∧
    ∀ (x : List MapEntry) (x' : Array MapEntry) (c : Nat), c ≤ clock + 1 → LRel (MRel ρ D) x x'.toList → Stepped P ρ D V.get V.next w ρ (setMap V r x c).get V.next { w with heap := w.heap.setIfInBounds (ρ.b r) (.map x' c) } := by
  obtain ⟨hf, hlo⟩ := own_map hf
  have hown : owned (.map es clock) = true := by show Nat.blt clock big = true; rw [Nat.blt_eq]; omega
  obtain ⟨h1, o', h2, h3⟩ := hw.own r _ hf hown
  cases h3 with
  | @map _ es' _ hr =>
    refine ⟨es', h2, hr, fun x x' c hc hx => ?_⟩
    have hlt := (Array.getElem?_eq_some_iff.1 h2).1
    have := Stepped.update (n := V.next) (w1 := { w with heap := w.heap.setIfInBounds (ρ.b r) (.map x' c) }) (o := .map x.toArray c) (o' := .map x' c) hw hf hown (.map (by simpa using hx)) (by show Nat.blt c big = true; rw [Nat.blt_eq]; omega) (by simp) (by simp [hlt]) (fun k hk => by simp [Ne.symm hk]) rfl rfl rfl
    refine (funext fun k => ?_ : ((setMap V r x c).get) = _) ▸ this
    show find (put V.objs r _) k = _
    rw [find_put, hf]
    rfl

theorem sameNow_rel {d : TypeDesc} {k x x' : Value} {b : Bool} (hx : VRel ρ D x x') (h : Instr.sameNow d k x = some b) : Instr.sameNow d k x' = some b := by
  have : flat x = true := by
    cases x <;> first | rfl | skip
    all_goals (exfalso; revert h; cases d <;> cases k <;> simp [Instr.sameNow])
  rw [hx.flatEq this]; exact h
theorem findNow_rel {d : TypeDesc} {k : Value} : ∀ {es es' : List MapEntry}, LRel (MRel ρ D) es es' → ∀ (i : Nat) (r : Option (Nat × Value)), Instr.findNow d k es i = some r →
    ∃ r', Instr.findNow d k es' i = some r' ∧ ((r = none ∧ r' = none) ∨ ∃ j v v', r = some (j, v) ∧ r' = some (j, v') ∧ VRel ρ D v v') := by
  intro es es' h
  induction h with
  | nil => intro i r h; simp only [Instr.findNow] at h; cases h; exact ⟨none, rfl, .inl ⟨rfl, rfl⟩⟩
  | @cons e e' es es' he _ ih =>
    intro i r h
    simp only [Instr.findNow] at h ⊢
    cases hq : Instr.sameNow d k e.key with
    | none => rw [hq] at h; cases h
    | some b =>
      rw [sameNow_rel he.key hq]
      rw [hq] at h
      cases b with
      | true => cases h; exact ⟨_, rfl, .inr ⟨i, _, _, rfl, rfl, he.val⟩⟩
      | false => exact ih _ _ h
theorem findQ_rel {kt : TypeId} {k : Value} : ∀ {es es' : List MapEntry}, LRel (MRel ρ D) es es' → ∀ (i : Nat) (r : Option (Nat × Value)), findQ P kt k es i = some r →
    ∃ r', findQ P kt k es' i = some r' ∧ ((r = none ∧ r' = none) ∨ ∃ j v v', r = some (j, v) ∧ r' = some (j, v') ∧ VRel ρ D v v') := by
  intro es es' h
  induction h with
  | nil => intro i r h; simp only [findQ] at h; cases h; exact ⟨none, rfl, .inl ⟨rfl, rfl⟩⟩
  | @cons e e' es es' he _ ih =>
    intro i r h
    simp only [findQ] at h ⊢
    split at h
    case h_2 => cases h
    rename_i hf
    rw [he.key.flatN_eq 3 hf, hf]
    cases hq : pureRun P (Op.equal kt k e.key) with
    | none => rw [hq] at h; cases h
    | some b =>
      rw [hq] at h
      cases b with
      | true => cases h; exact ⟨_, rfl, .inr ⟨i, _, _, rfl, rfl, he.val⟩⟩
      | false => exact ih _ _ h
theorem findQ_run {kt : TypeId} {k : Value} : ∀ {es : List MapEntry} {i : Nat} {r : Option (Nat × Value)}, findQ P kt k es i = some r → ∀ w, (Instr.findAsking kt k es i).run P w = .ok r w := by
  intro es
  induction es with
  | nil => intro i r h w; simp only [findQ] at h; cases h; rfl
  | cons e es ih =>
    intro i r h w
    simp only [findQ] at h
    split at h
    case h_2 => cases h
    unfold Instr.findAsking
    rw [Sem.run_bind]
    split at h
    · rename_i hq; cases h; rw [pureRun_run hq w]; simp [Result.andThen]
    · rename_i hq; rw [pureRun_run hq w]; simpa [Result.andThen] using ih h w
    · cases h
theorem findQ_low {kt : TypeId} {k : Value} : ∀ (es : List MapEntry) (n m : Nat) (v : Value), findQ P kt k es n = some (some (m, v)) → n ≤ m := by
  intro es
  induction es with
  | nil => intro n m v h; simp [findQ] at h
  | cons e es ih =>
    intro n m v h
    simp only [findQ] at h
    split at h
    case h_2 => cases h
    split at h
    · simp at h; omega
    · have := ih _ _ _ h; omega
    · cases h
theorem findQ_val {kt : TypeId} {k : Value} : ∀ (es : List MapEntry) (i n : Nat) (v : Value), findQ P kt k es n = some (some (i + n, v)) → ∀ e, es[i]? = some e → v = e.val := by
  intro es
  induction es with
  | nil => intro i n v h; simp [findQ] at h
  | cons e es ih =>
    intro i n v h x hx
    simp only [findQ] at h
    split at h
    case h_2 => cases h
    split at h
    · simp only [Option.some.injEq, Prod.mk.injEq] at h
      have : i = 0 := by omega
      subst this
      simp at hx
      rw [← hx]; exact h.2.symm
    · cases i with
      | zero => exfalso; have := findQ_low _ _ _ _ h; omega
      | succ i => exact ih i (n + 1) v (by rw [h]; congr 3; omega) x (by simpa using hx)
    · cases h
theorem found_val {d : TypeDesc} {k : Value} : ∀ (es : List MapEntry) (i n : Nat) (v : Value), Instr.findNow d k es n = some (some (i + n, v)) → ∀ e, es[i]? = some e → v = e.val := by
  have low : ∀ (es : List MapEntry) (n m : Nat) (v : Value), Instr.findNow d k es n = some (some (m, v)) → n ≤ m := by
    intro es
    induction es with
    | nil => intro n m v h; simp [Instr.findNow] at h
    | cons e es ih =>
      intro n m v h
      simp only [Instr.findNow] at h
      split at h
      · simp at h; omega
      · have := ih _ _ _ h; omega
      · cases h
  intro es
  induction es with
  | nil => intro i n v h; simp [Instr.findNow] at h
  | cons e es ih =>
    intro i n v h x hx
    simp only [Instr.findNow] at h
    split at h
    · simp only [Option.some.injEq, Prod.mk.injEq] at h
      have : i = 0 := by omega
      subst this
      simp at hx
      rw [← hx]; exact h.2.symm
    · cases i with
      | zero => exfalso; have := low _ _ _ _ h; omega
      | succ i => exact ih i (n + 1) v (by rw [h]; congr 3; omega) x (by simpa using hx)
    · cases h
theorem findV_val {q : TypeId × TypeDesc} {k v : Value} {es : List MapEntry} {i : Nat} (h : findV P q k es = some (some (i, v))) : ∀ e, es[i]? = some e → v = e.val := by
  unfold findV at h
  split at h
  · exact found_val es i 0 v h
  · split at h
    case h_2 => cases h
    split at h
    case h_2 => cases h
    split at h
    case h_2 => cases h
    exact findQ_val es i 0 v h
theorem findV_rel {q : TypeId × TypeDesc} {k : Value} {es es' : List MapEntry} (hr : LRel (MRel ρ D) es es') (r : Option (Nat × Value)) (h : findV P q k es = some r) :
    ∃ r', findV P q k es' = some r' ∧ ((r = none ∧ r' = none) ∨ ∃ j v v', r = some (j, v) ∧ r' = some (j, v') ∧ VRel ρ D v v') := by
  unfold findV at h ⊢
  split at h
  · exact findNow_rel hr 0 r h
  · split at h
    case h_2 => cases h
    split at h
    case h_2 => cases h
    split at h
    case h_2 => cases h
    exact findQ_rel hr 0 r h
theorem findV_nil {q : TypeId × TypeDesc} {k : Value} {r : Option (Nat × Value)} (h : findV P q k [] = some r) : r = none := by
  unfold findV at h
  split at h
  · simp only [Instr.findNow] at h; cases h; rfl
  · split at h
    case h_2 => cases h
    split at h
    case h_2 => cases h
    split at h
    case h_2 => cases h
    simp only [findQ] at h; cases h; rfl
theorem key_kind {t : TypeId} {q : TypeId × TypeDesc} {elem : TypeId} (h : keyKind P t = some (q, elem)) : P.underlying t = some (.map q.1 elem) ∧ P.underlying q.1 = some q.2 := by
  unfold keyKind at h
  split at h
  · rename_i kt el hu
    split at h
    · rename_i d' hk; cases h; exact ⟨hu, hk⟩
    · cases h
  · cases h
theorem checkKey_run {q : TypeId × TypeDesc} {k : Value} {es : List MapEntry} {r : Option (Nat × Value)} (hu : P.underlying q.1 = some q.2) (h : findV P q k es = some r) (b : Bool) (w : World) : (Instr.checkKey b 10000 q.1 k).run P w = .ok () w := by
  unfold findV at h
  split at h
  · rename_i hs
    show (Instr.checkKey b (9999 + 1) q.1 k).run P w = _
    unfold Instr.checkKey
    rw [Sem.run_bind, run_und hu]
    simp only [Result.andThen]
    generalize q.2 = d at hs
    cases d <;> first | rfl | (simp [simpleKey] at hs)
  · split at h
    case h_2 => cases h
    split at h
    case h_2 => cases h
    rename_i u1 h1
    split at h
    case h_2 => cases h
    rename_i u2 h2
    cases b
    · exact pureRun_run h2 w
    · exact pureRun_run h1 w
theorem findKey_run {q : TypeId × TypeDesc} (hu : P.underlying q.1 = some q.2) {k : Value} {es : List MapEntry} {r : Option (Nat × Value)} (h : findV P q k es = some r) (w : World) : (Instr.findKey q.1 k es).run P w = .ok r w := by
  unfold findV at h
  unfold Instr.findKey
  rw [Sem.run_bind, run_und hu]
  simp only [Result.andThen]
  split at h
  · rw [h]; rfl
  · split at h
    case h_2 => cases h
    rename_i hw
    split at h
    case h_2 => cases h
    split at h
    case h_2 => cases h
    generalize q.2 = d at hw
    cases es with
    | nil =>
      simp only [findQ] at h; cases h
      rfl
    | cons e es =>
      have hn : Instr.findNow d k (e :: es) 0 = none := by
        simp only [Instr.findNow]
        cases d <;> first | rfl | (simp [wideKey] at hw)
      rw [hn]
      exact findQ_run h w
theorem zero_of {t : TypeId} {z : Value} (h : zeroOf P t = some z) : ∃ i, P.info? t = some i ∧ i.zero = some z := by
  unfold zeroOf at h
  split at h
  · rename_i i hi; exact ⟨i, hi, h⟩
  · cases h

theorem lookup_sound (hP : Good P) {t : TypeId} {m m' k v : Value} {ok : Bool} (h : lookupV P t m k ok V = some v) (hm : VRel ρ D m m') (hw : WRel P ρ D V.get w) :
    ∃ v', (Instr.lookup t m' k ok).run P w = .ok v' w ∧ VRel ρ D v v' := by
  unfold lookupV at h
  split at h
  case h_2 => cases h
  rename_i d elem hkk
  obtain ⟨hu, hk⟩ := key_kind hkk
  split at h
  case h_2 => cases h
  rename_i es hes
  have hgo : ∀ (r c : Nat) (es : Array MapEntry), w.heap[r]? = some (.map es c) → (Go.getObj r).run P w = .ok (.map es c) w := by
    intro r c es h; simp [Go.getObj, Sem.run, h]
  have main : ∀ (es' : List MapEntry), LRel (MRel ρ D) es es' → ((m' = .map none ∧ es' = []) ∨ ∃ r c, m' = .map (some r) ∧ w.heap[r]? = some (.map es'.toArray c)) → ∃ v', (Instr.lookup t m' k ok).run P w = .ok v' w ∧ VRel ρ D v v' := by
    intro es' hrel hget
    split at h
    · rename_i j v0 hfn
      cases h
      obtain ⟨r', h1, ⟨h2, _⟩ | ⟨j', a, a', h2, h3, h4⟩⟩ := findV_rel hrel _ hfn
      · cases h2
      · cases h2
        subst h3
        refine ⟨if ok then .tuple #[a', .bool true] else a', ?_, ?_⟩
        · rcases hget with ⟨rfl, rfl⟩ | ⟨r, c, rfl, hh⟩
          · cases findV_nil h1
          · simp [Instr.lookup, Sem.run_bind, run_und hu, Result.andThen, checkKey_run hk h1, findKey_run hk h1, hgo _ _ _ hh]
        · cases ok
          · exact h4
          · refine .tuple rfl fun i x y hx hy => ?_
            match i with
            | 0 => simp at hx hy; subst hx hy; exact h4
            | 1 => simp at hx hy; subst hx hy; exact .flat rfl
            | i + 2 => simp at hx
    · rename_i hfn
      obtain ⟨r', h1, ⟨_, rfl⟩ | ⟨j', a, a', h2, _⟩⟩ := findV_rel hrel _ hfn
      · split at h
        · rename_i z hz
          cases h
          obtain ⟨i, hi, hz'⟩ := zero_of hz
          have hfz := hP.zero _ _ _ hi hz'
          refine ⟨if ok then .tuple #[z, .bool false] else z, ?_, ?_⟩
          · rcases hget with ⟨rfl, rfl⟩ | ⟨r, c, rfl, hh⟩
            · simp [Instr.lookup, Sem.run_bind, run_und hu, Result.andThen, checkKey_run hk h1, findKey_run hk h1, run_zer hi hz']
            · simp [Instr.lookup, Sem.run_bind, run_und hu, Result.andThen, checkKey_run hk h1, findKey_run hk h1, hgo _ _ _ hh, run_zer hi hz']
          · cases ok
            · exact VRel.of_flatN 3 z hfz
            · refine .tuple rfl fun i x y hx hy => ?_
              match i with
              | 0 => simp at hx hy; subst hx hy; exact VRel.of_flatN 3 z hfz
              | 1 => simp at hx hy; subst hx hy; exact .flat rfl
              | i + 2 => simp at hx
        · cases h
      · cases h2
    · cases h
  split at hes
  · cases hes
    have : m' = .map none := hm.flatEq rfl
    subst this
    exact main [] .nil (.inl ⟨rfl, rfl⟩)
  · rename_i r
    split at hes
    · rename_i es0 c hf
      cases hes
      rcases hm.mapInv with ⟨e, _⟩ | ⟨r0, e, hr, rfl⟩
      · cases e
      · cases e
        obtain ⟨es', c', h1, h2⟩ := hw.rom _ _ _ hf
        exact main es'.toList h2 (.inr ⟨_, _, rfl, by simpa using h1⟩)
    · cases hes
  · cases hes
end Go.Vm
/- Maps that are written. -/
namespace Go.Vm
variable {P : Program} {ρ ρ1 ρ2 : Ren} {D D1 : Nat → Prop} {V V1 : View} {w w1 : World}

theorem LRel.set' {α β : Type} {R : α → β → Prop} {xs : List α} {ys : List β} (h : LRel R xs ys) {v : α} {v' : β} (hv : R v v') : ∀ (i : Nat), LRel R (xs.set i v) (ys.set i v') := by
  induction h with
  | nil => intro i; exact .nil
  | cons hx ht ih =>
    intro i
    cases i with
    | zero => exact .cons hv ht
    | succ i => exact .cons hx (ih i)
theorem LRel.erase {α β : Type} {R : α → β → Prop} {xs : List α} {ys : List β} (h : LRel R xs ys) : ∀ (i : Nat), LRel R (xs.eraseIdx i) (ys.eraseIdx i) := by
  induction h with
  | nil => intro i; exact .nil
  | cons hx ht ih =>
    intro i
    cases i with
    | zero => exact ht
    | succ i => exact .cons hx (ih i)
theorem LRel.snoc {α β : Type} {R : α → β → Prop} {xs : List α} {ys : List β} (h : LRel R xs ys) {v : α} {v' : β} (hv : R v v') : LRel R (xs ++ [v]) (ys ++ [v']) := by
  induction h with
  | nil => exact .cons hv .nil
  | cons hx _ ih => exact .cons hx ih
theorem modify_eq {es : Array MapEntry} {i : Nat} {e : MapEntry} (f : MapEntry → MapEntry) (h : es.toList[i]? = some e) : (es.modify i f).toList = es.toList.set i (f e) := by
  have h' : es[i]? = some e := by simpa using h
  obtain ⟨hlt, he⟩ := Array.getElem?_eq_some_iff.1 h'
  apply List.ext_getElem?
  intro k
  rw [Array.getElem?_toList, Array.getElem?_modify, List.getElem?_set]
  by_cases hk : i = k
  · subst hk; simp [hlt, he]
  · simp [hk]
theorem run_getMap {r c : Nat} {es : Array MapEntry} (h : w.heap[r]? = some (.map es c)) : (Go.getObj r).run P w = .ok (.map es c) w := by simp [Go.getObj, Sem.run, h]
theorem run_setMap {r c : Nat} {es : Array MapEntry} (h : w.heap[r]? = some (.map es c)) (o : Obj) : (Go.setObj r o).run P w = .ok () { w with heap := w.heap.setIfInBounds r o } := by simp [Go.setObj, Sem.run, h]

theorem mapEntry_sound (hP : Good P) {t : TypeId} {m m' k v : Value} (h : mapEntryV P t m k V = some (v, V1)) (hm : VRel ρ D m m') (hw : WRel P ρ D V.get w) :
    flatN 3 k = true ∧ ∃ v' w1, (Instr.mapEntry t m' k).run P w = .ok v' w1 ∧ Stepped P ρ D V.get V.next w ρ V1.get V1.next w1 ∧ VRel ρ D v v' := by
  unfold mapEntryV at h
  split at h
  case h_2 => cases h
  rename_i d elem hkk
  obtain ⟨hu, hk⟩ := key_kind hkk
  split at h
  case h_2 => cases h
  rename_i r
  split at h
  case h_2 => cases h
  rename_i es clock hf
  split at h
  case h_2 => cases h
  rename_i hfl
  refine ⟨hfl, ?_⟩
  rcases hm.mapInv with ⟨e, _⟩ | ⟨r0, e, hr, rfl⟩
  · cases e
  cases e
  obtain ⟨es', hh, hrel, hset⟩ := map_set hw hf
  split at h
  · rename_i i v0 hfn
    split at h
    case h_2 => cases h
    rename_i en hen
    split at h
    case h_2 => cases h
    rename_i hsame
    simp only [Bool.and_eq_true] at hsame
    obtain ⟨hflk, hsame⟩ := hsame
    cases h
    obtain ⟨r', h1, ⟨h2, _⟩ | ⟨j', a, a', h2, rfl, h4⟩⟩ := findV_rel hrel _ hfn
    · cases h2
    cases h2
    obtain ⟨en', hen', her⟩ := hrel.get i en hen
    have hk1 : es'[i]? = some en' := by simpa using hen'
    have hkey : en'.key = en.key := her.key.flatN_eq 3 hflk
    have hva : a' = en'.val := findV_val h1 en' hen'
    have hst : (Instr.keyThatStays en'.key k).run P w = .ok k w := by
      unfold Instr.keyThatStays
      rw [hkey, if_pos hsame]
      rfl
    refine ⟨.tuple #[a', goInt en'.born], _, ?_, hset (es.toList.set i { en with key := k }) (es'.modify i fun e => { e with key := k }) clock (Nat.le_succ _) (by rw [modify_eq _ hen']; exact hrel.set' (v := { en with key := k }) (v' := { en' with key := k }) ⟨VRel.of_flatN 3 _ hfl, her.val, her.born⟩ i), ?_⟩
    · simp only [Instr.mapEntry, Sem.run_bind, run_und hu, Result.andThen, run_getMap hh, checkKey_run hk h1, findKey_run hk h1, hk1, Option.map_some, Option.getD_some, hst, run_setMap hh]
      rfl
    · subst hva
      refine .tuple rfl fun i x y hx hy => ?_
      match i with
      | 0 => simp at hx hy; subst hx hy; exact her.val
      | 1 => simp at hx hy; subst hx hy; rw [her.born]; exact .flat rfl
      | i + 2 => simp at hx
  · rename_i hfn
    split at h
    case h_2 => cases h
    rename_i z hz
    cases h
    obtain ⟨r', h1, ⟨_, rfl⟩ | ⟨j', a, a', h2, _⟩⟩ := findV_rel hrel _ hfn
    · obtain ⟨inf, hi, hz'⟩ := zero_of hz
      have hfz := hP.zero _ _ _ hi hz'
      refine ⟨.tuple #[z, goInt clock], _, ?_, hset (es.toList ++ [{ key := k, val := z, born := clock }]) (es'.push { key := k, val := z, born := clock }) (clock + 1) (Nat.le_refl _) (by simp only [Array.toList_push]; exact hrel.snoc ⟨VRel.of_flatN 3 _ hfl, VRel.of_flatN 3 z hfz, rfl⟩), ?_⟩
      · simp only [Instr.mapEntry, Sem.run_bind, run_und hu, Result.andThen, run_getMap hh, checkKey_run hk h1, findKey_run hk h1, run_zer hi hz', run_setMap hh]
        rfl
      · refine .tuple rfl fun i x y hx hy => ?_
        match i with
        | 0 => simp at hx hy; subst hx hy; exact VRel.of_flatN 3 z hfz
        | 1 => simp at hx hy; subst hx hy; exact .flat rfl
        | i + 2 => simp at hx
    · cases h2
  · cases h

theorem mapUpdate_sound {t : TypeId} {m m' k x x' : Value} (h : mapUpdateV P t m k x V = some V1) (hm : VRel ρ D m m') (hx : VRel ρ D x x') (hw : WRel P ρ D V.get w) :
    flatN 3 k = true ∧ ∃ w1, (Instr.mapUpdate t m' k x').run P w = .ok () w1 ∧ Stepped P ρ D V.get V.next w ρ V1.get V1.next w1 := by
  unfold mapUpdateV at h
  split at h
  case h_2 => cases h
  rename_i d elem hkk
  obtain ⟨hu, hk⟩ := key_kind hkk
  split at h
  case h_2 => cases h
  rename_i r
  split at h
  case h_2 => cases h
  rename_i es clock hf
  split at h
  case h_2 => cases h
  rename_i hfl
  refine ⟨hfl, ?_⟩
  rcases hm.mapInv with ⟨e, _⟩ | ⟨r0, e, hr, rfl⟩
  · cases e
  cases e
  obtain ⟨es', hh, hrel, hset⟩ := map_set hw hf
  split at h
  · rename_i i v0 hfn
    split at h
    case h_2 => cases h
    rename_i en hen
    split at h
    case h_2 => cases h
    rename_i hsame
    simp only [Bool.and_eq_true] at hsame
    obtain ⟨hflk, hsame⟩ := hsame
    cases h
    obtain ⟨r', h1, ⟨h2, _⟩ | ⟨j', a, a', h2, rfl, h4⟩⟩ := findV_rel hrel _ hfn
    · cases h2
    cases h2
    obtain ⟨en', hen', her⟩ := hrel.get i en hen
    have hk1 : es'[i]? = some en' := by simpa using hen'
    have hkey : en'.key = en.key := her.key.flatN_eq 3 hflk
    have hst : (Instr.keyThatStays en'.key k).run P w = .ok k w := by
      unfold Instr.keyThatStays
      rw [hkey, if_pos hsame]
      rfl
    refine ⟨_, ?_, hset (es.toList.set i { en with key := k, val := x }) (es'.modify i fun e => { e with key := k, val := x' }) clock (Nat.le_succ _) (by rw [modify_eq _ hen']; exact hrel.set' (v := { en with key := k, val := x }) (v' := { en' with key := k, val := x' }) ⟨VRel.of_flatN 3 _ hfl, hx, her.born⟩ i)⟩
    simp only [Instr.mapUpdate, Sem.run_bind, run_und hu, Result.andThen, run_getMap hh, checkKey_run hk h1, findKey_run hk h1, hk1, Option.map_some, Option.getD_some, hst, run_setMap hh]
  · rename_i hfn
    cases h
    obtain ⟨r', h1, ⟨_, rfl⟩ | ⟨j', a, a', h2, _⟩⟩ := findV_rel hrel _ hfn
    · refine ⟨_, ?_, hset (es.toList ++ [{ key := k, val := x, born := clock }]) (es'.push { key := k, val := x', born := clock }) (clock + 1) (Nat.le_refl _) (by simp only [Array.toList_push]; exact hrel.snoc ⟨VRel.of_flatN 3 _ hfl, hx, rfl⟩)⟩
      simp only [Instr.mapUpdate, Sem.run_bind, run_und hu, Result.andThen, run_getMap hh, checkKey_run hk h1, findKey_run hk h1, run_setMap hh]
    · cases h2
  · cases h
theorem sliceBig_sound {t : TypeId} {a : Addr} {n : Nat} {v v' lo : Value} (h : sliceBigV P t a n lo V = some v) (hv : VRel ρ D (.slice (some a) n big) v') (hw : WRel P ρ D V.get w) :
    ∃ v1, (Instr.sliceAt t v' (some lo) none none).run P w = .ok v1 w ∧ VRel ρ D v v1 := by
  unfold sliceBigV at h
  split at h
  case h_2 => cases h
  rename_i elem hu
  split at h
  case h_2 => cases h
  rename_i info hi
  split at h
  case h_2 => cases h
  rename_i cc e2 lo2 hi2 hf
  split at h
  case h_2 => cases h
  rename_i j l
  split at h
  case h_2 => cases h
  rename_i hk
  cases h
  simp only [Bool.and_eq_true] at hk
  obtain ⟨⟨k1, k2⟩, k3⟩ := hk
  have k1 := Nat.eq_of_beq_eq_true k1
  have k2 := Nat.eq_of_beq_eq_true k2
  have k3 : l < n := by simpa [Nat.blt_eq] using k3
  subst k1 k2
  obtain ⟨hro, o', hheap, hor⟩ := hw.own a.block _ hf rfl
  have hes : ρ.es a.block = info.size := by
    cases hor with
    | @cells _ cc _ hsz1 hes hle hvv => rw [← hes]; simp [Program.cellsOf, hi]
  rcases hv.sliceInv with ⟨e, _⟩ | ⟨a0, c', e, ha, rfl, ⟨rfl, hc⟩ | ⟨_, hl, hsz⟩⟩
  · cases e
  · exact absurd hc (by unfold big; omega)
  cases e
  have hne : ¬ (c' = l) := by omega
  refine ⟨.slice (some ((ρ.addr a).add (l * info.size))) (n - l) (c' - l), ?_, ?_⟩
  · have hs : (Go.sizeOf (e2 : TypeId)).run P w = .ok info.size w := by unfold Go.sizeOf; rw [Sem.run_bind]; simp [run_inf hi, Result.andThen]
    have hle : (0 : Int) ≤ Int.ofNat l ∧ Int.ofNat l ≤ (n : Int) := ⟨by simp, by simp; omega⟩
    simp [Instr.sliceAt, Instr.slice, Instr.sliceBounds, Instr.sliceBound, Go.asIntOf, Sem.run_bind, run_und hu, Result.andThen]
    rw [if_pos (by omega)]
    simp [hs, hne]
  · rw [Ren.addr_add]
    refine .grown (by rw [add_block]; exact ha) (by omega) ?_
    rw [add_block, hes]
    rw [hes] at hsz
    have hoff : (a.add (l * info.size)).off = a.off + l * info.size := by
      unfold Addr.add; split
      · rename_i h; rw [h]; rfl
      · rfl
    rw [hoff]
    have : l * info.size + (c' - l) * info.size = c' * info.size := by rw [← Nat.add_mul]; congr 1; omega
    omega
theorem sliceTop_sound {t : TypeId} {a : Addr} {n : Nat} {v v' hi mx : Value} (h : sliceTopV P t a n hi mx = some v) (hv : VRel ρ D (.slice (some a) n big) v') :
    ∃ v1, (Instr.sliceAt t v' none (some hi) (some mx)).run P w = .ok v1 w ∧ VRel ρ D v v1 := by
  unfold sliceTopV at h
  split at h
  case h_2 => cases h
  rename_i elem hu
  split at h
  case h_2 => cases h
  rename_i info hinfo
  split at h
  case h_2 => cases h
  rename_i j l
  split at h
  case h_2 => cases h
  rename_i j2 m
  split at h
  case h_2 => cases h
  rename_i hk
  cases h
  simp only [Bool.and_eq_true, Nat.ble_eq, Nat.blt_eq] at hk
  obtain ⟨⟨k1, k2⟩, k3⟩ := hk
  rcases hv.sliceInv with ⟨e, _⟩ | ⟨a0, c', e, ha, rfl, ⟨rfl, hc⟩ | ⟨_, hl, hsz⟩⟩
  · cases e
  · exact absurd hc (by unfold big; omega)
  cases e
  refine ⟨.slice (some (ρ.addr a)) l m, ?_, .slice ha k3⟩
  have hs : (Go.sizeOf elem).run P w = .ok info.size w := by unfold Go.sizeOf; rw [Sem.run_bind]; simp [run_inf hinfo, Result.andThen]
  have h1 : m ≤ c' := by omega
  have ha0 : Addr.add (ρ.addr a) 0 = ρ.addr a := by
    generalize ρ.addr a = x
    obtain ⟨b, o, sp⟩ := x
    simp [Addr.add]
  simp [Instr.sliceAt, Instr.slice, Instr.sliceBounds, Instr.sliceBound, Go.asIntOf, Sem.run_bind, run_und hu, Result.andThen]
  simp [h1, k1, hs, ha0]
theorem born_eq (b : Int) : ∀ (es : List MapEntry) (n : Nat), bornAt b es n = (es.findIdx? fun e => (e.born : Int) == b).map (· + n)
  | [], n => rfl
  | e :: es, n => by
    simp only [bornAt, List.findIdx?_cons]
    by_cases h : (e.born : Int) = b
    · simp [h]
    · simp only [h, decide_false, beq_iff_eq, if_false]
      rw [born_eq b es (n + 1)]
      cases (es.findIdx? fun e => (e.born : Int) == b) <;> simp <;> omega
theorem born_rel {b : Int} {es es' : List MapEntry} (h : LRel (MRel ρ D) es es') : (es.findIdx? fun e => (e.born : Int) == b) = es'.findIdx? fun e => (e.born : Int) == b := by
  induction h with
  | nil => rfl
  | cons he _ ih => simp only [List.findIdx?_cons, he.born, ih]
theorem entryStore_sound {t : TypeId} {m m' s s' x x' : Value} (h : entryStoreV m s x V = some V1) (hm : VRel ρ D m m') (hs : VRel ρ D s s') (hx : VRel ρ D x x') (hw : WRel P ρ D V.get w) :
    ∃ w1, (Instr.entryStore t m' s' x').run P w = .ok () w1 ∧ Stepped P ρ D V.get V.next w ρ V1.get V1.next w1 := by
  unfold entryStoreV at h
  split at h
  case h_2 => cases h
  rename_i r kd born
  have hs' := hs.flatEq rfl
  subst hs'
  split at h
  case h_2 => cases h
  rename_i es clock hf
  split at h
  case h_2 => cases h
  rename_i i hb
  split at h
  case h_2 => cases h
  rename_i en hen
  cases h
  rcases hm.mapInv with ⟨e, _⟩ | ⟨r0, e, hr, rfl⟩
  · cases e
  cases e
  obtain ⟨es', hh, hrel, hset⟩ := map_set hw hf
  obtain ⟨en', hen', her⟩ := hrel.get i en hen
  have hbi : es'.findIdx? (fun e => (e.born : Int) == born) = some i := by
    have : (es'.toList.findIdx? fun e => (e.born : Int) == born) = some i := by
      rw [← born_rel hrel]
      rw [born_eq] at hb
      cases hq : es.toList.findIdx? (fun e => (e.born : Int) == born) with
      | none => rw [hq] at hb; cases hb
      | some q => rw [hq] at hb; simp at hb; rw [hb]
    obtain ⟨l⟩ := es'
    simpa using this
  refine ⟨_, ?_, hset (es.toList.set i { en with val := x }) (es'.modify i fun e => { e with val := x' }) clock (Nat.le_succ _) (by rw [modify_eq _ hen']; exact hrel.set' (v := { en with val := x }) (v' := { en' with val := x' }) ⟨her.key, hx, her.born⟩ i)⟩
  simp [Instr.entryStore, Sem.run_bind, run_getMap hh, Result.andThen, Go.asInt, Go.asIntOf, hbi, run_setMap hh]

theorem delete_sound {ts : Array TypeId} {tt t : TypeId} (ht : ts[0]? = some t) {m m' k : Value} (h : deleteV P t m k V = some V1) (hm : VRel ρ D m m') (hw : WRel P ρ D V.get w) :
    ∃ w1, (Builtin.delete_ ts tt #[m', k]).run P w = .ok (.tuple #[]) w1 ∧ Stepped P ρ D V.get V.next w ρ V1.get V1.next w1 := by
  unfold deleteV at h
  split at h
  case h_2 => cases h
  rename_i d elem hkk
  obtain ⟨hu, hk⟩ := key_kind hkk
  split at h
  · split at h
    case h_2 => cases h
    rename_i r0 h1
    cases h
    have : m' = .map none := hm.flatEq rfl
    subst this
    exact ⟨w, by simp [Builtin.delete_, ht, Sem.run_bind, run_und hu, Result.andThen, checkKey_run hk h1], .refl hw⟩
  · rename_i r
    split at h
    case h_2 => cases h
    rename_i es clock hf
    rcases hm.mapInv with ⟨e, _⟩ | ⟨r0, e, hr, rfl⟩
    · cases e
    cases e
    obtain ⟨es', hh, hrel, hset⟩ := map_set hw hf
    split at h
    · rename_i i v0 hfn
      cases h
      obtain ⟨r', h1, ⟨h2, _⟩ | ⟨j', a, a', h2, rfl, h4⟩⟩ := findV_rel hrel _ hfn
      · cases h2
      cases h2
      have herase : (es'.eraseIdxIfInBounds i).toList = es'.toList.eraseIdx i := by
        unfold Array.eraseIdxIfInBounds
        split
        · simp
        · rename_i hlt
          rw [List.eraseIdx_of_length_le (by simpa using hlt)]
      refine ⟨_, ?_, hset (es.toList.eraseIdx i) (es'.eraseIdxIfInBounds i) clock (Nat.le_succ _) (by rw [herase]; exact hrel.erase i)⟩
      simp [Builtin.delete_, ht, Sem.run_bind, run_und hu, Result.andThen, checkKey_run hk h1, run_getMap hh, findKey_run hk h1, run_setMap hh]
    · rename_i hfn
      cases h
      obtain ⟨r', h1, ⟨_, rfl⟩ | ⟨j', a, a', h2, _⟩⟩ := findV_rel hrel _ hfn
      · refine ⟨_, ?_, hset es.toList es' clock (Nat.le_succ _) hrel⟩
        simp [Builtin.delete_, ht, Sem.run_bind, run_und hu, Result.andThen, checkKey_run hk h1, run_getMap hh, findKey_run hk h1, run_setMap hh]
      · cases h2
    · cases h
  · cases h
theorem clear_sound {ts : Array TypeId} {tt t : TypeId} (ht : ts[0]? = some t) {m' : Value} {r : Nat} (h : clearMapV P t r V = some V1) (hm : VRel ρ D (.map (some r)) m') (hw : WRel P ρ D V.get w) :
    ∃ w1, (Builtin.clear_ ts tt #[m']).run P w = .ok (.tuple #[]) w1 ∧ Stepped P ρ D V.get V.next w ρ V1.get V1.next w1 := by
  unfold clearMapV at h
  split at h
  case h_2 => cases h
  rename_i d hu
  split at h
  case h_2 => cases h
  rename_i es clock hf
  cases h
  rcases hm.mapInv with ⟨e, _⟩ | ⟨r0, e, hr, rfl⟩
  · cases e
  cases e
  obtain ⟨es', hh, hrel, hset⟩ := map_set hw hf
  refine ⟨_, ?_, hset [] #[] clock (Nat.le_succ _) .nil⟩
  simp [Builtin.clear_, ht, Sem.run_bind, run_und hu, Result.andThen, run_getMap hh, run_setMap hh]
theorem Sim.makeMap {t : TypeId} : Sim P ρ D V (Instr.makeMap t none) (Instr.makeMap t none) VR := by
  unfold Instr.makeMap
  refine .map (.newObj rfl fun _ _ _ _ _ => .map .nil) ?_
  rintro ρ1 D1 r _ _ _ ⟨h1, rfl⟩
  exact .map h1
end Go.Vm
/- One operation is what the small memory has it be. -/
namespace Go.Vm
variable {P : Program} {ρ ρ1 ρ2 : Ren} {D D1 : Nat → Prop} {V V1 : View} {w w1 : World}

def Outcome (P : Program) (ρ : Ren) (D : Nat → Prop) (V : View) (w : World) (s : Sem Next) (r : Next) (V1 : View) : Prop :=
  ∃ ρ1 r' w1, s.run P w = .ok r' w1 ∧ Stepped P ρ D V.get V.next w ρ1 V1.get V1.next w1 ∧ NRel ρ1 (grow D V.next V1.next) r r'

theorem val_sound {s s' : Sem Value} {r : Next} (h : Sim P ρ D V s s' VR) (hr : val (runV P s V) = some (r, V1)) (hw : WRel P ρ D V.get w) (hd : ∀ b, V.next ≤ b → b < V1.next → ¬ D b) :
    Outcome P ρ D V w (do pure (.value (← s'))) r V1 := by
  unfold val at hr
  split at hr
  · rename_i v V2 hv
    cases hr
    obtain ⟨ρ1, v', w1, h1, h2, h3⟩ := h w hw v V1 hv hd
    exact ⟨ρ1, _, w1, by rw [Sem.run_bind]; simp [h1, Result.andThen], h2, .value h3⟩
  · cases hr
theorem valc_sound {s s' : Sem Value} {r : Next} (h : Sim P ρ D V s s' VRc) (hr : valc (runV P s V) = some (r, V1)) (hw : WRel P ρ D V.get w) (hd : ∀ b, V.next ≤ b → b < V1.next → ¬ D b) :
    Outcome P ρ D V w (do pure (.value (← s'))) r V1 := by
  unfold valc at hr
  split at hr
  · rename_i a n c V2 hv
    split at hr
    · rename_i hc
      cases hr
      obtain ⟨ρ1, v', w1, h1, h2, h3⟩ := h w hw _ V1 hv hd
      exact ⟨ρ1, _, w1, by rw [Sem.run_bind]; simp [h1, Result.andThen], h2, .value (h3 hc)⟩
    · cases hr
  · rename_i v V2 hne hv
    cases hr
    obtain ⟨ρ1, v', w1, h1, h2, h3⟩ := h w hw _ V1 hv hd
    refine ⟨ρ1, _, w1, by rw [Sem.run_bind]; simp [h1, Result.andThen], h2, .value (h3 ?_)⟩
    split
    · rename_i a n c
      first | exact (hne _ _ _ _ rfl).elim | exact (hne _ _ _ rfl).elim | exact absurd hv (hne _ _ _ _)
    · rfl
  · cases hr
theorem pure_sound {s : Sem Value} {r : Next} (hr : pureV P s V = some (r, V1)) (hw : WRel P ρ D V.get w) :
    Outcome P ρ D V w (do pure (.value (← s))) r V1 := by
  unfold pureV at hr
  split at hr
  · rename_i v hv
    split at hr
    · rename_i hf
      cases hr
      refine ⟨ρ, .value v, w, by rw [Sem.run_bind]; simp [pureRun_run hv w, Result.andThen], .refl hw, .value ?_⟩
      exact VRel.of_flatN 3 v hf
    · cases hr
  · cases hr
theorem nilCmp_sound {op : BinOp} {t : TypeId} {X Y : Operand} {x x' y y' v : Value} (h : nilCmp P op t x y = some v) (hx : VRel ρ D x x') (hy : VRel ρ D y y') (w : World) :
    ∃ v', (do eqGuard op t X Y x' y'; binOp op t x' y').run P w = .ok v' w ∧ VRel ρ D v v' := by
  unfold nilCmp at h
  split at h
  case h_2 => cases h
  rename_i a n c n2 c2
  have : y' = .slice none n2 c2 := hy.flatEq rfl
  subst this
  rcases hx.sliceInv with ⟨e, _⟩ | ⟨a0, c', e, ha, rfl, _⟩
  · cases e
  split at h
  case h_2 => cases h
  rename_i el hu
  have he : (Op.equal t (.slice (some (ρ.addr a0)) n c') (.slice none n2 c2)).run P w = .ok false w := by
    show (Op.equalIn (9999 + 1) t _ _).run P w = _
    unfold Op.equalIn
    rw [Sem.run_bind, run_und hu]
    rfl
  split at h
  · cases h
    refine ⟨.bool false, ?_, .flat rfl⟩
    rw [Sem.run_bind]
    have h1 : (eqGuard .eql t X Y (.slice (some (ρ.addr a0)) n c') (.slice none n2 c2)).run P w = .ok () w := rfl
    rw [h1]
    show (binOp .eql t (.slice (some (ρ.addr a0)) n c') (.slice none n2 c2)).run P w = _
    simp [binOp, he, Result.andThen]
  · cases h
    refine ⟨.bool true, ?_, .flat rfl⟩
    rw [Sem.run_bind]
    have h1 : (eqGuard .neq t X Y (.slice (some (ρ.addr a0)) n c') (.slice none n2 c2)).run P w = .ok () w := rfl
    rw [h1]
    show (binOp .neq t (.slice (some (ρ.addr a0)) n c') (.slice none n2 c2)).run P w = _
    simp [binOp, he, Result.andThen]
  · cases h
theorem here {v v' : Value} (h : VRel ρ D v v') (hw : WRel P ρ D V.get w) : Outcome P ρ D V w (pure (.value v')) (.value v) V :=
  ⟨ρ, _, w, rfl, .refl hw, .value (by rw [grow_nil]; exact h)⟩
theorem args_rel {e e' : Operand → Value} {xs : Array Operand} (h : ∀ x, x ∈ xs → VRel ρ D (e x) (e' x)) : ARel ρ D (xs.toList.map e).toArray (xs.map e') := by
  refine ⟨by simp, fun i v v' h1 h2 => ?_⟩
  simp only [List.getElem?_toArray, List.getElem?_map, Option.map_eq_some_iff, Array.getElem?_toList] at h1
  simp only [Array.getElem?_map, Option.map_eq_some_iff] at h2
  obtain ⟨x, hx, rfl⟩ := h1
  obtain ⟨y, hy, rfl⟩ := h2
  rw [hx] at hy; cases hy
  exact h x (Array.mem_of_getElem? hx)
theorem parts_rel {e e' : Operand → Value} {ps : Array (Nat × Operand)} (h : ∀ p, p ∈ ps → VRel ρ D (e p.2) (e' p.2)) : LRel (PRel ρ D) (ps.toList.map fun p => (p.1, e p.2)) (ps.map fun (i, x) => (i, e' x)).toList := by
  refine LRel.of_get (by simp) fun i x y h1 h2 => ?_
  simp only [List.getElem?_map, Option.map_eq_some_iff, Array.getElem?_toList] at h1
  simp only [Array.getElem?_toList, Array.getElem?_map, Option.map_eq_some_iff] at h2
  obtain ⟨p, hp, rfl⟩ := h1
  obtain ⟨q, hq, rfl⟩ := h2
  rw [hp] at hq; cases hq
  exact ⟨rfl, h p (Array.mem_of_getElem? hp)⟩
theorem opt_flat {e e' : Operand → Value} {o : Option Operand} (h : ∀ x, o = some x → VRel ρ D (e x) (e' x)) (hf : flatO (o.map e) = true) : o.map e' = o.map e := by
  cases o with
  | none => rfl
  | some x => simp only [Option.map_some]; rw [(h x rfl).flatEq hf]

theorem Sim.loadAt {t : TypeId} {v v' : Value} (hv : VRel ρ D v v') : Sim P ρ D V (Instr.loadAt t v) (Instr.loadAt t v') VR := by
  unfold Instr.loadAt
  refine .bind (.sureAddr hv) ?_
  rintro ρ1 D1 V1 a _ hag hD ⟨ha, rfl⟩
  exact .loadVar ha
theorem Sim.storeAt {t : TypeId} {v v' x x' : Value} (hv : VRel ρ D v v') (hx : VRel ρ D x x') : Sim P ρ D V (Instr.storeAt t v x) (Instr.storeAt t v' x') (Any2 Unit Unit) := by
  unfold Instr.storeAt
  refine .bind (.sureAddr hv) ?_
  rintro ρ1 D1 V1 a _ hag hD ⟨ha, rfl⟩
  exact .storeVar ha (hx.ext hag hD)

theorem flat_all {xs ys : Array Value} (h : ARel ρ D xs ys) (hf : xs.toList.all flat = true) : ys = xs := by
  refine (Array.ext h.1 fun i h1 h2 => ?_).symm
  exact ((h.2 i _ _ (Array.getElem?_eq_getElem h1) (Array.getElem?_eq_getElem h2)).flatEq (List.all_eq_true.1 hf _ (by simp))).symm

theorem call_sound (hP : Good P) {o : Oper} {c : Call} (ho : o.op = .call c) {e e' : Operand → Value} {r : Next} (hops : ∀ x, x ∈ o.op.operands → VRel ρ D (e x) (e' x)) (hr : runCall P e c o.type V = some (r, V1)) (hw : WRel P ρ D V.get w) (hd : ∀ b, V.next ≤ b → b < V1.next → ¬ D b) :
    Outcome P ρ D V w (execOp e' o) r V1 := by
  have hargs := args_rel (ρ := ρ) (D := D) (e := e) (e' := e') (xs := c.args) fun x hx => hops x (by rw [ho]; simp [Op.operands, Call.operands, hx])
  unfold runCall at hr
  unfold execOp
  rw [ho]
  dsimp only at hr ⊢
  have hargl : LRel (VRel ρ D) (c.args.toList.map e) (c.args.map e').toList := by simpa using hargs.list
  unfold resolve
  cases hc : c.callee with
  | value f =>
    have hf := hops f (by rw [ho]; simp [Op.operands, Call.operands, hc])
    rw [hc] at hr
    dsimp only at hr ⊢
    generalize (c.args.toList.map e).toArray = xs at hr hargs
    generalize e f = v at hr hf
    generalize e' f = v' at hf ⊢
    split at hr
    · rename_i g first captured
      split at hr
      · rename_i hok
        cases hr
        cases hf with
        | flat h => simp [Vm.flat] at h
        | func hfn h1 h2 h3 h4 =>
          cases hfn
          rename_i xs' ys' _
          refine ⟨ρ, _, w, ?_, .refl hw, .enter (by rw [grow_nil]; exact ((ARel.append ⟨h1, h2⟩ hargs).append ⟨h3, h4⟩))⟩
          simp only [Deferred.ofValue, pure_bind, invoke]
          exact callOk_run hok _ w
      · cases hr
    · rename_i l first captured
      cases hf with
      | flat h => simp [Vm.flat] at h
      | func hfn h1 h2 h3 h4 =>
        cases hfn with
        | same hn => exact absurd rfl (hn _)
        | yield hl =>
          simp only [Deferred.ofValue, pure_bind, invoke]
          exact Sim.yield hl (ARel.append ⟨h1, h2⟩ hargs) w hw r V1 hr hd
    · cases hr
  | invoke a m => rw [hc] at hr; cases hr
  | builtin b =>
    rw [hc] at hr
    simp only [pure_bind, invoke]
    cases b <;> try (cases hr; done)
    case append =>
      dsimp only at hr
      split at hr
      · rename_i s x hsx
        have hl := hargl
        rw [hsx] at hl
        generalize c.args.map e' = ys at hl
        obtain ⟨ys⟩ := ys
        cases hl with
        | cons hs ht => cases ht with
          | cons hx ht => cases ht with
            | nil =>
              unfold val at hr
              split at hr
              · rename_i v V2 hv
                cases hr
                obtain ⟨ρ1, v', w1, h1, h2, h3⟩ := append_sound hP (t := o.type) hv hs hx hw hd
                refine ⟨ρ1, _, w1, ?_, h2, .value h3⟩
                unfold builtin
                rw [Sem.run_bind]; simp [h1, Result.andThen]
              · cases hr
      · cases hr
    case copy =>
      dsimp only at hr
      split at hr
      · rename_i s a n c2 hsx
        have hl := hargl
        rw [hsx] at hl
        generalize c.args.map e' = ys at hl
        obtain ⟨ys⟩ := ys
        cases hl with
        | cons hs ht => cases ht with
          | cons hx ht => cases ht with
            | nil => exact val_sound (.copy (fun s h => by cases h) hs hx) hr hw hd
      · cases hr
    case len => exact val_sound (.len hargs) hr hw hd
    case delete =>
      dsimp only at hr
      split at hr
      · rename_i t m k ht hsx
        have hl := hargl
        rw [hsx] at hl
        split at hr
        · rename_i hfk
          split at hr
          · rename_i V2 hdel
            cases hr
            generalize c.args.map e' = ys at hl
            obtain ⟨ys⟩ := ys
            cases hl with
            | cons hm ht' => cases ht' with
              | cons hk ht' => cases ht' with
                | nil =>
                  obtain ⟨w1, h1, h2⟩ := delete_sound (tt := o.type) ht hdel hm hw
                  rw [hk.flatN_eq 3 hfk]
                  refine ⟨ρ, _, w1, ?_, h2, .value (VRel.of_flatN 3 _ rfl)⟩
                  unfold builtin
                  rw [Sem.run_bind]; simp [h1, Result.andThen]
          · cases hr
        · cases hr
      · cases hr
    case clear =>
      dsimp only at hr
      split at hr
      · rename_i t0 a n c2 ht hsx
        have hl := hargl
        rw [hsx] at hl
        generalize c.args.map e' = ys at hl
        obtain ⟨ys⟩ := ys
        cases hl with
        | cons hs ht' => cases ht' with
          | nil =>
            rcases hs.sliceInv with ⟨h, _⟩ | ⟨a0, c', h1, h2, rfl, _⟩
            · cases h
            cases h1
            exact val_sound (.clearSlice hP h2) hr hw hd
      · rename_i t r0 ht hsx
        have hl := hargl
        rw [hsx] at hl
        split at hr
        · rename_i V2 hcl
          cases hr
          generalize c.args.map e' = ys at hl
          obtain ⟨ys⟩ := ys
          cases hl with
          | cons hm ht' => cases ht' with
            | nil =>
              obtain ⟨w1, h1, h2⟩ := clear_sound (tt := o.type) ht hcl hm hw
              refine ⟨ρ, _, w1, ?_, h2, .value (VRel.of_flatN 3 _ rfl)⟩
              unfold builtin
              rw [Sem.run_bind]; simp [h1, Result.andThen]
        · cases hr
      · cases hr
    case max =>
      dsimp only at hr
      split at hr
      · rename_i hf
        rw [flat_all hargs (by simpa using hf)]
        exact pure_sound hr hw
      · cases hr
    case min =>
      dsimp only at hr
      split at hr
      · rename_i hf
        rw [flat_all hargs (by simpa using hf)]
        exact pure_sound hr hw
      · cases hr

theorem runOp_sound (hP : Good P) {o : Oper} {e e' : Operand → Value} {r : Next} (hops : ∀ x, x ∈ o.op.operands → VRel ρ D (e x) (e' x)) (hr : runOp P e o V = some (r, V1)) (hw : WRel P ρ D V.get w) (hd : ∀ b, V.next ≤ b → b < V1.next → ¬ D b) :
    Outcome P ρ D V w (execOp e' o) r V1 := by
  by_cases hcall : ∃ c, o.op = .call c
  · obtain ⟨c, hc⟩ := hcall
    unfold runOp at hr
    rw [hc] at hr
    exact call_sound hP hc hops hr hw hd
  unfold runOp at hr
  unfold execOp
  split at hr
  · rename_i x ho; rw [ho] at hops ⊢; cases hr
    exact here (hops x (by simp [Op.operands])) hw
  · rename_i x ho; rw [ho] at hops ⊢; cases hr
    exact here (hops x (by simp [Op.operands])) hw
  · rename_i c a b ho; rw [ho] at hops ⊢
    have hc := hops c (by simp [Op.operands])
    split at hr
    · rename_i hq; cases hr; rw [hq] at hc
      have := hc.flatEq rfl
      dsimp only; rw [this]
      exact here (hops a (by simp [Op.operands])) hw
    · rename_i hq; cases hr; rw [hq] at hc
      have := hc.flatEq rfl
      dsimp only; rw [this]
      exact here (hops b (by simp [Op.operands])) hw
    · cases hr
  · rename_i t ho; rw [ho]
    exact val_sound (.alloc hP) hr hw hd
  · rename_i t x ho; rw [ho] at hops ⊢
    exact val_sound (.box (hops x (by simp [Op.operands]))) hr hw hd
  · rename_i t ps ho; rw [ho] at hops ⊢
    exact val_sound (.build hP (parts_rel fun p hp => hops p.2 (by simp [Op.operands]; exact ⟨p.1, by simpa using hp⟩))) hr hw hd
  · rename_i t n ps ho; rw [ho] at hops ⊢
    split at hr
    · rename_i hn
      exact val_sound (.buildSlice hP (by simpa using hn) (parts_rel fun p hp => hops p.2 (by simp [Op.operands]; exact ⟨p.1, by simpa using hp⟩))) hr hw hd
    · cases hr
  · rename_i t a ho; rw [ho] at hops ⊢
    exact val_sound (.loadAt (hops a (by simp [Op.operands]))) hr hw hd
  · rename_i t a x ho; rw [ho] at hops ⊢
    split at hr
    · rename_i u V2 hv
      cases hr
      obtain ⟨ρ1, u', w1, h1, h2, h3⟩ := Sim.storeAt (P := P) (V := V) (t := t) (hops a (by simp [Op.operands])) (hops x (by simp [Op.operands])) w hw u V1 hv hd
      exact ⟨ρ1, _, w1, by dsimp only; rw [Sem.run_bind]; simp [h1, Result.andThen], h2, .skip⟩
    · cases hr
  · rename_i x ho; rw [ho] at hops ⊢
    have hx := hops x (by simp [Op.operands])
    dsimp only
    generalize e x = v at hr hx
    generalize e' x = v' at hx ⊢
    split at hr
    · cases hr
      cases hx with
      | flat h => simp [Vm.flat] at h
      | ptr ha => exact here (.ptr ha) hw
    · cases hr
      cases hx with
      | flat h => simp [Vm.flat] at h
      | func hf h1 h2 h3 h4 => cases hf; exact here (.func (.same (fun l h => by cases h)) h1 h2 h3 h4) hw
    · cases hr
      cases hx with
      | flat h => simp [Vm.flat] at h
      | func hf h1 h2 h3 h4 =>
        cases hf with
        | same hn => exact absurd rfl (hn _)
        | yield hl => exact here (.func (.yield hl) h1 h2 h3 h4) hw
    · cases hr
  · rename_i op t x y _ ho; rw [ho] at hops ⊢
    split at hr
    · rename_i hf
      simp only [Bool.and_eq_true] at hf
      dsimp only
      rw [(hops x (by simp [Op.operands])).flatN_eq 3 hf.1, (hops y (by simp [Op.operands])).flatN_eq 3 hf.2]
      exact pure_sound hr hw
    · split at hr
      · rename_i v hv
        cases hr
        obtain ⟨v', h1, h2⟩ := nilCmp_sound (X := x) (Y := y) hv (hops x (by simp [Op.operands])) (hops y (by simp [Op.operands])) w
        exact ⟨ρ, .value v', w, by dsimp only; rw [Sem.run_bind]; simp [h1, Result.andThen], .refl hw, .value (by rw [grow_nil]; exact h2)⟩
      · cases hr
  · rename_i op t x ho; rw [ho] at hops ⊢
    split at hr
    · rename_i hf
      dsimp only
      rw [(hops x (by simp [Op.operands])).flatEq hf]
      exact pure_sound hr hw
    · cases hr
  · rename_i s d x ho; rw [ho] at hops ⊢
    split at hr
    · rename_i hf
      dsimp only
      rw [(hops x (by simp [Op.operands])).flatEq hf]
      split at hr
      · rename_i hp
        cases hr
        exact pure_sound hp hw
      · split at hr
        · rename_i v V2 hb
          cases hr
          obtain ⟨ρ1, v', w1, h1, h2, h3⟩ := bytes_sound hb hw hd
          exact ⟨ρ1, .value v', w1, by rw [Sem.run_bind]; simp [h1, Result.andThen], h2, .value h3⟩
        · cases hr
    · cases hr
  · rename_i fn first captured ho; rw [ho] at hops ⊢
    split at hr
    · rename_i g
      cases hr
      have h1 := args_rel (ρ := ρ) (D := D) (e := e) (e' := e') (xs := first) fun x hx => hops x (by simp [Op.operands, hx])
      have h2 := args_rel (ρ := ρ) (D := D) (e := e) (e' := e') (xs := captured) fun x hx => hops x (by simp [Op.operands, hx])
      exact here (.func (.same (fun l h => by cases h)) h1.1 h1.2 h2.1 h2.2) hw
    · cases hr
  · rename_i t n c ho; rw [ho] at hops ⊢
    have hn := hops n (by simp [Op.operands])
    have hc := hops c (by simp [Op.operands])
    split at hr
    · rename_i j n' k c' e1 e2
      rw [e1] at hn; rw [e2] at hc
      have h1 := hn.flatEq rfl
      have h2 := hc.flatEq rfl
      dsimp only
      rw [h1, h2]
      exact val_sound (.makeSlice hP) hr hw hd
    · cases hr
  · rename_i t x lo hi mx ho; rw [ho] at hops ⊢
    have hx := hops x (by simp [Op.operands])
    split at hr
    · rename_i hf
      simp only [Bool.and_eq_true] at hf
      dsimp only
      rw [opt_flat (fun x hx => hops x (by simp [Op.operands, hx])) hf.1.1, opt_flat (fun x hx => hops x (by simp [Op.operands, hx])) hf.1.2, opt_flat (fun x hx => hops x (by simp [Op.operands, hx])) hf.2]
      generalize e x = v at hr hx
      split at hr
      · rename_i a n c
        split at hr
        · rename_i hb
          have hb := Nat.eq_of_beq_eq_true hb
          subst hb
          split at hr
          · rename_i lo0 
            split at hr
            · rename_i v0 hv0
              cases hr
              obtain ⟨v1, h1, h2⟩ := sliceBig_sound hv0 hx hw
              exact ⟨ρ, .value v1, w, by rw [Sem.run_bind]; simp [h1, Result.andThen], .refl hw, .value (by rw [grow_nil]; exact h2)⟩
            · cases hr
          · split at hr
            · rename_i v0 hv0
              cases hr
              obtain ⟨v1, h1, h2⟩ := sliceTop_sound (w := w) hv0 hx
              exact ⟨ρ, .value v1, w, by rw [Sem.run_bind]; simp [h1, Result.andThen], .refl hw, .value (by rw [grow_nil]; exact h2)⟩
            · cases hr
          · cases hr
        · rename_i hb
          exact valc_sound (.sliceAt hx (fun a n h => by cases h; rw [Nat.beq_refl] at hb; cases hb)) hr hw hd
      · rename_i hne
        exact valc_sound (.sliceAt hx (fun a n h => hne _ _ _ h)) hr hw hd
    · cases hr
  · rename_i t x k ho; rw [ho] at hops ⊢
    exact val_sound (.fieldAt (hops x (by simp [Op.operands]))) hr hw hd
  · rename_i t x k ho; rw [ho] at hops ⊢
    exact val_sound (.field (hops x (by simp [Op.operands]))) hr hw hd
  · rename_i t x i ho; rw [ho] at hops ⊢
    exact val_sound (.indexAt (hops x (by simp [Op.operands])) (hops i (by simp [Op.operands]))) hr hw hd
  · rename_i t x i ho; rw [ho] at hops ⊢
    exact val_sound (.index (hops x (by simp [Op.operands])) (hops i (by simp [Op.operands]))) hr hw hd
  · rename_i x k ho; rw [ho] at hops ⊢
    exact val_sound (.extract (hops x (by simp [Op.operands]))) hr hw hd
  · rename_i t r ho; rw [ho] at hops ⊢
    split at hr
    · exact val_sound .makeMap hr hw hd
    · cases hr
  · rename_i t m k ok ho; rw [ho] at hops ⊢
    split at hr
    · rename_i hf
      split at hr
      · rename_i v hv
        cases hr
        dsimp only
        rw [(hops k (by simp [Op.operands])).flatN_eq 3 hf]
        obtain ⟨v', h1, h2⟩ := lookup_sound hP hv (hops m (by simp [Op.operands])) hw
        exact ⟨ρ, .value v', w, by rw [Sem.run_bind]; simp [h1, Result.andThen], .refl hw, .value (by rw [grow_nil]; exact h2)⟩
      · cases hr
    · cases hr
  · rename_i t m k ho; rw [ho] at hops ⊢
    unfold val at hr
    split at hr
    · rename_i v V2 hv
      cases hr
      obtain ⟨hfl, v', w1, h1, h2, h3⟩ := mapEntry_sound hP hv (hops m (by simp [Op.operands])) hw
      dsimp only
      rw [(hops k (by simp [Op.operands])).flatN_eq 3 hfl]
      have hag := h2.agree hd
      exact ⟨ρ, .value v', w1, by rw [Sem.run_bind]; simp [h1, Result.andThen], h2, .value (h3.ext hag fun _ h => .inl h)⟩
    · cases hr
  · rename_i t m s x ho; rw [ho] at hops ⊢
    split at hr
    · rename_i V2 hv
      cases hr
      obtain ⟨w1, h1, h2⟩ := entryStore_sound (t := t) hv (hops m (by simp [Op.operands])) (hops s (by simp [Op.operands])) (hops x (by simp [Op.operands])) hw
      exact ⟨ρ, _, w1, by dsimp only; rw [Sem.run_bind]; simp [h1, Result.andThen], h2, .skip⟩
    · cases hr
  · rename_i t m k x ho; rw [ho] at hops ⊢
    split at hr
    · rename_i V2 hv
      cases hr
      obtain ⟨hfl, w1, h1, h2⟩ := mapUpdate_sound hv (hops m (by simp [Op.operands])) (hops x (by simp [Op.operands])) hw
      rw [← (hops k (by simp [Op.operands])).flatN_eq 3 hfl] at h1
      exact ⟨ρ, _, w1, by dsimp only; rw [Sem.run_bind]; simp [h1, Result.andThen], h2, .skip⟩
    · cases hr
  · rename_i t m k x ho; rw [ho] at hops ⊢
    split at hr
    · rename_i V2 hv
      cases hr
      obtain ⟨hfl, w1, h1, h2⟩ := mapUpdate_sound hv (hops m (by simp [Op.operands])) (hops x (by simp [Op.operands])) hw
      rw [← (hops k (by simp [Op.operands])).flatN_eq 3 hfl] at h1
      exact ⟨ρ, _, w1, by dsimp only; rw [Sem.run_bind]; simp [h1, Result.andThen], h2, .skip⟩
    · cases hr
  · rename_i c ho; exact absurd ⟨c, ho⟩ hcall
  · cases hr
end Go.Vm
