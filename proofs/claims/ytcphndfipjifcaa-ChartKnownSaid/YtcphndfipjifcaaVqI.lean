/- append -/
import Derived.Test.YtcphndfipjifcaaVqH
namespace Go.Vm
variable {P : Program} {ρ ρ1 ρ2 : Ren} {D D1 : Nat → Prop} {V : View} {α β γ δ : Type} {w w1 : World}

theorem append_run1 {ts : Array TypeId} {t st xt elem e2 : TypeId} {info : TypeInfo} {a : Addr} {xb : Option Addr} {sLen cap n xc : Nat} {new : Array Value} (h0 : ts[0]? = some st) (h1 : ts[1]? = some xt) (hs : P.underlying st = some (.slice elem)) (hx : P.underlying xt = some (.slice e2))
    (hi : P.info? elem = some info) (hn : sLen + n ≤ cap) (hnew : (Builtin.firstCells info.size n (.slice xb n xc)).run P w = .ok new w) (hst : (Go.storeCells (a.add (sLen * info.size)) new.toList).run P w = .ok () w1) :
    (Builtin.append_ ts t #[.slice (some a) sLen cap, .slice xb n xc]).run P w = .ok (.slice (some a) (sLen + n) cap) w1 := by
  unfold Builtin.append_
  simp [h0, h1, Sem.run_bind, run_und hs, run_und hx, run_siz hi, Result.andThen, Builtin.lenOf, hn, hnew, hst]
theorem append_run0 {ts : Array TypeId} {t st xt elem e2 : TypeId} {info : TypeInfo} {xb : Option Addr} {sLen cap n xc : Nat} {new : Array Value} (h0 : ts[0]? = some st) (h1 : ts[1]? = some xt) (hs : P.underlying st = some (.slice elem)) (hx : P.underlying xt = some (.slice e2))
    (hi : P.info? elem = some info) (hn : sLen + n ≤ cap) (hnew : (Builtin.firstCells info.size n (.slice xb n xc)).run P w = .ok new w) :
    (Builtin.append_ ts t #[.slice none sLen cap, .slice xb n xc]).run P w = .ok (.slice none (sLen + n) cap) w := by
  unfold Builtin.append_
  simp [h0, h1, Sem.run_bind, run_und hs, run_und hx, run_siz hi, Result.andThen, Builtin.lenOf, hn, hnew]
theorem grow_le2 : ∀ (r c m : Nat), c < m → Builtin.growBy m r c ≤ 2 * m + 768
  | 0, c, m, h => by simp [Builtin.growBy]; omega
  | r + 1, c, m, h => by
    unfold Builtin.growBy
    split
    · omega
    · by_cases h2 : c + (c + 768) / 4 < m
      · exact grow_le2 r _ m h2
      · cases r with
        | zero => simp [Builtin.growBy]; omega
        | succ r => unfold Builtin.growBy; rw [if_pos (by omega)]; omega
theorem next_le (need cap : Nat) (h : cap < need) : Builtin.nextslicecap need cap ≤ 2 * need + 768 := by
  unfold Builtin.nextslicecap
  split
  · omega
  · split
    · omega
    · exact grow_le2 4 cap need h
theorem append_run2 {ts : Array TypeId} {t st xt elem e2 : TypeId} {info : TypeInfo} {z : Value} {base xb : Option Addr} {sLen cap n xc : Nat} {old new : Array Value} (h0 : ts[0]? = some st) (h1 : ts[1]? = some xt) (hs : P.underlying st = some (.slice elem)) (hx : P.underlying xt = some (.slice e2))
    (hi : P.info? elem = some info) (hz : info.zero = some z) (hn : cap < sLen + n) (hb : sLen + n ≤ 2 ^ 20) (hb2 : info.bytes ≤ 2 ^ 20)
    (hold : (Builtin.firstCells info.size sLen (.slice base sLen cap)).run P w.drew = .ok old w.drew)
    (hnew : (Builtin.firstCells info.size n (.slice xb n xc)).run P w.drew = .ok new w.drew) :
    ∃ newCap, sLen + n ≤ newCap ∧ (Builtin.append_ ts t #[.slice base sLen cap, .slice xb n xc]).run P w =
      .ok (.slice (some ⟨w.heap.size, 0, none⟩) (sLen + n) newCap) (w.drew.alloc (.cells (old ++ new ++ Builtin.zeroCells z.cells (newCap - (sLen + n))) elem)) := by
  have hq : (Question.appendCap (sLen + n) cap elem).forced = false := rfl
  refine ⟨(Question.appendCap (sLen + n) cap elem).cut (w.tape w.drawn (Question.appendCap (sLen + n) cap elem)), by simp [Question.cut], ?_⟩
  have hnc := next_le (sLen + n) cap hn
  have hm : ¬ (Builtin.nextslicecap (sLen + n) cap * info.bytes > 2 ^ 48) := by
    have : Builtin.nextslicecap (sLen + n) cap * info.bytes ≤ (2 * 2 ^ 20 + 768) * 2 ^ 20 := Nat.mul_le_mul (by omega) hb2
    omega
  have hm2 : ¬ (((sLen + n : Nat) : Int) > IntKind.i64.max ∧ (false = true ∨ info.bytes = 0)) := by
    intro h
    have := h.1
    simp [IntKind.max, IntKind.bits, IntKind.signed] at this
    omega
  have hm3 : ¬ (9223372036854775807 < (sLen : Int) + n ∧ info.bytes = 0) := by omega
  have hle : ¬ (sLen + n ≤ cap) := by omega
  have hask : ∀ (k : Nat) (f : Unit → Sem Value) (w : World), (Go.askRoom k >>= f).run P w = (f ()).run P w := by
    intro k f w
    unfold askRoom
    split
    · rw [Sem.run_bind]; simp [Go.mark, Sem.run, Result.andThen]
    · rfl
  unfold Builtin.append_
  simp [h0, h1, Sem.run_bind, run_und hs, run_und hx, run_siz hi, run_inf hi, run_zer hi hz, Result.andThen, Builtin.lenOf, hle, hm, hm3, hq, choose, Sem.run, hask, hold, hnew, Go.newRow, Go.newObj]
  rfl

/-- a block is turned and bears a new name from here on -/
theorem Stepped.move {g : Nat → Option Obj} {n : Nat} (h : WRel P ρ D g w) (hd : ¬ D n) {b : Nat} {o0 o o' : Obj} {sz es : Nat} (hb : g b = some o0) (ho : owned o0 = true) (hr : ORel P (ρ.put n (ρ.b b) sz es) (grow D n (n + 1)) n o o') (ho1 : owned o = true)
    (hz : w1.heap.size = w.heap.size) (hw : w1.heap[ρ.b b]? = some o') (hs : ∀ k, k ≠ ρ.b b → w1.heap[k]? = w.heap[k]?) (h1 : w1.os = w.os) (h2 : w1.tape = w.tape) (h3 : w1.output = w.output) :
    Stepped P ρ D g n w (ρ.put n (ρ.b b) sz es) (fun k => if k = n then some o else if k = b then none else g k) (n + 1) w1 := by
  have hag : Agree ρ (ρ.put n (ρ.b b) sz es) D := agree_put hd
  have hg : ∀ k, D k → grow D n (n + 1) k := fun k hk => .inl hk
  refine { next := by omega, b := fun k hk => if_neg (by omega), o := fun k hk => if_neg (by omega), sz := fun k hk => if_neg (by omega), es := fun k hk => if_neg (by omega), rel := ?_, os := h1, tape := h2, output := h3, size := by omega, frame := fun k hk hn => hs k (fun e => hn b o0 hb ho e.symm), fresh := ?_ }
  · refine ⟨fun k x hk => ?_, fun k x hk => ?_, fun k x hk hx => ?_, fun k cs e fz hk hfz i v hi => ?_, fun k c x y hk hc hx hne => ?_⟩
    · (try dsimp only at hk); split at hk
      · exact .inr (by omega)
      · split at hk
        · cases hk
        · exact .inl (h.dom _ _ hk)
    · (try dsimp only at hk); rw [hz]; split at hk
      · subst_vars; simp [Ren.put]; exact h.real _ _ hb
      · split at hk
        · cases hk
        · rw [hag.b _ (h.dom _ _ hk)]; exact h.real _ _ hk
    · (try dsimp only at hk); split at hk
      · subst_vars; cases hk; exact ⟨by simp [Ren.put], o', by simp [Ren.put]; exact hw, hr⟩
      · split at hk
        · cases hk
        · rename_i hne
          obtain ⟨h4, x', h5, h6⟩ := h.own _ _ hk hx
          refine ⟨by rw [hag.o _ (h.dom _ _ hk)]; exact h4, x', ?_, h6.ext hag hg (h.dom _ _ hk)⟩
          rw [hag.b _ (h.dom _ _ hk), hs _ (h.inj k b _ _ hk hb hx hne)]; exact h5
    · (try dsimp only at hk); split at hk
      · cases hk; simp [owned] at ho1; exact absurd ho1 hfz
      · split at hk
        · cases hk
        · rename_i hne
          obtain ⟨v', h4, h5⟩ := h.ro _ _ _ _ hk hfz i v hi
          refine ⟨v', ?_, h5.ext hag hg⟩
          rw [hag.b _ (h.dom _ _ hk), hag.o _ (h.dom _ _ hk), ← h4]; unfold World.cell?; rw [hs _ (fun e => h.inj b k _ _ hb hk ho (fun e2 => hne e2.symm) e.symm)]
    · (try dsimp only at hk hc)
      split at hk
      · split at hc
        · subst_vars; exact absurd rfl hne
        · split at hc
          · cases hc
          · rename_i hcb
            rw [hag.b _ (h.dom _ _ hc)]
            subst_vars
            simp only [Ren.put, if_true]
            exact h.inj _ _ _ _ hb hc ho (fun e => hcb e.symm)
      · split at hk
        · cases hk
        · rename_i hb2
          split at hc
          · subst_vars
            rw [hag.b _ (h.dom _ _ hk)]
            simp only [Ren.put, if_true]
            exact h.inj _ _ _ _ hk hb hx hb2
          · split at hc
            · cases hc
            · rw [hag.b _ (h.dom _ _ hk), hag.b _ (h.dom _ _ hc)]; exact h.inj _ _ _ _ hk hc hx hne
  · intro k x hk hx
    (try dsimp only at hk); split at hk
    · subst_vars; exact .inr ⟨b, o0, hb, ho, by simp [Ren.put]⟩
    · split at hk
      · cases hk
      · exact .inr ⟨k, x, hk, hx, hag.b _ (h.dom _ _ hk)⟩

def appendV (P : Program) (ts : Array TypeId) (s x : Value) (V : View) : Option (Value × View) :=
  match ts[0]?, ts[1]? with
  | some st, some xt => match P.underlying st, P.underlying xt with
    | some (.slice elem), some (.slice _) => match P.info? elem with
      | some info => match info.zero with
        | some _ => match s, x with
          | .slice base sLen sCap, .slice xb n xc =>
            match Nat.ble (sLen + n) (2 ^ 20) && Nat.ble info.bytes (2 ^ 20) with
            | true => match runV P (Builtin.firstCells info.size n (.slice xb n xc)) V with
              | some (new, _) => match Nat.beq new.size (n * info.size) with
                | true => match Nat.beq sCap big with
                  | false => match Nat.ble (sLen + n) sCap with
                    | true => match base with
                      | some a => match runV P (Go.storeCells (a.add (sLen * info.size)) new.toList) V with
                        | some (_, V1) => some (.slice (some a) (sLen + n) sCap, V1)
                        | none => none
                      | none => some (.slice none (sLen + n) sCap, V)
                    | false => match runV P (Builtin.firstCells info.size sLen (.slice base sLen sCap)) V with
                      | some (old, _) => match Nat.beq old.size (sLen * info.size) with
                        | true => some (.slice (some ⟨V.next, 0, none⟩) (sLen + n) big, ⟨V.next + 1, (V.next, .cells (old ++ new) elem) :: V.objs⟩)
                        | false => none
                      | none => none
                  | true => match base with
                    | some a => match find V.objs a.block with
                      | some (.cells _ e (_, hi)) => match Nat.beq hi 0 && Nat.beq a.off 0 && !a.spot.isSome && Nat.beq e elem && new.toList.all one with
                        | true => match runV P (Builtin.firstCells info.size sLen (.slice (some a) sLen sCap)) V with
                          | some (old, _) => match Nat.beq old.size (sLen * info.size) with
                            | true => some (.slice (some ⟨V.next, 0, none⟩) (sLen + n) big, ⟨V.next + 1, (V.next, .cells (old ++ new) elem) :: drop V.objs a.block⟩)
                            | false => none
                          | none => none
                        | false => none
                      | _ => none
                    | none => none
                | false => none
              | none => none
            | false => none
          | _, _ => none
        | none => none
      | none => none
    | _, _ => none
  | _, _ => none
end Go.Vm
