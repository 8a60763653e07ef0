/- Slices of whole numbers: what is to be proved of operations on them. -/
import Derived.Test.YtomokhdkagedpaaVjT3
set_option linter.unusedVariables false
namespace Go.Vm
set_option maxRecDepth 100000
def ints (l : List Int) : List Value := l.map (.int .i64)
def unInts : List Value → Option (List Int)
  | [] => some []
  | v :: r => match v with
    | .int .i64 x => match unInts r with
      | some l => some (x :: l)
      | none => none
    | _ => none
theorem unInts_eq : ∀ {c : List Value} {l : List Int}, unInts c = some l → c = ints l
  | [], l, h => by cases h; rfl
  | v :: r, l, h => by
    unfold unInts at h
    split at h
    · split at h
      · rename_i l' hl
        cases h
        rw [unInts_eq hl]
        rfl
      · cases h
    · cases h
theorem unInts_ints : ∀ l, unInts (ints l) = some l
  | [] => rfl
  | x :: l => by
    show (match unInts (ints l) with | some l => some (x :: l) | none => none) = _
    rw [unInts_ints l]
theorem ints_flat (l : List Int) : (ints l).all (flatN 3) = true := List.all_eq_true.2 fun v hv => by
  unfold ints at hv
  obtain ⟨x, _, rfl⟩ := List.mem_map.1 hv
  rfl
/-- a slice of n elements, which begins where block i does; it may be nil if it has none -/
def SLh (i n cap : Nat) (v : Value) : Prop := (v = .slice (some ⟨i, 0, none⟩) n cap ∧ cap < big) ∨ (v = .slice none 0 0 ∧ n = 0)
def slOf (i : Nat) (v : Value) : Option Nat := match v with
  | .slice (some ⟨b, 0, none⟩) n c => match Nat.beq b i && Nat.blt c big with
    | true => some n
    | false => none
  | .slice none 0 0 => some 0
  | _ => none
theorem slOf_h {i n : Nat} {v : Value} (h : slOf i v = some n) : ∃ cap, SLh i n cap v := by
  unfold slOf at h
  split at h
  · split at h
    · rename_i hb
      simp only [Bool.and_eq_true, Nat.blt_eq] at hb
      have := Nat.eq_of_beq_eq_true hb.1
      subst this
      cases h
      exact ⟨_, .inl ⟨rfl, hb.2⟩⟩
    · cases h
  · cases h; exact ⟨0, .inr ⟨rfl, rfl⟩⟩
  · cases h
theorem SLh.of {i n cap : Nat} {v : Value} (h : SLh i n cap v) : slOf i v = some n := by
  rcases h with ⟨rfl, hc⟩ | ⟨rfl, rfl⟩
  · have h1 : Nat.beq i i = true := Nat.beq_refl i
    have h2 : Nat.blt cap big = true := by rw [Nat.blt_eq]; exact hc
    simp only [slOf, h1, h2, Bool.and_self]
  · rfl
theorem SLh.scrub {i n cap k : Nat} {v : Value} (h : SLh i n cap v) (hk : i < k) : scrubV k v = v := by
  rcases h with ⟨rfl, _⟩ | ⟨rfl, rfl⟩
  · have : Nat.blt i k = true := by rw [Nat.blt_eq]; exact hk
    show (match Nat.blt i k with | true => _ | false => junkV) = _
    rw [this]
  · simp [scrubV]
theorem SLh.ok {i n cap m : Nat} {v : Value} (h : SLh i n cap v) (hk : i < m) : okC m v = true := by
  rcases h with ⟨rfl, hc⟩ | ⟨rfl, rfl⟩
  · simp only [okC, Bool.and_eq_true, Nat.blt_eq]; exact ⟨hk, hc⟩
  · rfl
theorem SLh.okS {i n cap m : Nat} {v : Value} (h : SLh i n cap v) (hk : i < m) : Vm.okS m v = true := by
  have h2 := h.ok hk
  rcases h with ⟨rfl, hc⟩ | ⟨rfl, rfl⟩ <;> exact h2
theorem SLh.okK {i n cap : Nat} {v : Value} (h : SLh i n cap v) : Vm.okK v = true := by
  rcases h with ⟨rfl, hc⟩ | ⟨rfl, rfl⟩
  · simp only [Vm.okK, Bool.and_eq_true, Nat.blt_eq]; exact ⟨hc, rfl⟩
  · rfl
theorem SLh.can {i n cap d k : Nat} {v : Value} (h : SLh i n cap v) : ∃ v' p, canC d k v = (v', [p]) ∧ SLh k n cap v' ∧ (p = (i, true) ∨ (p = (d, false) ∧ n = 0)) := by
  rcases h with ⟨rfl, hc⟩ | ⟨rfl, rfl⟩
  · exact ⟨_, _, rfl, .inl ⟨rfl, hc⟩, .inl rfl⟩
  · exact ⟨_, _, rfl, .inr ⟨rfl, rfl⟩, .inr ⟨rfl, rfl⟩⟩
theorem ob_len {ts : Array TypeId} {ty t elem : TypeId} {i n cap : Nat} {v : Value} (ht : ts[0]? = some t) (hu : TP.underlying t = some (.slice elem)) (h : SLh i n cap v) : OLen ts ty [v] (.int .i64 (n : Int)) := ⟨fun V => by
  rcases h with ⟨rfl, _⟩ | ⟨rfl, rfl⟩
  · simp only [Builtin.len_, ht, List.getElem?_toArray, List.getElem?_cons_zero, runV_bind, run_under hu, Option.bind_some]
    rfl
  · simp only [Builtin.len_, ht, List.getElem?_toArray, List.getElem?_cons_zero, runV_bind, run_under hu, Option.bind_some]
    rfl⟩
theorem ob_ixS {t elem : TypeId} {s n cap i b off : Nat} {v : Value} (hv : SLh b n cap v) (hu : TP.underlying t = some (.slice elem)) (hs : (TP.info? elem).map (·.size) = some s) (h : i < n) (ho : i * s = off) : OIx t v (.int .i64 (i : Int)) (.pointer (some ⟨b, off, none⟩)) := by
  rcases hv with ⟨rfl, _⟩ | ⟨rfl, rfl⟩
  · exact ob_ix hu hs h (by omega)
  · omega
theorem ints_get {l : List Int} {i : Nat} (h : i < l.length) : (ints l)[i]? = some (.int .i64 (l.getD i 0)) := by
  unfold ints
  rw [List.getElem?_map, List.getElem?_eq_getElem h, List.getD_eq_getElem?_getD, List.getElem?_eq_getElem h]
  rfl
theorem ob_loadI {t : TypeId} {b i : Nat} {l : List Int} {e : TypeId} {fz : Nat × Nat} {x : Int} (ht : aggB TP t = some false) (h : i < l.length) (hx : l.getD i 0 = x) : OLoad t (.pointer (some ⟨b, i, none⟩)) (some (.cells ⟨ints l⟩ e fz)) (.int .i64 x) := by
  subst hx
  exact ob_load ht (ints_get h)
theorem clean_ro {n : Nat} {l : List Int} {e : TypeId} {fz : Nat × Nat} : CleanO n (.cells ⟨ints l⟩ e fz) := fun i v hi => by
  have hi : (ints l)[i]? = some v := by simpa using hi
  unfold ints at hi
  rw [List.getElem?_map] at hi
  cases hq : l[i]? with
  | none => rw [hq] at hi; cases hi
  | some x => rw [hq] at hi; cases hi; simp [scrubV]
open Classical in
noncomputable def allB (Q : Int → Prop) (l : List Int) : Bool := decide (∀ x, x ∈ l → Q x)
theorem allB_true {Q : Int → Prop} {l : List Int} (h : ∀ x, x ∈ l → Q x) : allB Q l = true := by unfold allB; simpa using h
theorem allB_false {Q : Int → Prop} {l : List Int} {x : Int} (hx : x ∈ l) (h : ¬ Q x) : allB Q l = false := by unfold allB; simp only [decide_eq_false_iff_not]; exact fun h2 => h (h2 x hx)
theorem run_one {f : FuncId} {args : Array Value} {w : World} {v : Value} (h : Calls TP f args w fun e w' => (∃ x, e = .returned x ∧ x = v) ∧ RowKit.Below w.heap.size w w') : Calls TP f args w fun e w' => e = .returned v ∧ RowKit.Below w.heap.size w w' :=
  h.mono fun e w' ⟨⟨x, he, hx⟩, hb⟩ => ⟨by rw [he, hx], hb⟩
/-- code of a function's loops -/
noncomputable abbrev bodyLp (f : FuncId) (i : Nat) : Code := bodyOfLoop (loopOf f i)
theorem ltZ_t {a b : Int} (h : ltZ a b = true) : a < b := of_decide_eq_true h
theorem ltZ_f {a b : Int} (h : ltZ a b = false) : b ≤ a := by have := of_decide_eq_false h; omega
theorem leZ_t {a b : Int} (h : leZ a b = true) : a ≤ b := of_decide_eq_true h
theorem leZ_f {a b : Int} (h : leZ a b = false) : b < a := by have := of_decide_eq_false h; omega
theorem eqZ_t {a b : Int} (h : eqZ a b = true) : a = b := by simpa [eqZ] using h
theorem eqZ_f {a b : Int} (h : eqZ a b = false) : a ≠ b := by simpa [eqZ] using h
theorem neZ_t {a b : Int} (h : neZ a b = true) : a ≠ b := by simpa [neZ] using h
theorem neZ_f {a b : Int} (h : neZ a b = false) : a = b := by simpa [neZ] using h
structure JB where
  i : Nat
  j : Nat → Value
/-- up to the element i all is so -/
def upI (Q : Nat → Prop) (i : Nat) : Prop := ∀ m, m < i → Q m
theorem upI_zero {Q : Nat → Prop} : upI Q 0 := fun m h => by omega
theorem upI_next {Q : Nat → Prop} {i : Nat} (h : upI Q i) (hq : Q i) : upI Q (i + 1) := fun m hm => by
  by_cases e : m = i
  · subst e; exact hq
  · exact h m (by omega)
end Go.Vm
