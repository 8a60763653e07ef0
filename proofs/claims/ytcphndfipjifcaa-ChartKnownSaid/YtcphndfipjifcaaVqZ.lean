/- The machine with results that are known already. -/
import Derived.Test.YtcphndfipjifcaaVqX
import Derived.Test.YtcphndfipjifcaaVqY
namespace Go.Vm
variable {P : Program} {memo sf S : Job → Option Out}

def orF (memo self : Job → Option Out) (j : Job) : Option Out := match memo j with
  | some r => some r
  | none => self j
theorem orF_some {j : Job} {r : Out} (h : orF memo sf j = some r) : memo j = some r ∨ sf j = some r := by
  unfold orF at h
  split at h
  · rename_i r' hm; exact .inl (hm.trans h)
  · exact .inr h
theorem SelfOK.or (h1 : SelfOK P memo) (h2 : SelfOK P sf) : SelfOK P (orF memo sf) :=
  ⟨fun _ _ _ _ _ _ _ _ _ h => (orF_some h).elim (h1.code _ _ _ _ _ _ _ _ _) (h2.code _ _ _ _ _ _ _ _ _),
   fun _ _ _ _ _ _ _ _ _ h => (orF_some h).elim (h1.loop _ _ _ _ _ _ _ _ _) (h2.loop _ _ _ _ _ _ _ _ _),
   fun _ _ _ _ _ h => (orF_some h).elim (h1.call _ _ _ _ _) (h2.call _ _ _ _ _)⟩
theorem step_ok (hP : Good P) (h : SelfOK P sf) : SelfOK P (step P sf) :=
  ⟨fun _ _ _ _ _ _ _ _ _ e => step_code hP h (draw_ok hP h) e, fun _ _ _ _ _ _ _ _ _ e => (step_loop h e).2, fun _ _ _ _ _ e => step_call h e⟩
/-- what is known as one result of a sound machine -/
theorem SelfOK.of_le (hS : SelfOK P S) (h : ∀ j r, memo j = some r → S j = some r) : SelfOK P memo :=
  ⟨fun _ _ _ _ _ _ _ _ _ e => hS.code _ _ _ _ _ _ _ _ _ (h _ _ e), fun _ _ _ _ _ _ _ _ _ e => hS.loop _ _ _ _ _ _ _ _ _ (h _ _ e), fun _ _ _ _ _ e => hS.call _ _ _ _ _ (h _ _ e)⟩
theorem SelfOK.nothing : SelfOK P fun _ => none :=
  ⟨(fun _ _ _ _ _ _ _ _ _ h => by cases h), (fun _ _ _ _ _ _ _ _ _ h => by cases h), (fun _ _ _ _ _ h => by cases h)⟩

noncomputable def runM (P : Program) (memo : Job → Option Out) : Nat → Job → Option Out
  | 0, j => memo j
  | n + 1, j => orF memo (stepF P (runM P memo n)) j
theorem runM_sound (hP : Good P) (hm : SelfOK P memo) : ∀ n, SelfOK P (runM P memo n) := by
  intro n
  induction n with
  | zero => exact hm
  | succ n ih =>
    have e : stepF P (runM P memo n) = step P (runM P memo n) := funext fun j => stepF_eq P _ j
    have := SelfOK.or hm (step_ok hP ih)
    rw [← e] at this
    exact this

/-! Equality that is computed. -/
def beqB (a b : Bool) : Bool := match a with
  | true => b
  | false => !b
def beqI (a b : Int) : Bool := match a with
  | .ofNat a => match b with
    | .ofNat b => Nat.beq a b
    | .negSucc _ => false
  | .negSucc a => match b with
    | .ofNat _ => false
    | .negSucc b => Nat.beq a b
def beqA (a b : Addr) : Bool := Nat.beq a.block b.block && (Nat.beq a.off b.off && (a.spot.isNone && b.spot.isNone))
def beqL (f : Value → Value → Bool) : List Value → List Value → Bool
  | [], l => l.isEmpty
  | x :: r, l => match l with
    | [] => false
    | y :: s => f x y && beqL f r s
def isB (a : Bool) (y : Value) : Bool := match y with
  | .bool b => beqB a b
  | _ => false
def isI (k : IntKind) (a : Int) (y : Value) : Bool := match y with
  | .int l b => beqI a b && decide (k = l)
  | _ => false
def isP (a : Addr) (y : Value) : Bool := match y with
  | .pointer (some b) => beqA a b
  | _ => false
def isS (a : Addr) (n c : Nat) (y : Value) : Bool := match y with
  | .slice (some b) m d => beqA a b && (Nat.beq n m && Nat.beq c d)
  | _ => false
def isS0 (n c : Nat) (y : Value) : Bool := match y with
  | .slice none m d => Nat.beq n m && Nat.beq c d
  | _ => false
def isG (f : Value → Value → Bool) (l : List Value) (y : Value) : Bool := match y with
  | .agg ds => beqL f l ds.toList
  | _ => false
def isT (f : Value → Value → Bool) (l : List Value) (y : Value) : Bool := match y with
  | .tuple ds => beqL f l ds.toList
  | _ => false
def beqV : Nat → Value → Value → Bool
  | 0, _, _ => false
  | n + 1, x, y => match x with
    | .bool a => isB a y
    | .int k a => isI k a y
    | .pointer (some a) => isP a y
    | .slice (some a) n c => isS a n c y
    | .slice none n c => isS0 n c y
    | .agg cs => isG (beqV n) cs.toList y
    | .tuple cs => isT (beqV n) cs.toList y
    | _ => false
theorem beqN_eq {a b : Nat} (h : Nat.beq a b = true) : a = b := Nat.eq_of_beq_eq_true h
theorem beqB_eq {a b : Bool} (h : beqB a b = true) : a = b := by cases a <;> cases b <;> first | rfl | cases h
theorem beqI_eq {a b : Int} (h : beqI a b = true) : a = b := by
  cases a <;> cases b <;> first | exact congrArg _ (beqN_eq h) | cases h
theorem beqA_eq {a b : Addr} (h : beqA a b = true) : a = b := by
  obtain ⟨x, y, z⟩ := a
  obtain ⟨x', y', z'⟩ := b
  simp only [beqA, Bool.and_eq_true] at h
  obtain ⟨h1, h2, h3, h4⟩ := h
  rw [beqN_eq h1, beqN_eq h2]
  cases z <;> cases z' <;> first | rfl | (cases h4; done) | (cases h3; done)
theorem beqL_eq {f : Value → Value → Bool} (hf : ∀ x y, f x y = true → x = y) : ∀ l m, beqL f l m = true → l = m := by
  intro l
  induction l with
  | nil => intro m h; cases m with
    | nil => rfl
    | cons y s => cases h
  | cons x r ih =>
    intro m h
    cases m with
    | nil => cases h
    | cons y s =>
      simp only [beqL, Bool.and_eq_true] at h
      rw [hf _ _ h.1, ih _ h.2]
theorem beqV_eq : ∀ n x y, beqV n x y = true → x = y := by
  intro n
  induction n with
  | zero => intro x y h; cases h
  | succ n ih =>
    intro x y h
    unfold beqV at h
    split at h
    · unfold isB at h; split at h
      · rw [beqB_eq h]
      · cases h
    · unfold isI at h; split at h
      · rw [Bool.and_eq_true] at h; rw [beqI_eq h.1, of_decide_eq_true h.2]
      · cases h
    · unfold isP at h; split at h
      · rw [beqA_eq h]
      · cases h
    · unfold isS at h; split at h
      · simp only [Bool.and_eq_true] at h; rw [beqA_eq h.1, beqN_eq h.2.1, beqN_eq h.2.2]
      · cases h
    · unfold isS0 at h; split at h
      · simp only [Bool.and_eq_true] at h; rw [beqN_eq h.1, beqN_eq h.2]
      · cases h
    · rename_i cs; unfold isG at h; split at h
      · rename_i ds; have := beqL_eq ih _ _ h; cases cs; cases ds; simp only at this; rw [this]
      · cases h
    · rename_i cs; unfold isT at h; split at h
      · rename_i ds; have := beqL_eq ih _ _ h; cases cs; cases ds; simp only at this; rw [this]
      · cases h
    · cases h
def beqObj (o : Obj) (p : Obj) : Bool := match o with
  | .cells c e (x, y) => match p with
    | .cells d e' (x', y') => beqL (beqV 3) c.toList d.toList && (Nat.beq e e' && (Nat.beq x x' && Nat.beq y y'))
    | _ => false
  | _ => false
theorem beqObj_eq {o p : Obj} (h : beqObj o p = true) : o = p := by
  unfold beqObj at h
  split at h
  · split at h
    · rename_i c e x y _ d e' x' y'
      simp only [Bool.and_eq_true] at h
      have := beqL_eq (beqV_eq 3) _ _ h.1
      cases c; cases d; simp only at this
      rw [this, beqN_eq h.2.1, beqN_eq h.2.2.1, beqN_eq h.2.2.2]
    · cases h
  · cases h
def beqObjs : List (Nat × Obj) → List (Nat × Obj) → Bool
  | [], l => l.isEmpty
  | (k, o) :: r, l => match l with
    | [] => false
    | (k', o') :: s => Nat.beq k k' && (beqObj o o' && beqObjs r s)
theorem beqObjs_eq : ∀ l m, beqObjs l m = true → l = m := by
  intro l
  induction l with
  | nil => intro m h; cases m with
    | nil => rfl
    | cons y s => cases h
  | cons x r ih =>
    obtain ⟨k, o⟩ := x
    intro m h
    cases m with
    | nil => cases h
    | cons y s =>
      obtain ⟨k', o'⟩ := y
      simp only [beqObjs, Bool.and_eq_true] at h
      rw [beqN_eq h.1, beqObj_eq h.2.1, ih _ h.2.2]
def beqW (V W : View) : Bool := Nat.beq V.next W.next && beqObjs V.objs W.objs
theorem beqW_eq {V W : View} (h : beqW V W = true) : V = W := by
  obtain ⟨n, l⟩ := V
  obtain ⟨m, s⟩ := W
  simp only [beqW, Bool.and_eq_true] at h
  rw [beqN_eq h.1, beqObjs_eq _ _ h.2]

/-- one call that is known -/
structure Known where
  f : Nat
  args : List Value
  V : View
  v : Value
  V1 : View
def hits (k : Known) (j : Job) : Bool := match j with
  | .call g as W => Nat.beq k.f g && (beqL (beqV 4) k.args as && beqW k.V W)
  | _ => false
def memoOf : List Known → Job → Option Out
  | [], _ => none
  | k :: r, j => match hits k j with
    | true => some (.value k.v k.V1)
    | false => memoOf r j
theorem hits_eq {k : Known} {j : Job} (h : hits k j = true) : j = .call k.f k.args k.V := by
  unfold hits at h
  split at h
  · simp only [Bool.and_eq_true] at h
    rw [beqN_eq h.1, beqL_eq (beqV_eq 4) _ _ h.2.1, beqW_eq h.2.2]
  · cases h
theorem memo_ok (hP : Good P) {k : Known} {r : List Known} (h1 : SelfOK P (memoOf r)) {n : Nat} (h : runM P (memoOf r) n (.call k.f k.args k.V) = some (.value k.v k.V1)) : SelfOK P (memoOf (k :: r)) := by
  have e : memoOf (k :: r) = orF (fun j => match hits k j with | true => some (.value k.v k.V1) | false => none) (memoOf r) := by
    funext j
    simp only [memoOf, orF]
    cases hits k j <;> rfl
  rw [e]
  refine SelfOK.or (SelfOK.of_le (runM_sound hP h1 n) fun j r' hj => ?_) h1
  split at hj
  · rename_i hh
    rw [hits_eq hh]
    exact h.trans hj
  · cases hj
theorem memo_nil : SelfOK P (memoOf []) := SelfOK.nothing
/-- a closed call, computed with what is known -/
theorem closed_with (hP : Good P) {l : List Known} (hl : SelfOK P (memoOf l)) {n : Nat} {f : FuncId} {v : Value} {V1 : View} (h : runM P (memoOf l) n (.call f [] ⟨0, []⟩) = some (.value v V1)) (hv : flatN 3 v = true) (w : World) :
    Calls P f #[] w fun e w' => e = .returned v ∧ RowKit.Below w.heap.size w w' := by
  obtain ⟨_, ok⟩ := (runM_sound hP hl n).call _ _ _ _ _ h
  have := ok ⟨id, fun _ => 0, fun _ => 0, fun _ => 0⟩ (fun _ => False) w #[] 5 ⟨fun b o h => (by cases h), fun b o h => (by cases h), fun b o h => (by cases h), fun b cs e fz h => (by cases h), fun b c x y h => (by cases h)⟩ .nil (fun b _ _ h => h)
  refine (callsIn_wide.1 this).mono ?_
  rintro e w' ⟨ρ1, v', rfl, st, hr⟩
  have e := hr.flatN_eq 3 hv
  exact ⟨by rw [e], st.os, st.tape, st.output, st.size, fun k hk => st.frame k hk fun b o hb => by cases hb⟩
end Go.Vm
