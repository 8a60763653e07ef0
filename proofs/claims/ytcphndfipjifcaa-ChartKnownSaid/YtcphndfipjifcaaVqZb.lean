/- A known result, without the blocks that nothing needs any more. -/
import Derived.Test.YtcphndfipjifcaaVqZa
namespace Go.Vm
variable {P : Program} {V V1 V2 : View}

theorem Stepped.less {ρ ρ1 : Ren} {D : Nat → Prop} {g g1 g2 : Nat → Option Obj} {n m : Nat} {w w1 : World} (h : Stepped P ρ D g n w ρ1 g1 m w1) (hs : ∀ b o, g2 b = some o → g1 b = some o) : Stepped P ρ D g n w ρ1 g2 m w1 :=
  ⟨h.next, h.b, h.o, h.sz, h.es, h.rel.sub hs, h.os, h.tape, h.output, h.size, h.frame, fun b o hb ho => h.fresh b o (hs b o hb) ho⟩
theorem CallOK.less {f : FuncId} {args : List Value} {v : Value} (h : CallOK P f args V v V1) (hs : ∀ b o, V2.get b = some o → V1.get b = some o) (hn : V2.next = V1.next) : CallOK P f args V v V2 := by
  intro ρ D w args' n hw ha hd
  rw [hn] at hd ⊢
  refine (h ρ D w args' n hw ha hd).mono ?_
  rintro e w' ⟨ρ1, v', he, st, hv⟩
  exact ⟨ρ1, v', he, st.less hs, hv⟩
def keepL (l : List Nat) : List (Nat × Obj) → List (Nat × Obj)
  | [] => []
  | (k, o) :: r => match memN k l with
    | true => (k, o) :: keepL l r
    | false => keepL l r
theorem find_keepL (l : List Nat) : ∀ (L : List (Nat × Obj)) (b : Nat) (o : Obj), find (keepL l L) b = some o → memN b l = true ∧ find L b = some o := by
  intro L
  induction L with
  | nil => intro b o h; cases h
  | cons x r ih =>
    obtain ⟨k, p⟩ := x
    intro b o h
    simp only [keepL] at h
    split at h
    · rename_i hk
      simp only [find] at h ⊢
      split at h
      · rename_i hb
        have := Nat.eq_of_beq_eq_true hb
        subst this
        exact ⟨hk, h⟩
      · exact ih b o h
    · rename_i hk
      obtain ⟨h1, h2⟩ := ih b o h
      refine ⟨h1, ?_⟩
      simp only [find]
      split
      · rename_i hb
        have := Nat.eq_of_beq_eq_true hb
        subst this
        rw [hk] at h1; cases h1
      · exact h2
def narrow (l : List Nat) (r : Option Out) : Option Out := match r with
  | some (.value v V) => fO 0 none (keepL l V.objs) fun L => some (.value v ⟨V.next, L⟩)
  | _ => none
/-- one more call that is known, with the blocks named in l alone behind it -/
theorem memo_narrow (hP : Good P) {k : Known} {r : List Known} (h1 : SelfOK P (memoOf r)) (l : List Nat) {n : Nat} (h : narrow l (runM P (memoOf r) n (.call k.f k.args k.V)) = some (.value k.v k.V1)) : SelfOK P (memoOf (k :: r)) := by
  have e : memoOf (k :: r) = orF (fun j => match hits k j with | true => some (.value k.v k.V1) | false => none) (memoOf r) := by
    funext j
    simp only [memoOf, orF]
    cases hits k j <;> rfl
  have hk : k.V.next ≤ k.V1.next ∧ CallOK P k.f k.args k.V k.v k.V1 := by
    unfold narrow at h
    split at h
    · rename_i v W hr
      rw [fO_eq] at h
      obtain ⟨h2, h3⟩ := (runM_sound hP h1 n).call _ _ _ _ _ hr
      injection h with h
      injection h with ha hb
      rw [← ha, ← hb]
      exact ⟨h2, h3.less (fun b o hbo => (find_keepL l _ b o hbo).2) rfl⟩
    · cases h
  rw [e]
  refine SelfOK.or ⟨?_, ?_, ?_⟩ h1
  · intro ar c ts df V e ts1 df1 V1 hj
    simp only [hits] at hj; cases hj
  · intro ar c ts df V e ts1 df1 V1 hj
    simp only [hits] at hj; cases hj
  · intro f args V v V1 hj
    split at hj
    · rename_i hh
      have := hits_eq hh
      injection this with ha hb hc
      injection hj with hj
      injection hj with hv hV
      subst ha hb hc
      rw [← hv, ← hV]
      exact hk
    · cases hj
def okB (r : Option Out) (v : Value) (V : View) : Bool := match r with
  | some (.value x W) => beqV 4 x v && beqW W V
  | _ => false
theorem okB_eq {r : Option Out} {v : Value} {V : View} (h : okB r v V = true) : r = some (.value v V) := by
  unfold okB at h
  split at h
  · rw [Bool.and_eq_true] at h
    rw [beqV_eq _ _ _ h.1, beqW_eq h.2]
  · cases h
theorem memo_add (hP : Good P) {k : Known} {r : List Known} (h1 : SelfOK P (memoOf r)) (l : List Nat) (n : Nat) (h : okB (narrow l (runM P (memoOf r) n (.call k.f k.args k.V))) k.v k.V1 = true) : SelfOK P (memoOf (k :: r)) :=
  memo_narrow hP h1 l (okB_eq h)
end Go.Vm
