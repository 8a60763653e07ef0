/- Known calls beside the table of costs. -/
import Derived.Test.YtomokhdkagedpaaVjQg
set_option linter.unusedVariables false
namespace Go.Vm
def hitF (k : Known) (j : Job) : Option Out := match hits k j with
  | true => some (.value k.v k.V1)
  | false => none
def memoU : List Known → Job → Option Out
  | [] => memoK36
  | k :: r => orF (hitF k) (memoU r)
theorem memoU_code : ∀ (l : List Known) ar c ts df V, memoU l (.code ar c ts df V) = none
  | [], _, _, _, _, _ => rfl
  | k :: r, ar, c, ts, df, V => by
    show orF (hitF k) (memoU r) _ = none
    have h : hitF k (.code ar c ts df V) = none := rfl
    simp only [orF, h, memoU_code r]
theorem memoU_nil : SelfOK TP (memoU []) := memoK36_ok
theorem memo_u {k : Known} {r : List Known} (h1 : SelfOK TP (memoU r)) (l : List Nat) {N : Nat} (hV : inbG k.V.objs k.V.next = true)
    (h : (runG (memoU r) N).f k.f k.args k.V.next k.V.objs (fun v n m => beqV 4 v k.v && beqW ⟨n, keepL l m⟩ k.V1) = true) : SelfOK TP (memoU (k :: r)) := by
  rw [inbG_eq] at hV
  obtain ⟨v, V1, h2, _, h3⟩ := (runG_ok (memoU_code r) N).call _ _ _ _ _ hV h
  rw [Bool.and_eq_true] at h3
  have hv := beqV_eq _ _ _ h3.1
  have hW := beqW_eq h3.2
  obtain ⟨h4, h5⟩ := (rmS_ok h1 N).call _ _ _ _ _ h2
  have hn : k.V1.next = V1.next := by rw [← hW]
  have hk : k.V.next ≤ k.V1.next ∧ CallOK TP k.f k.args k.V k.v k.V1 := by
    refine ⟨by rw [hn]; exact h4, ?_⟩
    rw [← hv]
    exact h5.less (fun b o hbo => by rw [← hW] at hbo; exact (find_keepL l _ b o hbo).2) hn
  show SelfOK TP (orF (hitF k) (memoU r))
  refine SelfOK.or ⟨?_, ?_, ?_⟩ h1
  · intro ar c ts df V e ts1 df1 V1 hj
    simp only [hitF, hits] at hj; cases hj
  · intro ar c ts df V e ts1 df1 V1 hj
    simp only [hitF, hits] at hj; cases hj
  · intro f args V v V1 hj
    unfold hitF at hj
    split at hj
    · rename_i hh
      have := hits_eq hh
      injection this with ha hb hc
      injection hj with hj
      injection hj with hv hV
      subst ha hb hc
      rw [← hv, ← hV]
      exact hk
    · cases hj
abbrev kI (n : Nat) : Value := .int .i64 (Int.ofNat n)
abbrev kO (l : List Value) (e : Nat) : Obj := .cells ⟨l⟩ e (0, 0)
end Go.Vm
