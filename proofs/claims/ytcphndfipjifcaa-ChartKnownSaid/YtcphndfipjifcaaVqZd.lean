/- Closed calls, computed. -/
import Derived.Test.YtcphndfipjifcaaVqZc
namespace Go.Vm
variable {P : Program}
def okV (r : Option Out) (v : Value) : Bool := match r with
  | some (.value x _) => beqV 4 x v
  | _ => false
theorem okV_eq {r : Option Out} {v : Value} (h : okV r v = true) : ∃ V, r = some (.value v V) := by
  unfold okV at h
  split at h
  · exact ⟨_, by rw [beqV_eq _ _ _ h]⟩
  · cases h
/-- a closed call, computed with any table that is known -/
theorem closed_ok (hP : Good P) {memo : Job → Option Out} (hl : SelfOK P memo) {n : Nat} {f : FuncId} {v : Value} (h : okV (runM P memo n (.call f [] ⟨0, []⟩)) v = true) (hv : flatN 3 v = true) (w : World) :
    Calls P f #[] w fun e w' => e = .returned v ∧ RowKit.Below w.heap.size w w' := by
  obtain ⟨V1, h1⟩ := okV_eq h
  exact closed_by hP hl h1 hv w
end Go.Vm
