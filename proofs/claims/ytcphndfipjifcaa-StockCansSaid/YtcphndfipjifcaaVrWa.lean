/- Arguments that are arrays of integers: opened and shut. -/
import Derived.Test.YtcphndfipjifcaaVrV4
import Derived.WalkKit
import Derived.ProofKit
import Derived.OpenShut
namespace Go.Vm
open Go.ChangeShapes Go.WideShapes Go.RowKit
section
variable {H : Type} {enc : TypeId × Value → H} {P : Program} {w : World} {base : Nat} {spare : Nat → Bool} {held : Bool} {t e : TypeId} {k : IntKind}
theorem open_arr2 {r : Reach} {b0 : Nat} {v : Value} {d : DataW H} {p : List MemPlace} (ht : P.underlying t = some (.array 2 e)) (he : P.underlying e = some (.int k)) (hc : P.cellsOf e = 1) (hC : P.cellsOf t = 2)
    (hv : Value.okWide P w r b0 t v) (h : DataW.Trod enc P w base spare held t v d p) :
    ∃ a b, v = .agg #[.int k a, .int k b] ∧ d = .agg [.lit (.int k a), .lit (.int k b)] ∧ p = [] ∧ (Lit.int k a).wf = true ∧ (Lit.int k b).wf = true := by
  simp only [Value.okWide, ht] at hv
  obtain ⟨cs, rfl, hsz, _⟩ := hv
  rw [hC] at hsz
  obtain ⟨c0, c1, rfl⟩ : ∃ a b, cs = #[a, b] := by
    obtain ⟨l⟩ := cs
    match l, hsz with
    | [a, b], _ => exact ⟨a, b, rfl⟩
  obtain ⟨fuel, hf⟩ := h
  obtain ⟨xs, m, rfl, hx, hl, hn, hg⟩ := DataW.trod_array ht hf
  simp only [hc, Value.cells] at hg
  match xs, hn with
  | [x0, x1], _ =>
    have g0 := hg 0 (by omega)
    have g1 := hg 1 (by omega)
    simp at g0 g1
    obtain ⟨a, e0, rfl, wa⟩ := DataW.trod_int he g0
    obtain ⟨b, e1, rfl, wb⟩ := DataW.trod_int he g1
    simp at e0 e1 hx
    subst e0 e1
    exact ⟨a, b, rfl, hx.1, hx.2, wa, wb⟩
theorem open_arr4 {r : Reach} {b0 : Nat} {v : Value} {d : DataW H} {p : List MemPlace} (ht : P.underlying t = some (.array 4 e)) (he : P.underlying e = some (.int k)) (hc : P.cellsOf e = 1) (hC : P.cellsOf t = 4)
    (hv : Value.okWide P w r b0 t v) (h : DataW.Trod enc P w base spare held t v d p) :
    ∃ a b c f, v = .agg #[.int k a, .int k b, .int k c, .int k f] ∧ d = .agg [.lit (.int k a), .lit (.int k b), .lit (.int k c), .lit (.int k f)] ∧ p = [] ∧ (Lit.int k a).wf = true ∧ (Lit.int k b).wf = true ∧ (Lit.int k c).wf = true ∧ (Lit.int k f).wf = true := by
  simp only [Value.okWide, ht] at hv
  obtain ⟨cs, rfl, hsz, _⟩ := hv
  rw [hC] at hsz
  obtain ⟨c0, c1, c2, c3, rfl⟩ : ∃ a b c d, cs = #[a, b, c, d] := by
    obtain ⟨l⟩ := cs
    match l, hsz with
    | [a, b, c, d], _ => exact ⟨a, b, c, d, rfl⟩
  obtain ⟨fuel, hf⟩ := h
  obtain ⟨xs, m, rfl, hx, hl, hn, hg⟩ := DataW.trod_array ht hf
  simp only [hc, Value.cells] at hg
  match xs, hn with
  | [x0, x1, x2, x3], _ =>
    have g0 := hg 0 (by omega)
    have g1 := hg 1 (by omega)
    have g2 := hg 2 (by omega)
    have g3 := hg 3 (by omega)
    simp at g0 g1 g2 g3
    obtain ⟨a, e0, rfl, wa⟩ := DataW.trod_int he g0
    obtain ⟨b, e1, rfl, wb⟩ := DataW.trod_int he g1
    obtain ⟨c, e2, rfl, wc⟩ := DataW.trod_int he g2
    obtain ⟨f, e3, rfl, wf⟩ := DataW.trod_int he g3
    simp at e0 e1 e2 e3 hx
    subst e0 e1 e2 e3
    exact ⟨a, b, c, f, rfl, hx.1, hx.2, wa, wb, wc, wf⟩
theorem shut_arr2 {a b : Int} (ht : P.underlying t = some (.array 2 e)) (he : P.underlying e = some (.int k)) (hc : P.cellsOf e = 1) (hC : P.cellsOf t = 2) (wa : (Lit.int k a).wf = true) (wb : (Lit.int k b).wf = true) :
    DataW.Trod enc P w base spare held t (.agg #[.int k a, .int k b]) (.agg [.lit (.int k a), .lit (.int k b)]) [] :=
  ⟨2, by simp [DataW.trod, Value.cells, ht, he, hc, hC, wa, wb, List.range, List.range.loop]⟩
theorem shut_arr4 {a b c f : Int} (ht : P.underlying t = some (.array 4 e)) (he : P.underlying e = some (.int k)) (hc : P.cellsOf e = 1) (hC : P.cellsOf t = 4) (wa : (Lit.int k a).wf = true) (wb : (Lit.int k b).wf = true) (wc : (Lit.int k c).wf = true) (wf : (Lit.int k f).wf = true) :
    DataW.Trod enc P w base spare held t (.agg #[.int k a, .int k b, .int k c, .int k f]) (.agg [.lit (.int k a), .lit (.int k b), .lit (.int k c), .lit (.int k f)]) [] :=
  ⟨2, by simp [DataW.trod, Value.cells, ht, he, hc, hC, wa, wb, wc, wf, List.range, List.range.loop]⟩
end
end Go.Vm
