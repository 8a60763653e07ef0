/- Slices of numbers, and of structs of four numbers, read. -/
import Derived.Test.YtpbcbjjofgnmlaaRows
import Derived.WalkKit
import Derived.ProofKit
import Derived.OpenShut
import Derived.Carry
import Derived.Lib.SmallJoins
import Derived.HandedShaped
import Derived.Test.YtpbcbjjofgnmlaaVjU14
set_option linter.unusedVariables false
namespace Go.Vm
open Go.ChangeShapes Go.WideShapes Go.RowKit Go.Joins Go.Deep Go.Deep
set_option maxRecDepth 100000
/-- where a slice lies -/
theorem slice_real {t e : TypeId} {W : World} {base len cap : Nat} {o : Option Addr} (hu : TP.underlying t = some (.slice e)) (h : Cell.okWide TP W .any base t (.slice o len cap)) :
    (o = none ∧ len = 0 ∧ cap = 0) ∨ ∃ b off, o = some ⟨b, off, none⟩ ∧ b < W.heap.size ∧ cap < big := by
  simp only [Cell.okWide, hu, Cell.ok] at h
  cases o with
  | none =>
    cases len with
    | zero => cases cap with
      | zero => exact .inl ⟨rfl, rfl, rfl⟩
      | succ c => simp at h
    | succ l => simp at h
  | some a =>
    obtain ⟨_, h2, h3⟩ := h
    obtain ⟨_, hs, row, cells, hsh, _⟩ := h3
    obtain ⟨b, off, sp⟩ := a
    simp only at hs
    subst hs
    refine .inr ⟨b, off, rfl, ?_, ?_⟩
    · unfold World.shape? at hsh
      simp only at hsh
      split at hsh
      · rename_i hq
        exact (Array.getElem?_eq_some_iff.1 hq).1
      · cases hsh
    · have : (cap : Int) ≤ 9223372036854775807 := h2
      unfold big
      omega
theorem okv {t e : TypeId} {W : World} {base : Nat} {v : Value} (hu : TP.underlying t = some (.slice e)) (h : Cell.okWide TP W .any base t v) : Value.okWide TP W .any base t v := by
  unfold Value.okWide
  rw [hu]
  exact h
theorem okc {t e : TypeId} {W : World} {base : Nat} {v : Value} (hu : TP.underlying t = some (.slice e)) (h : Value.okWide TP W .any base t v) : Cell.okWide TP W .any base t v := by
  unfold Value.okWide at h
  rw [hu] at h
  exact h
section
variable {H : Type} {enc : TypeId × Value → H}
theorem add_at {b off k : Nat} : (⟨b, off, none⟩ : Addr).add k = ⟨b, off + k, none⟩ := by
  unfold Addr.add
  split
  · rename_i hk; subst hk; rfl
  · rfl
/-- what a slice holds -/
theorem slice_rows {t e k : TypeId} {w : World} {spare : Nat → Bool} {held : Bool} {fuel len cap b off : Nat} {y : DataW H × List MemPlace} (hu : TP.underlying t = some (.slice e)) (hk : TP.cellsOf e = k) (hkp : 0 < k)
    (each : ∀ (n : Nat) (cs : List Value) (y : DataW H × List MemPlace), DataW.trod enc TP w 0 spare held n e cs = some y → ∀ j, j < k → ∃ z : Int, cs[j]? = some (.int .i64 z))
    (hb : b < w.heap.size) (h : DataW.trod enc TP w 0 spare held fuel t [.slice (some ⟨b, off, none⟩) len cap] = some y) : ∃ l : List Int, l.length = k * len ∧ RowsAt w b off (ints l) := by
  rcases open_slice hu h with ⟨h0, _⟩ | ⟨a, len', cap', m', n, D, Pl, hcs, _, hl, _, hm', _, hel⟩
  · simp at h0
  · simp only [List.cons.injEq, Value.slice.injEq, Option.some.injEq, and_true] at hcs
    obtain ⟨rfl, rfl, rfl⟩ := hcs
    have hlm : len ≤ m' := by rw [hm']; split <;> omega
    have hf : ∀ m, ∃ z : Int, m < k * len → w.cell? ⟨b, off + m, none⟩ = some (.int .i64 z) := fun m => by
      by_cases hm : m < k * len
      · have hi : m / k < len := Nat.div_lt_of_lt_mul hm
        obtain ⟨cs, h5, h6⟩ := hel (m / k) (Nat.lt_of_lt_of_le hi hlm)
        obtain ⟨z, hz⟩ := each _ _ _ h6 (m % k) (Nat.mod_lt _ hkp)
        rw [hk] at h5
        unfold World.cells? at h5
        split at h5
        · have g := mapM_some_get h5 (m % k) (m % k) (by simp [Nat.mod_lt _ hkp])
          rw [add_at, add_at, hz, Nat.add_assoc, Nat.mul_comm, Nat.div_add_mod] at g
          exact ⟨z, fun _ => g⟩
        · cases h5
      · exact ⟨0, fun h => absurd h hm⟩
    refine ⟨(List.range (k * len)).map fun m => Classical.choose (hf m), by simp, hb, fun i v hv => ?_⟩
    unfold ints at hv
    rw [List.map_map, List.getElem?_map] at hv
    cases hq : (List.range (k * len))[i]? with
    | none => rw [hq] at hv; cases hv
    | some m =>
      rw [hq] at hv
      have hlt : i < k * len := by
        have := (List.getElem?_eq_some_iff.1 hq).1
        simpa using this
      have hm : m = i := by simpa [hlt] using hq.symm
      subst hm
      cases hv
      exact Classical.choose_spec (hf m) hlt
/-- a slice, read: the value that the contracts speak of -/
theorem slice_open {t e k : TypeId} {w : World} {spare : Nat → Bool} {held : Bool} {base fuel len cap i : Nat} {o : Option Addr} {y : DataW H × List MemPlace} (hu : TP.underlying t = some (.slice e)) (hk : TP.cellsOf e = k) (hkp : 0 < k)
    (each : ∀ (n : Nat) (cs : List Value) (y : DataW H × List MemPlace), DataW.trod enc TP w 0 spare held n e cs = some y → ∀ j, j < k → ∃ z : Int, cs[j]? = some (.int .i64 z))
    (hz : 0 < w.heap.size) (hok : Cell.okWide TP w .any base t (.slice o len cap)) (h : DataW.trod enc TP w 0 spare held fuel t [.slice o len cap] = some y) :
    ∃ (b off : Nat) (s : Value) (l : List Int), SLh i len cap s ∧ l.length = k * len ∧ RowsAt w b off (ints l) ∧ ∀ bs offs : Nat → Nat, bs i = b → offs i = off → shiftC bs offs s = .slice o len cap := by
  rcases slice_real hu hok with ⟨rfl, rfl, rfl⟩ | ⟨b, off, rfl, hb, hc⟩
  · exact ⟨0, 0, .slice none 0 0, [], .inr ⟨rfl, rfl⟩, by simp, ⟨hz, fun m v hm => by simp [ints] at hm⟩, fun _ _ _ _ => rfl⟩
  · obtain ⟨l, hl, hr⟩ := slice_rows hu hk hkp each hb h
    exact ⟨b, off, .slice (some ⟨i, 0, none⟩) len cap, l, .inl ⟨rfl, hc⟩, hl, hr, fun bs offs h1 h2 => by simp only [shiftC, h1, h2, Nat.add_zero]⟩
theorem each_int {e : TypeId} {w : World} {spare : Nat → Bool} {held : Bool} (he : TP.underlying e = some (.int .i64)) : ∀ (n : Nat) (cs : List Value) (y : DataW H × List MemPlace), DataW.trod enc TP w 0 spare held n e cs = some y → ∀ j, j < 1 → ∃ z : Int, cs[j]? = some (.int .i64 z) := fun n cs y h j hj => by
  obtain ⟨a, ha, _, _⟩ := DataW.trod_int he h
  have : j = 0 := by omega
  subst this
  exact ⟨a, by rw [ha]; rfl⟩
theorem str54 : TP.underlying 54 = some (.struct #[(TP.fieldsOf 54)[0]!, (TP.fieldsOf 54)[1]!, (TP.fieldsOf 54)[2]!]) := by kernel_rfl
theorem str52 : TP.underlying 52 = some (.struct #[(TP.fieldsOf 52)[0]!, (TP.fieldsOf 52)[1]!]) := by kernel_rfl
theorem cel52 : TP.cellsOf 52 = 2 := by kernel_rfl
theorem cel54 : TP.cellsOf 54 = 4 := by kernel_rfl
theorem cel3 : TP.cellsOf 3 = 1 := by kernel_rfl
theorem cel2 : TP.cellsOf 2 = 1 := by kernel_rfl
theorem each_move {w : World} {spare : Nat → Bool} {held : Bool} : ∀ (n : Nat) (cs : List Value) (y : DataW H × List MemPlace), DataW.trod enc TP w 0 spare held n 54 cs = some y → ∀ j, j < 4 → ∃ z : Int, cs[j]? = some (.int .i64 z) := fun n cs y h j hj => by
  obtain ⟨y0, y1, y2, m, _, hl, h0, h1, h2⟩ := trod_struct3 str54 h
  rw [cel54] at hl
  obtain ⟨c0, c1, c2, c3, rfl⟩ : ∃ a b c d, cs = [a, b, c, d] := by
    match cs, hl with
    | [a, b, c, d], _ => exact ⟨a, b, c, d, rfl⟩
  have t0 : ((TP.fieldsOf 54)[0]!).type = 3 := by kernel_rfl
  have t1 : ((TP.fieldsOf 54)[1]!).type = 3 := by kernel_rfl
  have t2 : ((TP.fieldsOf 54)[2]!).type = 52 := by kernel_rfl
  have f0 : ((TP.fieldsOf 54)[0]!).offset = 0 := by kernel_rfl
  have f1 : ((TP.fieldsOf 54)[1]!).offset = 1 := by kernel_rfl
  have f2 : ((TP.fieldsOf 54)[2]!).offset = 2 := by kernel_rfl
  rw [t0, f0, cel3] at h0
  rw [t1, f1, cel3] at h1
  rw [t2, f2, cel52] at h2
  obtain ⟨x0, x1, m2, _, _, g0, g1⟩ := trod_struct2 str52 h2
  have u0 : ((TP.fieldsOf 52)[0]!).type = 2 := by kernel_rfl
  have u1 : ((TP.fieldsOf 52)[1]!).type = 2 := by kernel_rfl
  have o0 : ((TP.fieldsOf 52)[0]!).offset = 0 := by kernel_rfl
  have o1 : ((TP.fieldsOf 52)[1]!).offset = 1 := by kernel_rfl
  rw [u0, o0, cel2] at g0
  rw [u1, o1, cel2] at g1
  obtain ⟨a, ha, _, _⟩ := DataW.trod_int ty3 h0
  obtain ⟨b, hb, _, _⟩ := DataW.trod_int ty3 h1
  obtain ⟨c, hc, _, _⟩ := DataW.trod_int ty2 g0
  obtain ⟨d, hd, _, _⟩ := DataW.trod_int ty2 g1
  simp at ha hb hc hd
  subst ha hb hc hd
  match j, hj with
  | 0, _ => exact ⟨a, rfl⟩
  | 1, _ => exact ⟨b, rfl⟩
  | 2, _ => exact ⟨c, rfl⟩
  | 3, _ => exact ⟨d, rfl⟩
end
theorem begun : Nat.blt TP.globals.size (begin TP (fun _ _ => 0) default).world.heap.size = true := by kernel_rfl
theorem heap_pos {w : World} (h : w.ShapedOpen TP) : 0 < w.heap.size := by
  have hb : TP.globals.size < (begin TP (fun _ _ => 0) default).world.heap.size := by have := begun; rwa [Nat.blt_eq] at this
  obtain ⟨o, _, ho, _⟩ := h.2 TP.globals.size (Nat.le_refl _) hb
  have := (Array.getElem?_eq_some_iff.1 ho).1
  omega
end Go.Vm
