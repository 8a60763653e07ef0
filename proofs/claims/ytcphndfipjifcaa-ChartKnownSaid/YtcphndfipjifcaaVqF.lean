/- The instructions that make addresses and parts. -/
import Derived.Test.YtcphndfipjifcaaVqE
namespace Go.Vm
variable {P : Program} {ρ ρ1 ρ2 : Ren} {D D1 : Nat → Prop} {V : View} {α β γ δ : Type}
  {Φ : Ren → (Nat → Prop) → α → β → Prop} {Ψ : Ren → (Nat → Prop) → γ → δ → Prop}

theorem runV_shape {α : Type} (r : Nat) (f : Option (TypeId × Nat) → Sem α) (V : View) : runV P (Go.shape r >>= f) V = none := by rw [runV_bind]; rfl
theorem runV_program {α : Type} (f : Program → Sem α) (V : View) : runV P (Go.program >>= f) V = runV P (f P) V := by rw [runV_bind]; rfl
theorem runV_stuck {α β : Type} (why : String) (f : α → Sem β) (V : View) : runV P (Go.stuck why >>= f) V = none := by rw [runV_bind]; rfl
theorem runV_halt {α β : Type} (h : Halt) (f : α → Sem β) (V : View) : runV P ((Sem.halt h : Sem α) >>= f) V = none := by rw [runV_bind]; rfl
theorem runV_noView (a : Addr) (V : View) : runV P (Go.noView a) V = none := by
  unfold noView viewAt
  rw [runV_bind, runV_shape]; rfl
theorem runV_byteOf (a : Addr) (ha : a.spot = none) (V : View) : runV P (Go.byteOf a) V = none := by
  unfold byteOf
  rw [ha]
  dsimp only
  rw [runV_program, runV_bind, runV_noView]; rfl
theorem runV_partAt (a : Addr) (c b : Nat) (V : View) : runV P (Go.partAt a c b) V = none := by
  unfold partAt
  refine runV_none (fun x V => ?_) V
  dsimp only
  rw [runV_bind, runV_byteOf _ rfl]; rfl

theorem Sim.fieldPlace {a : Addr} {f : Field} (ha : D a.block) : Sim P ρ D V (Go.fieldPlace a f) (Go.fieldPlace (ρ.addr a) f) (fun ρ1 D1 a a' => D1 a.block ∧ a' = ρ1.addr a) := by
  unfold Go.fieldPlace
  refine .bind .sizeOf ?_
  rintro ρ1 D1 V1 n _ hag hD ⟨rfl, -⟩
  split
  · exact .stops fun V => runV_partAt _ _ _ V
  · refine .pure ⟨by rw [add_block]; exact hD _ ha, ?_⟩
    rw [← Ren.addr_add, hag.addr ha]
theorem Sim.fieldAt {s : TypeId} {v v' : Value} {k : Nat} (hv : VRel ρ D v v') : Sim P ρ D V (Instr.fieldAt s v k) (Instr.fieldAt s v' k) VR := by
  unfold Instr.fieldAt
  refine .bind .underlying ?_
  rintro ρ1 D1 V1 d _ hag hD ⟨rfl, -⟩
  have hv := hv.ext hag hD
  cases d <;> try exact .stuck
  rename_i fields
  (try dsimp only)
  cases hf : fields[k]? with
  | none => exact .stuck
  | some f =>
    refine .bind (.sureAddr hv) ?_
    rintro ρ2 D2 V2 a _ hag2 hD2 ⟨ha, rfl⟩
    refine .map (.fieldPlace ha) ?_
    rintro ρ3 D3 a' _ _ _ ⟨h1, rfl⟩
    exact .ptr h1

theorem VRel.sliceInv {x : Option Addr} {n c : Nat} {v' : Value} (h : VRel ρ D (.slice x n c) v') : (x = none ∧ v' = .slice none n c) ∨
    ∃ a c', x = some a ∧ D a.block ∧ v' = .slice (some (ρ.addr a)) n c' ∧ ((c' = c ∧ c < big) ∨ (c = big ∧ n ≤ c' ∧ a.off + c' * ρ.es a.block ≤ ρ.sz a.block)) := by
  cases h with
  | flat hf => cases x <;> first | exact .inl ⟨rfl, rfl⟩ | simp [Vm.flat] at hf
  | slice ha hc => exact .inr ⟨_, _, rfl, ha, rfl, .inl ⟨rfl, hc⟩⟩
  | grown ha hl hs => exact .inr ⟨_, _, rfl, ha, rfl, .inr ⟨rfl, hl, hs⟩⟩
theorem VRel.strInv {x : ByteArray} {v' : Value} (h : VRel ρ D (.string x) v') : v' = .string x := h.flatEq rfl
theorem VRel.aggInv {x : Array Value} {v' : Value} (h : VRel ρ D (.agg x) v') : ∃ y, v' = .agg y ∧ ARel ρ D x y := by
  cases h with
  | flat hf => simp [Vm.flat] at hf
  | agg h1 h2 => exact ⟨_, rfl, h1, h2⟩
theorem VRel.tupleInv {x : Array Value} {v' : Value} (h : VRel ρ D (.tuple x) v') : ∃ y, v' = .tuple y ∧ ARel ρ D x y := by
  cases h with
  | flat hf => simp [Vm.flat] at hf
  | tuple h1 h2 => exact ⟨_, rfl, h1, h2⟩
theorem idx_end {el : TypeId} {k : IntKind} {n : Int} {len : Nat} {b b' : Option Addr} {q : Bool} (hb : (b = none ∧ b' = none) ∨ ∃ a, D a.block ∧ b = some a ∧ b' = some (ρ.addr a)) (hag : Agree ρ ρ1 D) (hD : ∀ k, D k → D1 k) :
    Sim P ρ1 D1 V (match b with
      | some a => if 0 ≤ n ∧ n < len then do pure (.pointer (some (a.add (n.toNat * (← Go.sizeOf el)))))
        else if q = true then Go.unsupported (.noEntry "op/indexAddr.an index out of range at an array of length 0 or 1 (ledger 616)") else boundsPanic k n len .index
      | none => boundsPanic k n 0 .index)
     (match b' with
      | some a => if 0 ≤ n ∧ n < len then do pure (.pointer (some (a.add (n.toNat * (← Go.sizeOf el)))))
        else if q = true then Go.unsupported (.noEntry "op/indexAddr.an index out of range at an array of length 0 or 1 (ledger 616)") else boundsPanic k n len .index
      | none => boundsPanic k n 0 .index) VR := by
  rcases hb with ⟨rfl, rfl⟩ | ⟨a, ha, rfl, rfl⟩
  · exact .bounds
  · (try dsimp only)
    split
    · rw [← hag.addr ha]
      have ha := hD _ ha
      refine .map .sizeOf ?_
      rintro ρ4 D4 z _ hag4 hD4 ⟨rfl, -⟩
      rw [← hag4.addr ha, Ren.addr_add]
      exact .ptr (by rw [add_block]; exact hD4 _ ha)
    · split
      · exact .unsupported
      · exact .bounds
theorem Sim.indexAt {t : TypeId} {v v' i i' : Value} (hv : VRel ρ D v v') (hi : VRel ρ D i i') : Sim P ρ D V (Instr.indexAt t v i) (Instr.indexAt t v' i') VR := by
  unfold Instr.indexAt
  refine .bind (.asIntOf hi) ?_
  rintro ρ1 D1 V1 ⟨k, n⟩ _ hag hD ⟨rfl, -⟩
  have hv := hv.ext hag hD
  clear hi hag hD
  (try dsimp only)
  refine .bind .underlying ?_
  rintro ρ2 D2 V2 d _ hag2 hD2 ⟨rfl, -⟩
  have hv := hv.ext hag2 hD2
  clear hag2 hD2
  cases d <;> try exact .stuck
  case slice =>
    cases v <;> try exact .stuck
    rcases hv.sliceInv with ⟨rfl, rfl⟩ | ⟨a, c', rfl, ha, rfl, _⟩
    · refine .bind (.pure (Φ := fun ρ1 D1 (x y : Option Addr × Nat × TypeId) => x.2 = y.2 ∧ ((x.1 = none ∧ y.1 = none) ∨ ∃ a, D1 a.block ∧ x.1 = some a ∧ y.1 = some (ρ1.addr a))) ⟨rfl, .inl ⟨rfl, rfl⟩⟩) ?_
      rintro ρ2 D2 V2 ⟨b, len, el⟩ ⟨b', len', el'⟩ hag2 hD2 ⟨he, hb⟩
      obtain ⟨rfl, rfl⟩ := Prod.mk.inj he
      refine .bind .underlying ?_
      rintro ρ3 D3 V3 d _ hag3 hD3 ⟨rfl, -⟩
      exact idx_end hb hag3 hD3

    · refine .bind (.pure (Φ := fun ρ1 D1 (x y : Option Addr × Nat × TypeId) => x.2 = y.2 ∧ ((x.1 = none ∧ y.1 = none) ∨ ∃ a, D1 a.block ∧ x.1 = some a ∧ y.1 = some (ρ1.addr a))) ⟨rfl, .inr ⟨a, ha, rfl, rfl⟩⟩) ?_
      rintro ρ2 D2 V2 ⟨b, len, el⟩ ⟨b', len', el'⟩ hag2 hD2 ⟨he, hb⟩
      obtain ⟨rfl, rfl⟩ := Prod.mk.inj he
      refine .bind .underlying ?_
      rintro ρ3 D3 V3 d _ hag3 hD3 ⟨rfl, -⟩
      exact idx_end hb hag3 hD3

  case array =>
    refine .bind (.sureAddr hv) ?_
    rintro ρ3 D3 V3 a _ hag3 hD3 ⟨ha, rfl⟩
    clear hv hag3 hD3
    · refine .bind (.pure (Φ := fun ρ1 D1 (x y : Option Addr × Nat × TypeId) => x.2 = y.2 ∧ ((x.1 = none ∧ y.1 = none) ∨ ∃ a, D1 a.block ∧ x.1 = some a ∧ y.1 = some (ρ1.addr a))) ⟨rfl, .inr ⟨a, ha, rfl, rfl⟩⟩) ?_
      rintro ρ2 D2 V2 ⟨b, len, el⟩ ⟨b', len', el'⟩ hag2 hD2 ⟨he, hb⟩
      obtain ⟨rfl, rfl⟩ := Prod.mk.inj he
      refine .bind .underlying ?_
      rintro ρ3 D3 V3 d _ hag3 hD3 ⟨rfl, -⟩
      exact idx_end hb hag3 hD3


abbrev VRc : Ren → (Nat → Prop) → Value → Value → Prop := fun ρ D v v' => (match v with | .slice (some _) _ c => Nat.blt c big | _ => true) = true → VRel ρ D v v'

theorem Sim.sliceBound {v : Value} {y : Nat} {c : BoundsCode} : Sim P ρ D V (Instr.sliceBound v y c) (Instr.sliceBound v y c) (Eq2 Nat) := by
  unfold Instr.sliceBound
  refine .bind (Φ := Eq2 (IntKind × Int)) ?_ ?_
  · unfold Go.asIntOf
    split
    · exact .pure rfl
    · exact .unsupported
    · exact .stuck
  · rintro ρ1 D1 V1 ⟨k, n⟩ _ hag hD rfl
    (try dsimp only)
    split
    · exact .pure rfl
    · exact .bounds
theorem Sim.sliceBounds {b : Bool} {len cap : Nat} {l h m : Option Value} :
    Sim P ρ D V (Instr.sliceBounds b len cap l h m) (Instr.sliceBounds b len cap l h m) (Eq2 (Nat × Nat × Nat)) := by
  unfold Instr.sliceBounds
  cases m <;> cases h <;> cases l <;> (try dsimp only)
  all_goals
    repeat' first
      | exact .pure rfl
      | exact .stops fun V => runV_stuck _ _ V
      | exact .stuck
      | (refine .bind (Φ := Eq2 Nat) .sliceBound ?_; rintro _ _ _ _ _ _ _ rfl; (try dsimp only))
      | (refine .bind (Φ := Eq2 Nat) (.pure rfl) ?_; rintro _ _ _ _ _ _ _ rfl; (try dsimp only))
theorem Sim.slice {t : TypeId} {v v' : Value} {l h m : Option Value} (hv : VRel ρ D v v') (hne : ∀ a n, v ≠ .slice (some a) n big) :
    Sim P ρ D V (Instr.slice t v l h m) (Instr.slice t v' l h m) VRc := by
  unfold Instr.slice
  refine .bind .underlying ?_
  rintro ρ1 D1 V1 d _ hag hD ⟨rfl, -⟩
  have hv := hv.ext hag hD
  clear hag hD
  cases d <;> try exact .stuck
  case string =>
    cases v <;> try exact .stuck
    obtain rfl := hv.strInv
    (try dsimp only)
    split
    · exact .stops fun V => runV_stuck _ _ V
    · refine .map .sliceBounds ?_
      rintro _ _ ⟨x, y, z⟩ _ _ _ rfl _
      exact .flat rfl
  case pointer =>
    refine .bind (.asAddr hv) ?_
    rintro ρ2 D2 V2 a _ hag2 hD2 ⟨ha, rfl⟩
    refine .bind .underlying ?_
    rintro ρ3 D3 V3 d _ hag3 hD3 ⟨rfl, -⟩
    rw [← hag3.addr ha]
    have ha := hD3 _ ha
    cases d <;> try exact .stuck
    (try dsimp only)
    refine .bind .sliceBounds ?_
    rintro ρ2 D2 V2 ⟨x, y, z⟩ _ hag2 hD2 rfl
    rw [← hag2.addr ha]
    have ha := hD2 _ ha
    refine .map .sizeOf ?_
    rintro ρ3 D3 s _ hag3 hD3 ⟨rfl, -⟩ hcap
    rw [← hag3.addr ha]
    have ha := hD3 _ ha
    (try dsimp only at hcap ⊢)
    split
    · exact .slice ha (by rename_i e; simpa [e] using hcap)
    · rename_i e
      rw [Ren.addr_add]
      exact .slice (by rw [add_block]; exact ha) (by simpa [e] using hcap)
  case slice =>
    cases v <;> try exact .stuck
    rcases hv.sliceInv with ⟨rfl, rfl⟩ | ⟨a, c', rfl, ha, rfl, ⟨rfl, hc⟩ | ⟨rfl, _⟩⟩
    · refine .bind .sliceBounds ?_
      rintro ρ2 D2 V2 ⟨x, y, z⟩ _ hag2 hD2 rfl
      refine .map .sizeOf ?_
      rintro ρ3 D3 s _ hag3 hD3 ⟨rfl, -⟩ _
      (try dsimp only)
      split <;> exact .flat rfl
    · refine .bind .sliceBounds ?_
      rintro ρ2 D2 V2 ⟨x, y, z⟩ _ hag2 hD2 rfl
      rw [← hag2.addr ha]
      have ha := hD2 _ ha
      refine .map .sizeOf ?_
      rintro ρ3 D3 s _ hag3 hD3 ⟨rfl, -⟩ hcap
      rw [← hag3.addr ha]
      have ha := hD3 _ ha
      (try dsimp only at hcap ⊢)
      split
      · exact .slice ha (by rename_i e; simpa [e] using hcap)
      · rename_i e
        simp only [Option.map_some, Ren.addr_add]
        exact .slice (by rw [add_block]; exact ha) (by simpa [e] using hcap)
    · exact absurd rfl (hne _ _)
theorem Sim.sliceAt {t : TypeId} {v v' : Value} {l h m : Option Value} (hv : VRel ρ D v v') (hne : ∀ a n, v ≠ .slice (some a) n big) :
    Sim P ρ D V (Instr.sliceAt t v l h m) (Instr.sliceAt t v' l h m) VRc := by
  unfold Instr.sliceAt
  refine .bind .underlying ?_
  rintro ρ1 D1 V1 d _ hag hD ⟨rfl, -⟩
  have hv := hv.ext hag hD
  cases d <;> try exact .slice hv hne
  (try dsimp only)
  refine .bind (.sureAddr hv) ?_
  rintro ρ2 D2 V2 a _ hag2 hD2 ⟨ha, rfl⟩
  refine .bind .sliceBounds ?_
  rintro ρ3 D3 V3 ⟨x, y, z⟩ _ hag3 hD3 rfl
  rw [← hag3.addr ha]
  have ha := hD3 _ ha
  refine .map .sizeOf ?_
  rintro ρ4 D4 s _ hag4 hD4 ⟨rfl, -⟩ hcap
  rw [← hag4.addr ha]
  have ha := hD4 _ ha
  dsimp only at hcap ⊢
  split
  · exact .slice ha (by rename_i e; simpa [e] using hcap)
  · rename_i e
    rw [Ren.addr_add]
    exact .slice (by rw [add_block]; exact ha) (by simpa [e] using hcap)

theorem Sim.part {t : TypeId} {cs cs' : Array Value} {off : Nat} (hc : ARel ρ D cs cs') : Sim P ρ D V (Go.part t cs off) (Go.part t cs' off) VR := by
  unfold Go.part
  refine .bind .isAgg ?_
  rintro ρ1 D1 V1 b _ hag hD rfl
  have hc := hc.ext hag hD
  split
  · refine .map .sizeOf ?_
    rintro ρ2 D2 n _ hag2 hD2 ⟨rfl, -⟩
    have := (hc.ext hag2 hD2).extract off (off + n)
    exact .agg this.1 this.2
  · cases h : cs[off]? with
    | none => exact .stuck
    | some v =>
      obtain ⟨v', h1, h2⟩ := hc.get h
      rw [h1]
      exact .pure h2
theorem Sim.asAgg {v v' : Value} (hv : VRel ρ D v v') : Sim P ρ D V (Go.asAgg v) (Go.asAgg v') ARel := by
  cases v <;> try exact .stuck
  obtain ⟨y, rfl, hy⟩ := hv.aggInv
  exact .pure hy
theorem Sim.field {t : TypeId} {v v' : Value} {k : Nat} (hv : VRel ρ D v v') : Sim P ρ D V (Instr.field t v k) (Instr.field t v' k) VR := by
  unfold Instr.field
  refine .bind .underlying ?_
  rintro ρ1 D1 V1 d _ hag hD ⟨rfl, -⟩
  have hv := hv.ext hag hD
  cases d <;> try exact .stuck
  rename_i fields
  (try dsimp only)
  cases hf : fields[k]? with
  | none => exact .stuck
  | some f =>
    refine .bind (.asAgg hv) ?_
    intro ρ2 D2 V2 cs cs' _ _ hcs
    exact .part hcs
theorem Sim.index {t : TypeId} {v v' i i' : Value} (hv : VRel ρ D v v') (hi : VRel ρ D i i') : Sim P ρ D V (Instr.index t v i) (Instr.index t v' i') VR := by
  unfold Instr.index
  refine .bind (.asIntOf hi) ?_
  rintro ρ1 D1 V1 ⟨k, n⟩ _ hag hD ⟨rfl, -⟩
  have hv := hv.ext hag hD
  (try dsimp only)
  refine .bind .underlying ?_
  rintro ρ2 D2 V2 d _ hag2 hD2 ⟨rfl, -⟩
  have hv := hv.ext hag2 hD2
  cases d <;> try exact .stuck
  case string =>
    cases v <;> try exact .stuck
    obtain rfl := hv.strInv
    (try dsimp only)
    split
    · exact .pure (.flat rfl)
    · exact .bounds
  case array =>
    cases v <;> try exact .stuck
    obtain ⟨y, rfl, hy⟩ := hv.aggInv
    (try dsimp only)
    split
    · refine .bind .sizeOf ?_
      rintro ρ3 D3 V3 z _ hag3 hD3 ⟨rfl, -⟩
      exact .part (hy.ext hag3 hD3)
    · exact .bounds
theorem Sim.extract {v v' : Value} {k : Nat} (hv : VRel ρ D v v') : Sim P ρ D V (Instr.extract v k) (Instr.extract v' k) VR := by
  unfold Instr.extract
  cases v <;> try exact .stuck
  obtain ⟨y, rfl, hy⟩ := hv.tupleInv
  rename_i xs
  (try dsimp only)
  cases h : xs[k]? with
  | none => exact .stuck
  | some v =>
    obtain ⟨v', h3, h4⟩ := hy.get h
    rw [h3]; exact .pure h4
end Go.Vm
