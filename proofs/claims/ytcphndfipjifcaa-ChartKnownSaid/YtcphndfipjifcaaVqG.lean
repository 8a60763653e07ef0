/- The instructions that make memory. -/
import Derived.Test.YtcphndfipjifcaaVqF
namespace Go.Vm
variable {P : Program} {ρ ρ1 ρ2 : Ren} {D D1 : Nat → Prop} {V : View} {α β γ δ : Type}
  {Φ : Ren → (Nat → Prop) → α → β → Prop} {Ψ : Ren → (Nat → Prop) → γ → δ → Prop}

theorem Sim.box {t : TypeId} {v v' : Value} (hv : VRel ρ D v v') : Sim P ρ D V (Instr.box t v) (Instr.box t v') VR := by
  unfold Instr.box
  refine .map (.newVar hv) ?_
  rintro ρ1 D1 a _ _ _ ⟨h1, rfl⟩
  exact .ptr h1
theorem Sim.alloc (hP : Good P) {t : TypeId} : Sim P ρ D V (Instr.alloc t true (.tuple #[])) (Instr.alloc t true (.tuple #[])) VR := by
  unfold Instr.alloc
  refine .bind (.zeroValue hP) ?_
  rintro ρ1 D1 V1 z _ hag hD ⟨rfl, hz⟩
  (try dsimp only)
  refine .map (.newVar (VRel.of_flatN 3 z hz)) ?_
  rintro ρ2 D2 a _ _ _ ⟨h1, rfl⟩
  exact .ptr h1

def PRel (ρ : Ren) (D : Nat → Prop) (x y : Nat × Value) : Prop := x.1 = y.1 ∧ VRel ρ D x.2 y.2
theorem PRel.ext (hag : Agree ρ ρ1 D) (hD : ∀ b, D b → D1 b) {x y} (h : PRel ρ D x y) : PRel ρ1 D1 x y := ⟨h.1, h.2.ext hag hD⟩

theorem ARel.setAll {xs ys : List (Value × Nat)} (h : LRel (fun x y => x.2 = y.2 ∧ VRel ρ D x.1 y.1) xs ys) (off : Nat) : ∀ {cs cs' : Array Value}, ARel ρ D cs cs' →
    ARel ρ D (xs.foldl (fun cs (p : Value × Nat) => cs.setIfInBounds (off + p.2) p.1) cs) (ys.foldl (fun cs (p : Value × Nat) => cs.setIfInBounds (off + p.2) p.1) cs') := by
  induction h with
  | nil => intro cs cs' h; exact h
  | cons hxy _ ih =>
    intro cs cs' h
    simp only [List.foldl_cons]
    rw [hxy.1]
    exact ih (h.set _ hxy.2)
theorem ARel.zipIdx {xs ys : Array Value} (h : ARel ρ D xs ys) : LRel (fun (x y : Value × Nat) => x.2 = y.2 ∧ VRel ρ D x.1 y.1) xs.zipIdx.toList ys.zipIdx.toList := by
  refine LRel.of_get (by simp [h.1]) fun i x y hx hy => ?_
  simp only [Array.toList_zipIdx, List.getElem?_zipIdx, Option.map_eq_some_iff] at hx hy
  obtain ⟨a, ha, rfl⟩ := hx
  obtain ⟨b, hb, rfl⟩ := hy
  exact ⟨rfl, h.2 i a b (by simpa using ha) (by simpa using hb)⟩
inductive OptRel {α β : Type} (R : α → β → Prop) : Option α → Option β → Prop
  | none : OptRel R none none
  | some {a b} (h : R a b) : OptRel R (some a) (some b)
theorem OptRel.elim {α β : Type} {R : α → β → Prop} {x : Option α} {y : Option β} (h : OptRel R x y) : (x = .none ∧ y = .none) ∨ ∃ a b, x = .some a ∧ y = .some b ∧ R a b := by
  cases h with
  | none => exact .inl ⟨rfl, rfl⟩
  | some h => exact .inr ⟨_, _, rfl, rfl, h⟩
theorem fill_rel (place : Nat → Option (Nat × Nat)) {ps qs : List (Nat × Value)} (h : LRel (PRel ρ D) ps qs) : ∀ {cs cs' : Array Value}, ARel ρ D cs cs' →
    OptRel (ARel ρ D) (Instr.fill place cs ps) (Instr.fill place cs' qs) := by
  induction h with
  | nil => intro cs cs' h; exact .some h
  | @cons x y xs ys hxy _ ih =>
    intro cs cs' h
    obtain ⟨i, v⟩ := x
    obtain ⟨j, v'⟩ := y
    obtain ⟨h0, hv⟩ := hxy
    obtain rfl : i = j := h0
    dsimp only at hv
    unfold Instr.fill
    cases place i with
    | none => exact .none
    | some p =>
      obtain ⟨off, size⟩ := p
      have hc := hv.cells
      dsimp only
      rw [hc.1, h.1]
      by_cases hq : (decide (v'.cells.size ≠ size) || decide (off + v'.cells.size > cs'.size)) = true
      · rw [if_pos hq, if_pos hq]; exact .none
      · rw [if_neg hq, if_neg hq]
        refine ih ?_
        rw [← Array.foldl_toList, ← Array.foldl_toList]
        exact ARel.setAll hc.zipIdx off h

theorem Sim.mapM {A : Type} {f : A → Sem α} (h : ∀ x {ρ : Ren} {D : Nat → Prop} {V : View}, Sim P ρ D V (f x) (f x) (Eq2 α)) : ∀ (l : List A) {ρ : Ren} {D : Nat → Prop} {V : View}, Sim P ρ D V (l.mapM f) (l.mapM f) (Eq2 (List α)) := by
  intro l
  induction l with
  | nil => intro ρ D V; exact .pure rfl
  | cons x l ih =>
    intro ρ D V
    rw [List.mapM_cons]
    refine .bind (h x) ?_
    rintro ρ1 D1 V1 a _ _ _ rfl
    refine .map ih ?_
    rintro ρ1 D1 a _ _ _ rfl
    rfl

/-- 'build', over lists -/
def buildL (t : TypeId) (parts : List (Nat × Value)) : Sem Value := do
  let zero := (← zeroValue t).cells
  match ← underlying t with
  | .struct fields =>
    let places ← fields.toList.mapM fun f => do pure (f.offset, ← sizeOf f.type)
    match Instr.fill (places[·]?) zero parts with
    | some cells => pure (.agg cells)
    | none => stuck ""
  | .array _ elem =>
    let size ← sizeOf elem
    match Instr.fill (fun i => some (i * size, size)) zero parts with
    | some cells => pure (.agg cells)
    | none => stuck ""
  | _ => stuck ""
theorem Sim.build (hP : Good P) {t : TypeId} {ps : List (Nat × Value)} {qs : Array (Nat × Value)} (h : LRel (PRel ρ D) ps qs.toList) : Sim P ρ D V (buildL t ps) (Instr.build t qs) VR := by
  unfold buildL Instr.build
  refine .bind (.zeroValue hP) ?_
  rintro ρ1 D1 V1 z _ hag hD ⟨rfl, hz⟩
  have h := h.mono fun _ _ r => r.ext hag hD
  (try dsimp only)
  refine .bind .underlying ?_
  rintro ρ2 D2 V2 d _ hag2 hD2 ⟨rfl, -⟩
  have h := h.mono fun _ _ r => r.ext hag2 hD2
  cases d <;> try exact .stuck
  case struct =>
    rename_i fields
    (try dsimp only)
    rw [Array.mapM_eq_mapM_toList]
    simp only [map_eq_pure_bind, bind_assoc, pure_bind]
    refine .bind (Sim.mapM (fun f _ _ _ => .map .sizeOf (fun _ _ a _ _ _ h => ?_)) _) ?_
    · obtain ⟨rfl, -⟩ := h; rfl
    · rintro ρ3 D3 V3 pl _ hag3 hD3 rfl
      have h := h.mono fun _ _ r => r.ext hag3 hD3
      have hf := fill_rel (fun i => pl[i]?) h ((VRel.of_flatN (ρ := ρ3) (D := D3) 3 z hz).cells)
      simp only [List.getElem?_toArray]
      rcases hf.elim with ⟨e1, e2⟩ | ⟨a, b, e1, e2, h⟩ <;> rw [e1, e2]
      · exact .stuck
      · exact .pure (.agg h.1 h.2)
  case array =>
    rename_i len elem
    (try dsimp only)
    refine .bind .sizeOf ?_
    rintro ρ3 D3 V3 size _ hag3 hD3 ⟨rfl, -⟩
    have h := h.mono fun _ _ r => r.ext hag3 hD3
    have hf := fill_rel (fun i => some (i * size, size)) h ((VRel.of_flatN (ρ := ρ3) (D := D3) 3 z hz).cells)
    rcases hf.elim with ⟨e1, e2⟩ | ⟨a, b, e1, e2, h⟩ <;> rw [e1, e2]
    · exact .stuck
    · exact .pure (.agg h.1 h.2)

def zerosL (zero : Array Value) (n : Nat) : Array Value := ((List.range n).map fun i => zero[i % zero.size]!).toArray
theorem zerosL_eq (zero : Array Value) (n : Nat) : (Array.range n).map (fun i => zero[i % zero.size]!) = zerosL zero n := by
  simp [zerosL, ← List.toArray_range]
theorem zerosL_rel {zero : Array Value} (h : ∀ (i : Nat) (v : Value), zero[i]? = some v → flatN 3 v = true) (n : Nat) : ARel ρ D (zerosL zero n) (zerosL zero n) := by
  refine ⟨rfl, fun i v v' h1 h2 => ?_⟩
  rw [h1] at h2; cases h2
  have : v ∈ (List.range n).map fun i => zero[i % zero.size]! := by
    have := Array.mem_of_getElem? h1
    simpa [zerosL] using this
  obtain ⟨j, _, rfl⟩ := List.mem_map.1 this
  refine VRel.of_flatN 3 _ ?_
  cases hz : zero[j % zero.size]? with
  | none => simp [Array.getElem!_eq_getD, Array.getD_eq_getD_getElem?, hz]; rfl
  | some v => simp [Array.getElem!_eq_getD, Array.getD_eq_getD_getElem?, hz]; exact h _ _ hz
theorem flatN_up : ∀ {n : Nat} {v : Value}, flatN n v = true → flatN (n + 1) v = true := by
  intro n
  induction n with
  | zero =>
    intro v h
    unfold flatN at h ⊢
    split <;> first | (simp [Vm.flat] at h; done) | exact h
  | succ n ih =>
    intro v h
    unfold flatN at h
    unfold flatN
    split at h
    · rename_i hq; cases hq
      simp only [List.all_eq_true] at h ⊢
      exact fun x hx => ih (h x hx)
    · rename_i hq; cases hq
      simp only [List.all_eq_true] at h ⊢
      exact fun x hx => ih (h x hx)
    · exact h
    · rename_i h1 h2 h3 h4
      split <;> first | exact h | (rename_i hq; cases hq; simp [Vm.flat] at h)
theorem flatN_cells {n : Nat} {v : Value} (h : flatN (n + 1) v = true) : ∀ (i : Nat) (x : Value), v.cells[i]? = some x → flatN (n + 1) x = true := by
  intro i x hx
  have one : ∀ u : Value, v.cells = #[u] → flatN (n + 1) u = true → flatN (n + 1) x = true := by
    intro u hu h2
    rw [hu] at hx
    have : x = u := by
      cases i with
      | zero => simpa using hx.symm
      | succ i => simp at hx
    rw [this]; exact h2
  cases v with
  | agg cs =>
    simp only [flatN, List.all_eq_true] at h
    have hm : x ∈ cs.toList := by
      have := Array.mem_of_getElem? (xs := cs) hx
      simpa using this
    have := h x hm
    exact flatN_up this
  | _ => exact one _ rfl h
/-- 'buildSlice', over lists -/
def buildSliceL (t : TypeId) (len : Nat) (parts : List (Nat × Value)) : Sem Value := do
  match ← underlying t with
  | .slice elem =>
    let size ← sizeOf elem
    if len * size > 2 ^ 24 then stuck "" else
    let zero ← if len * size = 0 then pure #[] else do pure (← zeroValue elem).cells
    match Instr.fill (fun i => some (i * size, size)) (zerosL zero (len * size)) parts with
    | some cells => pure (.slice (some (← newRow elem cells)) len len)
    | none => stuck ""
  | _ => stuck ""
theorem Sim.buildSlice (hP : Good P) {t : TypeId} {n : Nat} (hn : n < big) {ps : List (Nat × Value)} {qs : Array (Nat × Value)} (h : LRel (PRel ρ D) ps qs.toList) : Sim P ρ D V (buildSliceL t n ps) (Instr.buildSlice t n qs) VR := by
  unfold buildSliceL Instr.buildSlice
  refine .bind .underlying ?_
  rintro ρ2 D2 V2 d _ hag2 hD2 ⟨rfl, -⟩
  have h := h.mono fun _ _ r => r.ext hag2 hD2
  cases d <;> try exact .stuck
  rename_i elem
  refine .bind .sizeOf ?_
  rintro ρ3 D3 V3 size _ hag3 hD3 ⟨rfl, -⟩
  have h := h.mono fun _ _ r => r.ext hag3 hD3
  (try dsimp only)
  by_cases h1 : n * size > 2 ^ 24
  · rw [if_pos h1]; exact .stuck
  rw [if_neg h1, if_neg h1]
  by_cases h2 : n * size = 0
  · rw [if_pos h2, if_pos h2]
    refine .bind (.pure (Φ := fun _ _ a b => a = b ∧ a = #[]) ⟨rfl, rfl⟩) ?_
    rintro ρ4 D4 V4 z _ hag4 hD4 ⟨rfl, rfl⟩
    rw [zerosL_eq]
    rcases (fill_rel (fun i => some (i * size, size)) (h.mono fun _ _ r => r.ext hag4 hD4) (zerosL_rel (ρ := ρ4) (D := D4) (zero := #[]) (fun i v h => by simp at h) (n * size))).elim with ⟨e1, e2⟩ | ⟨a, b, e1, e2, h⟩ <;> rw [e1, e2]
    · exact .stuck
    · refine .map (.newRow h) ?_
      rintro ρ4 D4 a _ _ _ ⟨h1, rfl, _⟩
      exact .slice h1 hn
  · rw [if_neg h2, if_neg h2]
    refine .bind (.zeroValue hP) ?_
    rintro ρ4 D4 V4 z _ hag4 hD4 ⟨rfl, hz⟩
    refine .bind (.pure (Φ := fun _ _ a b => a = b ∧ a = z.cells) ⟨rfl, rfl⟩) ?_
    rintro ρ5 D5 V5 z' _ hag5 hD5 ⟨rfl, rfl⟩
    rw [zerosL_eq]
    rcases (fill_rel (fun i => some (i * size, size)) (h.mono fun _ _ r => (r.ext hag4 hD4).ext hag5 hD5) (zerosL_rel (ρ := ρ5) (D := D5) (flatN_cells hz) (n * size))).elim with ⟨e1, e2⟩ | ⟨a, b, e1, e2, h⟩ <;> rw [e1, e2]
    · exact .stuck
    · refine .map (.newRow h) ?_
      rintro ρ4 D4 a _ _ _ ⟨h1, rfl, _⟩
      exact .slice h1 hn

/-- 'makeSlice' of a size that is not great -/
def makeSliceL (t : TypeId) (n c : Nat) : Sem Value := do
  match ← underlying t with
  | .slice elem =>
    let info ← typeInfo elem
    if c ≤ 2 ^ 20 ∧ info.bytes ≤ 2 ^ 20 ∧ n ≤ c then
      let size ← sizeOf elem
      let zero ← if c * size = 0 then pure #[] else do pure (← zeroValue elem).cells
      let a ← newRow elem (zerosL zero (c * size))
      pure (.slice (some a) n c)
    else stuck ""
  | _ => stuck ""
theorem ms_end {n c size : Nat} {elem : TypeId} (hn : c < big) (zero : Array Value) (hz : ∀ (i : Nat) (v : Value), zero[i]? = some v → flatN 3 v = true) :
    Sim P ρ D V (do let a ← newRow elem (zerosL zero (c * size)); pure (Value.slice (some a) n c)) (do let a ← newRow elem ((Array.range (c * size)).map (zero[· % zero.size]!)); pure (Value.slice (some a) n c)) VR := by
  rw [zerosL_eq]
  refine .map (.newRow (zerosL_rel hz _)) ?_
  rintro ρ4 D4 a _ _ _ ⟨h1, rfl, _⟩
  exact .slice h1 hn
theorem wrap_small (c : Nat) (h : c ≤ 2 ^ 20) : IntKind.i64.wrap (c : Int) = c := by
  unfold IntKind.wrap
  simp [IntKind.bits, IntKind.signed]
  omega
theorem Sim.makeSlice (hP : Good P) {t : TypeId} {n c : Nat} {j k : IntKind} : Sim P ρ D V (makeSliceL t n c) (Instr.makeSlice t (.int j n) (.int k c)) VR := by
  unfold makeSliceL Instr.makeSlice
  refine .bind .underlying ?_
  rintro ρ2 D2 V2 d _ hag2 hD2 ⟨rfl, -⟩
  cases d <;> try exact .stuck
  rename_i elem
  have e1 : (Go.asInt (.int j n)) = Pure.pure (n : Int) := rfl
  have e2 : (Go.asInt (.int k c)) = Pure.pure (c : Int) := rfl
  (try dsimp only)
  rw [e1, e2, pure_bind, pure_bind]
  refine .bind .typeInfo ?_
  rintro ρ3 D3 V3 info _ hag3 hD3 ⟨rfl, -⟩
  (try dsimp only)
  split
  · rename_i hc
    obtain ⟨hc1, hc2, hc3⟩ := hc
    rw [wrap_small c hc1, wrap_small n (by omega)]
    have hb : ((info.bytes : Int) * c) ≤ 2 ^ 40 := by
      have : info.bytes * c ≤ 2 ^ 20 * 2 ^ 20 := Nat.mul_le_mul hc2 hc1
      have h2 : ((info.bytes * c : Nat) : Int) ≤ ((2 ^ 20 * 2 ^ 20 : Nat) : Int) := Int.ofNat_le.2 this
      simpa using h2
    have hq : ¬ (((decide ((c : Int) < 0) || decide ((info.bytes : Int) * c > 2 ^ 48)) || decide ((n : Int) < 0) || decide ((n : Int) > c)) = true) := by
      simp; omega
    rw [if_neg hq]
    simp only [Int.toNat_natCast]
    have ha : ∀ {α : Type} (k : Unit → Sem α), (Go.askRoom (c * info.bytes) >>= k) = k () := by
      intro α k
      unfold askRoom
      have : ¬ (c * info.bytes > roomBytes) := by
        unfold roomBytes
        have : info.bytes * c ≤ 2 ^ 20 * 2 ^ 20 := Nat.mul_le_mul hc2 hc1
        rw [Nat.mul_comm]; omega
      rw [if_neg this]; rfl
    rw [ha]
    refine .bind .sizeOf ?_
    rintro ρ4 D4 V4 size _ hag4 hD4 ⟨rfl, -⟩
    (try dsimp only)
    by_cases h2 : c * size = 0
    · rw [if_pos h2, if_pos h2]
      refine .bind (.pure (Φ := fun _ _ a b => a = b ∧ a = #[]) ⟨rfl, rfl⟩) ?_
      rintro ρ4 D4 V4 z _ hag4 hD4 ⟨rfl, rfl⟩
      exact ms_end (by unfold big; omega) #[] (fun i v h => by simp at h)
    · rw [if_neg h2, if_neg h2]
      refine .bind (.zeroValue hP) ?_
      rintro ρ4 D4 V4 z _ hag4 hD4 ⟨rfl, hz⟩
      refine .bind (.pure (Φ := fun _ _ a b => a = b ∧ a = z.cells) ⟨rfl, rfl⟩) ?_
      rintro ρ5 D5 V5 z' _ hag5 hD5 ⟨rfl, rfl⟩
      exact ms_end (by unfold big; omega) _ (flatN_cells hz)
  · exact .stuck

theorem Sim.makeFunc {fn : Fn} {xs xs' ys ys' : Array Value} (hf : ∀ l, fn ≠ .yield l) (hx : ARel ρ D xs xs') (hy : ARel ρ D ys ys') : Sim P ρ D V (Instr.makeFunc fn xs ys) (Instr.makeFunc fn xs' ys') VR :=
  .pure (.func (.same hf) hx.1 hx.2 hy.1 hy.2)
end Go.Vm
