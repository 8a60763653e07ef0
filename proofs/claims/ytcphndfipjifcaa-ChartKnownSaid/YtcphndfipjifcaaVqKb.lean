/- Maps that are written. -/
import Derived.Test.YtcphndfipjifcaaVqKa
namespace Go.Vm
variable {P : Program} {ρ ρ1 ρ2 : Ren} {D D1 : Nat → Prop} {V V1 : View} {w w1 : World}

theorem LRel.set' {α β : Type} {R : α → β → Prop} {xs : List α} {ys : List β} (h : LRel R xs ys) {v : α} {v' : β} (hv : R v v') : ∀ (i : Nat), LRel R (xs.set i v) (ys.set i v') := by
  induction h with
  | nil => intro i; exact .nil
  | cons hx ht ih =>
    intro i
    cases i with
    | zero => exact .cons hv ht
    | succ i => exact .cons hx (ih i)
theorem LRel.erase {α β : Type} {R : α → β → Prop} {xs : List α} {ys : List β} (h : LRel R xs ys) : ∀ (i : Nat), LRel R (xs.eraseIdx i) (ys.eraseIdx i) := by
  induction h with
  | nil => intro i; exact .nil
  | cons hx ht ih =>
    intro i
    cases i with
    | zero => exact ht
    | succ i => exact .cons hx (ih i)
theorem LRel.snoc {α β : Type} {R : α → β → Prop} {xs : List α} {ys : List β} (h : LRel R xs ys) {v : α} {v' : β} (hv : R v v') : LRel R (xs ++ [v]) (ys ++ [v']) := by
  induction h with
  | nil => exact .cons hv .nil
  | cons hx _ ih => exact .cons hx ih
theorem modify_eq {es : Array MapEntry} {i : Nat} {e : MapEntry} (f : MapEntry → MapEntry) (h : es.toList[i]? = some e) : (es.modify i f).toList = es.toList.set i (f e) := by
  have h' : es[i]? = some e := by simpa using h
  obtain ⟨hlt, he⟩ := Array.getElem?_eq_some_iff.1 h'
  apply List.ext_getElem?
  intro k
  rw [Array.getElem?_toList, Array.getElem?_modify, List.getElem?_set]
  by_cases hk : i = k
  · subst hk; simp [hlt, he]
  · simp [hk]
theorem run_getMap {r c : Nat} {es : Array MapEntry} (h : w.heap[r]? = some (.map es c)) : (Go.getObj r).run P w = .ok (.map es c) w := by simp [Go.getObj, Sem.run, h]
theorem run_setMap {r c : Nat} {es : Array MapEntry} (h : w.heap[r]? = some (.map es c)) (o : Obj) : (Go.setObj r o).run P w = .ok () { w with heap := w.heap.setIfInBounds r o } := by simp [Go.setObj, Sem.run, h]

theorem mapEntry_sound (hP : Good P) {t : TypeId} {m m' k v : Value} (h : mapEntryV P t m k V = some (v, V1)) (hm : VRel ρ D m m') (hw : WRel P ρ D V.get w) :
    flat k = true ∧ ∃ v' w1, (Instr.mapEntry t m' k).run P w = .ok v' w1 ∧ Stepped P ρ D V.get V.next w ρ V1.get V1.next w1 ∧ VRel ρ D v v' := by
  unfold mapEntryV at h
  split at h
  case h_2 => cases h
  rename_i d elem hkk
  obtain ⟨kt, hu, hk, hs⟩ := key_kind hkk
  split at h
  case h_2 => cases h
  rename_i r
  split at h
  case h_2 => cases h
  rename_i es clock hf
  split at h
  case h_2 => cases h
  rename_i hfl
  refine ⟨hfl, ?_⟩
  rcases hm.mapInv with ⟨e, _⟩ | ⟨r0, e, hr, rfl⟩
  · cases e
  cases e
  obtain ⟨es', hh, hrel, hset⟩ := map_set hw hf
  split at h
  · rename_i i v0 hfn
    split at h
    case h_2 => cases h
    rename_i en hen
    split at h
    case h_2 => cases h
    rename_i hsame
    simp only [Bool.and_eq_true] at hsame
    obtain ⟨hflk, hsame⟩ := hsame
    cases h
    obtain ⟨r', h1, ⟨h2, _⟩ | ⟨j', a, a', h2, rfl, h4⟩⟩ := findNow_rel hrel 0 _ hfn
    · cases h2
    cases h2
    obtain ⟨en', hen', her⟩ := hrel.get i en hen
    have hk1 : es'[i]? = some en' := by simpa using hen'
    have hkey : en'.key = en.key := her.key.flatEq hflk
    -- the entry's value is the one found
    have hval : ∀ (es : List MapEntry) (i n : Nat) (v : Value), Instr.findNow d k es n = some (some (i + n, v)) → ∀ e, es[i]? = some e → v = e.val := by
      intro es
      induction es with
      | nil => intro i n v h; simp [Instr.findNow] at h
      | cons e es ih =>
        intro i n v h x hx
        simp only [Instr.findNow] at h
        split at h
        · simp only [Option.some.injEq, Prod.mk.injEq] at h
          have : i = 0 := by omega
          subst this
          simp at hx
          rw [← hx]; exact h.2.symm
        · cases i with
          | zero =>
            exfalso
            have : ∀ (es : List MapEntry) (n m : Nat) (v : Value), Instr.findNow d k es n = some (some (m, v)) → n ≤ m := by
              intro es
              induction es with
              | nil => intro n m v h; simp [Instr.findNow] at h
              | cons e es ih =>
                intro n m v h
                simp only [Instr.findNow] at h
                split at h
                · simp at h; omega
                · have := ih _ _ _ h; omega
                · cases h
            have := this _ _ _ _ h
            omega
          | succ i => exact ih i (n + 1) v (by rw [h]; congr 3; omega) x (by simpa using hx)
        · cases h
    have hva : a' = en'.val := hval es'.toList i 0 a' h1 en' hen'
    have hst : (Instr.keyThatStays en'.key k).run P w = .ok k w := by
      unfold Instr.keyThatStays
      rw [hkey, if_pos hsame]
      rfl
    refine ⟨.tuple #[a', goInt en'.born], _, ?_, hset (es.toList.set i { en with key := k }) (es'.modify i fun e => { e with key := k }) clock (by rw [modify_eq _ hen']; exact hrel.set' (v := { en with key := k }) (v' := { en' with key := k }) ⟨.flat hfl, her.val, her.born⟩ i), ?_⟩
    · simp only [Instr.mapEntry, Sem.run_bind, run_und hu, Result.andThen, run_getMap hh, checkKey_run hk hs, findKey_run hk h1, hk1, Option.map_some, Option.getD_some, hst, run_setMap hh]
      rfl
    · subst hva
      refine .tuple rfl fun i x y hx hy => ?_
      match i with
      | 0 => simp at hx hy; subst hx hy; exact her.val
      | 1 => simp at hx hy; subst hx hy; rw [her.born]; exact .flat rfl
      | i + 2 => simp at hx
  · rename_i hfn
    split at h
    case h_2 => cases h
    rename_i z hz
    cases h
    obtain ⟨r', h1, ⟨_, rfl⟩ | ⟨j', a, a', h2, _⟩⟩ := findNow_rel hrel 0 _ hfn
    · obtain ⟨inf, hi, hz'⟩ := zero_of hz
      have hfz := hP.zero _ _ _ hi hz'
      refine ⟨.tuple #[z, goInt clock], _, ?_, hset (es.toList ++ [{ key := k, val := z, born := clock }]) (es'.push { key := k, val := z, born := clock }) (clock + 1) (by simp only [Array.toList_push]; exact hrel.snoc ⟨.flat hfl, VRel.of_flatN 3 z hfz, rfl⟩), ?_⟩
      · simp only [Instr.mapEntry, Sem.run_bind, run_und hu, Result.andThen, run_getMap hh, checkKey_run hk hs, findKey_run hk h1, run_zer hi hz', run_setMap hh]
        rfl
      · refine .tuple rfl fun i x y hx hy => ?_
        match i with
        | 0 => simp at hx hy; subst hx hy; exact VRel.of_flatN 3 z hfz
        | 1 => simp at hx hy; subst hx hy; exact .flat rfl
        | i + 2 => simp at hx
    · cases h2
  · cases h

theorem born_eq (b : Int) : ∀ (es : List MapEntry) (n : Nat), bornAt b es n = (es.findIdx? fun e => (e.born : Int) == b).map (· + n)
  | [], n => rfl
  | e :: es, n => by
    simp only [bornAt, List.findIdx?_cons]
    by_cases h : (e.born : Int) = b
    · simp [h]
    · simp only [h, decide_false, beq_iff_eq, if_false]
      rw [born_eq b es (n + 1)]
      cases (es.findIdx? fun e => (e.born : Int) == b) <;> simp <;> omega
theorem born_rel {b : Int} {es es' : List MapEntry} (h : LRel (MRel ρ D) es es') : (es.findIdx? fun e => (e.born : Int) == b) = es'.findIdx? fun e => (e.born : Int) == b := by
  induction h with
  | nil => rfl
  | cons he _ ih => simp only [List.findIdx?_cons, he.born, ih]
theorem entryStore_sound {t : TypeId} {m m' s s' x x' : Value} (h : entryStoreV m s x V = some V1) (hm : VRel ρ D m m') (hs : VRel ρ D s s') (hx : VRel ρ D x x') (hw : WRel P ρ D V.get w) :
    ∃ w1, (Instr.entryStore t m' s' x').run P w = .ok () w1 ∧ Stepped P ρ D V.get V.next w ρ V1.get V1.next w1 := by
  unfold entryStoreV at h
  split at h
  case h_2 => cases h
  rename_i r kd born
  have hs' := hs.flatEq rfl
  subst hs'
  split at h
  case h_2 => cases h
  rename_i es clock hf
  split at h
  case h_2 => cases h
  rename_i i hb
  split at h
  case h_2 => cases h
  rename_i en hen
  cases h
  rcases hm.mapInv with ⟨e, _⟩ | ⟨r0, e, hr, rfl⟩
  · cases e
  cases e
  obtain ⟨es', hh, hrel, hset⟩ := map_set hw hf
  obtain ⟨en', hen', her⟩ := hrel.get i en hen
  have hbi : es'.findIdx? (fun e => (e.born : Int) == born) = some i := by
    have : (es'.toList.findIdx? fun e => (e.born : Int) == born) = some i := by
      rw [← born_rel hrel]
      rw [born_eq] at hb
      cases hq : es.toList.findIdx? (fun e => (e.born : Int) == born) with
      | none => rw [hq] at hb; cases hb
      | some q => rw [hq] at hb; simp at hb; rw [hb]
    obtain ⟨l⟩ := es'
    simpa using this
  refine ⟨_, ?_, hset (es.toList.set i { en with val := x }) (es'.modify i fun e => { e with val := x' }) clock (by rw [modify_eq _ hen']; exact hrel.set' (v := { en with val := x }) (v' := { en' with val := x' }) ⟨her.key, hx, her.born⟩ i)⟩
  simp [Instr.entryStore, Sem.run_bind, run_getMap hh, Result.andThen, Go.asInt, Go.asIntOf, hbi, run_setMap hh]

theorem delete_sound {ts : Array TypeId} {tt t : TypeId} (ht : ts[0]? = some t) {m m' k : Value} (h : deleteV P t m k V = some V1) (hm : VRel ρ D m m') (hw : WRel P ρ D V.get w) :
    ∃ w1, (Builtin.delete_ ts tt #[m', k]).run P w = .ok (.tuple #[]) w1 ∧ Stepped P ρ D V.get V.next w ρ V1.get V1.next w1 := by
  unfold deleteV at h
  split at h
  case h_2 => cases h
  rename_i d elem hkk
  obtain ⟨kt, hu, hk, hs⟩ := key_kind hkk
  split at h
  · cases h
    have : m' = .map none := hm.flatEq rfl
    subst this
    exact ⟨w, by simp [Builtin.delete_, ht, Sem.run_bind, run_und hu, Result.andThen, checkKey_run hk hs], .refl hw⟩
  · rename_i r
    split at h
    case h_2 => cases h
    rename_i es clock hf
    rcases hm.mapInv with ⟨e, _⟩ | ⟨r0, e, hr, rfl⟩
    · cases e
    cases e
    obtain ⟨es', hh, hrel, hset⟩ := map_set hw hf
    split at h
    · rename_i i v0 hfn
      cases h
      obtain ⟨r', h1, ⟨h2, _⟩ | ⟨j', a, a', h2, rfl, h4⟩⟩ := findNow_rel hrel 0 _ hfn
      · cases h2
      cases h2
      have herase : (es'.eraseIdxIfInBounds i).toList = es'.toList.eraseIdx i := by
        unfold Array.eraseIdxIfInBounds
        split
        · simp
        · rename_i hlt
          rw [List.eraseIdx_of_length_le (by simpa using hlt)]
      refine ⟨_, ?_, hset (es.toList.eraseIdx i) (es'.eraseIdxIfInBounds i) clock (by rw [herase]; exact hrel.erase i)⟩
      simp [Builtin.delete_, ht, Sem.run_bind, run_und hu, Result.andThen, checkKey_run hk hs, run_getMap hh, findKey_run hk h1, run_setMap hh]
    · rename_i hfn
      cases h
      obtain ⟨r', h1, ⟨_, rfl⟩ | ⟨j', a, a', h2, _⟩⟩ := findNow_rel hrel 0 _ hfn
      · refine ⟨_, ?_, hset es.toList es' clock hrel⟩
        simp [Builtin.delete_, ht, Sem.run_bind, run_und hu, Result.andThen, checkKey_run hk hs, run_getMap hh, findKey_run hk h1, run_setMap hh]
      · cases h2
    · cases h
  · cases h
theorem clear_sound {ts : Array TypeId} {tt t : TypeId} (ht : ts[0]? = some t) {m' : Value} {r : Nat} (h : clearMapV P t r V = some V1) (hm : VRel ρ D (.map (some r)) m') (hw : WRel P ρ D V.get w) :
    ∃ w1, (Builtin.clear_ ts tt #[m']).run P w = .ok (.tuple #[]) w1 ∧ Stepped P ρ D V.get V.next w ρ V1.get V1.next w1 := by
  unfold clearMapV at h
  split at h
  case h_2 => cases h
  rename_i d hu
  split at h
  case h_2 => cases h
  rename_i es clock hf
  cases h
  rcases hm.mapInv with ⟨e, _⟩ | ⟨r0, e, hr, rfl⟩
  · cases e
  cases e
  obtain ⟨es', hh, hrel, hset⟩ := map_set hw hf
  refine ⟨_, ?_, hset [] #[] clock .nil⟩
  simp [Builtin.clear_, ht, Sem.run_bind, run_und hu, Result.andThen, run_getMap hh, run_setMap hh]
theorem Sim.makeMap {t : TypeId} : Sim P ρ D V (Instr.makeMap t none) (Instr.makeMap t none) VR := by
  unfold Instr.makeMap
  refine .map (.newObj rfl fun _ _ _ _ _ => .map .nil) ?_
  rintro ρ1 D1 r _ _ _ ⟨h1, rfl⟩
  exact .map h1
end Go.Vm
