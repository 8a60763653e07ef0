/- The machine of the small memory whose loops leave nothing behind: at a round's end new blocks are forgotten, and their numbers are free again. -/
import Derived.Test.YtomokhdkagedpaaVjG2
set_option linter.unusedVariables false
namespace Go.Vm
set_option maxRecDepth 100000

/-- in place of what is not known any more -/
abbrev junkV : Value := .iface 0 (.chan (some 0))
mutual
/-- what names a block from n on is forgotten -/
def scrubV (n : Nat) : Value → Value
  | .pointer (some a) => match Nat.blt a.block n with
    | true => .pointer (some a)
    | false => junkV
  | .slice (some a) l c => match Nat.blt a.block n with
    | true => .slice (some a) l c
    | false => junkV
  | .map (some r) => match Nat.blt r n with
    | true => .map (some r)
    | false => junkV
  | .func fn xs ys => match fn with
    | .yield l => match Nat.blt l n with
      | true => .func fn (scrubA n xs) (scrubA n ys)
      | false => junkV
    | fn => .func fn (scrubA n xs) (scrubA n ys)
  | .agg xs => .agg (scrubA n xs)
  | .tuple xs => .tuple (scrubA n xs)
  | .iface t v => .iface t (scrubV n v)
  | v => v
def scrubA (n : Nat) : Array Value → Array Value
  | ⟨l⟩ => ⟨scrubL n l⟩
def scrubL (n : Nat) : List Value → List Value
  | [] => []
  | v :: r => scrubV n v :: scrubL n r
end
theorem scrubL_map (n : Nat) : ∀ l, scrubL n l = l.map (scrubV n)
  | [] => by simp [scrubL]
  | v :: r => by simp [scrubL, scrubL_map n r]
theorem scrubA_get (n : Nat) (xs : Array Value) (i : Nat) : (scrubA n xs)[i]? = xs[i]?.map (scrubV n) := by
  obtain ⟨l⟩ := xs
  simp [scrubA, scrubL_map]
theorem scrubA_size (n : Nat) (xs : Array Value) : (scrubA n xs).size = xs.size := by
  obtain ⟨l⟩ := xs
  simp [scrubA, scrubL_map]
section
variable {ρ ρ1 : Ren} {D : Nat → Prop} {n m : Nat}
theorem scrub_arr {xs xs' : Array Value} (h1 : xs.size = xs'.size) (ih : ∀ (i : Nat) (v v' : Value), xs[i]? = some v → xs'[i]? = some v' → VRel ρ D (scrubV n v) v') :
    (scrubA n xs).size = xs'.size ∧ ∀ (i : Nat) (v v' : Value), (scrubA n xs)[i]? = some v → xs'[i]? = some v' → VRel ρ D v v' := by
  refine ⟨by rw [scrubA_size, h1], fun i v v' hv hv' => ?_⟩
  rw [scrubA_get] at hv
  cases hx : xs[i]? with
  | none => rw [hx] at hv; cases hv
  | some x => rw [hx] at hv; cases hv; exact ih i x v' hx hv'
theorem scrub_rel (hag : Agree ρ ρ1 D) {v v' : Value} (h : VRel ρ1 (grow D n m) v v') : VRel ρ D (scrubV n v) v' := by
  have low : ∀ {b : Nat}, grow D n m b → b < n → D b := fun h hb => by
    rcases h with h | h
    · exact h
    · omega
  induction h with
  | flat hf =>
    rename_i v
    have : scrubV n v = v := by
      cases v with
      | pointer o => cases o <;> first | rfl | (simp [Vm.flat] at hf)
      | slice o l c => cases o <;> first | rfl | (simp [Vm.flat] at hf)
      | map o => cases o <;> first | rfl | (simp [Vm.flat] at hf)
      | _ => first | rfl | (simp [Vm.flat] at hf)
    rw [this]; exact .flat hf
  | ptr ha =>
    rename_i a
    unfold scrubV
    split
    · rename_i hb
      have hd := low ha (by simpa [Nat.blt_eq] using hb)
      rw [hag.addr hd]; exact .ptr hd
    · exact .junk rfl
  | slice ha hc =>
    unfold scrubV
    split
    · rename_i hb
      have hd := low ha (by simpa [Nat.blt_eq] using hb)
      rw [hag.addr hd]; exact .slice hd hc
    · exact .junk rfl
  | grown ha hl hs =>
    unfold scrubV
    split
    · rename_i hb
      have hd := low ha (by simpa [Nat.blt_eq] using hb)
      rw [hag.addr hd]; exact .grown hd hl (by rw [← hag.es _ hd, ← hag.sz _ hd]; exact hs)
    · exact .junk rfl
  | map hr =>
    unfold scrubV
    split
    · rename_i hb
      have hd := low hr (by simpa [Nat.blt_eq] using hb)
      rw [hag.b _ hd]; exact .map hd
    · exact .junk rfl
  | func hf h1 _ h3 _ ih1 ih2 =>
    obtain ⟨k1, k2⟩ := scrub_arr h1 ih1
    obtain ⟨k3, k4⟩ := scrub_arr h3 ih2
    unfold scrubV
    cases hf with
    | same hn =>
      split
      · exact absurd rfl (hn _)
      · exact .func (.same hn) k1 k2 k3 k4
    | yield hl =>
      simp only
      split
      · rename_i hb
        have hd := low hl (by simpa [Nat.blt_eq] using hb)
        rw [hag.b _ hd]; exact .func (.yield hd) k1 k2 k3 k4
      · exact .junk rfl
  | agg h1 _ ih => obtain ⟨k1, k2⟩ := scrub_arr h1 ih; unfold scrubV; exact .agg k1 k2
  | tuple h1 _ ih => obtain ⟨k1, k2⟩ := scrub_arr h1 ih; unfold scrubV; exact .tuple k1 k2
  | iface _ ih => unfold scrubV; exact .iface ih
  | junk h => exact .junk h
end
/-- an object that names no block from n on -/
def CleanO (n : Nat) : Obj → Prop
  | .cells c _ _ => ∀ (i : Nat) (v : Value), c[i]? = some v → scrubV n v = v
  | .map es _ => ∀ e, e ∈ es.toList → scrubV n e.key = e.key ∧ scrubV n e.val = e.val
  | .loop r => r.defers < n ∧ ∀ (i : Nat) (v : Value), r.tmps[i]? = some v → scrubV n v = v
  | _ => True
def Clean (n : Nat) (l : List (Nat × Obj)) : Prop := ∀ b o, find l b = some o → b < n ∧ CleanO n o
section
variable {ρ ρ1 : Ren} {D : Nat → Prop} {n m k : Nat} {w w1 : World} {V : View}
theorem LRel.imp {α β : Type} {R S : α → β → Prop} {l : List α} {l' : List β} (h : LRel R l l') (hi : ∀ x y, x ∈ l → R x y → S x y) : LRel S l l' := by
  induction h with
  | nil => exact .nil
  | cons hx _ ih => exact .cons (hi _ _ (by simp) hx) (ih fun x y hm => hi x y (by simp [hm]))
theorem clean_rel (hag : Agree ρ ρ1 D) {v v' : Value} (hc : scrubV n v = v) (h : VRel ρ1 (grow D n m) v v') : VRel ρ D v v' := by
  have := scrub_rel hag h
  rwa [hc] at this
theorem clean_obj (hag : Agree ρ ρ1 D) (hk : D k) {o o' : Obj} (hc : CleanO n o) (h : ORel TP ρ1 (grow D n m) k o o') : ORel TP ρ D k o o' := by
  cases h with
  | cells hsz hes hle hv =>
    exact .cells (by rw [hsz, hag.sz _ hk]) (by rw [hes, hag.es _ hk]) hle fun i v hi => by
      obtain ⟨v', h1, h2⟩ := hv i v hi
      exact ⟨v', h1, clean_rel hag (hc i v hi) h2⟩
  | map hm => exact .map (hm.imp fun x y hx r => ⟨clean_rel hag (hc x hx).1 r.key, clean_rel hag (hc x hx).2 r.val, r.born⟩)
  | loop hl =>
    obtain ⟨h1, h2⟩ := hc
    obtain ⟨s, p, t, q, a, b, d1, d2⟩ := hl
    have hd : D _ := (by rcases d1 with d1 | d1
                         · exact d1
                         · omega)
    exact .loop ⟨s, p, ⟨t.1, fun i x y hx hy => clean_rel hag (h2 i x hx) (t.2 i x y hx hy)⟩, q, a, b, hd, by rw [d2, hag.b _ hd]⟩
  | deferred => exact .deferred
theorem clean_world (hag : Agree ρ ρ1 D) {V1 : View} {l : List (Nat × Obj)} (hl : ∀ b o, find l b = some o → find V1.objs b = some o) (hc : Clean n l) (h : WRel TP ρ1 (grow D n m) V1.get w1) : WRel TP ρ D (View.get ⟨n, l⟩) w1 := by
  have hD : ∀ b o, find l b = some o → D b := fun b o hb => by
    rcases h.dom b o (hl b o hb) with hd | hd
    · exact hd
    · have := (hc b o hb).1; omega
  refine ⟨hD, fun b o hb => ?_, fun b o hb ho => ?_, fun b cs e fz hb hf i v hi => ?_, fun b es c hb => ?_, fun b c x y hb hcc ho hne => ?_⟩
  · have := h.real b o (hl b o hb); rwa [hag.b _ (hD b o hb)] at this
  · obtain ⟨h1, o', h2, h3⟩ := h.own b o (hl b o hb) ho
    rw [hag.b _ (hD b o hb)] at h2
    rw [hag.o _ (hD b o hb)] at h1
    exact ⟨h1, o', h2, clean_obj hag (hD b o hb) (hc b o hb).2 h3⟩
  · obtain ⟨v', h1, h2⟩ := h.ro b cs e fz (hl b _ hb) hf i v hi
    rw [hag.b _ (hD b _ hb), hag.o _ (hD b _ hb)] at h1
    exact ⟨v', h1, clean_rel hag ((hc b _ hb).2 i v hi) h2⟩
  · obtain ⟨es', c', h1, h2⟩ := h.rom b es c (hl b _ hb)
    rw [hag.b _ (hD b _ hb)] at h1
    have hcl := (hc b _ hb).2
    exact ⟨es', c', h1, h2.imp fun x y hx r => ⟨clean_rel hag (hcl x hx).1 r.key, clean_rel hag (hcl x hx).2 r.val, r.born⟩⟩
  · have := h.inj b c x y (hl b _ hb) (hl c _ hcc) ho hne
    rwa [hag.b _ (hD b _ hb), hag.b _ (hD c _ hcc)] at this
end
section
variable {ar : Option Nat} {c : Code} {ts ts1 ts2 : List Value} {df df2 : List Nat} {V V1 V2 : View} {e : Ex}
theorem CodeOK.raise (h : CodeOK TP ar c ts df V e ts1 df2 V1) (hn : V.next ≤ V1.next) {k : Nat} (hk : V1.next ≤ k) : CodeOK TP ar c ts df V e ts1 df2 ⟨k, V1.objs⟩ := by
  intro ρ D w a n Q hw ht hd ha hD hQ
  refine h ρ D w a n Q hw ht hd ha (fun b h1 h2 => hD b h1 (Nat.lt_of_lt_of_le h2 hk)) fun ρ1 a1 w1 st ht1 hd1 => ?_
  have hup : ∀ b, grow D V.next V1.next b → grow D V.next k b := fun b hb => by
    rcases hb with hb | hb
    · exact .inl hb
    · exact .inr ⟨hb.1, Nat.lt_of_lt_of_le hb.2 hk⟩
  have hag : Agree ρ1 ρ1 (grow D V.next V1.next) := ⟨fun _ _ => rfl, fun _ _ => rfl, fun _ _ => rfl, fun _ _ => rfl⟩
  refine hQ ρ1 a1 w1 ⟨Nat.le_trans hn hk, fun j hj => st.b j (fun e => hj ⟨e.1, Nat.lt_of_lt_of_le e.2 hk⟩), fun j hj => st.o j (fun e => hj ⟨e.1, Nat.lt_of_lt_of_le e.2 hk⟩), fun j hj => st.sz j (fun e => hj ⟨e.1, Nat.lt_of_lt_of_le e.2 hk⟩), fun j hj => st.es j (fun e => hj ⟨e.1, Nat.lt_of_lt_of_le e.2 hk⟩), st.rel.widen hup, st.os, st.tape, st.output, st.size, st.frame, st.fresh⟩ (ht1.ext hag hup) (hd1.ext hag hup)
/-- a round, and then the loop again, with nothing that is new -/
theorem again_ok {body : Code} {l : List (Nat × Obj)} (h1 : CodeOK TP ar body ts df V .normal ts1 df V1) (hl : ∀ b o, find l b = some o → find V1.objs b = some o) (hc : Clean V.next l)
    (h2 : LoopOK TP ar body (ts1.map (scrubV V.next)) df ⟨V.next, l⟩ e ts2 df2 V2) (hn : V1.next ≤ V2.next) (hn2 : V.next ≤ V2.next) : LoopOK TP ar body ts df V e ts2 df2 V2 := by
  intro ρ D w a n Q hw ht hd ha hD hQ
  refine at_unfold (h1 ρ D w a n _ hw ht hd ha (fun b x y => hD b x (Nat.lt_of_lt_of_le y hn)) fun ρ1 a1 w1 st ht1 hd1 => ?_)
  have hag : Agree ρ ρ1 D := st.agree (fun b x y => hD b x (Nat.lt_of_lt_of_le y hn))
  have hw1 : WRel TP ρ D (View.get ⟨V.next, l⟩) w1 := clean_world hag hl hc st.rel
  have ht2 : TRel ρ D (ts1.map (scrubV V.next)) a1.tmps := by
    have : ∀ {xs : List Value} {ys : List Value}, LRel (VRel ρ1 (grow D V.next V1.next)) xs ys → LRel (VRel ρ D) (xs.map (scrubV V.next)) ys := by
      intro xs ys h
      induction h with
      | nil => exact .nil
      | cons hx _ ih => exact .cons (scrub_rel hag hx) ih
    exact this ht1
  have hd2 : DRel ρ D df a1.defers := by
    have : ∀ {xs : List Nat} {ys zs : List Deferred}, DRel ρ D xs ys → DRel ρ1 (grow D V.next V1.next) xs zs → DRel ρ D xs zs := by
      intro xs ys zs h
      induction h generalizing zs with
      | nil => intro h2; cases h2; exact .nil
      | cons hx _ ih =>
        intro h2
        cases h2 with
        | cons hy hr => exact .cons ⟨hx.1, by rw [hy.2, hag.b _ hx.1]⟩ (ih hr)
    exact this hd hd1
  show loopAt (fence (ar.map ρ.b)) n TP body Q a1 w1
  refine h2 ρ D w1 a1 n Q hw1 ht2 hd2 ha hD fun ρ2 a2 w2 st2 ht3 hd3 => hQ ρ2 a2 w2 ?_ ht3 hd3
  have hDl : ∀ b o, find l b = some o → D b := fun b o hb => hw1.dom b o hb
  refine ⟨hn2, st2.b, st2.o, st2.sz, st2.es, st2.rel, st2.os.trans st.os, st2.tape.trans st.tape, st2.output.trans st.output, Nat.le_trans st.size st2.size, fun k hk hno => ?_, fun b o hb ho => ?_⟩
  · rw [← st.frame k hk hno]
    refine st2.frame k (Nat.lt_of_lt_of_le hk st.size) fun b o hb ho he => ?_
    have hDb := hDl b o hb
    rcases st.fresh b o (hl b o hb) ho with h3 | ⟨b0, o0, h3, h4, h5⟩
    · rw [hag.b _ hDb] at h3; omega
    · rw [hag.b _ hDb] at h5; exact hno b0 o0 h3 h4 (h5 ▸ he)
  · rcases st2.fresh b o hb ho with h3 | ⟨b0, o0, h3, h4, h5⟩
    · exact .inl (Nat.le_trans st.size h3)
    · have hDb := hDl b0 o0 h3
      rcases st.fresh b0 o0 (hl b0 o0 h3) h4 with h6 | ⟨b1, o1, h7, h8, h9⟩
      · rw [hag.b _ hDb] at h6; exact .inl (by rw [h5]; exact h6)
      · rw [hag.b _ hDb] at h9; exact .inr ⟨b1, o1, h7, h8, h5.trans h9⟩
end
def isLp : Code → Bool
  | .loop _ => true
  | _ => false
/-- how many block numbers a loop takes -/
def wOf (W : Nat) : Code → Nat
  | .loop b => 1000 * wOf W b
  | .seq a b => wOf W a + wOf W b - W
  | .cond _ a b => wOf W a + wOf W b - W
  | .block _ b => wOf W b
  | .scope b => wOf W b
  | .rangeFunc _ _ a b => 1000 * (wOf W a + wOf W b)
  | _ => W
/-- blocks below n -/
def keepB (n : Nat) : List (Nat × Obj) → List (Nat × Obj)
  | [] => []
  | (k, o) :: r => match Nat.blt k n with
    | true => (k, o) :: keepB n r
    | false => keepB n r
theorem find_keepB (n : Nat) : ∀ (L : List (Nat × Obj)) (b : Nat) (o : Obj), find (keepB n L) b = some o → find L b = some o
  | [], b, o, h => by cases h
  | (k, p) :: r, b, o, h => by
    simp only [keepB] at h
    cases hk : Nat.blt k n with
    | true =>
      rw [hk] at h
      simp only [find] at h ⊢
      cases hb : Nat.beq k b with
      | true => rw [hb] at h; exact h
      | false => rw [hb] at h; exact find_keepB n r b o h
    | false =>
      rw [hk] at h
      have h1 := find_keepB n r b o h
      have h2 : ∀ (L : List (Nat × Obj)) (b : Nat) (o : Obj), find (keepB n L) b = some o → Nat.blt b n = true := by
        intro L
        induction L with
        | nil => intro b o h; cases h
        | cons p L ih =>
          intro b o h
          obtain ⟨k', p'⟩ := p
          simp only [keepB] at h
          cases hk' : Nat.blt k' n with
          | true =>
            rw [hk'] at h
            simp only [find] at h
            cases hb : Nat.beq k' b with
            | true => rw [← Nat.eq_of_beq_eq_true hb]; exact hk'
            | false => rw [hb] at h; exact ih b o h
          | false => rw [hk'] at h; exact ih b o h
      have h3 := h2 r b o h
      simp only [find]
      cases hb : Nat.beq k b with
      | true => rw [← Nat.eq_of_beq_eq_true hb, hk] at h3; cases h3
      | false => exact h1
def keepQ (K : List Nat) (n : Nat) (l : List (Nat × Obj)) : List (Nat × Obj) := keepB n (keepL K l)
theorem find_keepQ (K : List Nat) (n : Nat) (L : List (Nat × Obj)) (b : Nat) (o : Obj) (h : find (keepQ K n L) b = some o) : find L b = some o := (find_keepL K L b o (find_keepB n _ b o h)).2
def keepV (K : List Nat) (n : Nat) (V : View) : View := ⟨n, keepQ K n V.objs⟩
open Classical in
noncomputable def loopQ (K : List Nat) (W : Nat) (sf : Job → Option Out) (ar : Option Nat) (body : Code) (ts : List Value) (df : List Nat) (V : View) : Option Out := match isLp body with
  | true => none
  | false => match sf (.code ar body ts df V) with
    | some (.code e ts1 df1 V1) => match e with
      | .normal => if V1.next ≤ V.next + wOf W (.loop body) ∧ df1 = df ∧ Clean V.next (keepQ K V.next V1.objs) then sf (.code ar (.loop body) (ts1.map (scrubV V.next)) df (keepV K V.next V1)) else none
      | e => if V1.next ≤ V.next + wOf W (.loop body) then some (.code e ts1 df1 ⟨V.next + wOf W (.loop body), V1.objs⟩) else none
    | _ => none
noncomputable def stepQ (K : List Nat) (W : Nat) (sf : Job → Option Out) (j : Job) : Option Out := match j with
  | .code ar c ts df V => match c with
    | .loop body => loopQ K W sf ar body ts df V
    | _ => step TP sf j
  | j => step TP sf j
structure QOK (W : Nat) (sf : Job → Option Out) : Prop where
  ok : SelfOK TP sf
  lp : ∀ ar c ts df V e ts1 df1 V1, sf (.code ar (.loop c) ts df V) = some (.code e ts1 df1 V1) → V1.next = V.next + wOf W (.loop c)
theorem loopQ_ok {K : List Nat} {W : Nat} {sf : Job → Option Out} (h : QOK W sf) {ar : Option Nat} {body : Code} {ts : List Value} {df : List Nat} {V : View} {e : Ex} {ts1 : List Value} {df1 : List Nat} {V1 : View}
    (hj : loopQ K W sf ar body ts df V = some (.code e ts1 df1 V1)) : V1.next = V.next + wOf W (.loop body) ∧ LoopOK TP ar body ts df V e ts1 df1 V1 := by
  unfold loopQ at hj
  split at hj
  · cases hj
  split at hj
  case h_2 => cases hj
  rename_i e2 ts2 df2 V2 hb
  obtain ⟨hn, hcode⟩ := h.ok.code _ _ _ _ _ _ _ _ _ hb
  split at hj
  · split at hj
    · rename_i hc
      obtain ⟨c1, rfl, c3⟩ := hc
      have h3 := h.lp _ _ _ _ _ _ _ _ _ hj
      have h3' : V1.next = V.next + wOf W (.loop body) := h3
      exact ⟨h3', again_ok hcode (fun b o hb => find_keepQ K V.next V2.objs b o hb) c3 (h.ok.loop _ _ _ _ _ _ _ _ _ hj) (by omega) (by omega)⟩
    · cases hj
  · rename_i e3 hne
    split at hj
    · rename_i hc
      cases hj
      refine ⟨rfl, fun ρ D w a n Q hw ht hd ha hD hQ => at_unfold (hcode.raise hn hc ρ D w a n _ hw ht hd ha hD fun ρ1 a1 w1 st ht1 hd1 => ?_)⟩
      have := hQ ρ1 a1 w1 st ht1 hd1
      cases e with
      | normal => exact absurd rfl hne
      | exit id => exact this
      | ret => exact this
    · cases hj
theorem stepQ_ok {K : List Nat} {W : Nat} {sf : Job → Option Out} (h : QOK W sf) : QOK W (stepQ K W sf) := by
  have h1 := step_ok good_TP h.ok
  refine ⟨⟨fun ar c ts df V e ts1 df1 V1 hj => ?_, fun ar c ts df V e ts1 df1 V1 hj => (loopQ_ok h hj).2, fun f args V v V1 hj => h1.call f args V v V1 hj⟩, fun ar c ts df V e ts1 df1 V1 hj => (loopQ_ok h hj).1⟩
  simp only [stepQ] at hj
  split at hj
  · obtain ⟨h2, h3⟩ := loopQ_ok h hj
    exact ⟨by omega, fun ρ D w a n Q hw ht hd ha hD hQ => loop_of_at (h3 ρ D w a n Q hw ht hd ha hD hQ)⟩
  · exact h1.code _ _ _ _ _ _ _ _ _ hj
noncomputable def rmQ (memo : Job → Option Out) (K : List Nat) (W : Nat) : Nat → Job → Option Out
  | 0, _ => none
  | n + 1, j => orF memo (stepQ K W (rmQ memo K W n)) j
theorem rmQ_qok {memo : Job → Option Out} {K : List Nat} {W : Nat} (hs : SelfOK TP memo) (hm : ∀ ar c ts df V, memo (.code ar c ts df V) = none) : ∀ n, QOK W (rmQ memo K W n) := by
  intro n
  induction n with
  | zero => exact ⟨SelfOK.nothing, fun _ _ _ _ _ _ _ _ _ h => by cases h⟩
  | succ n ih =>
    have h1 := stepQ_ok (K := K) ih
    refine ⟨SelfOK.or hs h1.ok, fun ar c ts df V e ts1 df1 V1 hj => ?_⟩
    rw [rmQ, orF, hm] at hj
    exact h1.lp _ _ _ _ _ _ _ _ _ hj
theorem rmQ_ok {memo : Job → Option Out} {K : List Nat} {W : Nat} (hs : SelfOK TP memo) (hm : ∀ ar c ts df V, memo (.code ar c ts df V) = none) (n : Nat) : SelfOK TP (rmQ memo K W n) := (rmQ_qok hs hm n).ok
theorem rmQ_memo {memo : Job → Option Out} {K : List Nat} {W N : Nat} : ∀ j r, memo j = some r → rmQ memo K W (N + 1) j = some r := fun j r h => by rw [rmQ, orF, h]
end Go.Vm
