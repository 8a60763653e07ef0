/- The quick machine: a region that draws its order is what the machine tells. -/
import Derived.Test.YtcphndfipjifcaaVqGh
namespace Go.Vm
theorem after_none {sf : Job → Option Out} {r : Option (Next × View)} {x : Value × View} (h : after (fun _ => none) r = some x) : after sf r = some x := by
  unfold after at h ⊢
  split at h
  · exact h
  · exact h
  · cases h
  · cases h
  · cases h
theorem fLoad_at {P : Program} {t : TypeId} {b o n : Nat} {objs : Objs} {l : List Value} {e : TypeId} {fz : Nat × Nat} {v : Value} (hf : find objs b = some (.cells ⟨l⟩ e fz))
    (h : (aggB P t = some false ∧ l[o]? = some v) ∨ (aggB P t = some true ∧ ∃ i c, P.info? t = some i ∧ cut i.size (l.drop o) = some c ∧ v = .agg ⟨c⟩)) : fLoad P t (.pointer (some ⟨b, o, none⟩)) ⟨n, objs⟩ = some v := by
  have h3 : cellAt ⟨n, objs⟩ ⟨b, o, none⟩ = some (⟨l⟩ : Array Value) := by simp only [cellAt, hf]
  rcases h with ⟨ht, h2⟩ | ⟨ht, i, c, hi, h2, rfl⟩
  · simp only [fLoad, h3, fLoadA, ht]; simpa using h2
  · simp only [fLoad, h3, fLoadA, ht, hi, fLoadN, h2]
/-- what an operation does among others that come in any order -/
def DoneD (sf : Job → Option Out) (e : Operand → Value) (o : Oper) (A : Nat) (tot : Bool) (recs : List Rec) (n : Nat) (m : Objs) (K : KD) : Prop :=
  ((isAll (footOf e o) && tot) = true ∧ ∃ v V1, after sf (runOp TP e o ⟨n, m⟩) = some (v, V1) ∧ inb V1.next V1.objs = true ∧ K (repD V1.next (recs.length + 1)) [] v V1.next V1.objs = true) ∨
  ((isAll (footOf e o) && tot) = false ∧ ∃ Vi wr v Vo, viewFor A recs ⟨n, m⟩ (footOf e o) = some (Vi, wr) ∧ after sf (runOp TP e o Vi) = some (v, Vo) ∧ goodOut n wr Vo.next Vo.objs = true ∧ inb Vo.next (newer n Vo.objs (turned wr Vo m)) = true ∧
    K (⟨Vi, undef, Vo, wr⟩ :: recs.map strip) (keep (⟨Vi, undef, Vo, wr⟩ :: recs.map strip)) v Vo.next (newer n Vo.objs (turned wr Vo m)) = true)
section
variable {sf : Job → Option Out} {S : Sf} {nt : Nat} {env : Env} {ts : List Value} {o : Oper} {n A : Nat} {m : Objs} {K : KD} {recs : List Rec} {tot : Bool}
theorem dull_dl (n : Nat) : dull (dl n) = true := Nat.ble_eq_true_of_le (Nat.le_refl _)
theorem keep_dl (n : Nat) (l : List Rec) : keep (dl n :: l) = keep l := by simp only [keep, dull_dl]
theorem pureD {v : Value} (hp : PureOK TP (ev ts) o v) (hn : inb n m = true) (hk : K (dl n :: recs.map strip) (keep (recs.map strip)) v n m = true) : DoneD sf (ev ts) o A tot recs n m K := by
  refine .inr ⟨by rw [hp.foot]; rfl, ⟨n, []⟩, none, v, ⟨n, []⟩, by rw [hp.foot]; rfl, by rw [hp.run]; rfl, rfl, hn, ?_⟩
  show K (dl n :: recs.map strip) (keep (dl n :: recs.map strip)) v n m = true
  rw [keep_dl]; exact hk
theorem slowD_done (h : ERel nt env ts) {i : Nat} (hr : slowD nt o A i (recs.map strip) (keep (recs.map strip)) env n m K = true) : DoneD sf (ev ts) o A tot recs n m K := by
  unfold slowD at hr
  rw [evE_eq h] at hr
  split at hr
  · cases hr
  · rename_i hall
    rw [view_strip] at hr
    split at hr
    case h_2 => cases hr
    rename_i Vi wr hv
    split at hr
    case h_2 => cases hr
    rename_i v Vo ha
    rcases ifB_true hr with ⟨hg, hr⟩ | ⟨_, hr⟩
    case inr => cases hr
    rw [fV_eq, fN_eq] at hr
    rcases ifB_true hr with ⟨hi, hr⟩ | ⟨_, hr⟩
    case inr => cases hr
    rw [inbG_eq] at hi
    exact .inr ⟨by rw [hall]; rfl, Vi, wr, v, Vo, hv, after_none ha, hg, hi, hr⟩
theorem ldD_done (h : ERel nt env ts) {t : TypeId} {a : Operand} {d : Option Tmp} {ty : TypeId} {pos : String} {aft : Array Edge} {gd : Option (Nat × Bool)} {rd : Nat → List Value → (Value → Bool) → Bool} {s : Bool}
    (hrd : ∀ o l k, rd o l k = true → ∃ v, k v = true ∧ ((aggB TP t = some false ∧ l[o]? = some v) ∨ (aggB TP t = some true ∧ ∃ i c, TP.info? t = some i ∧ cut i.size (l.drop o) = some c ∧ v = .agg ⟨c⟩)))
    (ha : okSlot nt a = true) (hn : inb n m = true) (hr : ldD (opdD a) A (recs.map strip) (keep (recs.map strip)) env n m rd K s = true) : DoneD sf (ev ts) ⟨d, .load t a, ty, pos, aft, gd⟩ A tot recs n m K ∨ s = true := by
  unfold ldD at hr
  rw [getO_eq h ha] at hr
  rcases asPtr_true hr with ⟨b, o, hb, hr⟩ | hr
  case inr => exact .inr hr
  rcases ifB_true hr with ⟨_, hr⟩ | ⟨hh, hr⟩
  · exact .inr hr
  rw [hidG_eq, hid_strip] at hh
  obtain ⟨ob, hf, hr⟩ := findK_true hr
  obtain ⟨l, e, x, y, hob, hr2⟩ := asCells_true hr
  subst hob
  obtain ⟨v, hk, hv⟩ := hrd _ _ _ hr2
  refine .inl (.inr ⟨rfl, ⟨n, [(b, .cells ⟨l⟩ e (0, 1))]⟩, none, v, ⟨n, [(b, .cells ⟨l⟩ e (0, 1))]⟩, ?_, ?_, ?_, ?_, ?_⟩)
  · have hf' : find (View.objs ⟨n, m⟩) b = some (.cells ⟨l⟩ e (x, y)) := hf
    simp only [footOf, hb, blockOf, viewFor, anyHid, hh, Bool.or_false, pick1, hf', isWr, freezeAll, List.append_nil]
  · have : fLoad TP t (ev ts a) ⟨n, [(b, .cells ⟨l⟩ e (0, 1))]⟩ = some v := by
      rw [hb]
      exact fLoad_at (e := e) (fz := (0, 1)) (by simp [find]) hv
    simp only [runOp, fLoad_run this]; rfl
  all_goals have hlt := inb_find hn hf
  · have h1 : Nat.blt b n = true := by rw [Nat.blt_eq]; exact hlt
    have h2 : Nat.ble n b = false := by
      cases hq : Nat.ble n b with
      | false => rfl
      | true => have := Nat.le_of_ble_eq_true hq; omega
    simp only [goodOut, h1, h2, isWr, Bool.or_self, Bool.not_false, Bool.or_true, Bool.and_self]
  · have h2 : Nat.ble n b = false := by
      cases hq : Nat.ble n b with
      | false => rfl
      | true => have := Nat.le_of_ble_eq_true hq; omega
    simp only [newer, h2, turned]; exact hn
  · have h2 : Nat.ble n b = false := by
      cases hq : Nat.ble n b with
      | false => rfl
      | true => have := Nat.le_of_ble_eq_true hq; omega
    simp only [newer, h2, turned]
    have : keep (⟨⟨n, [(b, .cells ⟨l⟩ e (0, 1))]⟩, undef, ⟨n, [(b, .cells ⟨l⟩ e (0, 1))]⟩, none⟩ :: recs.map strip) = keep (recs.map strip) := by
      have hd : dull ⟨⟨n, [(b, .cells ⟨l⟩ e (0, 1))]⟩, undef, ⟨n, [(b, .cells ⟨l⟩ e (0, 1))]⟩, none⟩ = true := Nat.ble_eq_true_of_le (Nat.le_refl _)
      simp only [keep, hd]
    rw [this]; exact hk
theorem alD_done {ob : Obj} (hr : alD ob recs.length (recs.map strip) (keep (recs.map strip)) n m K = true) (hf : footOf (ev ts) o = .none) (ho : owned ob = true) (hn : inb n m = true)
    (hrun : runOp TP (ev ts) o ⟨n, []⟩ = some (.value (.pointer (some ⟨n, 0, none⟩)), ⟨n + 1, [(n, ob)]⟩)) : DoneD sf (ev ts) o A tot recs n m K := by
  unfold alD at hr
  rw [fNr_eq] at hr
  refine .inr ⟨by rw [hf]; rfl, ⟨n, []⟩, none, _, ⟨n + 1, [(n, ob)]⟩, by rw [hf]; rfl, by rw [hrun]; rfl, ?_, ?_, ?_⟩
  · have : Nat.blt n (n + 1) = true := by rw [Nat.blt_eq]; omega
    simp only [goodOut, this, ho, Bool.true_or, Bool.and_self]
  · simp only [newer, Nat.ble_eq_true_of_le (Nat.le_refl n), turned]
    exact inb_new _ hn
  · simp only [newer, Nat.ble_eq_true_of_le (Nat.le_refl n), turned]
    have hd : dull (newRec n ob) = false := by
      have : Nat.ble (n + 1) n = false := by
        cases hq : Nat.ble (n + 1) n with
        | false => rfl
        | true => have := Nat.le_of_ble_eq_true hq; omega
      simpa [dull, newRec] using this
    have : keep (newRec n ob :: recs.map strip) = (recs.length, newRec n ob) :: keep (recs.map strip) := by
      simp only [keep, hd, List.length_map]
    show K (newRec n ob :: recs.map strip) (keep (newRec n ob :: recs.map strip)) _ _ _ = true
    rw [this]; exact hr
theorem callD_done (h : ERel nt env ts) (hS : GSelf sf S) {d : Option Tmp} {ty : TypeId} {pos : String} {aft : Array Edge} {gd : Option (Nat × Bool)} {c : Call} {f : Operand} (hc : c.callee = .value f) (hf : okSlot nt f = true) (ha : c.args.toList.all (okSlot nt) = true) (hn : inb n m = true)
    (hr : callD (opdD f) (opds c.args) S A recs.length tot (recs.map strip) (keep (recs.map strip)) env n m K = true) : DoneD sf (ev ts) ⟨d, .call c, ty, pos, aft, gd⟩ A tot recs n m K := by
  have hfoot : footOf (ev ts) ⟨d, .call c, ty, pos, aft, gd⟩ = .all := by simp only [footOf, hc]
  unfold callD at hr
  rcases ifB_true hr with ⟨ht, hr⟩ | ⟨ht, hr⟩
  · obtain ⟨v, V1, h1, h2, h3⟩ := call_done (d := d) (ty := ty) (pos := pos) (aft := aft) (gd := gd) h hS hc hf ha hn hr
    exact .inl ⟨by rw [hfoot, ht]; rfl, v, V1, h1, h2, h3⟩
  · rw [frzK_eq, visible_strip] at hr
    obtain ⟨v, V1, h1, h2, h3⟩ := call_done (d := d) (ty := ty) (pos := pos) (aft := aft) (gd := gd) h hS hc hf ha (inb_freeze _ _ (inb_visible _ _ _ _ hn)) hr
    rcases ifB_true h3 with ⟨h4, h3⟩ | ⟨_, h3⟩
    case inr => cases h3
    have h4 := Nat.le_of_ble_eq_true h4
    rcases ifB_true h3 with ⟨h5, h3⟩ | ⟨_, h3⟩
    case inr => cases h3
    have hgo := goodG_true n V1.next h4 V1.objs V1.next (Nat.le_refl _) h2 h5
    refine .inr ⟨by rw [hfoot, ht]; rfl, ⟨n, freezeAll (visible A recs m)⟩, none, v, V1, by rw [hfoot]; rfl, h1, hgo, inb_newer n m hn _ _ h4 h2, ?_⟩
    show K _ _ v V1.next (newer n V1.objs m) = true
    rcases ifB_true h3 with ⟨h6, h3⟩ | ⟨h6, h3⟩
    · have h6' := Nat.le_of_ble_eq_true h6
      rw [newer_old n m V1.objs V1.next h6' h2]
      have hd : dull ⟨⟨n, freezeAll (visible A recs m)⟩, undef, V1, none⟩ = true := h6
      have : keep (⟨⟨n, freezeAll (visible A recs m)⟩, undef, V1, none⟩ :: recs.map strip) = keep (recs.map strip) := by simp only [keep, hd]
      rw [this]; exact h3
    · rw [newG_eq n m V1.objs V1.next _ h2] at h3
      have hd : dull ⟨⟨n, freezeAll (visible A recs m)⟩, undef, V1, none⟩ = false := h6
      have : keep (⟨⟨n, freezeAll (visible A recs m)⟩, undef, V1, none⟩ :: recs.map strip) = (recs.length, ⟨⟨n, freezeAll (visible A recs m)⟩, undef, V1, none⟩) :: keep (recs.map strip) := by simp only [keep, hd, List.length_map]
      rw [this]; exact h3
theorem doD_done (h : ERel nt env ts) (hS : GSelf sf S) (hn : inb n m = true) (hok : o.op.operands.toList.all (okSlot nt) = true)
    (hr : doD (gk TP o.op) o S nt A recs.length tot (recs.map strip) (keep (recs.map strip)) env n m K = true) : DoneD sf (ev ts) o A tot recs n m K := by
  have slow : slowD nt o A recs.length (recs.map strip) (keep (recs.map strip)) env n m K = true → DoneD sf (ev ts) o A tot recs n m K := slowD_done h
  have pur : ∀ {x : Prop}, ((∃ v, PureOK TP (ev ts) o v ∧ K (dl n :: recs.map strip) (keep (recs.map strip)) v n m = true) ∨ slowD nt o A recs.length (recs.map strip) (keep (recs.map strip)) env n m K = true) → DoneD sf (ev ts) o A tot recs n m K :=
    fun {x} hx => hx.elim (fun ⟨v, h1, h2⟩ => pureD h1 hn h2) slow
  obtain ⟨d, op, ty, pos, aft, gd⟩ := o
  dsimp only at hok hr
  cases op with
  | move x =>
    simp [Op.operands] at hok
    have hr : fVal (getO (opdD x) env) (fun v => K (dl n :: recs.map strip) (keep (recs.map strip)) v n m) = true := hr
    rw [fVal_eq, getO_eq h hok] at hr
    exact pureD ⟨fun V => rfl, rfl⟩ hn hr
  | assign x =>
    simp [Op.operands] at hok
    have hr : fVal (getO (opdD x) env) (fun v => K (dl n :: recs.map strip) (keep (recs.map strip)) v n m) = true := hr
    rw [fVal_eq, getO_eq h hok] at hr
    exact pureD ⟨fun V => rfl, rfl⟩ hn hr
  | binOp op t x y t2 =>
    simp [Op.operands] at hok
    exact pur (x := True) (pBin_true (K := fun v => K (dl n :: recs.map strip) (keep (recs.map strip)) v n m) h hok.1 hok.2 hr)
  | unOp op t x =>
    simp [Op.operands] at hok
    cases op <;> first | exact pur (x := True) (pNot_true (K := fun v => K (dl n :: recs.map strip) (keep (recs.map strip)) v n m) h hok hr) | exact slow hr
  | pick c a b =>
    simp [Op.operands] at hok
    exact pur (x := True) (pPick_true (K := fun v => K (dl n :: recs.map strip) (keep (recs.map strip)) v n m) h hok.1 hok.2.1 hok.2.2 hr)
  | fieldAddr t x j =>
    simp [Op.operands] at hok
    simp only [gk] at hr
    split at hr
    · rename_i off ho
      exact pur (x := True) (pFa_true (K := fun v => K (dl n :: recs.map strip) (keep (recs.map strip)) v n m) h ho hok hr)
    · exact slow hr
  | indexAddr t x i =>
    simp [Op.operands] at hok
    simp only [gk] at hr
    split at hr
    · rename_i elem hu
      split at hr
      · rename_i info hi
        exact pur (x := True) (pIxs_true (K := fun v => K (dl n :: recs.map strip) (keep (recs.map strip)) v n m) h hu hi hok.1 hok.2 hr)
      · exact slow hr
    · rename_i len elem hu
      split at hr
      · rename_i info hi
        exact pur (x := True) (pIxa_true (K := fun v => K (dl n :: recs.map strip) (keep (recs.map strip)) v n m) h hu hi hok.1 hok.2 hr)
      · exact slow hr
    · exact slow hr
  | extract x j =>
    simp [Op.operands] at hok
    exact pur (x := True) (pExt_true (K := fun v => K (dl n :: recs.map strip) (keep (recs.map strip)) v n m) h hok hr)
  | nilCheck x =>
    simp [Op.operands] at hok
    exact pur (x := True) (pNil_true (K := fun v => K (dl n :: recs.map strip) (keep (recs.map strip)) v n m) h hok hr)
  | makeFunc fn f c =>
    simp only [gk] at hr
    split at hr
    · rename_i g
      have hf : f.toList.all (okSlot nt) = true ∧ c.toList.all (okSlot nt) = true := by
        simp [Op.operands] at hok
        exact ⟨all_arr hok.1, all_arr hok.2⟩
      obtain ⟨v, h1, h2⟩ := pMkf_ok (P := TP) (d := d) (ty := ty) (pos := pos) (aft := aft) (gd := gd) h hf.1 hf.2 (K := fun v => K (dl n :: recs.map strip) (keep (recs.map strip)) v n m) hr
      exact pureD h1 hn h2
    · exact slow hr
  | load t a =>
    simp [Op.operands] at hok
    simp only [gk] at hr
    split at hr
    · rename_i ht
      have hr : ldD (opdD a) A (recs.map strip) (keep (recs.map strip)) env n m (fun off l k => nthK l off fun v => fVal v k) K (slowD nt ⟨d, .load t a, ty, pos, aft, gd⟩ A recs.length (recs.map strip) (keep (recs.map strip)) env n m K) = true := hr
      refine (ldD_done h (fun o l k hk => ?_) hok hn hr).elim id slow
      obtain ⟨v, h1, h2⟩ := nthK_true hk
      rw [fVal_eq] at h2
      exact ⟨v, h2, .inl ⟨ht, h1⟩⟩
    · rename_i ht
      split at hr
      · rename_i i hi
        have hr : ldD (opdD a) A (recs.map strip) (keep (recs.map strip)) env n m (fun off l k => dropK off l fun l => cutK i.size l fun l => k (.agg (Array.mk l))) K (slowD nt ⟨d, .load t a, ty, pos, aft, gd⟩ A recs.length (recs.map strip) (keep (recs.map strip)) env n m K) = true := hr
        refine (ldD_done h (fun o l k hk => ?_) hok hn hr).elim id slow
        rw [dropK_eq] at hk
        obtain ⟨c, h1, h2⟩ := cutK_true hk
        exact ⟨_, h2, .inr ⟨ht, i, c, hi, h1, rfl⟩⟩
      · exact slow hr
    · exact slow hr
  | store t a x =>
    simp only [gk] at hr
    split at hr
    · split at hr
      · exact slow hr
      · exact slow hr
    · exact slow hr
  | alloc t =>
    simp only [gk] at hr
    split at hr
    · rename_i i hi
      split at hr
      · rename_i z hz
        exact alD_done (ob := .cells ⟨z.cells.toList⟩ t (0, 0)) hr rfl rfl hn (alloc_run hi hz ⟨n, []⟩)
      · exact slow hr
    · exact slow hr
  | box t x =>
    simp [Op.operands] at hok
    have hr : cellsK (getO (opdD x) env) (fun cs => alD (.cells (Array.mk cs) t (0, 0)) recs.length (recs.map strip) (keep (recs.map strip)) n m K) (slowD nt ⟨d, .box t x, ty, pos, aft, gd⟩ A recs.length (recs.map strip) (keep (recs.map strip)) env n m K) = true := hr
    rw [getO_eq h hok] at hr
    rcases cellsK_true hr with hr | hr
    · exact alD_done (ob := .cells ⟨(ev ts x).cells.toList⟩ t (0, 0)) hr rfl rfl hn (box_run ⟨n, []⟩)
    · exact slow hr
  | call c =>
    have ha : c.args.toList.all (okSlot nt) = true := by
      cases hcc : c.callee <;> simp [Op.operands, Call.operands, hcc] at hok <;> first | exact all_arr hok | exact all_arr hok.2
    simp only [gk] at hr
    split at hr
    · rename_i f hc
      have hf : okSlot nt f = true := by
        simp [Op.operands, Call.operands, hc] at hok
        first | exact hok.1 | exact hok f (.inl rfl) | exact hok
      exact callD_done h hS hc hf ha hn hr
    · rename_i hc
      split at hr
      · rename_i t ht
        split at hr
        · rename_i elem hu
          split at hr
          · rename_i x hx
            refine pur (x := True) (pLen_true (K := fun v => K (dl n :: recs.map strip) (keep (recs.map strip)) v n m) h hc hx ht hu ?_ hr)
            rw [hx] at ha
            simpa using ha
          · exact slow hr
        · exact slow hr
      · exact slow hr
    · exact slow hr
  | _ => exact slow hr
end

inductive DOp
  | pl (o : Oper) (k : GK) (p : P3) (A i : Nat) (tot : Bool)
  | gu (o : Oper) (g : GG) (k : GK) (d : GD) (A i : Nat) (tot : Bool)
noncomputable def dop (nt : Nat) (ops : Array Oper) (anc : Array Nat) (o : Oper) (i : Nat) : DOp := match o.op.operands.toList.all (okSlot nt) with
  | true => match gg nt ops o with
    | .no => match gdst nt o.dst with
      | .put p => .pl o (gk TP o.op) p (anc.getD i 0) i (totalAt anc i)
      | d => .gu o .no (gk TP o.op) d (anc.getD i 0) i (totalAt anc i)
    | g => .gu o g (gk TP o.op) (gdst nt o.dst) (anc.getD i 0) i (totalAt anc i)
  | false => .gu o .bad .slow .bad 0 0 false
noncomputable def decD (nt : Nat) (ops : Array Oper) (anc : Array Nat) : List Oper → Nat → List DOp
  | [], _ => []
  | o :: l, i => dop nt ops anc o i :: decD nt ops anc l (i + 1)
abbrev KR := List Rec → Wrs → Env → Nat → Objs → Bool
noncomputable def oneD (d : DOp) (S : Sf) (nt : Nat) (recs : List Rec) (w : Wrs) (env : Env) (n : Nat) (m : Objs) (k : KR) : Bool := DOp.rec (motive := fun _ => Sf → Nat → List Rec → Wrs → Env → Nat → Objs → KR → Bool)
  (fun o kk p A i tot S nt recs w env n m k => doD kk o S nt A i tot recs w env n m fun recs w v n m => setE p env v fun env => k recs w env n m)
  (fun o g kk d A i tot S nt recs w env n m k => guardG g env (doD kk o S nt A i tot recs w env n m fun recs w v n m => putD d env v fun env => k recs w env n m) (putD d env undef fun env => k (dl n :: recs) w env n m)) d S nt recs w env n m k
noncomputable def drawG : List DOp → Sf → Nat → List Rec → Wrs → Env → Nat → Objs → KE → Bool := List.rec (motive := fun _ => Sf → Nat → List Rec → Wrs → Env → Nat → Objs → KE → Bool)
  (fun _ _ _ _ env n m k => k env n m)
  (fun d _ ih S nt recs w env n m k => oneD d S nt recs w env n m fun recs w env n m => ih S nt recs w env n m k)
theorem oneD_dop {nt : Nat} {ops : Array Oper} {anc : Array Nat} {o : Oper} {i : Nat} {S : Sf} {recs : List Rec} {w : Wrs} {env : Env} {n : Nat} {m : Objs} {k : KR} (hr : oneD (dop nt ops anc o i) S nt recs w env n m k = true) :
    o.op.operands.toList.all (okSlot nt) = true ∧ guardG (gg nt ops o) env (doD (gk TP o.op) o S nt (anc.getD i 0) i (totalAt anc i) recs w env n m fun recs w v n m => putD (gdst nt o.dst) env v fun env => k recs w env n m) (putD (gdst nt o.dst) env undef fun env => k (dl n :: recs) w env n m) = true := by
  unfold dop at hr
  split at hr
  · rename_i hok
    refine ⟨hok, ?_⟩
    split at hr
    · rename_i hg
      split at hr
      · rename_i p hd
        rw [hg, hd]; exact hr
      · rw [hg]; exact hr
    · exact hr
  · cases hr
theorem drawG_true {sf : Job → Option Out} {S : Sf} (hS : GSelf sf S) {nt : Nat} (ops : Array Oper) {k : KE} : ∀ (l : List Oper) (recs : List Rec) {env : Env} {ts : List Value} {n : Nat} {m : Objs}, ERel nt env ts → inb n m = true →
    drawG (decD nt ops (Region.before ops) l recs.length) S nt (recs.map strip) (keep (recs.map strip)) env n m k = true →
    ∃ ts1 V1 env1, drawGo TP sf ops (Region.before ops) l recs ts ⟨n, m⟩ = some (ts1, V1) ∧ ERel nt env1 ts1 ∧ inb V1.next V1.objs = true ∧ k env1 V1.next V1.objs = true
  | [], recs, env, ts, n, m, h, hn, hr => ⟨ts, ⟨n, m⟩, env, rfl, h, hn, hr⟩
  | o :: l, recs, env, ts, n, m, h, hn, hr => by
    have ih := drawG_true hS (nt := nt) ops (k := k) l
    rw [decD] at hr
    have hr : oneD (dop nt ops (Region.before ops) o recs.length) S nt (recs.map strip) (keep (recs.map strip)) env n m (fun recs' w env n m => drawG (decD nt ops (Region.before ops) l (recs.length + 1)) S nt recs' w env n m k) = true := hr
    obtain ⟨hok, hr⟩ := oneD_dop hr
    simp only [drawGo, ok_ops hok]
    rcases guardG_true h hr with ⟨hw, hr⟩ | ⟨hw, hr⟩
    · rw [hw]
      dsimp only
      rcases doD_done h hS hn hok hr with ⟨h1, v, V1, h2, h3, h4⟩ | ⟨h1, Vi, wr, v, Vo, h2, h3, h4, h5, h6⟩
      · obtain ⟨env1, h7, h8⟩ := putD_true h h4
        rw [h1, h2]
        dsimp only
        rw [h3]
        have hl := dummies_len ops (lput ts o.dst v) V1 (recs.length + 1)
        have hs := strip_dummies ops (lput ts o.dst v) V1 (recs.length + 1)
        exact ih (dummies ops (lput ts o.dst v) V1 (recs.length + 1)) (n := V1.next) (m := V1.objs) h7 h3 (by rw [hl, hs, keep_rep]; exact h8)
      · obtain ⟨env1, h7, h8⟩ := putD_true h h6
        rw [h1, h2]
        dsimp only
        rw [h3]
        dsimp only
        have hn' : inb (View.next ⟨n, m⟩) (View.objs ⟨n, m⟩) = true := hn
        rw [hn', h4]
        exact ih (⟨Vi, v, Vo, wr⟩ :: recs) h7 h5 h8
    · obtain ⟨env1, h7, h8⟩ := putD_true h hr
      rw [hw]
      dsimp only
      refine ih (⟨⟨n, []⟩, undef, ⟨n, []⟩, none⟩ :: recs) h7 hn ?_
      have e : (⟨⟨n, []⟩, undef, ⟨n, []⟩, none⟩ :: recs).map strip = dl n :: recs.map strip := rfl
      rw [e, keep_dl]
      exact h8
end Go.Vm
