/- The small machine over unknown values, with loops whose rounds leave nothing behind but what is told. -/
import Derived.Test.YtcphndfipjifcaaVrS2
set_option linter.unusedVariables false
namespace Go.Vm
set_option maxRecDepth 100000
variable {memo : Job → Option Out} {K : List Nat}
def pruneV (K : List Nat) (V : View) : View := ⟨V.next, keepL K V.objs⟩
def pruneC (K : List Nat) (r : Option Out) : Option Out := match r with
  | some (.code .normal ts df V) => some (.code .normal ts df (pruneV K V))
  | r => r
def headSlot : Code → Nat
  | .seq a _ => headSlot a
  | .region _ ops _ => match ops.toList with
    | o :: _ => o.dst.getD 0
    | [] => 0
  | .block _ b => headSlot b
  | .loop b => headSlot b
  | _ => 0
/-- what is told of the ends of this loop -/
def endsOf (adv : Adv) (body : Code) : List LoopEnd := match adv.inl (some (100000 + headSlot body)) with
  | some a => a.ends
  | none => adv.ends
def isLp : Code → Bool
  | .loop _ => true
  | _ => false
/-- a round's end is pruned, nothing else -/
def lpS (K : List Nat) (sf : Job → Option Out) (j : Job) : Option Out := match j with
  | .code ar c ts df V => match isLp c with
    | true => sf j
    | false => pruneC K (sf j)
  | j => sf j
noncomputable def stepP (K : List Nat) (sf : Job → Option Out) (j : Job) : Option Out := match j with
  | .code ar c ts df V => match c with
    | .loop _ => step TP (lpS K sf) j
    | _ => step TP sf j
  | j => step TP sf j
theorem CodeOK.less {ar : Option Nat} {c : Code} {ts : List Value} {df : List Nat} {V : View} {e : Ex} {ts1 : List Value} {df1 : List Nat} {V1 V2 : View} (h : CodeOK TP ar c ts df V e ts1 df1 V1) (hs : ∀ b o, V2.get b = some o → V1.get b = some o) (hn : V2.next = V1.next) : CodeOK TP ar c ts df V e ts1 df1 V2 := by
  intro ρ D w a n Q hw ht hd ha hD hk
  rw [hn] at hD hk
  exact h ρ D w a n Q hw ht hd ha hD fun ρ1 a1 w1 st ht hd => hk ρ1 a1 w1 (st.less hs) ht hd
theorem LoopOK.less {ar : Option Nat} {c : Code} {ts : List Value} {df : List Nat} {V : View} {e : Ex} {ts1 : List Value} {df1 : List Nat} {V1 V2 : View} (h : LoopOK TP ar c ts df V e ts1 df1 V1) (hs : ∀ b o, V2.get b = some o → V1.get b = some o) (hn : V2.next = V1.next) : LoopOK TP ar c ts df V e ts1 df1 V2 := by
  intro ρ D w a n Q hw ht hd ha hD hk
  rw [hn] at hD hk
  exact h ρ D w a n Q hw ht hd ha hD fun ρ1 a1 w1 st ht hd => hk ρ1 a1 w1 (st.less hs) ht hd
theorem lpS_ok {sf : Job → Option Out} (h : SelfOK TP sf) : SelfOK TP (lpS K sf) := by
  refine ⟨fun ar c ts df V e ts1 df1 V1 hj => ?_, fun ar c ts df V e ts1 df1 V1 hj => ?_, fun f args V v V1 hj => h.call f args V v V1 hj⟩
  · simp only [lpS] at hj
    split at hj
    · exact h.code _ _ _ _ _ _ _ _ _ hj
    · unfold pruneC at hj
      split at hj
      · rename_i ts2 df2 V2 h1
        cases hj
        obtain ⟨a, b⟩ := h.code _ _ _ _ _ _ _ _ _ h1
        exact ⟨a, b.less (fun b o hb => (find_keepL K V2.objs b o hb).2) rfl⟩
      · exact h.code _ _ _ _ _ _ _ _ _ hj
  · simp only [lpS, isLp] at hj
    exact h.loop _ _ _ _ _ _ _ _ _ hj
theorem stepP_ok {sf : Job → Option Out} (h : SelfOK TP sf) : SelfOK TP (stepP K sf) := by
  have h1 := step_ok good_TP h
  have h2 := step_ok good_TP (lpS_ok (K := K) h)
  refine ⟨fun ar c ts df V e ts1 df1 V1 hj => ?_, fun ar c ts df V e ts1 df1 V1 hj => ?_, fun f args V v V1 hj => h1.call f args V v V1 hj⟩
  · simp only [stepP] at hj
    split at hj
    · exact h2.code _ _ _ _ _ _ _ _ _ hj
    · exact h1.code _ _ _ _ _ _ _ _ _ hj
  · simp only [stepP] at hj
    exact h2.loop _ _ _ _ _ _ _ _ _ hj
noncomputable def rmP (memo : Job → Option Out) (K : List Nat) : Nat → Job → Option Out
  | 0, _ => none
  | n + 1, j => orF memo (stepP K (rmP memo K n)) j
theorem rmP_ok {memo : Job → Option Out} (hm : SelfOK TP memo) : ∀ n, SelfOK TP (rmP memo K n) := by
  intro n
  induction n with
  | zero => exact SelfOK.nothing
  | succ n ih => exact SelfOK.or hm (stepP_ok ih)
theorem rmP_memo {N : Nat} : ∀ j r, memo j = some r → rmP memo K (N + 1) j = some r := fun j r h => by rw [rmP, orF, h]
theorem stepP_again {sf : Job → Option Out} {ar : Option Nat} {body : Code} {ts ts1 : List Value} {df df1 : List Nat} {V V1 : View} (hl : isLp body = false) (h : sf (.code ar body ts df V) = some (.code .normal ts1 df1 V1)) :
    stepP K sf (.code ar (.loop body) ts df V) = sf (.code ar (.loop body) ts1 df1 (pruneV K V1)) := by
  simp only [stepP, step]
  have e : lpS K sf (.code ar body ts df V) = some (.code .normal ts1 df1 (pruneV K V1)) := by simp only [lpS, hl, h, pruneC]
  rw [e]
  rfl
theorem stepP_out {sf : Job → Option Out} {ar : Option Nat} {body : Code} {ts ts1 : List Value} {df df1 : List Nat} {V V1 : View} {e : Ex} (hl : isLp body = false) (h : sf (.code ar body ts df V) = some (.code e ts1 df1 V1)) (he : e ≠ .normal) :
    stepP K sf (.code ar (.loop body) ts df V) = some (.code e ts1 df1 V1) := by
  simp only [stepP, step]
  have e2 : lpS K sf (.code ar body ts df V) = some (.code e ts1 df1 V1) := by
    simp only [lpS, hl, h, pruneC]
    cases e with
    | normal => exact absurd rfl he
    | exit id => rfl
    | ret => rfl
  rw [e2]
  cases e with
  | normal => exact absurd rfl he
  | exit id => rfl
  | ret => rfl
theorem ends_callP {f : FuncId} {args : List Value} {V : View} {fn : Func} {c : Code} {N : Nat} {s1 : Sta} {e : Ex} (hn : memo (.call f args V) = none) (hf : TP.funcs[f]? = some fn) (hc : fn.body = some c)
    (h : rmP memo K N (.code none c (args ++ List.replicate (fn.ntmps - args.length) undef) [] V) = some (.code e s1.ts s1.df s1.V)) : rmP memo K (N + 1) (.call f args V) = finish (hasYield args) V.next fn.results.toList e s1 := by
  rw [rmP, orF, hn]
  simp only [stepP, step, hf, hc, h]
  cases e <;> rfl
theorem RoundEnd.outV {I : LInv} {b : I.β} {l : List LoopEnd} {e : Ex} {ts : List Value} {df : List Nat} {V : View} (he : e ≠ .normal) (L : LoopEnd) (hL : L ∈ l) (mka : List Value → View → L.α) (h : L.P (mka ts V)) (h0 : e = L.ex (mka ts V)) (h1 : ts = L.ts (mka ts V)) (h2 : df = L.df) (h3 : V = L.V (mka ts V)) : RoundEnd I b l e ts df V := .out he L hL (mka ts V) h h0 h1 h2 h3
/-- a loop that comes to one of these ends -/
structure LoopRP (memo : Job → Option Out) (K : List Nat) (M : Nat) (ar : Option Nat) (c : Code) (ts : List Value) (df : List Nat) (V : View) (l : List LoopEnd) : Prop where
  run : ∃ e ts1 df1 V1, rmP memo K M (.code ar c ts df V) = some (.code e ts1 df1 V1) ∧ ∃ L, L ∈ l ∧ ∃ a : L.α, L.P a ∧ e = L.ex a ∧ ts1 = L.ts a ∧ df1 = L.df ∧ V1 = L.V a
def CwOKP (memo : Job → Option Out) (K : List Nat) (M : Nat) (cw : Cw) : Prop := ∀ adv c ts df V k, cw adv c ts df V k → ∃ e ts1 df1 V1, rmP memo K M (.code none c ts df V) = some (.code e ts1 df1 V1) ∧ k e ts1 df1 V1
theorem inK_okP {cw : Cw} {M : Nat} (hc : CwOKP memo K M cw) {adv : Adv} {r : Option (Next × View)} {k : Value → View → Prop} (h : inK memo cw adv r k) : ∃ v V1, after (rmP memo K (M + 1)) r = some (v, V1) ∧ k v V1 := by
  unfold inK at h
  split at h
  · rename_i g args V1
    unfold callK at h
    split at h
    · cases h
    · rename_i hm
      split at h
      · rename_i fn hf
        split at h
        · rename_i c hb
          obtain ⟨e, ts1, df1, V2, h1, h2⟩ := hc _ _ _ _ _ _ h
          split at h2
          · rename_i v V3 hv
            have h3 : rmP memo K (M + 1) (.call g args.toList V1) = some (.value v V3) := by
              rw [ends_callP (s1 := ⟨ts1, df1, V2⟩) (e := e) hm hf hb h1]
              exact hv
            exact ⟨v, V3, by simp only [after, h3], h2⟩
          · cases h2
        · cases h
      · cases h
  · cases h

theorem opsW_okP {cw : Cw} {M : Nat} (hc : CwOKP memo K M cw) {adv : Adv} {ops : Array Oper} : ∀ (l : List Oper) (ts : List Value) (V : View) (k : List Value → View → Prop), opsW memo (rmP memo K (M + 1)) cw adv ops l ts V k →
    ∃ ts1 V1, runOps TP (rmP memo K (M + 1)) ops l ts V = some (ts1, V1) ∧ k ts1 V1
  | [], ts, V, k, h => ⟨ts, V, rfl, h⟩
  | o :: rest, ts, V, k, h => by
    unfold opsW at h
    unfold runOps
    split at h
    case h_2 => cases h
    rename_i hok
    simp only [hok]
    split at h
    · rename_i hwa
      simp only [hwa]
      split at h
      · obtain ⟨h1, h2⟩ := h
        have h1 := obl_ok (rmP_memo (K := K) (N := M)) h1
        simp only [h1]
        exact opsW_okP hc _ _ _ _ h2
      · split at h
        · obtain ⟨v, V1, h1, h2⟩ := inK_okP hc h
          simp only [h1]
          exact opsW_okP hc _ _ _ _ h2
        · split at h
          · rename_i h1
            simp only [h1]
            exact opsW_okP hc _ _ _ _ h
          · cases h
    · rename_i hwa
      simp only [hwa]
      exact opsW_okP hc _ _ _ _ h
    · cases h

theorem drawW_okP {cw : Cw} {M : Nat} (hc : CwOKP memo K M cw) {adv : Adv} {ops : Array Oper} {anc : Array Nat} : ∀ (l : List Oper) (recs : List Rec) (ts : List Value) (V : View) (k : List Value → View → Prop), drawW memo (rmP memo K (M + 1)) cw adv ops anc l recs ts V k →
    ∃ ts1 V1, drawGo TP (rmP memo K (M + 1)) ops anc l recs ts V = some (ts1, V1) ∧ k ts1 V1
  | [], recs, ts, V, k, h => ⟨ts, V, rfl, h⟩
  | o :: rest, recs, ts, V, k, h => by
    unfold drawW at h
    unfold drawGo
    split at h
    case h_2 => cases h
    rename_i hok
    simp only [hok]
    split at h
    · rename_i hwa
      simp only [hwa]
      split at h
      · rename_i hal
        simp only [hal]
        split at h
        · obtain ⟨v, V1, h1, h⟩ := inK_okP hc h
          split at h
          · rename_i h2
            simp only [h1, h2]
            exact drawW_okP hc _ _ _ _ _ h
          · cases h
        · split at h
          · obtain ⟨h1, h⟩ := h
            have h1 := obl_ok (rmP_memo (K := K) (N := M)) h1
            split at h
            · rename_i h2
              simp only [h1, h2]
              exact drawW_okP hc _ _ _ _ _ h
            · cases h
          · split at h
            · rename_i h1
              split at h
              · rename_i h2
                simp only [h1, h2]
                exact drawW_okP hc _ _ _ _ _ h
              · cases h
            · cases h
      · rename_i hal
        simp only [hal]
        split at h
        · rename_i Vi wr hv
          simp only [hv]
          split at h
          · obtain ⟨h1, h⟩ := h
            have h1 := obl_ok (rmP_memo (K := K) (N := M)) h1
            split at h
            · rename_i h2
              simp only [h1, h2]
              exact drawW_okP hc _ _ _ _ _ h
            · cases h
          · split at h
            · obtain ⟨v, Vo, h1, h⟩ := inK_okP hc h
              split at h
              · rename_i h2
                simp only [h1, h2]
                exact drawW_okP hc _ _ _ _ _ h
              · cases h
            · split at h
              · rename_i h1
                split at h
                · rename_i h2
                  simp only [h1, h2]
                  exact drawW_okP hc _ _ _ _ _ h
                · cases h
              · cases h
        · cases h
    · rename_i hwa
      simp only [hwa]
      exact drawW_okP hc _ _ _ _ _ h
    · cases h

/-- some code -/
def codeWP (memo : Job → Option Out) (K : List Nat) : Nat → Adv → Option Nat → Code → List Value → List Nat → View → (Ex → List Value → List Nat → View → Prop) → Prop
  | 0, _, _, _, _, _, _, _ => False
  | 1, _, _, _, _, _, _, _ => False
  | N + 2, adv, ar, c, ts, df, V, k => match c with
    | .skip | .label _ => k .normal ts df V
    | .exit id => k (.exit id) ts df V
    | .ret => k .ret ts df V
    | .region _ ops draw => match draw with
      | false => opsW memo (rmP memo K (N + 1)) (fun a c => codeWP memo K N a none c) adv ops ops.toList ts V fun ts V => k .normal ts df V
      | true => match drawOk ops && inb V.next V.objs with
        | true => drawW memo (rmP memo K (N + 1)) (fun a c => codeWP memo K N a none c) adv ops (Region.before ops) ops.toList [] ts V fun ts V => k .normal ts df V
        | false => False
    | .seq a b => codeWP memo K (N + 1) adv ar a ts df V fun e ts df V => match e with
      | .normal => codeWP memo K (N + 1) adv ar b ts df V k
      | e => k e ts df V
    | .cond c a b => match okConst c with
      | true => match ev ts c with
        | .bool true => codeWP memo K (N + 1) adv ar a ts df V k
        | .bool false => codeWP memo K (N + 1) adv ar b ts df V k
        | _ => False
      | false => False
    | .block id body => codeWP memo K (N + 1) adv ar body ts df V fun e ts df V => match e with
      | .exit j => match Nat.beq j id with
        | true => k .normal ts df V
        | false => k (.exit j) ts df V
      | e => k e ts df V
    | .loop body => match endsOf adv body with
      | [] => match isLp body with
        | true => False
        | false => codeWP memo K (N + 1) adv ar body ts df V fun e ts df V => match e with
          | .normal => codeWP memo K (N + 1) adv ar (.loop body) ts df (pruneV K V) k
          | e => k e ts df V
      | L :: r => LoopRP memo K (N + 2) ar (.loop body) ts df V (L :: r) ∧ endsW (L :: r) k
    | _ => False
theorem codeW_okP (hm : ∀ ar c ts df V, memo (.code ar c ts df V) = none) : ∀ (N : Nat) (adv : Adv) (ar : Option Nat) (c : Code) (ts : List Value) (df : List Nat) (V : View) (k : Ex → List Value → List Nat → View → Prop),
    codeWP memo K N adv ar c ts df V k → ∃ e ts1 df1 V1, rmP memo K N (.code ar c ts df V) = some (.code e ts1 df1 V1) ∧ k e ts1 df1 V1
  | 0, adv, ar, c, ts, df, V, k, h => by unfold codeWP at h; exact h.elim
  | 1, adv, ar, c, ts, df, V, k, h => by unfold codeWP at h; exact h.elim
  | N + 2, adv, ar, c, ts, df, V, k, h => by
    have e1 : rmP memo K (N + 2) (.code ar c ts df V) = stepP K (rmP memo K (N + 1)) (.code ar c ts df V) := by rw [rmP, orF, hm]
    have hc : CwOKP memo K N (fun a c => codeWP memo K N a none c) := fun a c ts df V k h => codeW_okP hm N a none c ts df V k h
    unfold codeWP at h
    split at h
    · exact ⟨_, _, _, _, by rw [e1]; rfl, h⟩
    · exact ⟨_, _, _, _, by rw [e1]; rfl, h⟩
    · exact ⟨_, _, _, _, by rw [e1]; rfl, h⟩
    · exact ⟨_, _, _, _, by rw [e1]; rfl, h⟩
    · split at h
      · obtain ⟨ts1, V1, h1, h2⟩ := opsW_okP hc _ _ _ _ h
        exact ⟨_, _, _, _, by rw [e1]; simp only [stepP, step, h1], h2⟩
      · split at h
        · rename_i hd
          obtain ⟨ts1, V1, h1, h2⟩ := drawW_okP hc _ _ _ _ _ h
          exact ⟨_, _, _, _, by rw [e1]; simp only [stepP, step, hd, h1], h2⟩
        · cases h
    · obtain ⟨e, ts1, df1, V1, h1, h2⟩ := codeW_okP hm (N + 1) _ ar _ ts df V _ h
      split at h2
      · obtain ⟨e', ts2, df2, V2, h3, h4⟩ := codeW_okP hm (N + 1) _ ar _ _ _ _ _ h2
        exact ⟨_, _, _, _, by rw [e1]; simp only [stepP, step, h1, h3], h4⟩
      · rename_i hne
        refine ⟨_, _, _, _, ?_, h2⟩
        rw [e1]
        simp only [stepP, step, h1]
        cases e with
        | normal => exact absurd rfl hne
        | exit id => rfl
        | ret => rfl
    · split at h
      · rename_i hc
        split at h
        · rename_i hv
          obtain ⟨e, ts1, df1, V1, h1, h2⟩ := codeW_okP hm (N + 1) _ ar _ ts df V _ h
          exact ⟨_, _, _, _, by rw [e1]; simp only [stepP, step, hc, hv, h1], h2⟩
        · rename_i hv
          obtain ⟨e, ts1, df1, V1, h1, h2⟩ := codeW_okP hm (N + 1) _ ar _ ts df V _ h
          exact ⟨_, _, _, _, by rw [e1]; simp only [stepP, step, hc, hv, h1], h2⟩
        · cases h
      · cases h
    · obtain ⟨e, ts1, df1, V1, h1, h2⟩ := codeW_okP hm (N + 1) _ ar _ ts df V _ h
      split at h2
      · split at h2
        · rename_i hq
          exact ⟨_, _, _, _, by rw [e1]; simp only [stepP, step, h1, hq], h2⟩
        · rename_i hq
          exact ⟨_, _, _, _, by rw [e1]; simp only [stepP, step, h1, hq], h2⟩
      · rename_i hne
        refine ⟨_, _, _, _, ?_, h2⟩
        rw [e1]
        simp only [stepP, step, h1]
        cases e with
        | normal => rfl
        | exit id => exact absurd rfl (hne id)
        | ret => rfl
    · split at h
      · split at h
        · cases h
        rename_i hlp
        obtain ⟨e, ts1, df1, V1, h1, h2⟩ := codeW_okP hm (N + 1) _ ar _ ts df V _ h
        split at h2
        · obtain ⟨e', ts2, df2, V2, h3, h4⟩ := codeW_okP hm (N + 1) _ ar _ _ _ _ _ h2
          exact ⟨_, _, _, _, by rw [e1]; exact (stepP_again hlp h1).trans h3, h4⟩
        · rename_i hne
          exact ⟨_, _, _, _, by rw [e1]; exact stepP_out hlp h1 (fun h => hne h), h2⟩
      · rename_i L r _
        obtain ⟨⟨e, ts1, df1, V1, h1, L', hL, a, hP, rfl, rfl, rfl, rfl⟩, h2⟩ := h
        exact ⟨_, _, _, _, h1, endsW_ok h2 L' hL a hP⟩
    · cases h

/-- how a round ends, with what is kept of the memory -/
theorem loop_ruleP (hm : ∀ ar c ts df V, memo (.code ar c ts df V) = none) (I : LInv) (l : List LoopEnd) {ar : Option Nat} {body : Code} {N0 : Nat} (hlp : isLp body = false)
    (hstep : ∀ M b, I.P b → ∃ adv, codeWP memo K (M + N0) adv ar body (I.ts b) I.df (I.V b) (fun e ts df V => RoundEnd I b l e ts df (match e with | .normal => pruneV K V | _ => V))) :
    ∀ (M : Nat) (b : I.β), I.P b → I.μ b + N0 < M → LoopRP memo K M ar (.loop body) (I.ts b) I.df (I.V b) l := by
  intro M
  induction M with
  | zero => intro b hb h; omega
  | succ M ih =>
    intro b hb h
    obtain ⟨adv, hs⟩ := hstep (M - N0) b hb
    rw [show M - N0 + N0 = M by omega] at hs
    obtain ⟨e, ts1, df1, V1, h1, h2⟩ := codeW_okP hm _ _ _ _ _ _ _ _ hs
    have e1 : rmP memo K (M + 1) (.code ar (.loop body) (I.ts b) I.df (I.V b)) = stepP K (rmP memo K M) (.code ar (.loop body) (I.ts b) I.df (I.V b)) := by rw [rmP, orF, hm]
    generalize hq : (match e with | .normal => pruneV K V1 | _ => V1) = V2 at h2
    cases h2 with
    | again he b' hP hmu h3 h4 h5 =>
      subst he h3 h4 h5
      simp only at hq
      obtain ⟨e, ts2, df2, V2, h6, h7⟩ := ih b' hP (by omega)
      refine ⟨e, ts2, df2, V2, ?_, h7⟩
      rw [e1]
      refine (stepP_again hlp h1).trans ?_
      rw [hq]
      exact h6
    | out he L hL a hP h0 h3 h4 h5 =>
      refine ⟨e, ts1, df1, V1, ?_, L, hL, a, hP, h0, h3, h4, ?_⟩
      · rw [e1]; exact stepP_out hlp h1 he
      · rw [← h5, ← hq]
        cases e with
        | normal => exact absurd rfl he
        | exit id => rfl
        | ret => rfl

/-- a call, with its body -/
def callWP (memo : Job → Option Out) (K : List Nat) (adv : Adv) (N : Nat) (f : FuncId) (args : List Value) (V : View) (k : Value → Prop) : Prop := match TP.funcs[f]? with
  | some fn => match fn.body with
    | some c => codeWP memo K N adv none c (args ++ List.replicate (fn.ntmps - args.length) undef) [] V fun e ts df V1 => match finish (hasYield args) V.next fn.results.toList e ⟨ts, df, V1⟩ with
      | some (.value v _) => k v
      | _ => False
    | none => False
  | none => False
theorem call_runP {adv : Adv} (hm : ∀ ar c ts df V, memo (.code ar c ts df V) = none) {N : Nat} {f : FuncId} {args : List Value} {V : View} {k : Value → Prop} (hf : memo (.call f args V) = none)
    (h : callWP memo K adv N f args V k) : ∃ v V1, rmP memo K (N + 1) (.call f args V) = some (.value v V1) ∧ k v := by
  unfold callWP at h
  split at h
  case h_2 => cases h
  rename_i fn hfn
  split at h
  case h_2 => cases h
  rename_i c hc
  obtain ⟨e, ts1, df1, V1, h1, h2⟩ := codeW_okP hm _ _ _ _ _ _ _ _ h
  split at h2
  case h_2 => cases h2
  rename_i v V2 hv
  have h3 : rmP memo K (N + 1) (.call f args V) = some (.value v V2) := by
    rw [ends_callP (s1 := ⟨ts1, df1, V1⟩) (e := e) hf hfn hc h1]
    exact hv
  exact ⟨v, V2, h3, h2⟩
/-- what is shown of a call with plain arguments holds in every world -/
theorem call_symP {adv : Adv} (hs : SelfOK TP memo) (hm : ∀ ar c ts df V, memo (.code ar c ts df V) = none) {N : Nat} {f : FuncId} {args : List Value} {k : Value → Prop} (hf : memo (.call f args ⟨0, []⟩) = none)
    (ha : args.all (flatN 3) = true) (hk : ∀ v, k v → flatN 3 v = true) (h : callWP memo K adv N f args ⟨0, []⟩ k) (w : World) : Calls TP f args.toArray w fun e w' => (∃ v, e = .returned v ∧ k v) ∧ RowKit.Below w.heap.size w w' := by
  obtain ⟨v, V2, h3, h2⟩ := call_runP hm hf h
  have hkv := hk v h2
  obtain ⟨_, ok⟩ := (rmP_ok hs (N + 1)).call _ _ _ _ _ h3
  have hl : LRel (VRel ⟨id, fun _ => 0, fun _ => 0, fun _ => 0⟩ (fun _ => False)) args args := LRel.of_get rfl fun i x y hx hy => by
    rw [hx] at hy; cases hy
    exact VRel.of_flatN 3 x (List.all_eq_true.1 ha x (List.mem_of_getElem? hx))
  have := ok ⟨id, fun _ => 0, fun _ => 0, fun _ => 0⟩ (fun _ => False) w args.toArray 5 ⟨fun b o h => (by cases h), fun b o h => (by cases h), fun b o h => (by cases h), fun b cs e fz h => (by cases h), fun b es c h => (by cases h), fun b c x y h => (by cases h)⟩ hl (fun b _ _ h => h)
  refine (callsIn_wide.1 this).mono ?_
  rintro e w' ⟨ρ1, v', rfl, st, hr⟩
  have hv' := hr.flatN_eq 3 hkv
  subst hv'
  exact ⟨⟨_, rfl, h2⟩, st.os, st.tape, st.output, st.size, fun k hk => st.frame k hk fun b o hb => by cases hb⟩
/-- the same with slices of one block, which is only read -/
theorem call_rowsP {adv : Adv} (hs : SelfOK TP memo) (hm : ∀ ar c ts df V, memo (.code ar c ts df V) = none) {N : Nat} {f : FuncId} {args : List Value} {k : Value → Prop} {c : List Value} {e : TypeId} (hc : c.all (flatN 3) = true)
    (hf : memo (.call f args (rowV c e)) = none) (ha : args.all okArg = true) (hk : ∀ v, k v → flatN 3 v = true) (h : callWP memo K adv N f args (rowV c e) k) (w : World) (b off : Nat) (hr : RowsAt w b off c) :
    Calls TP f (args.map (shift b off)).toArray w fun e w' => (∃ v, e = .returned v ∧ k v) ∧ RowKit.Below w.heap.size w w' := by
  obtain ⟨v, V2, h3, h2⟩ := call_runP hm hf h
  have hkv := hk v h2
  obtain ⟨_, ok⟩ := (rmP_ok hs (N + 1)).call _ _ _ _ _ h3
  have hV : ∀ x o, (rowV c e).get x = some o → x = 0 ∧ o = .cells ⟨c⟩ e (0, 1) := fun x o hx => by
    have hx : find [(0, Obj.cells ⟨c⟩ e (0, 1))] x = some o := hx
    simp only [find] at hx
    split at hx
    · rename_i h0; cases hx; exact ⟨(Nat.eq_of_beq_eq_true h0).symm, rfl⟩
    · cases hx
  have hl : LRel (VRel ⟨fun _ => b, fun _ => off, fun _ => 0, fun _ => 0⟩ (fun x => x = 0)) args (args.map (shift b off)) := LRel.of_get (by simp) fun i x y hx hy => by
    rw [List.getElem?_map, hx] at hy
    simp only [Option.map_some, Option.some.injEq] at hy
    subst hy
    have hax := List.all_eq_true.1 ha x (List.mem_of_getElem? hx)
    unfold okArg at hax
    split at hax
    · rename_i a n c'
      simp only [Bool.and_eq_true, Nat.blt_eq] at hax
      have h0 := Nat.eq_of_beq_eq_true hax.1
      exact .slice (ρ := ⟨fun _ => b, fun _ => off, fun _ => 0, fun _ => 0⟩) h0 hax.2
    · rename_i hne
      have : shift b off x = x := by
        unfold shift
        split
        · rename_i a n c'; exact absurd rfl (hne a n c')
        · rfl
      rw [this]
      exact VRel.of_flatN 3 x hax
  have hw : WRel TP ⟨fun _ => b, fun _ => off, fun _ => 0, fun _ => 0⟩ (fun x => x = 0) (rowV c e).get w := by
    refine ⟨fun x o hx => (hV x o hx).1, fun x o hx => hr.1, fun x o hx ho => ?_, fun x cs e' fz hx hz i v hi => ?_, fun x es c' hx => ?_, fun x y o o' hx hy ho => ?_⟩
    · rw [(hV x o hx).2] at ho; cases ho
    · have := (hV x _ hx).2
      cases this
      exact ⟨v, hr.2 i v (by simpa using hi), VRel.of_flatN 3 v (List.all_eq_true.1 hc v (List.mem_of_getElem? (by simpa using hi)))⟩
    · have := (hV x _ hx).2; cases this
    · rw [(hV x o hx).2] at ho; cases ho
  have := ok _ _ w (args.map (shift b off)).toArray 5 hw hl (fun x h1 _ h => by
    have h : x = 0 := h
    have h1 : 1 ≤ x := h1
    omega)
  refine (callsIn_wide.1 this).mono ?_
  rintro e w' ⟨ρ1, v', rfl, st, hrel⟩
  have hv' := hrel.flatN_eq 3 hkv
  subst hv'
  exact ⟨⟨_, rfl, h2⟩, st.os, st.tape, st.output, st.size, fun k hk => st.frame k hk fun x o hx ho => by rw [(hV x o hx).2] at ho; cases ho⟩
end Go.Vm
