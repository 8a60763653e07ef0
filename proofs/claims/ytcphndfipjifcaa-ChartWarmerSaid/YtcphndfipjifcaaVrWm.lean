/- ChartWarmer: what it asks of single operations, and why all of it is so. -/
import Derived.Test.YtcphndfipjifcaaVrW2
import Derived.Test.YtcphndfipjifcaaCommon
set_option linter.unusedVariables false
namespace Go.Proofs.Ytcphndfipjifcaa
open Go.RowKit Go.Vm
set_option maxRecDepth 100000
set_option maxHeartbeats 4000000

/-! fractions -/
theorem frac_mul (n d : Int) : fnum n d * (Int.gcd n d : Int) = n ∧ fden n d * (Int.gcd n d : Int) = d := ⟨Int.ediv_mul_cancel (Int.gcd_dvd_left n d), Int.ediv_mul_cancel (Int.gcd_dvd_right n d)⟩
theorem lessR_frac (n1 d1 n2 d2 : Int) (h1 : 0 < d1) (h2 : 0 < d2) : lessR (fnum n1 d1) (fden n1 d1) (fnum n2 d2) (fden n2 d2) = decide (n1 * d2 < n2 * d1) := by
  have g1 := gcd_pos_of n1 d1 h1
  have g2 := gcd_pos_of n2 d2 h2
  obtain ⟨e1, e2⟩ := frac_mul n1 d1
  obtain ⟨e3, e4⟩ := frac_mul n2 d2
  unfold lessR
  apply decide_eq_decide.2
  generalize fnum n1 d1 = a at *
  generalize fden n1 d1 = b at *
  generalize fnum n2 d2 = c at *
  generalize fden n2 d2 = d at *
  generalize (Int.gcd n1 d1 : Int) = G at *
  generalize (Int.gcd n2 d2 : Int) = H at *
  have p : 0 < G * H := Int.mul_pos g1 g2
  have f1 : n1 * d2 = a * d * (G * H) := by rw [← e1, ← e4]; ac_rfl
  have f2 : n2 * d1 = c * b * (G * H) := by rw [← e2, ← e3]; ac_rfl
  rw [f1, f2]
  exact ⟨fun h => Int.mul_lt_mul_of_pos_right h p, fun h => Int.lt_of_mul_lt_mul_right h (Int.le_of_lt p)⟩
theorem notless_den (l X Y : Int) (hl : 0 ≤ l) (hX : -1000000 < X) (hXY : X ≤ Y) : lessR (fnum (1000000 * l) (1000000 + X)) (fden (1000000 * l) (1000000 + X)) (fnum (1000000 * l) (1000000 + Y)) (fden (1000000 * l) (1000000 + Y)) = false := by
  rw [lessR_frac _ _ _ _ (by omega) (by omega)]
  apply decide_eq_false
  have := Int.mul_le_mul_of_nonneg_left (show 1000000 + X ≤ 1000000 + Y by omega) (show 0 ≤ 1000000 * l by omega)
  omega
theorem notless_num (l k X : Int) (hl : l ≤ k) (hX : -1000000 < X) : lessR (fnum (1000000 * k) (1000000 + X)) (fden (1000000 * k) (1000000 + X)) (fnum (1000000 * l) (1000000 + X)) (fden (1000000 * l) (1000000 + X)) = false := by
  rw [lessR_frac _ _ _ _ (by omega) (by omega)]
  apply decide_eq_false
  have := Int.mul_le_mul_of_nonneg_right (show 1000000 * l ≤ 1000000 * k by omega) (show 0 ≤ 1000000 + X by omega)
  omega
theorem frac_whole (l : Int) : fnum (1000000 * l) 1000000 = l ∧ fden (1000000 * l) 1000000 = 1 := by
  have e : Int.gcd (1000000 * l) 1000000 = 1000000 := by
    have := Int.gcd_mul_left 1000000 l 1
    rw [Int.mul_one] at this
    rw [this, Int.gcd_one]
    rfl
  unfold fnum fden
  rw [e]
  exact ⟨Int.mul_ediv_cancel_left l (by decide), by decide⟩
theorem corner {wl wh sl sh p q : Int} (h1 : wl ≤ p) (h2 : p ≤ wh) (h3 : sl ≤ q) (h4 : q ≤ sh) (h5 : 0 ≤ sl) : min4 (wl * sl) (wl * sh) (wh * sl) (wh * sh) ≤ p * q ∧ p * q ≤ max4 (wl * sl) (wl * sh) (wh * sl) (wh * sh) := by
  have a1 : p * q ≤ wh * q := Int.mul_le_mul_of_nonneg_right h2 (by omega)
  have a2 : wl * q ≤ p * q := Int.mul_le_mul_of_nonneg_right h1 (by omega)
  have b1 : wh * q ≤ wh * sh ∨ wh * q ≤ wh * sl := by
    by_cases h : 0 ≤ wh
    · exact .inl (Int.mul_le_mul_of_nonneg_left h4 h)
    · exact .inr (Int.mul_le_mul_of_nonpos_left (by omega) h3)
  have b2 : wl * sl ≤ wl * q ∨ wl * sh ≤ wl * q := by
    by_cases h : 0 ≤ wl
    · exact .inl (Int.mul_le_mul_of_nonneg_left h3 h)
    · exact .inr (Int.mul_le_mul_of_nonpos_left (by omega) h4)
  unfold min4 max4
  omega
theorem corners {wl wh sl sh xl xh yl yh : Int} (h1 : xl ≤ wl) (h2 : wl ≤ wh) (h3 : wh ≤ xh) (h4 : yl ≤ sl) (h5 : sl ≤ sh) (h6 : sh ≤ yh) (h7 : 0 ≤ yl) :
    max4 (wl * sl) (wl * sh) (wh * sl) (wh * sh) ≤ max4 (xl * yl) (xl * yh) (xh * yl) (xh * yh) ∧ min4 (xl * yl) (xl * yh) (xh * yl) (xh * yh) ≤ min4 (wl * sl) (wl * sh) (wh * sl) (wh * sh) := by
  have c1 := corner (wl := xl) (wh := xh) (sl := yl) (sh := yh) (p := wl) (q := sl) h1 (by omega) h4 (by omega) h7
  have c2 := corner (wl := xl) (wh := xh) (sl := yl) (sh := yh) (p := wl) (q := sh) h1 (by omega) (by omega) h6 h7
  have c3 := corner (wl := xl) (wh := xh) (sl := yl) (sh := yh) (p := wh) (q := sl) (by omega) h3 h4 (by omega) h7
  have c4 := corner (wl := xl) (wh := xh) (sl := yl) (sh := yh) (p := wh) (q := sh) (by omega) h3 (by omega) h6 h7
  generalize max4 (xl * yl) (xl * yh) (xh * yl) (xh * yh) = A at *
  generalize min4 (xl * yl) (xl * yh) (xh * yl) (xh * yh) = B at *
  unfold min4 max4
  omega

/-! single operations of this program -/
theorem ob_add64 {t : TypeId} {x y : Operand} {a b c : Int} (h1 : -9223372036854775808 ≤ a + b) (h2 : a + b ≤ 9223372036854775807) (h : a + b = c) : OBin .add t x y (.int .i64 a) (.int .i64 b) (.int .i64 c) := ob_add (by rw [wrap64 h1 h2, h])
theorem ob_sub64 {t : TypeId} {x y : Operand} {a b c : Int} (h1 : -9223372036854775808 ≤ a - b) (h2 : a - b ≤ 9223372036854775807) (h : a - b = c) : OBin .sub t x y (.int .i64 a) (.int .i64 b) (.int .i64 c) := ob_sub (by rw [wrap64 h1 h2, h])
theorem ob_mul64 {t : TypeId} {x y : Operand} {a b c : Int} (h1 : -9223372036854775808 ≤ a * b) (h2 : a * b ≤ 9223372036854775807) (h : a * b = c) : OBin .mul t x y (.int .i64 a) (.int .i64 b) (.int .i64 c) := ob_mul (by rw [wrap64 h1 h2, h])
theorem ty2 : TP.underlying 2 = some (.int .i64) := by kernel_rfl
theorem cv22 (L : Int) : pureRun TP (convert 22 2 (.int .u32 L)) = some (.int .i64 (IntKind.i64.wrap L)) := by kernel_rfl
theorem cv23 (L : Int) : pureRun TP (convert 23 2 (.int .u16 L)) = some (.int .i64 (IntKind.i64.wrap L)) := by kernel_rfl
theorem cv5 (L : Int) : pureRun TP (convert 5 2 (.int .u8 L)) = some (.int .i64 (IntKind.i64.wrap L)) := by kernel_rfl
theorem eqInt (d : Nat) (k : IntKind) (a b : Int) (V : View) : runV TP (Op.equalIn (d + 1) 2 (.int k a) (.int k b)) V = some (a == b, V) := by
  simp only [Op.equalIn, runV_bind, run_under ty2, Option.bind_some, if_true]
  rfl
noncomputable abbrev fl (t i : Nat) : Field := (TP.fieldsOf t)[i]!
theorem eqR (d : Nat) (a b : Int) (V : View) : runV TP (Op.equalIn (d + 1 + 1) 30 (.agg #[.int .i64 a, .int .i64 b]) (.agg #[.int .i64 a, .int .i64 b])) V = some (true, V) := by
  have hl : (TP.fieldsOf 30).toList = [fl 30 0, fl 30 1] := by kernel_rfl
  have t0 : (fl 30 0).type = 2 := by kernel_rfl
  have t1 : (fl 30 1).type = 2 := by kernel_rfl
  have n0 : decide ((fl 30 0).name = "_") = false := by kernel_rfl
  have n1 : decide ((fl 30 1).name = "_") = false := by kernel_rfl
  have p0 : ∀ V, runV TP (part 2 #[.int .i64 a, .int .i64 b] (fl 30 0).offset) V = some (.int .i64 a, V) := fun V => by kernel_rfl
  have p1 : ∀ V, runV TP (part 2 #[.int .i64 a, .int .i64 b] (fl 30 1).offset) V = some (.int .i64 b, V) := fun V => by kernel_rfl
  rw [runV_struct _ _ _ _ _ (by kernel_rfl) (by kernel_rfl), hl]
  simp only [Op.eqFields, t0, t1, of_decide_eq_false n0, of_decide_eq_false n1, ne_eq, not_false_eq_true, if_true, runV_bind, p0, p1, Option.bind_some, eqInt, beq_self_eq_true, Bool.not_true, Bool.false_eq_true, if_false]
  rfl
theorem eqS (d : Nat) (a b c e : Int) (V : View) : runV TP (Op.equalIn (d + 1 + 1 + 1) 32 (.agg #[.int .i64 a, .int .i64 b, .int .i64 c, .int .i64 e]) (.agg #[.int .i64 a, .int .i64 b, .int .i64 c, .int .i64 e])) V = some (true, V) := by
  have hl : (TP.fieldsOf 32).toList = [fl 32 0, fl 32 1] := by kernel_rfl
  have t0 : (fl 32 0).type = 30 := by kernel_rfl
  have t1 : (fl 32 1).type = 30 := by kernel_rfl
  have n0 : decide ((fl 32 0).name = "_") = false := by kernel_rfl
  have n1 : decide ((fl 32 1).name = "_") = false := by kernel_rfl
  have p0 : ∀ V, runV TP (part 30 #[.int .i64 a, .int .i64 b, .int .i64 c, .int .i64 e] (fl 32 0).offset) V = some (.agg #[.int .i64 a, .int .i64 b], V) := fun V => by kernel_rfl
  have p1 : ∀ V, runV TP (part 30 #[.int .i64 a, .int .i64 b, .int .i64 c, .int .i64 e] (fl 32 1).offset) V = some (.agg #[.int .i64 c, .int .i64 e], V) := fun V => by kernel_rfl
  rw [runV_struct _ _ _ _ _ (by kernel_rfl) (by kernel_rfl), hl]
  simp only [Op.eqFields, t0, t1, of_decide_eq_false n0, of_decide_eq_false n1, ne_eq, not_false_eq_true, if_true, runV_bind, p0, p1, Option.bind_some, eqR, Bool.not_true, Bool.false_eq_true, if_false]
  rfl
theorem neqS (x y : Operand) (a b c e : Int) : OBin .neq 32 x y (.agg #[.int .i64 a, .int .i64 b, .int .i64 c, .int .i64 e]) (.agg #[.int .i64 a, .int .i64 b, .int .i64 c, .int .i64 e]) (.bool false) := by
  refine ⟨rfl, ?_⟩
  have e1 : pureRun TP (do eqGuard .neq 32 x y (.agg #[.int .i64 a, .int .i64 b, .int .i64 c, .int .i64 e]) (.agg #[.int .i64 a, .int .i64 b, .int .i64 c, .int .i64 e]); binOp .neq 32 (.agg #[.int .i64 a, .int .i64 b, .int .i64 c, .int .i64 e]) (.agg #[.int .i64 a, .int .i64 b, .int .i64 c, .int .i64 e])) =
      pureRun TP (binOp .neq 32 (.agg #[.int .i64 a, .int .i64 b, .int .i64 c, .int .i64 e]) (.agg #[.int .i64 a, .int .i64 b, .int .i64 c, .int .i64 e])) := by kernel_rfl
  rw [e1]
  have e2 : (binOp .neq 32 (.agg #[.int .i64 a, .int .i64 b, .int .i64 c, .int .i64 e]) (.agg #[.int .i64 a, .int .i64 b, .int .i64 c, .int .i64 e])) = (do let r ← Op.equalIn (9997 + 1 + 1 + 1) 32 (.agg #[.int .i64 a, .int .i64 b, .int .i64 c, .int .i64 e]) (.agg #[.int .i64 a, .int .i64 b, .int .i64 c, .int .i64 e]); pure (Value.bool (!r))) := by kernel_rfl
  rw [e2]
  simp only [pureRun, runV_bind, eqS, Option.bind_some, Bool.not_true]
  rfl

/-! what is known of the functions that are called -/
def okF (a b : Int) : Prop := 0 ≤ a ∧ 1 ≤ b ∧ a ≤ 9223372036854775807 ∧ b ≤ 9223372036854775807
open Classical in
noncomputable def lessA (args : List Value) : Option Value := match args with
  | [.agg ⟨[.int .i64 a, .int .i64 b]⟩, .agg ⟨[.int .i64 c, .int .i64 d]⟩] => if okF a b ∧ okF c d then some (.bool (lessR a b c d)) else none
  | _ => none
noncomputable def lessF (f : FuncId) (args : List Value) : Option Value := match Nat.beq f 13 with
  | true => lessA args
  | false => none
theorem lessA_ok {args : List Value} {v : Value} (h : lessA args = some v) : args.all (flatN 3) = true ∧ flatN 3 v = true ∧ ∀ w, Calls TP 13 args.toArray w fun e w' => e = .returned v ∧ Below w.heap.size w w' := by
  unfold lessA at h
  split at h
  · split at h
    · rename_i hok
      cases h
      exact ⟨rfl, rfl, fun w => Less_any _ _ _ _ w hok.1.1 hok.2.1 hok.1.2.1 hok.2.2.1 hok.1.2.2.1 hok.1.2.2.2 hok.2.2.2.1 hok.2.2.2.2⟩
    · cases h
  · cases h
theorem lessF_ok : SelfOK TP (oracle lessF) := oracle_ok fun f args v h => by
  unfold lessF at h
  split at h
  · rename_i hf
    have := Nat.eq_of_beq_eq_true hf
    subst this
    exact lessA_ok h
  · cases h
theorem less_at {a b c d : Int} (h1 : okF a b) (h2 : okF c d) (h : lessR a b c d = false) : lessA [.agg #[.int .i64 a, .int .i64 b], .agg #[.int .i64 c, .int .i64 d]] = some (.bool false) := by
  unfold lessA
  exact (if_pos ⟨h1, h2⟩).trans (by rw [h])
theorem inside_run (a b c d a' b' c' d' : Int) : callW (oracle lessF) (advOf [(9, .bool false), (16, .bool false), (24, .bool false)]) 30 12 [.agg #[.int .i64 a, .int .i64 b, .int .i64 c, .int .i64 d], .agg #[.int .i64 a', .int .i64 b', .int .i64 c', .int .i64 d']] (fun v => v = .bool true) = (
      OCall (oracle lessF) 13 [(.agg #[(.int .i64 a), (.int .i64 b)]), (.agg #[(.int .i64 a'), (.int .i64 b')])] (.bool false) ∧
      OCall (oracle lessF) 13 [(.agg #[(.int .i64 c'), (.int .i64 d')]), (.agg #[(.int .i64 c), (.int .i64 d)])] (.bool false) ∧
      OCall (oracle lessF) 13 [(.agg #[(.int .i64 c), (.int .i64 d)]), (.agg #[(.int .i64 a), (.int .i64 b)])] (.bool false) ∧
      ((Go.Value.bool true) = (Go.Value.bool true))) := by kernel_rfl
theorem inside_any {a b c d a' b' c' d' : Int} (h1 : okF a b) (h2 : okF c d) (h3 : okF a' b') (h4 : okF c' d') (l1 : lessR a b a' b' = false) (l2 : lessR c' d' c d = false) (l3 : lessR c d a b = false) (w : World) :
    Calls TP 12 #[.agg #[.int .i64 a, .int .i64 b, .int .i64 c, .int .i64 d], .agg #[.int .i64 a', .int .i64 b', .int .i64 c', .int .i64 d']] w fun e w' => e = .returned (.bool true) ∧ Below w.heap.size w w' := by
  have hc : callW (oracle lessF) (advOf [(9, .bool false), (16, .bool false), (24, .bool false)]) 30 12 [.agg #[.int .i64 a, .int .i64 b, .int .i64 c, .int .i64 d], .agg #[.int .i64 a', .int .i64 b', .int .i64 c', .int .i64 d']] (fun v => v = .bool true) := by
    rw [inside_run]
    exact ⟨ob_oracle (by kernel_rfl) (less_at h1 h3 l1), ob_oracle (by kernel_rfl) (less_at h4 h2 l2), ob_oracle (by kernel_rfl) (less_at h2 h1 l3), rfl⟩
  refine (call_sym lessF_ok (oracle_code _) rfl rfl (fun v h => by rw [h]; rfl) hc w).mono ?_
  rintro e w' ⟨⟨v, rfl, rfl⟩, hb⟩
  exact ⟨rfl, hb⟩

noncomputable def comA (args : List Value) : Option Value := match args with
  | [.int .i64 l, .agg ⟨[.int .i64 a, .int .i64 b]⟩, .agg ⟨[.int .i64 c, .int .i64 d]⟩] => some (commonV l a b c d)
  | _ => none
open Classical in
noncomputable def insA (args : List Value) : Option Value := match args with
  | [.agg ⟨[.int .i64 a, .int .i64 b, .int .i64 c, .int .i64 d]⟩, .agg ⟨[.int .i64 a', .int .i64 b', .int .i64 c', .int .i64 d']⟩] =>
    if (okF a b ∧ okF c d ∧ okF a' b' ∧ okF c' d') ∧ lessR a b a' b' = false ∧ lessR c' d' c d = false ∧ lessR c d a b = false then some (.bool true) else none
  | _ => none
open Classical in
noncomputable def fracA (args : List Value) : Option Value := match args with
  | [.int .i64 a, .int .i64 b] => if 0 ≤ a ∧ 0 < b ∧ a ≤ 9223372036854775807 ∧ b ≤ 9223372036854775807 then some (.agg #[.int .i64 (fnum a b), .int .i64 (fden a b)]) else none
  | _ => none
noncomputable def wmF (f : FuncId) (args : List Value) : Option Value := match Nat.beq f 10 with
  | true => comA args
  | false => match Nat.beq f 12 with
    | true => insA args
    | false => match Nat.beq f 13 with
      | true => lessA args
      | false => match Nat.beq f 14 with
        | true => fracA args
        | false => match Nat.beq f 15 && args.isEmpty with
          | true => some (.bool true)
          | false => none
theorem common_flat (l a b c d : Int) : flatN 3 (commonV l a b c d) = true := by
  unfold commonV
  split
  · rfl
  · split <;> rfl
theorem wmF_ok (works : ∀ w, Calls TP 15 #[] w fun e w' => e = .returned (.bool true) ∧ Below w.heap.size w w') : SelfOK TP (oracle wmF) := oracle_ok fun f args v h => by
  unfold wmF at h
  split at h
  · rename_i hf
    have := Nat.eq_of_beq_eq_true hf
    subst this
    unfold comA at h
    split at h
    · cases h
      exact ⟨rfl, common_flat _ _ _ _ _, fun w => Common_any _ _ _ _ _ w⟩
    · cases h
  · split at h
    · rename_i hf
      have := Nat.eq_of_beq_eq_true hf
      subst this
      unfold insA at h
      split at h
      · split at h
        · rename_i hok
          cases h
          exact ⟨rfl, rfl, fun w => inside_any hok.1.1 hok.1.2.1 hok.1.2.2.1 hok.1.2.2.2 hok.2.1 hok.2.2.1 hok.2.2.2 w⟩
        · cases h
      · cases h
    · split at h
      · rename_i hf
        have := Nat.eq_of_beq_eq_true hf
        subst this
        exact lessA_ok h
      · split at h
        · rename_i hf
          have := Nat.eq_of_beq_eq_true hf
          subst this
          unfold fracA at h
          split at h
          · split at h
            · rename_i hok
              cases h
              exact ⟨rfl, rfl, fun w => Fraction_any _ _ w hok.1 hok.2.1 hok.2.2.1 hok.2.2.2⟩
            · cases h
          · cases h
        · split at h
          · rename_i hf
            rw [Bool.and_eq_true] at hf
            have := Nat.eq_of_beq_eq_true hf.1
            subst this
            have := List.isEmpty_iff.1 hf.2
            subst this
            cases h
            exact ⟨rfl, rfl, works⟩
          · cases h

/-! the whole -/
theorem warm_run (L M a0 a1 b0 b1 c0 c1 c2 c3 d0 d1 n m wl wh sl sh xl xh yl yh p q a1n a1d a2n a2d b1n b1d b2n b2d c1n c1d c2n c2d vn vd : Int) : callW (oracle wmF) (advOf [
 (34, .int .i64 L), (35, .int .i64 n), (38, .int .i64 M), (39, .int .i64 (n + M)), (40, .int .i64 m),
 (43, .int .i64 a0), (44, .int .i64 (a0 % 801)), (45, .int .i64 wl), (51, .int .i64 a1), (52, .int .i64 (a1 % 100)), (53, .int .i64 (wl + a1 % 100)), (54, .int .i64 wh),
 (58, .int .i64 b0), (59, .int .i64 sl), (65, .int .i64 b1), (66, .int .i64 (b1 % 50)), (67, .int .i64 (sl + b1 % 50)), (68, .int .i64 sh),
 (74, .int .i64 c0), (75, .int .i64 (wl - c0)), (76, .int .i64 xl), (81, .int .i64 c1), (82, .int .i64 (wh + c1)), (83, .int .i64 xh),
 (89, .int .i64 c2), (90, .int .i64 (sl - c2)), (91, .int .i64 yl), (96, .int .i64 c3), (97, .int .i64 (sh + c3)), (98, .int .i64 yh),
 (104, .tuple #[.agg #[.int .i64 a1n, .int .i64 a1d, .int .i64 a2n, .int .i64 a2d], .int .i64 0]),
 (111, .tuple #[.agg #[.int .i64 b1n, .int .i64 b1d, .int .i64 b2n, .int .i64 b2d], .int .i64 0]),
 (118, .tuple #[.agg #[.int .i64 c1n, .int .i64 c1d, .int .i64 c2n, .int .i64 c2d], .int .i64 0]),
 (125, .tuple #[.agg #[.int .i64 n, .int .i64 1, .int .i64 n, .int .i64 1], .int .i64 0]),
 (132, .tuple #[.agg #[.int .i64 n, .int .i64 1, .int .i64 n, .int .i64 1], .int .i64 0]),
 (161, .bool false), (166, .bool false), (171, .bool true), (179, .bool false), (186, .bool false),
 (192, .int .i64 d0), (197, .int .i64 (wh - wl)), (198, .int .i64 (wh - wl + 1)), (199, .int .i64 (d0 % (wh - wl + 1))), (200, .int .i64 p),
 (205, .int .i64 d1), (210, .int .i64 (sh - sl)), (211, .int .i64 (sh - sl + 1)), (212, .int .i64 (d1 % (sh - sl + 1))), (213, .int .i64 q),
 (215, .int .i64 (1000000 * n)), (218, .int .i64 (p * q)), (219, .int .i64 (1000000 + p * q)), (220, .agg #[.int .i64 vn, .int .i64 vd]), (224, .bool false), (230, .bool false)]) 60 3 [.int .u32 L, .int .u32 M, .agg #[.int .u16 a0, .int .u16 a1], .agg #[.int .u16 b0, .int .u16 b1], .agg #[.int .u8 c0, .int .u8 c1, .int .u8 c2, .int .u8 c3], .agg #[.int .u16 d0, .int .u16 d1]] (fun v => v = .bool true) = (
      OCv 22 2 (.int .u32 L) (.int .i64 L) ∧
      OBin .rem 2 (.tmp 34) (.const (.int .i64 (100001))) (.int .i64 L) (.int .i64 (100001)) (.int .i64 n) ∧
      OCv 22 2 (.int .u32 M) (.int .i64 M) ∧
      OBin .add 2 (.tmp 36) (.tmp 38) (.int .i64 n) (.int .i64 M) (.int .i64 (n + M)) ∧
      OMin #[2, 2] 2 [(.int .i64 (100000)), (.int .i64 (n + M))] (.int .i64 m) ∧
      OCv 23 2 (.int .u16 a0) (.int .i64 a0) ∧
      OBin .rem 2 (.tmp 43) (.const (.int .i64 (801))) (.int .i64 a0) (.int .i64 (801)) (.int .i64 (a0 % 801)) ∧
      OBin .sub 2 (.tmp 44) (.const (.int .i64 (400))) (.int .i64 (a0 % 801)) (.int .i64 (400)) (.int .i64 wl) ∧
      OCv 23 2 (.int .u16 a1) (.int .i64 a1) ∧
      OBin .rem 2 (.tmp 51) (.const (.int .i64 (100))) (.int .i64 a1) (.int .i64 (100)) (.int .i64 (a1 % 100)) ∧
      OBin .add 2 (.tmp 48) (.tmp 52) (.int .i64 wl) (.int .i64 (a1 % 100)) (.int .i64 (wl + a1 % 100)) ∧
      OMin #[2, 2] 2 [(.int .i64 (400)), (.int .i64 (wl + a1 % 100))] (.int .i64 wh) ∧
      OCv 23 2 (.int .u16 b0) (.int .i64 b0) ∧
      OBin .rem 2 (.tmp 58) (.const (.int .i64 (201))) (.int .i64 b0) (.int .i64 (201)) (.int .i64 sl) ∧
      OCv 23 2 (.int .u16 b1) (.int .i64 b1) ∧
      OBin .rem 2 (.tmp 65) (.const (.int .i64 (50))) (.int .i64 b1) (.int .i64 (50)) (.int .i64 (b1 % 50)) ∧
      OBin .add 2 (.tmp 62) (.tmp 66) (.int .i64 sl) (.int .i64 (b1 % 50)) (.int .i64 (sl + b1 % 50)) ∧
      OMin #[2, 2] 2 [(.int .i64 (200)), (.int .i64 (sl + b1 % 50))] (.int .i64 sh) ∧
      OCv 5 2 (.int .u8 c0) (.int .i64 c0) ∧
      OBin .sub 2 (.tmp 71) (.tmp 74) (.int .i64 wl) (.int .i64 c0) (.int .i64 (wl - c0)) ∧
      OMax #[2, 2] 2 [(.int .i64 (-400)), (.int .i64 (wl - c0))] (.int .i64 xl) ∧
      OCv 5 2 (.int .u8 c1) (.int .i64 c1) ∧
      OBin .add 2 (.tmp 78) (.tmp 81) (.int .i64 wh) (.int .i64 c1) (.int .i64 (wh + c1)) ∧
      OMin #[2, 2] 2 [(.int .i64 (400)), (.int .i64 (wh + c1))] (.int .i64 xh) ∧
      OCv 5 2 (.int .u8 c2) (.int .i64 c2) ∧
      OBin .sub 2 (.tmp 86) (.tmp 89) (.int .i64 sl) (.int .i64 c2) (.int .i64 (sl - c2)) ∧
      OMax #[2, 2] 2 [(.int .i64 (0)), (.int .i64 (sl - c2))] (.int .i64 yl) ∧
      OCv 5 2 (.int .u8 c3) (.int .i64 c3) ∧
      OBin .add 2 (.tmp 93) (.tmp 96) (.int .i64 sh) (.int .i64 c3) (.int .i64 (sh + c3)) ∧
      OMin #[2, 2] 2 [(.int .i64 (200)), (.int .i64 (sh + c3))] (.int .i64 yh) ∧
      OCall (oracle wmF) 10 [(.int .i64 n), (.agg #[(.int .i64 wl), (.int .i64 wh)]), (.agg #[(.int .i64 sl), (.int .i64 sh)])] (.tuple #[(.agg #[(.int .i64 a1n), (.int .i64 a1d), (.int .i64 a2n), (.int .i64 a2d)]), (.int .i64 (0))]) ∧
      OCall (oracle wmF) 10 [(.int .i64 n), (.agg #[(.int .i64 xl), (.int .i64 xh)]), (.agg #[(.int .i64 yl), (.int .i64 yh)])] (.tuple #[(.agg #[(.int .i64 b1n), (.int .i64 b1d), (.int .i64 b2n), (.int .i64 b2d)]), (.int .i64 (0))]) ∧
      OCall (oracle wmF) 10 [(.int .i64 m), (.agg #[(.int .i64 wl), (.int .i64 wh)]), (.agg #[(.int .i64 sl), (.int .i64 sh)])] (.tuple #[(.agg #[(.int .i64 c1n), (.int .i64 c1d), (.int .i64 c2n), (.int .i64 c2d)]), (.int .i64 (0))]) ∧
      OCall (oracle wmF) 10 [(.int .i64 n), (.agg #[(.int .i64 wl), (.int .i64 wh)]), (.agg #[(.int .i64 (0)), (.int .i64 (0))])] (.tuple #[(.agg #[(.int .i64 n), (.int .i64 (1)), (.int .i64 n), (.int .i64 (1))]), (.int .i64 (0))]) ∧
      OCall (oracle wmF) 10 [(.int .i64 n), (.agg #[(.int .i64 (0)), (.int .i64 (0))]), (.agg #[(.int .i64 sl), (.int .i64 sh)])] (.tuple #[(.agg #[(.int .i64 n), (.int .i64 (1)), (.int .i64 n), (.int .i64 (1))]), (.int .i64 (0))]) ∧
      OBin .neq 32 (.tmp 159) (.tmp 160) (.agg #[(.int .i64 n), (.int .i64 (1)), (.int .i64 n), (.int .i64 (1))]) (.agg #[(.int .i64 n), (.int .i64 (1)), (.int .i64 n), (.int .i64 (1))]) (.bool false) ∧
      OBin .neq 32 (.tmp 164) (.tmp 165) (.agg #[(.int .i64 n), (.int .i64 (1)), (.int .i64 n), (.int .i64 (1))]) (.agg #[(.int .i64 n), (.int .i64 (1)), (.int .i64 n), (.int .i64 (1))]) (.bool false) ∧
      OCall (oracle wmF) 12 [(.agg #[(.int .i64 a1n), (.int .i64 a1d), (.int .i64 a2n), (.int .i64 a2d)]), (.agg #[(.int .i64 b1n), (.int .i64 b1d), (.int .i64 b2n), (.int .i64 b2d)])] (.bool true) ∧
      OCall (oracle wmF) 13 [(.agg #[(.int .i64 c1n), (.int .i64 c1d)]), (.agg #[(.int .i64 a1n), (.int .i64 a1d)])] (.bool false) ∧
      OCall (oracle wmF) 13 [(.agg #[(.int .i64 c2n), (.int .i64 c2d)]), (.agg #[(.int .i64 a2n), (.int .i64 a2d)])] (.bool false) ∧
      OCv 23 2 (.int .u16 d0) (.int .i64 d0) ∧
      OBin .sub 2 (.tmp 194) (.tmp 196) (.int .i64 wh) (.int .i64 wl) (.int .i64 (wh - wl)) ∧
      OBin .add 2 (.tmp 197) (.const (.int .i64 (1))) (.int .i64 (wh - wl)) (.int .i64 (1)) (.int .i64 (wh - wl + 1)) ∧
      OBin .rem 2 (.tmp 192) (.tmp 198) (.int .i64 d0) (.int .i64 (wh - wl + 1)) (.int .i64 (d0 % (wh - wl + 1))) ∧
      OBin .add 2 (.tmp 189) (.tmp 199) (.int .i64 wl) (.int .i64 (d0 % (wh - wl + 1))) (.int .i64 p) ∧
      OCv 23 2 (.int .u16 d1) (.int .i64 d1) ∧
      OBin .sub 2 (.tmp 207) (.tmp 209) (.int .i64 sh) (.int .i64 sl) (.int .i64 (sh - sl)) ∧
      OBin .add 2 (.tmp 210) (.const (.int .i64 (1))) (.int .i64 (sh - sl)) (.int .i64 (1)) (.int .i64 (sh - sl + 1)) ∧
      OBin .rem 2 (.tmp 205) (.tmp 211) (.int .i64 d1) (.int .i64 (sh - sl + 1)) (.int .i64 (d1 % (sh - sl + 1))) ∧
      OBin .add 2 (.tmp 202) (.tmp 212) (.int .i64 sl) (.int .i64 (d1 % (sh - sl + 1))) (.int .i64 q) ∧
      OBin .mul 2 (.const (.int .i64 (1000000))) (.tmp 214) (.int .i64 (1000000)) (.int .i64 n) (.int .i64 (1000000 * n)) ∧
      OBin .mul 2 (.tmp 216) (.tmp 217) (.int .i64 p) (.int .i64 q) (.int .i64 (p * q)) ∧
      OBin .add 2 (.const (.int .i64 (1000000))) (.tmp 218) (.int .i64 (1000000)) (.int .i64 (p * q)) (.int .i64 (1000000 + p * q)) ∧
      OCall (oracle wmF) 14 [(.int .i64 (1000000 * n)), (.int .i64 (1000000 + p * q))] (.agg #[(.int .i64 vn), (.int .i64 vd)]) ∧
      OCall (oracle wmF) 13 [(.agg #[(.int .i64 vn), (.int .i64 vd)]), (.agg #[(.int .i64 a1n), (.int .i64 a1d)])] (.bool false) ∧
      OCall (oracle wmF) 13 [(.agg #[(.int .i64 a2n), (.int .i64 a2d)]), (.agg #[(.int .i64 vn), (.int .i64 vd)])] (.bool false) ∧
      ((Go.Value.bool true) = (Go.Value.bool true))) := by kernel_rfl
theorem com_at {l wl wh sl sh A B : Int} (h1 : 0 ≤ l) (h2 : l ≤ 100000) (hw : wl ≤ wh ∧ -400 ≤ wl ∧ wh ≤ 400) (hs : sl ≤ sh ∧ 0 ≤ sl ∧ sh ≤ 200) (hA : max4 (wl * sl) (wl * sh) (wh * sl) (wh * sh) = A) (hB : min4 (wl * sl) (wl * sh) (wh * sl) (wh * sh) = B) :
    wmF 10 [.int .i64 l, .agg #[.int .i64 wl, .int .i64 wh], .agg #[.int .i64 sl, .int .i64 sh]] = some (.tuple #[.agg #[.int .i64 (fnum (1000000 * l) (1000000 + A)), .int .i64 (fden (1000000 * l) (1000000 + A)), .int .i64 (fnum (1000000 * l) (1000000 + B)), .int .i64 (fden (1000000 * l) (1000000 + B))], .int .i64 0]) := by
  have v1 : validB wl wh (-400) 400 = true := decide_eq_true hw
  have v2 : validB sl sh 0 200 = true := decide_eq_true hs
  show some (commonV l wl wh sl sh) = _
  unfold commonV
  rw [if_neg (fun h => h ⟨h1, h2⟩), if_neg (by rw [v1, v2]; simp), hA, hB]
theorem com_same {l wl wh sl sh : Int} (h1 : 0 ≤ l) (h2 : l ≤ 100000) (hw : wl ≤ wh ∧ -400 ≤ wl ∧ wh ≤ 400) (hs : sl ≤ sh ∧ 0 ≤ sl ∧ sh ≤ 200) (h0 : (wl = 0 ∧ wh = 0) ∨ (sl = 0 ∧ sh = 0)) :
    wmF 10 [.int .i64 l, .agg #[.int .i64 wl, .int .i64 wh], .agg #[.int .i64 sl, .int .i64 sh]] = some (.tuple #[.agg #[.int .i64 l, .int .i64 1, .int .i64 l, .int .i64 1], .int .i64 0]) := by
  have hA : max4 (wl * sl) (wl * sh) (wh * sl) (wh * sh) = 0 := by rcases h0 with ⟨rfl, rfl⟩ | ⟨rfl, rfl⟩ <;> simp [max4]
  have hB : min4 (wl * sl) (wl * sh) (wh * sl) (wh * sh) = 0 := by rcases h0 with ⟨rfl, rfl⟩ | ⟨rfl, rfl⟩ <;> simp [min4]
  rw [com_at h1 h2 hw hs hA hB, Int.add_zero, (frac_whole l).1, (frac_whole l).2]
theorem okF_frac {l X : Int} (h1 : 0 ≤ l) (h2 : l ≤ 100000) (h3 : -1000000 < X) (h4 : X ≤ 1000000) : okF (fnum (1000000 * l) (1000000 + X)) (fden (1000000 * l) (1000000 + X)) := by
  have a := fnum_bd (1000000 * l) (1000000 + X) (by omega) (by omega)
  have b := fden_bd (1000000 * l) (1000000 + X) (by omega)
  exact ⟨a.1, by omega, by omega, by omega⟩
theorem ins_at {a b c d a' b' c' d' : Int} (h1 : okF a b) (h2 : okF c d) (h3 : okF a' b') (h4 : okF c' d') (l1 : lessR a b a' b' = false) (l2 : lessR c' d' c d = false) (l3 : lessR c d a b = false) :
    wmF 12 [.agg #[.int .i64 a, .int .i64 b, .int .i64 c, .int .i64 d], .agg #[.int .i64 a', .int .i64 b', .int .i64 c', .int .i64 d']] = some (.bool true) := by
  have e : wmF 12 [.agg #[.int .i64 a, .int .i64 b, .int .i64 c, .int .i64 d], .agg #[.int .i64 a', .int .i64 b', .int .i64 c', .int .i64 d']] = insA [.agg #[.int .i64 a, .int .i64 b, .int .i64 c, .int .i64 d], .agg #[.int .i64 a', .int .i64 b', .int .i64 c', .int .i64 d']] := rfl
  rw [e]
  unfold insA
  exact if_pos ⟨⟨h1, h2, h3, h4⟩, l1, l2, l3⟩
theorem frac_at {a b : Int} (h1 : 0 ≤ a) (h2 : 0 < b) (h3 : a ≤ 9223372036854775807) (h4 : b ≤ 9223372036854775807) : wmF 14 [.int .i64 a, .int .i64 b] = some (.agg #[.int .i64 (fnum a b), .int .i64 (fden a b)]) := by
  have e : wmF 14 [.int .i64 a, .int .i64 b] = fracA [.int .i64 a, .int .i64 b] := rfl
  rw [e]
  unfold fracA
  exact if_pos ⟨h1, h2, h3, h4⟩
theorem less_wm {a b c d : Int} (h1 : okF a b) (h2 : okF c d) (h : lessR a b c d = false) : wmF 13 [.agg #[.int .i64 a, .int .i64 b], .agg #[.int .i64 c, .int .i64 d]] = some (.bool false) := less_at h1 h2 h

theorem warm_core (L M a0 a1 b0 b1 c0 c1 c2 c3 d0 d1 : Int) (hL : 0 ≤ L ∧ L ≤ 4294967295) (hM : 0 ≤ M ∧ M ≤ 4294967295) (ha0 : 0 ≤ a0 ∧ a0 ≤ 65535) (ha1 : 0 ≤ a1 ∧ a1 ≤ 65535) (hb0 : 0 ≤ b0 ∧ b0 ≤ 65535) (hb1 : 0 ≤ b1 ∧ b1 ≤ 65535)
    (hc0 : 0 ≤ c0 ∧ c0 ≤ 255) (hc1 : 0 ≤ c1 ∧ c1 ≤ 255) (hc2 : 0 ≤ c2 ∧ c2 ≤ 255) (hc3 : 0 ≤ c3 ∧ c3 ≤ 255) (hd0 : 0 ≤ d0 ∧ d0 ≤ 65535) (hd1 : 0 ≤ d1 ∧ d1 ≤ 65535) :
    ∃ adv, callW (oracle wmF) (advOf adv) 60 3 [.int .u32 L, .int .u32 M, .agg #[.int .u16 a0, .int .u16 a1], .agg #[.int .u16 b0, .int .u16 b1], .agg #[.int .u8 c0, .int .u8 c1, .int .u8 c2, .int .u8 c3], .agg #[.int .u16 d0, .int .u16 d1]] (fun v => v = .bool true) := by
  obtain ⟨n, hn⟩ : ∃ n, n = L % 100001 := ⟨_, rfl⟩
  obtain ⟨m, hm⟩ : ∃ m, m = min 100000 (n + M) := ⟨_, rfl⟩
  obtain ⟨wl, hwl⟩ : ∃ x, x = a0 % 801 - 400 := ⟨_, rfl⟩
  obtain ⟨wh, hwh⟩ : ∃ x, x = min 400 (wl + a1 % 100) := ⟨_, rfl⟩
  obtain ⟨sl, hsl⟩ : ∃ x, x = b0 % 201 := ⟨_, rfl⟩
  obtain ⟨sh, hsh⟩ : ∃ x, x = min 200 (sl + b1 % 50) := ⟨_, rfl⟩
  obtain ⟨xl, hxl⟩ : ∃ x, x = max (-400) (wl - c0) := ⟨_, rfl⟩
  obtain ⟨xh, hxh⟩ : ∃ x, x = min 400 (wh + c1) := ⟨_, rfl⟩
  obtain ⟨yl, hyl⟩ : ∃ x, x = max 0 (sl - c2) := ⟨_, rfl⟩
  obtain ⟨yh, hyh⟩ : ∃ x, x = min 200 (sh + c3) := ⟨_, rfl⟩
  have n1 : 0 ≤ n ∧ n ≤ 100000 := by omega
  have m1 : n ≤ m ∧ m ≤ 100000 := by omega
  have w1 : -400 ≤ wl ∧ wl ≤ wh ∧ wh ≤ 400 := by omega
  have s1 : 0 ≤ sl ∧ sl ≤ sh ∧ sh ≤ 200 := by omega
  have x1 : -400 ≤ xl ∧ xl ≤ wl ∧ wh ≤ xh ∧ xh ≤ 400 := by omega
  have y1 : 0 ≤ yl ∧ yl ≤ sl ∧ sh ≤ yh ∧ yh ≤ 200 := by omega
  have r0 := Int.emod_nonneg d0 (show wh - wl + 1 ≠ 0 by omega)
  have r1 := Int.emod_lt_of_pos d0 (show 0 < wh - wl + 1 by omega)
  have t0 := Int.emod_nonneg d1 (show sh - sl + 1 ≠ 0 by omega)
  have t1 := Int.emod_lt_of_pos d1 (show 0 < sh - sl + 1 by omega)
  obtain ⟨p, hp⟩ : ∃ x, x = wl + d0 % (wh - wl + 1) := ⟨_, rfl⟩
  obtain ⟨q, hq⟩ : ∃ x, x = sl + d1 % (sh - sl + 1) := ⟨_, rfl⟩
  have p1 : wl ≤ p ∧ p ≤ wh := by omega
  have q1 : sl ≤ q ∧ q ≤ sh := by omega
  obtain ⟨A, hA⟩ : ∃ x, max4 (wl * sl) (wl * sh) (wh * sl) (wh * sh) = x := ⟨_, rfl⟩
  obtain ⟨B, hB⟩ : ∃ x, min4 (wl * sl) (wl * sh) (wh * sl) (wh * sh) = x := ⟨_, rfl⟩
  obtain ⟨C, hC⟩ : ∃ x, max4 (xl * yl) (xl * yh) (xh * yl) (xh * yh) = x := ⟨_, rfl⟩
  obtain ⟨D, hD⟩ : ∃ x, min4 (xl * yl) (xl * yh) (xh * yl) (xh * yh) = x := ⟨_, rfl⟩
  have k1 := corners x1.2.1 w1.2.1 x1.2.2.1 y1.2.1 s1.2.1 y1.2.2.1 y1.1
  rw [hA, hB, hC, hD] at k1
  have k2 := corner p1.1 p1.2 q1.1 q1.2 s1.1
  rw [hA, hB] at k2
  have bd1 := max4_bd (prod_bd xl yl (by omega) (by omega) (by omega) (by omega)) (prod_bd xl yh (by omega) (by omega) (by omega) (by omega)) (prod_bd xh yl (by omega) (by omega) (by omega) (by omega)) (prod_bd xh yh (by omega) (by omega) (by omega) (by omega))
  rw [hC, hD] at bd1
  have okA := okF_frac n1.1 n1.2 (show -1000000 < A by omega) (by omega)
  have okB := okF_frac n1.1 n1.2 (show -1000000 < B by omega) (by omega)
  have okC := okF_frac n1.1 n1.2 (show -1000000 < C by omega) (by omega)
  have okD := okF_frac n1.1 n1.2 (show -1000000 < D by omega) (by omega)
  have okA' := okF_frac (show 0 ≤ m by omega) m1.2 (show -1000000 < A by omega) (by omega)
  have okB' := okF_frac (show 0 ≤ m by omega) m1.2 (show -1000000 < B by omega) (by omega)
  obtain ⟨pq, hpq⟩ : ∃ x, p * q = x := ⟨_, rfl⟩
  have okV := okF_frac n1.1 n1.2 (show -1000000 < p * q by omega) (by omega)
  have z1 := com_at n1.1 n1.2 ⟨w1.2.1, w1.1, w1.2.2⟩ ⟨s1.2.1, s1.1, s1.2.2⟩ hA hB
  have z2 := com_at n1.1 n1.2 (show xl ≤ xh ∧ -400 ≤ xl ∧ xh ≤ 400 by omega) (show yl ≤ yh ∧ 0 ≤ yl ∧ yh ≤ 200 by omega) hC hD
  have z3 := com_at (show 0 ≤ m by omega) m1.2 ⟨w1.2.1, w1.1, w1.2.2⟩ ⟨s1.2.1, s1.1, s1.2.2⟩ hA hB
  have z4 := com_same n1.1 n1.2 (show wl ≤ wh ∧ -400 ≤ wl ∧ wh ≤ 400 by omega) (show (0 : Int) ≤ 0 ∧ (0 : Int) ≤ 0 ∧ (0 : Int) ≤ 200 by omega) (.inr ⟨rfl, rfl⟩)
  have z5 := com_same n1.1 n1.2 (show (0 : Int) ≤ 0 ∧ -400 ≤ (0 : Int) ∧ (0 : Int) ≤ 400 by omega) (show sl ≤ sh ∧ 0 ≤ sl ∧ sh ≤ 200 by omega) (.inl ⟨rfl, rfl⟩)
  have z6 := ins_at okA okB okC okD (notless_den n A C n1.1 (by omega) k1.1) (notless_den n D B n1.1 (by omega) k1.2) (notless_den n B A n1.1 (by omega) (by omega))
  have z7 := less_wm okA' okA (notless_num n m A m1.1 (by omega))
  have z8 := less_wm okB' okB (notless_num n m B m1.1 (by omega))
  have z9 := frac_at (show 0 ≤ 1000000 * n by omega) (show 0 < 1000000 + p * q by omega) (by omega) (by omega)
  have z10 := less_wm okV okA (notless_den n (p * q) A n1.1 (by omega) k2.2)
  have z11 := less_wm okB okV (notless_den n B (p * q) n1.1 (by omega) k2.1)
  refine ⟨_, (warm_run L M a0 a1 b0 b1 c0 c1 c2 c3 d0 d1 n m wl wh sl sh xl xh yl yh p q _ _ _ _ _ _ _ _ _ _ _ _ _ _).mpr ⟨ob_cv (cv22 _) (wrap64 (by omega) (by omega)),
    ob_rem (by omega) (by omega) (by first | rfl | omega),
    ob_cv (cv22 _) (wrap64 (by omega) (by omega)),
    ob_add64 (by omega) (by omega) (by first | rfl | omega),
    ob_min (by split <;> omega),
    ob_cv (cv23 _) (wrap64 (by omega) (by omega)),
    ob_rem (by omega) (by omega) (by first | rfl | omega),
    ob_sub64 (by omega) (by omega) (by first | rfl | omega),
    ob_cv (cv23 _) (wrap64 (by omega) (by omega)),
    ob_rem (by omega) (by omega) (by first | rfl | omega),
    ob_add64 (by omega) (by omega) (by first | rfl | omega),
    ob_min (by split <;> omega),
    ob_cv (cv23 _) (wrap64 (by omega) (by omega)),
    ob_rem (by omega) (by omega) (by first | rfl | omega),
    ob_cv (cv23 _) (wrap64 (by omega) (by omega)),
    ob_rem (by omega) (by omega) (by first | rfl | omega),
    ob_add64 (by omega) (by omega) (by first | rfl | omega),
    ob_min (by split <;> omega),
    ob_cv (cv5 _) (wrap64 (by omega) (by omega)),
    ob_sub64 (by omega) (by omega) (by first | rfl | omega),
    ob_max (by split <;> omega),
    ob_cv (cv5 _) (wrap64 (by omega) (by omega)),
    ob_add64 (by omega) (by omega) (by first | rfl | omega),
    ob_min (by split <;> omega),
    ob_cv (cv5 _) (wrap64 (by omega) (by omega)),
    ob_sub64 (by omega) (by omega) (by first | rfl | omega),
    ob_max (by split <;> omega),
    ob_cv (cv5 _) (wrap64 (by omega) (by omega)),
    ob_add64 (by omega) (by omega) (by first | rfl | omega),
    ob_min (by split <;> omega),
    ob_oracle (by kernel_rfl) z1,
    ob_oracle (by kernel_rfl) z2,
    ob_oracle (by kernel_rfl) z3,
    ob_oracle (by kernel_rfl) z4,
    ob_oracle (by kernel_rfl) z5,
    neqS _ _ _ _ _ _,
    neqS _ _ _ _ _ _,
    ob_oracle (by kernel_rfl) z6,
    ob_oracle (by kernel_rfl) z7,
    ob_oracle (by kernel_rfl) z8,
    ob_cv (cv23 _) (wrap64 (by omega) (by omega)),
    ob_sub64 (by omega) (by omega) (by first | rfl | omega),
    ob_add64 (by omega) (by omega) (by first | rfl | omega),
    ob_rem (by omega) (by omega) (by first | rfl | omega),
    ob_add64 (by omega) (by omega) (by first | rfl | omega),
    ob_cv (cv23 _) (wrap64 (by omega) (by omega)),
    ob_sub64 (by omega) (by omega) (by first | rfl | omega),
    ob_add64 (by omega) (by omega) (by first | rfl | omega),
    ob_rem (by omega) (by omega) (by first | rfl | omega),
    ob_add64 (by omega) (by omega) (by first | rfl | omega),
    ob_mul64 (by omega) (by omega) (by first | rfl | omega),
    ob_mul64 (by omega) (by omega) (by first | rfl | omega),
    ob_add64 (by omega) (by omega) (by first | rfl | omega),
    ob_oracle (by kernel_rfl) z9,
    ob_oracle (by kernel_rfl) z10,
    ob_oracle (by kernel_rfl) z11,
    rfl⟩⟩
end Go.Proofs.Ytcphndfipjifcaa
