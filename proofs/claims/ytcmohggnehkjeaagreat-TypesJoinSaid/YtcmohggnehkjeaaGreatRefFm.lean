/-
  Contract of basculeref03.made.
-/
import Derived.Test.YtcmohggnehkjeaaGreatRefFt
namespace Go.Proofs.YtcmohggnehkjeaaGreat
open Go.RowKit Ieee

theorem log2_mul2 {o : Nat} (h : 0 < o) (j : Nat) : (o * 2 ^ j).log2 = o.log2 + j := log2_mul_pow h j

/-- Where lifting ends. -/
theorem lift_end {o j : Nat} {p : Int} (ho : 0 < o) (hm : o * 2 ^ j < 9007199254740992) (hj : j = 0 ∨ -1074 ≤ p - j) (hx : ¬ (o * 2 ^ j < 4503599627370496 ∧ -1074 < p - j)) :
    (p < -1074 → p - j < -1074) ∧ (-1074 ≤ p → p - j = lastOf o p ∧ (o * 2 ^ j < 4503599627370496 → p - j = -1074)) := by
  refine ⟨fun h => by omega, fun h => ?_⟩
  have hge : -1074 ≤ p - j := by rcases hj with rfl | h <;> omega
  have hpos : 0 < o * 2 ^ j := Nat.mul_pos ho (Nat.two_pow_pos _)
  have hl := log2_mul2 ho j
  by_cases hb : o * 2 ^ j < 4503599627370496
  · have he : p - j = -1074 := by omega
    have h1 := (Nat.log2_lt (show o * 2 ^ j ≠ 0 by omega)).2 (show o * 2 ^ j < 2 ^ 52 by omega)
    refine ⟨?_, fun _ => he⟩
    unfold lastOf
    omega
  · have h1 := (Nat.log2_lt (show o * 2 ^ j ≠ 0 by omega)).2 (show o * 2 ^ j < 2 ^ 53 by omega)
    have h2 := (Nat.le_log2 (show o * 2 ^ j ≠ 0 by omega)).2 (show 2 ^ 52 ≤ o * 2 ^ j by omega)
    refine ⟨?_, fun h => absurd h hb⟩
    unfold lastOf
    omega

/-- Is there a float that is just this? -/
def fits (m : Nat) (e : Int) : Prop := m ≤ 9007199254740992 ∧ (m = 0 ∨ (-1074 ≤ e + twos m ∧ e + twos m + ((oddOf m).log2 : Int) ≤ 1023))

theorem oddOf_pos {m : Nat} (h : 0 < m) : 0 < oddOf m := by
  induction m using Nat.strongRecOn with
  | ind m ih =>
    by_cases h2 : m % 2 = 0
    · rw [oddOf_even h h2]; exact ih _ (by omega) (by omega)
    · rw [oddOf_odd h2]; exact h
theorem odd_twos : ∀ m, 0 < m → oddOf m * 2 ^ twos m = m := by
  intro m
  induction m using Nat.strongRecOn with
  | ind m ih =>
    intro h
    by_cases h2 : m % 2 = 0
    · have := ih (m / 2) (by omega) (by omega)
      rw [oddOf_even h h2, twos_even h h2, Nat.pow_succ, ← Nat.mul_assoc, this]; omega
    · rw [oddOf_odd h2, twos_odd h2, Nat.pow_zero, Nat.mul_one]
theorem oddOf_is {m : Nat} (h : 0 < m) : oddOf m % 2 = 1 := by
  induction m using Nat.strongRecOn with
  | ind m ih =>
    by_cases h2 : m % 2 = 0
    · rw [oddOf_even h h2]; exact ih _ (by omega) (by omega)
    · rw [oddOf_odd h2]; omega
/-- The word nearest to it, in its odd part's terms. -/
theorem nearest_odd (neg : Bool) {m : Nat} (e : Int) (h : 0 < m) : double.nearest neg m e = double.nearest neg (oddOf m) (e + twos m) := by
  have h1 := nearest_shift double neg (oddOf m) (e + twos m) (twos m)
  rw [odd_twos m h, show e + (twos m : Int) - (twos m : Int) = e by omega] at h1
  exact h1

/-- What a sign, an odd number and a power make. -/
def madeV (neg : Bool) (o : Nat) (P : Int) : Value := if -1074 ≤ P ∧ P + (o.log2 : Int) ≤ 1023 then .tuple #[.float .f64 (double.nearest neg o P), .int .i64 0] else .tuple #[.float .f64 0, .int .i64 3]

/-- At the end of lifting. -/
theorem madeV_low {neg : Bool} {o j : Nat} {P : Int} (ho : 0 < o) (hm : o * 2 ^ j < 9007199254740992) (hj : j = 0 ∨ -1074 ≤ P - j) (hx : ¬ (o * 2 ^ j < 4503599627370496 ∧ -1074 < P - j)) (h : P - j < -1074) : madeV neg o P = .tuple #[.float .f64 0, .int .i64 3] := by
  unfold madeV
  rw [if_neg]
  intro hc
  have := (lift_end ho hm hj hx).2 hc.1
  unfold lastOf at this
  omega
theorem lift_log {o j : Nat} {P : Int} (hl : P - j = lastOf o P) : P + (o.log2 : Int) ≤ 1023 ↔ P - j ≤ 971 := by
  rw [hl]; unfold lastOf; omega
theorem madeV_high {neg : Bool} {o j : Nat} {P : Int} (ho : 0 < o) (hm : o * 2 ^ j < 9007199254740992) (hj : j = 0 ∨ -1074 ≤ P - j) (hx : ¬ (o * 2 ^ j < 4503599627370496 ∧ -1074 < P - j)) (h : 971 < P - j) : madeV neg o P = .tuple #[.float .f64 0, .int .i64 3] := by
  unfold madeV
  rw [if_neg]
  intro hc
  have := (lift_log ((lift_end ho hm hj hx).2 hc.1).1).1 hc.2
  omega
theorem madeV_good {neg : Bool} {o j : Nat} {P : Int} (ho : 0 < o) (hm : o * 2 ^ j < 9007199254740992) (hj : j = 0 ∨ -1074 ≤ P - j) (hx : ¬ (o * 2 ^ j < 4503599627370496 ∧ -1074 < P - j)) (h : -1074 ≤ P - j) (h2 : P - j ≤ 971) :
    madeV neg o P = .tuple #[.float .f64 (double.word neg ((P - j + 1074).toNat * 4503599627370496 + o * 2 ^ j)), .int .i64 0] ∧ (o * 2 ^ j < 4503599627370496 → P - j = -1074) := by
  have hP : -1074 ≤ P := by omega
  obtain ⟨e1, e2⟩ := (lift_end ho hm hj hx).2 hP
  have hlog := (lift_log e1).2 h2
  have hpos : o ≤ o * 2 ^ j := Nat.le_mul_of_pos_right _ (Nat.two_pow_pos _)
  refine ⟨?_, e2⟩
  unfold madeV
  rw [if_pos ⟨hP, hlog⟩, (nearest_just neg ho (by omega) hP hlog).1, ← e1, show (P - (P - (j : Int))).toNat = j by omega]

theorem made_big {neg : Bool} {m : Nat} (e : Int) (h : 9007199254740992 < m) (w : World) : Calls Tryz.prog 213 #[.bool neg, .int .u64 m, .int .i64 e] w fun x w' => x = .returned (.tuple #[.float .f64 0, .int .i64 3]) ∧ w = w' := by
  have T : decide ((9007199254740992 : Int) < (m : Int)) = true := by simp; omega
  clear h
  go_enter Tryz.func213, Tryz.ntmps213
  go_wp2
  go_ret2
  exact ⟨rfl, rfl⟩
theorem made_zero {neg : Bool} (e : Int) (w : World) : Calls Tryz.prog 213 #[.bool neg, .int .u64 0, .int .i64 e] w fun x w' => x = .returned (.tuple #[.float .f64 (double.word neg 0), .int .i64 0]) ∧ w = w' := by
  have H := float_run
  cases neg
  · rw [show double.word false 0 = 0 from rfl]
    go_enter Tryz.func213, Tryz.ntmps213
    go_wp2
    go_loop [1, 2] (fun mv ev => mv = .int .u64 0 ∧ ev = .int .i64 e) (fun _ _ => 0)
    case atStart => exact ⟨rfl, rfl⟩
    case round =>
      obtain ⟨rfl, rfl⟩ := hrel
      go_wp2
      go_ret2
      exact ⟨rfl, rfl⟩
  · rw [show double.word true 0 = 9223372036854775808 from rfl]
    go_enter Tryz.func213, Tryz.ntmps213
    go_wp2
    go_loop [1, 2] (fun mv ev => mv = .int .u64 0 ∧ ev = .int .i64 e) (fun _ _ => 0)
    case atStart => exact ⟨rfl, rfl⟩
    case round =>
      obtain ⟨rfl, rfl⟩ := hrel
      go_wp2
      go_ret2
      exact ⟨rfl, rfl⟩

theorem made_some {neg : Bool} {m : Nat} {e : Int} (h : 0 < m) (hm : m ≤ 9007199254740992) (he : -100000 ≤ e ∧ e ≤ 100000) (w : World) : Calls Tryz.prog 213 #[.bool neg, .int .u64 m, .int .i64 e] w fun x w' => x = .returned (madeV neg (oddOf m) (e + twos m)) ∧ w = w' := by
  have H := float_run
  have T0 : decide ((9007199254740992 : Int) < (m : Int)) = false := by simp; omega
  have hm' := Lib.hid hm
  have he' := Lib.hid he
  obtain ⟨B, hB⟩ : ∃ B : Nat, Hid (B = 9007199254740992) := ⟨_, Lib.hid rfl⟩
  clear hm he
  go_enter Tryz.func213, Tryz.ntmps213
  go_wp2
  go_loop [1, 2] (fun mv ev => ∃ a k : Nat, 0 < a ∧ a + k ≤ m ∧ mv = .int .u64 a ∧ ev = .int .i64 (e + k) ∧ Hid (oddOf a = oddOf m ∧ twos a + k = twos m)) (fun mv _ => (intOf mv).toNat)
  case atStart => exact ⟨m, 0, h, by omega, rfl, by simp, Lib.hid ⟨rfl, rfl⟩⟩
  case round =>
    obtain ⟨a, k, ha, hak, rfl, rfl, ho⟩ := hrel
    have T1 : ((a : Int) == 0) = false := by simp; omega
    have T2 : ((a : Int) != 0) = true := by simp; omega
    by_cases h2 : a % 2 = 0
    · have T3 : ((a : Int) % 2 == 0) = true := by simp; omega
      have D : IntKind.u64.wrap ((a : Int) / 2) = ((a / 2 : Nat) : Int) := by
        have := hm'.out
        rw [IntKind.wrap_u64]; omega
      have A : wrap64 (e + k + 1) = e + ((k + 1 : Nat) : Int) := by have := hm'.out; have := he'.out; unfold wrap64; omega
      have h6 : Hid (0 < a / 2 ∧ a / 2 + (k + 1) ≤ m ∧ a / 2 < a ∧ oddOf (a / 2) = oddOf m ∧ twos (a / 2) + (k + 1) = twos m) := Lib.hid ⟨by omega, by omega, by omega, by rw [← oddOf_even ha h2]; exact ho.out.1, by have := ho.out.2; rw [twos_even ha h2] at this; omega⟩
      clear ho hak h2
      go_wp2
      go_round
      case rel => exact ⟨a / 2, k + 1, h6.out.1, h6.out.2.1, by go_num, by go_num, Lib.hid h6.out.2.2.2⟩
      case measure => have := h6.out.2.2.1; simp [intOf]; omega
    · have T3 : ((a : Int) % 2 == 0) = false := by simp; omega
      have hb : Hid (a < 9007199254740992 ∧ k ≤ 9007199254740992) := Lib.hid ⟨by have := hm'.out; omega, by have := hm'.out; omega⟩
      have ho' : Hid (oddOf m = a ∧ twos m = k) := Lib.hid ⟨by rw [← ho.out.1, oddOf_odd h2], by rw [← ho.out.2, twos_odd h2]; omega⟩
      have ha0 := Lib.hid ha
      have hP : ∃ P : Int, Hid (P = e + k) := ⟨_, Lib.hid rfl⟩
      obtain ⟨P, hP⟩ := hP
      clear ho h2 hak
      go_wp2
      rw [← hP.out]
      clear T1 T2 T3 ha
      go_loop [1, 2] (fun mv ev => ∃ j M : Nat, mv = .int .u64 M ∧ ev = .int .i64 (P - j) ∧ Hid (M = a * 2 ^ j ∧ M < 9007199254740992 ∧ 0 < M ∧ (j = 0 ∨ -1074 ≤ P - j))) (fun mv _ => B - (intOf mv).toNat)
      case atStart => exact ⟨0, a, rfl, by simp, Lib.hid ⟨by simp, hb.out.1, ha0.out, Or.inl rfl⟩⟩
      case round =>
        obtain ⟨j, M, rfl, rfl, hM⟩ := hrel
        by_cases c1 : M < 4503599627370496
        · have C1 : decide ((M : Int) < 4503599627370496) = true := by simp; omega
          have C5 : decide ((4503599627370496 : Int) ≤ (M : Int)) = false := by simp; omega
          by_cases c2 : -1074 < P - j
          · have C2 : decide (-1074 < P - (j : Int)) = true := by simp; omega
            have D : IntKind.u64.wrap ((M : Int) * 2) = ((M * 2 : Nat) : Int) := by
              rw [IntKind.wrap_u64]; omega
            have A : wrap64 (P - j - 1) = P - ((j + 1 : Nat) : Int) := by have := hP.out; have := hb.out; have := he'.out; unfold wrap64; omega
            have h6 : Hid ((M * 2 = a * 2 ^ (j + 1) ∧ M * 2 < 9007199254740992 ∧ 0 < M * 2 ∧ (j + 1 = 0 ∨ -1074 ≤ P - ((j + 1 : Nat) : Int))) ∧ B - M * 2 < B - M) :=
              Lib.hid ⟨⟨by rw [hM.out.1, Nat.pow_succ, Nat.mul_assoc], by omega, by have := hM.out; omega, Or.inr (by omega)⟩, by have := hM.out; have := hB.out; omega⟩
            clear hM c1 c2
            go_wp2
            go_round
            case rel => exact ⟨j + 1, M * 2, by go_num, by go_num, Lib.hid h6.out.1⟩
            case measure => have := h6.out.2; simp [intOf]; omega
          · have C2 : decide (-1074 < P - (j : Int)) = false := by simp; omega
            have hx : ¬ (a * 2 ^ j < 4503599627370496 ∧ -1074 < P - j) := fun h => c2 h.2
            have h53 : a * 2 ^ j < 9007199254740992 := by have := hM.out; omega
            by_cases g1 : P - j < -1074
            · have G1 : decide (P - (j : Int) < -1074) = true := by simp; omega
              have R := Lib.hid (madeV_low (neg := neg) ha0.out h53 hM.out.2.2.2 hx g1)
              clear hM c1 c2 g1 hx h53
              go_wp2
              go_ret2
              exact ⟨by rw [ho'.out.1, ho'.out.2, ← hP.out, R.out]; rfl, rfl⟩
            · have e : P - (j : Int) = -1074 := by omega
              have R := Lib.hid (madeV_good (neg := neg) ha0.out h53 hM.out.2.2.2 hx (by omega) (by omega)).1
              have hMe := Lib.hid hM.out.1
              rw [e] at R C2 ⊢
              have W : IntKind.u64.wrap ((M : Int) + 9223372036854775808) = ((9223372036854775808 + M : Nat) : Int) := by rw [IntKind.wrap_u64]; omega
              clear hM c1 c2 g1 hx h53 e
              cases neg
              · go_wp2
                go_ret2
                exact ⟨by rw [ho'.out.1, ho'.out.2, ← hP.out, R.out, ← hMe.out]; simp [Format.word], rfl⟩
              · go_wp2
                go_ret2
                exact ⟨by rw [ho'.out.1, ho'.out.2, ← hP.out, R.out, ← hMe.out]; simp [Format.word, D_sign], rfl⟩
        · have C1 : decide ((M : Int) < 4503599627370496) = false := by simp; omega
          have C5 : decide ((4503599627370496 : Int) ≤ (M : Int)) = true := by simp; omega
          have hx : ¬ (a * 2 ^ j < 4503599627370496 ∧ -1074 < P - j) := by have := hM.out; omega
          have h53 : a * 2 ^ j < 9007199254740992 := by have := hM.out; omega
          by_cases g1 : P - j < -1074
          · have G1 : decide (P - (j : Int) < -1074) = true := by simp; omega
            have R := Lib.hid (madeV_low (neg := neg) ha0.out h53 hM.out.2.2.2 hx g1)
            clear hM c1 g1 hx h53
            go_wp2
            go_ret2
            exact ⟨by rw [ho'.out.1, ho'.out.2, ← hP.out, R.out]; rfl, rfl⟩
          · have G1 : decide (P - (j : Int) < -1074) = false := by simp; omega
            have A : wrap64 (P - j + 1075) = P - j + 1075 := by have := hP.out; have := hb.out; have := he'.out; unfold wrap64; omega
            by_cases g2 : 971 < P - j
            · have G2 : decide (2046 < P - (j : Int) + 1075) = true := by simp; omega
              have R := Lib.hid (madeV_high (neg := neg) ha0.out h53 hM.out.2.2.2 hx g2)
              clear hM c1 g1 g2 hx h53
              go_wp2
              go_ret2
              exact ⟨by rw [ho'.out.1, ho'.out.2, ← hP.out, R.out]; rfl, rfl⟩
            · obtain ⟨q, e, hq⟩ : ∃ q : Nat, P - (j : Int) = (q : Int) - 1075 ∧ 1 ≤ q ∧ q ≤ 2046 := ⟨(P - j + 1075).toNat, by omega, by omega, by omega⟩
              have R := Lib.hid (madeV_good (neg := neg) ha0.out h53 hM.out.2.2.2 hx (by omega) (by omega)).1
              have hMe := Lib.hid hM.out.1
              rw [e] at R
              have A2 : wrap64 (P - j + 1075) = (q : Int) := by rw [A]; omega
              clear A
              have G2 : decide (2046 < (q : Int)) = false := by simp; omega
              have hM53 : M < 9007199254740992 := hM.out.2.1
              obtain ⟨M1, hM1⟩ : ∃ M1 : Nat, M1 = M - 4503599627370496 := ⟨_, rfl⟩
              obtain ⟨Q1, hQ1⟩ : ∃ Q1 : Nat, Q1 = q * 4503599627370496 := ⟨_, rfl⟩
              obtain ⟨X, hX⟩ : ∃ X : Nat, X = M1 + Q1 := ⟨_, rfl⟩
              have D1 : IntKind.u64.wrap ((M : Int) - 4503599627370496) = (M1 : Int) := by rw [IntKind.wrap_u64]; omega
              have D2 : IntKind.u64.wrap ((q : Int) * 4503599627370496) = (Q1 : Int) := by rw [IntKind.wrap_u64]; omega
              have D3 : IntKind.u64.wrap ((M1 : Int) + (Q1 : Int)) = (X : Int) := by rw [IntKind.wrap_u64]; omega
              have W : IntKind.u64.wrap ((X : Int) + 9223372036854775808) = ((9223372036854775808 + X : Nat) : Int) := by rw [IntKind.wrap_u64]; omega
              have hX2 : ((q : Int) - 1075 + 1074).toNat * 4503599627370496 + M = X := by omega
              rw [← hMe.out, hX2] at R
              clear hX2 hMe
              have W4 : IntKind.u64.wrap (q : Int) = (q : Int) := by rw [IntKind.wrap_u64]; omega
              clear hM c1 g1 g2 hx h53 e hX hM53 hq hM1 hQ1
              generalize P - (j : Int) = E at *
              cases neg
              · go_wp2
                go_ret2
                exact ⟨by rw [ho'.out.1, ho'.out.2, ← hP.out, R.out]; simp [Format.word], rfl⟩
              · go_wp2
                go_ret2
                exact ⟨by rw [ho'.out.1, ho'.out.2, ← hP.out, R.out]; simp [Format.word, D_sign], rfl⟩
/-- What made answers. -/
def madeT (neg : Bool) (m : Nat) (e : Int) : Value := if 9007199254740992 < m then .tuple #[.float .f64 0, .int .i64 3] else if m = 0 then .tuple #[.float .f64 (double.word neg 0), .int .i64 0] else madeV neg (oddOf m) (e + twos m)
theorem made_any (neg : Bool) (m : Nat) {e : Int} (he : -100000 ≤ e ∧ e ≤ 100000) : Says 213 #[.bool neg, .int .u64 m, .int .i64 e] (madeT neg m e) := by
  intro w
  unfold madeT
  by_cases hb : 9007199254740992 < m
  · rw [if_pos hb]; exact made_big e hb w
  · rw [if_neg hb]
    by_cases hz : m = 0
    · subst hz; rw [if_pos rfl]; exact made_zero e w
    · rw [if_neg hz]; exact made_some (by omega) (by omega) he w
end Go.Proofs.YtcmohggnehkjeaaGreat
