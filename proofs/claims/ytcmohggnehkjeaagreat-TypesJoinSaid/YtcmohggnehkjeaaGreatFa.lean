/-
  Contracts of the program's small float functions: isNaN, hasMinus, Canon, Neg, Equal, Less, FromInt.
-/
import Derived.Test.YtcmohggnehkjeaaGreatRefFo
import Derived.Test.YtcmohggnehkjeaaGreatRefFn
namespace Go.Proofs.YtcmohggnehkjeaaGreat
open Go.RowKit Ieee

theorem Says.go {f : Nat} {a : Array Value} {v : Value} (h : Says f a v) {w : World} {Q : Ending → World → Prop} (hQ : ∀ e w', e = .returned v ∧ w = w' → Q e w') : Calls Tryz.prog f a w Q := (h w).mono hQ
theorem isNaN_any (b : Nat) : Says 218 #[.float .f64 b] (.bool (nanB b)) := by
  intro w
  have O : ((FloatKind.format .f64).order b b != some Ordering.eq) = nanB b := by
    have h := order_self b
    show (double.order b b != some .eq) = _
    rw [bne, h]
    unfold nanB
    rw [Bool.eq_iff_iff]
    simp
  have O' := Lib.hid O
  clear O
  go_enter Tryz.func218, Tryz.ntmps218
  go_wp2
  go_ret
  rw [O'.out]; exact ⟨rfl, rfl⟩

theorem Canon_f (b : Nat) : Says 203 #[.float .f64 b] (.float .f64 (canonW b)) := by
  intro w
  have H := float_run
  have N := isNaN_any b
  go_enter Tryz.func203, Tryz.ntmps203
  go_wp2_with (first | (go_at_call 218; refine (N _).mono ?_; rintro e w' ⟨rfl, rfl⟩))
  · go_ret
    unfold canonW; rw [if_pos (by assumption)]; exact ⟨rfl, rfl⟩
  · go_ret
    unfold canonW; rw [if_neg (by simp [*])]; exact ⟨rfl, rfl⟩

/-- With the other sign. -/
def negW (b : Nat) : Nat := Op.negFloat .f64 b
theorem xor63 {r : Nat} (h : r < 2 ^ 63) : 2 ^ 63 ^^^ r = 2 ^ 63 + r := by
  apply Nat.eq_of_testBit_eq
  intro i
  rw [Nat.testBit_xor, Nat.testBit_two_pow]
  rcases Nat.lt_trichotomy i 63 with h1 | rfl | h1
  · rw [Nat.testBit_two_pow_add_gt h1, decide_eq_false (by omega), Bool.false_xor]
  · rw [Nat.testBit_two_pow_add_eq, decide_eq_true rfl, Bool.true_xor]
  · have e : 2 ^ 64 ≤ 2 ^ i := Nat.pow_le_pow_right (by omega) (by omega)
    have e64 : (2 : Nat) ^ 64 = 2 ^ 63 + 2 ^ 63 := by omega
    rw [decide_eq_false (by omega), Bool.false_xor, Nat.testBit_lt_two_pow (show r < 2 ^ i by omega), Nat.testBit_lt_two_pow (show 2 ^ 63 + r < 2 ^ i by omega)]
theorem negW_eq {b : Nat} (hb : okW b) : negW b = double.word (!sgn b) (rung b) := by
  unfold negW Op.negFloat
  show b ^^^ 2 ^ 63 = _
  unfold okW at hb
  unfold Format.word sgn rung
  rw [D_sign]
  have e63 : (2 : Nat) ^ 63 = 9223372036854775808 := by decide
  by_cases h : b < 9223372036854775808
  · have e0 : b / 9223372036854775808 % 2 = 0 := by omega
    rw [Nat.xor_comm, xor63 (by omega), e0, e63]
    simp
    omega
  · have e1 : b / 9223372036854775808 % 2 = 1 := by omega
    obtain ⟨r, rfl⟩ : ∃ r, b = 9223372036854775808 + r := ⟨b - 9223372036854775808, by omega⟩
    have hx := xor63 (show r < 2 ^ 63 by omega)
    rw [e63] at hx
    rw [e1, e63, ← hx, Nat.xor_comm, ← Nat.xor_assoc, Nat.xor_self, Nat.zero_xor, hx]
    simp
    omega
theorem neg_run (b : Nat) (W : World) : (Op.unary .neg (.float .f64 b)).run Tryz.prog W = .ok (.float .f64 (negW b)) W := rfl
theorem lt_zero {b : Nat} (h : nanB b = false) : (double.order b 0 == some .lt) = (sgn b && decide (rung b ≠ 0)) := by
  have hb : rung b ≤ 9218868437227405312 := by unfold nanB at h; simpa using h
  rw [order_word hb (by decide)]
  have e : sv 0 = 0 := by decide
  rw [e, Bool.eq_iff_iff]
  simp only [beq_iff_eq, Option.some.injEq, Bool.and_eq_true, decide_eq_true_eq, Int.compare_eq_lt]
  unfold sv
  split
  · rename_i hs; simp [hs]; omega
  · rename_i hs; simp [hs]
theorem eq_zero (b : Nat) : (double.order b 0 == some .eq) = decide (rung b = 0) := by
  by_cases hb : rung b ≤ 9218868437227405312
  · rw [order_word hb (by decide)]
    have e : sv 0 = 0 := by decide
    rw [e, Bool.eq_iff_iff]
    simp only [beq_iff_eq, Option.some.injEq, decide_eq_true_eq, Int.compare_eq_eq]
    unfold sv
    split <;> omega
  · rw [order_nan (.inl (by omega))]
    rw [decide_eq_false (by omega)]
    rfl
/-- One by a zero. -/
theorem one_by {b : Nat} (hb : okW b) (h : rung b = 0) : double.div 4607182418800017408 b = some (double.word (sgn b) 9218868437227405312) := by
  have e : b = 0 ∨ b = 9223372036854775808 := by unfold rung at h; unfold okW at hb; omega
  rcases e with rfl | rfl <;> decide
theorem quo_run {x y r : Nat} (h : double.div x y = some r) (W : World) : (binOp .quo 23 (.float .f64 x) (.float .f64 y)).run Tryz.prog W = .ok (.float .f64 r) W :=
  run_float_arith W .quo 35 .f64 x y r h

def minusB (b : Nat) : Bool := sgn b && !nanB b
/-- Which one stands first. -/
def aheadB (a b : Nat) : Bool := if nanB b = true then !nanB a else if rung a = 0 ∧ rung b = 0 then minusB a && !minusB b else (double.order a b == some .lt)
theorem nan_none {b : Nat} (h : nanB b = true) (c : Nat) : double.order b c = none ∧ double.order c b = none :=
  have h' : 9218868437227405312 < rung b := by unfold nanB at h; simpa using h
  ⟨order_nan (.inl h'), order_nan (.inr h')⟩
theorem keyI_nan {b : Nat} (h : nanB b = true) : keyI b = 9223372036854775807 := by unfold keyI; rw [if_pos h]
theorem keyI_num {b : Nat} (hb : okW b) (h : nanB b = false) : keyI b = (if sgn b then -1 - (rung b : Int) else (rung b : Int)) ∧ rung b ≤ 9218868437227405312 := by
  have hr : rung b ≤ 9218868437227405312 := by unfold nanB at h; simpa using h
  refine ⟨?_, hr⟩
  unfold keyI
  rw [if_neg (by rw [h]; exact Bool.false_ne_true)]
  unfold okW at hb
  by_cases hs : sgn b = true
  · rw [if_pos hs, if_pos hs]
    unfold sgn at hs
    unfold rung
    have : b / 9223372036854775808 % 2 = 1 := by simpa using hs
    omega
  · rw [if_neg hs, if_neg hs]
    unfold sgn at hs
    unfold rung
    have : ¬ b / 9223372036854775808 % 2 = 1 := by simpa using hs
    omega
/-- The document's row is the program's. -/
theorem ahead_key {a b : Nat} (ha : okW a) (hb : okW b) : aheadB a b = decide (keyI a < keyI b) := by
  unfold aheadB
  cases hnb : nanB b
  · rw [if_neg (by simp)]
    obtain ⟨kb, rb⟩ := keyI_num hb hnb
    cases hna : nanB a
    · obtain ⟨ka, ra⟩ := keyI_num ha hna
      rw [ka, kb]
      by_cases hz : rung a = 0 ∧ rung b = 0
      · rw [if_pos hz]
        unfold minusB
        rw [hna, hnb, hz.1, hz.2]
        cases sgn a <;> cases sgn b <;> rfl
      · rw [if_neg hz, order_word ra rb, Bool.eq_iff_iff]
        simp only [beq_iff_eq, Option.some.injEq, Int.compare_eq_lt, decide_eq_true_eq]
        unfold sv
        split <;> split <;> omega
    · rw [keyI_nan hna, kb, (nan_none hna b).1]
      have hra : 9218868437227405312 < rung a := by unfold nanB at hna; simpa using hna
      rw [if_neg (by omega), decide_eq_false (by split <;> omega)]
      rfl
  · rw [if_pos rfl, keyI_nan hnb]
    cases hna : nanB a
    · obtain ⟨ka, ra⟩ := keyI_num ha hna
      rw [ka, decide_eq_true (by split <;> omega)]; rfl
    · rw [keyI_nan hna]; rfl

end Go.Proofs.YtcmohggnehkjeaaGreat
