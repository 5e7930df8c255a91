/-
  Contract of the program's ToInt.
-/
import Derived.Test.YtcmohggnehkjeaaGreatFb
namespace Go.Proofs.YtcmohggnehkjeaaGreat
open Go.RowKit Ieee

theorem read_mant {b : Nat} (h : rung b < 9218868437227405312) : double.read b = .number (sgn b) (mantW b) (placeW b) := by
  by_cases h1 : rung b < 4503599627370496
  · rw [read_sub h1]; unfold mantW placeW; rw [if_pos h1, if_pos h1]
  · rw [read_norm h1 h]; unfold mantW placeW; rw [if_neg h1, if_neg h1]
    congr 1
    omega
theorem mgn_mant {b : Nat} : mantW b * 2 ^ (placeW b + 1074).toNat = mgn (rung b) := by
  unfold mantW placeW mgn
  by_cases h1 : rung b < 4503599627370496
  · rw [if_pos h1, if_pos h1, if_pos h1, show (-1074 + 1074 : Int).toNat = 0 by omega, Nat.pow_zero, Nat.mul_one]
  · rw [if_neg h1, if_neg h1, if_neg h1, show (((rung b / 4503599627370496 : Nat) : Int) - 1075 + 1074).toNat = rung b / 4503599627370496 - 1 by omega]

theorem div_min {n d : Nat} : n / 2 ^ min d (n.log2 + 2) = n / 2 ^ d := by
  by_cases h : d ≤ n.log2 + 2
  · rw [Nat.min_eq_left h]
  · rw [Nat.min_eq_right (by omega)]
    have h1 : n < 2 ^ (n.log2 + 1) := Nat.lt_log2_self
    have h2 : 2 ^ (n.log2 + 1) ≤ 2 ^ (n.log2 + 2) := Nat.pow_le_pow_right (by omega) (by omega)
    have h3 : 2 ^ (n.log2 + 2) ≤ 2 ^ d := Nat.pow_le_pow_right (by omega) (by omega)
    rw [Nat.div_eq_of_lt (by omega), Nat.div_eq_of_lt (by omega)]
theorem cut_zero_way (neg : Bool) (n d : Nat) : Toward.zero.cut neg n d = n / 2 ^ d := by
  unfold Toward.cut
  simp only [sl, Nat.one_mul, Bool.toNat_false, Nat.add_zero]
  exact div_min

/-- How many places a number may have behind the point: kept behind a name, as its power of two is long. -/
def nP : Nat := 1074
theorem nP_is : nP = 1074 := rfl
theorem nP_pos : 0 < 2 ^ nP := Nat.two_pow_pos _
/-- A number's whole part. -/
def wholeW (b : Nat) : Nat := mgn (rung b) / 2 ^ nP
theorem whole_cut {m : Nat} {p : Int} (hp : -1074 ≤ p) : m * 2 ^ p.toNat / 2 ^ (-p).toNat = m * 2 ^ (p + 1074).toNat / 2 ^ nP := by
  have hk := nP_is
  by_cases h : 0 ≤ p
  · rw [show (-p).toNat = 0 by omega, show (p + 1074).toNat = p.toNat + nP by omega, Nat.pow_add, ← Nat.mul_assoc, Nat.mul_div_cancel _ nP_pos, Nat.pow_zero, Nat.div_one]
  · have e : nP = (-p).toNat + (p + 1074).toNat := by omega
    generalize nP = q at *
    subst e
    rw [Nat.pow_add, Nat.mul_div_mul_right _ _ (Nat.two_pow_pos _), show p.toNat = 0 by omega, Nat.pow_zero, Nat.mul_one]
theorem toInt_read {b : Nat} (h : rung b < 9218868437227405312) : (double.read b).toInt .zero = some (if sgn b then -(wholeW b : Int) else (wholeW b : Int)) := by
  rw [read_mant h]
  unfold Datum.toInt Datum.integral
  simp only
  rw [cut_zero_way, sl, whole_cut (place_in b).1, mgn_mant, signed_eq, Nat.pow_zero, Nat.mul_one]
  rfl
/-- The document's whole part. -/
theorem tr_whole {b : Nat} : tr (oddW b) (expW b) = wholeW b := by
  have hw : wholeW b = mantW b * 2 ^ (placeW b).toNat / 2 ^ (-placeW b).toNat := by rw [whole_cut (place_in b).1, mgn_mant]; rfl
  rw [hw]
  unfold oddW expW
  by_cases h0 : mantW b = 0
  · rw [if_pos h0, if_pos h0, h0, Nat.zero_mul, Nat.zero_div]; rfl
  · rw [if_neg h0, if_neg h0]
    have ho := odd_twos (mantW b) (by omega)
    generalize oddOf (mantW b) = o at *
    generalize twos (mantW b) = k at *
    rw [← ho]
    generalize placeW b = p
    unfold tr
    by_cases hE : p + k < 0
    · rw [if_pos hE, show p.toNat = 0 by omega, Nat.pow_zero, Nat.mul_one, show (-p).toNat = (-(p + k)).toNat + k by omega, Nat.pow_add, Nat.mul_div_mul_right _ _ (Nat.two_pow_pos _)]
    · rw [if_neg hE]
      by_cases hp : 0 ≤ p
      · rw [show (-p).toNat = 0 by omega, Nat.pow_zero, Nat.div_one, Nat.mul_assoc, ← Nat.pow_add, show k + p.toNat = (p + k).toNat by omega]
      · rw [show p.toNat = 0 by omega, Nat.pow_zero, Nat.mul_one]
        have e : k = (p + k).toNat + (-p).toNat := by omega
        conv => rhs; rw [e, Nat.pow_add, ← Nat.mul_assoc, Nat.mul_div_cancel _ (Nat.two_pow_pos _)]

theorem mgn_R : mgn 4890909195324358656 = 9223372036854775808 * 2 ^ nP := by
  unfold mgn
  rw [if_neg (by omega), show 4890909195324358656 % 4503599627370496 = 0 by decide, show 4890909195324358656 / 4503599627370496 - 1 = 11 + nP by decide, Nat.pow_add, ← Nat.mul_assoc]
theorem mgn_R1 : mgn 4890909195324358657 = 9223372036854777856 * 2 ^ nP := by
  unfold mgn
  rw [if_neg (by omega), show 4890909195324358657 % 4503599627370496 = 1 by decide, show 4890909195324358657 / 4503599627370496 - 1 = 11 + nP by decide, Nat.pow_add, ← Nat.mul_assoc]
theorem mgn_le {r s : Nat} (h : r ≤ s) : mgn r ≤ mgn s := by
  rcases Nat.eq_or_lt_of_le h with rfl | h
  · exact Nat.le_refl _
  · exact Nat.le_of_lt (mgn_lt h)
theorem whole_lt (b : Nat) : wholeW b < 9223372036854775808 ↔ rung b < 4890909195324358656 := by
  unfold wholeW
  rw [Nat.div_lt_iff_lt_mul nP_pos, ← mgn_R]
  constructor
  · intro h
    apply Nat.lt_of_not_le
    intro hc
    have := mgn_le hc
    omega
  · exact mgn_lt
theorem whole_le (b : Nat) : wholeW b ≤ 9223372036854775808 ↔ rung b ≤ 4890909195324358656 := by
  unfold wholeW
  constructor
  · intro h
    apply Nat.le_of_not_lt
    intro hc
    have h1 := mgn_le (show 4890909195324358657 ≤ rung b by omega)
    rw [mgn_R1] at h1
    have h2 := Nat.div_le_div_right (c := 2 ^ nP) h1
    rw [Nat.mul_div_cancel _ nP_pos] at h2
    omega
  · intro h
    have h1 := mgn_le h
    rw [mgn_R] at h1
    have h2 := Nat.div_le_div_right (c := 2 ^ nP) h1
    rw [Nat.mul_div_cancel _ nP_pos] at h2
    exact h2

/-- Is it from -2^63 on, and below 2^63? -/
theorem low_is {b : Nat} (h : rung b ≤ 9218868437227405312) : (double.order b 14114281232179134464 == some .gt || double.order b 14114281232179134464 == some .eq) = (!sgn b || decide (rung b ≤ 4890909195324358656)) := by
  rw [order_word h (by decide)]
  have e : sv 14114281232179134464 = -4890909195324358656 := by decide
  rw [e, Bool.eq_iff_iff]
  simp only [Bool.or_eq_true, beq_iff_eq, Option.some.injEq, Int.compare_eq_gt, Int.compare_eq_eq, decide_eq_true_eq]
  unfold sv
  cases sgn b
  · simp; omega
  · simp; omega
theorem high_is {b : Nat} (h : rung b ≤ 9218868437227405312) : (double.order b 4890909195324358656 == some .lt) = (sgn b || decide (rung b < 4890909195324358656)) := by
  rw [order_word h (by decide)]
  have e : sv 4890909195324358656 = 4890909195324358656 := by decide
  rw [e, Bool.eq_iff_iff]
  simp only [Bool.or_eq_true, beq_iff_eq, Option.some.injEq, Int.compare_eq_lt, decide_eq_true_eq]
  unfold sv
  cases sgn b
  · simp; omega
  · simp; omega

end Go.Proofs.YtcmohggnehkjeaaGreat
