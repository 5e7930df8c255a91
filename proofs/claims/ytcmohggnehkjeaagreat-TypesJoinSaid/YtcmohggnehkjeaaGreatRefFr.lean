/-
  Whole numbers' floats, plainly: what is cut and rounded is made of what is left. No walk.
-/
import Derived.Test.YtcmohggnehkjeaaGreatRefFi
namespace Go.Proofs.YtcmohggnehkjeaaGreat
open Go.RowKit Ieee

theorem cut_even (neg : Bool) {m e : Nat} (he : e ≤ m.log2 + 2) : Toward.even.cut neg m e = m / 2 ^ e + (decide (2 ^ e < 2 * (m % 2 ^ e)) || (2 ^ e == 2 * (m % 2 ^ e) && m / 2 ^ e % 2 == 1)).toNat := by
  unfold Toward.cut
  simp only [Nat.min_eq_left he, sl, Nat.one_mul]

/-- A whole number of 53 to 64 digits. -/
theorem nearest_long (neg : Bool) {m e : Nat} (hm : m < 18446744073709551616) (h1 : 4503599627370496 ≤ m / 2 ^ e) (h2 : m / 2 ^ e < 9007199254740992) (he : 1 ≤ e) :
    double.nearest neg m 0 = double.word neg ((e + 1074) * 4503599627370496 + Toward.even.cut neg m e) ∧ m.log2 = 52 + e := by
  have hpos : 0 < m := by
    rcases Nat.eq_zero_or_pos m with rfl | h
    · simp at h1
    · exact h
  have h2e : 0 < 2 ^ e := Nat.two_pow_pos e
  have hlo : 2 ^ (52 + e) ≤ m := by
    have := (Nat.le_div_iff_mul_le h2e).1 h1
    rw [Nat.pow_add]; omega
  have hhi : m < 2 ^ (53 + e) := by
    have := (Nat.div_lt_iff_lt_mul h2e).1 h2
    rw [Nat.pow_add]; omega
  have hl : m.log2 = 52 + e := log2_eq hlo (by rw [show 52 + e + 1 = 53 + e by omega]; exact hhi)
  refine ⟨?_, hl⟩
  have he11 : e ≤ 11 := by
    have h64 : m.log2 < 64 := (Nat.log2_lt (by omega)).2 (by omega)
    omega
  have hlast : max (0 + (m.log2 : Int) - (double.fractionBits : Int)) double.leastPlace = (e : Int) := by rw [D_frac, D_least, hl]; omega
  have hc : Toward.even.cut neg m e ≤ 9007199254740992 := by
    rw [cut_even neg (by omega)]
    have : ∀ b : Bool, b.toNat ≤ 1 := by decide
    have := this (decide (2 ^ e < 2 * (m % 2 ^ e)) || (2 ^ e == 2 * (m % 2 ^ e) && m / 2 ^ e % 2 == 1))
    omega
  unfold Format.nearest
  rw [if_neg (by omega)]
  simp only [hlast]
  rw [show ((e : Int) - 0).toNat = e by omega, show (0 - (e : Int)).toNat = 0 by omega, sl, Nat.pow_zero, Nat.mul_one, D_least, D_binade, D_inf, show ((e : Int) - -1074).toNat = e + 1074 by omega]
  rw [Nat.min_eq_left (by omega)]

theorem madeT_fits (neg : Bool) {x : Nat} {e : Int} (h0 : 0 < x) (hx : x ≤ 9007199254740992) (he : -1074 ≤ e ∧ e ≤ 100) : madeT neg x e = .tuple #[.float .f64 (double.nearest neg x e), .int .i64 0] := by
  unfold madeT
  rw [if_neg (by omega), if_neg (by omega)]
  unfold madeV
  have hl : (oddOf x * 2 ^ twos x).log2 = (oddOf x).log2 + twos x := log2_mul_pow (oddOf_pos h0) _
  rw [odd_twos x h0] at hl
  have h54 : x.log2 < 54 := (Nat.log2_lt (by omega)).2 (by omega)
  rw [if_pos ⟨by omega, by omega⟩, ← nearest_odd neg e h0]

theorem nearest_full (neg : Bool) {x e : Nat} (h1 : 4503599627370496 ≤ x) (h2 : x ≤ 9007199254740992) (he : e ≤ 100) : double.nearest neg x (e : Int) = double.word neg ((e + 1074) * 4503599627370496 + x) := by
  by_cases h : x = 9007199254740992
  · subst h
    have h3 := nearest_shift double neg 1 ((e : Int) + 53) 53
    rw [show (e : Int) + 53 - ((53 : Nat) : Int) = e by omega] at h3
    rw [show (9007199254740992 : Nat) = 1 * 2 ^ 53 by decide, h3]
    obtain ⟨h4, _, _⟩ := nearest_just neg (m := 1) (p := (e : Int) + 53) (by omega) (by omega) (by omega) (by rw [show (1 : Nat).log2 = 0 by decide]; omega)
    have hlast : lastOf 1 ((e : Int) + 53) = e + 1 := by unfold lastOf; rw [show (1 : Nat).log2 = 0 by decide]; omega
    rw [h4, hlast, show ((e : Int) + 53 - (e + 1)).toNat = 52 by omega, show ((e : Int) + 1 + 1074).toNat = e + 1075 by omega]
    have e1 : (e + 1075) * 4503599627370496 + 1 * 2 ^ 52 = (e + 1074) * 4503599627370496 + 1 * 2 ^ 53 := by omega
    rw [e1]
  · have hl : x.log2 = 52 := log2_eq (by omega) (by omega)
    obtain ⟨h4, _, _⟩ := nearest_just neg (m := x) (p := (e : Int)) (by omega) (by omega) (by omega) (by rw [hl]; omega)
    have hlast : lastOf x (e : Int) = e := by unfold lastOf; rw [hl]; omega
    rw [h4, hlast, show ((e : Int) - e).toNat = 0 by omega, show ((e : Int) + 1074).toNat = e + 1074 by omega, Nat.pow_zero, Nat.mul_one]

/-- What is left of a long whole number, rounded, makes its float. -/
theorem made_long (neg : Bool) {m e u : Nat} (hm : m < 18446744073709551616) (h1 : 4503599627370496 ≤ m / 2 ^ e) (h2 : m / 2 ^ e < 9007199254740992) (he : 1 ≤ e) (hu : (decide (2 ^ e < 2 * (m % 2 ^ e)) || (2 ^ e == 2 * (m % 2 ^ e) && m / 2 ^ e % 2 == 1)).toNat = u) :
    madeT neg (m / 2 ^ e + u) e = .tuple #[.float .f64 (double.nearest neg m 0), .int .i64 0] := by
  obtain ⟨h3, hl⟩ := nearest_long neg hm h1 h2 he
  have h64 : m.log2 < 64 := (Nat.log2_lt (by
    intro h; subst h; simp at h1)).2 (by omega)
  have : ∀ b : Bool, b.toNat ≤ 1 := by decide
  have := this (decide (2 ^ e < 2 * (m % 2 ^ e)) || (2 ^ e == 2 * (m % 2 ^ e) && m / 2 ^ e % 2 == 1))
  rw [madeT_fits neg (by omega) (by omega) (by omega), nearest_full neg (by omega) (by omega) (by omega), h3, cut_even neg (by omega), hu]
theorem made_short (neg : Bool) {m : Nat} (hm : m < 9007199254740992) (hz : m = 0 → neg = false) : madeT neg m 0 = .tuple #[.float .f64 (double.nearest neg m 0), .int .i64 0] := by
  by_cases h : m = 0
  · subst h
    unfold madeT
    rw [if_neg (by omega), if_pos rfl, nearest_zero]
  · exact madeT_fits neg (by omega) (by omega) (by omega)
end Go.Proofs.YtcmohggnehkjeaaGreat
