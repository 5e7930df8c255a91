/-
  Contract of basculeref03.ToInt.
-/
import Derived.Test.YtcmohggnehkjeaaGreatRefFm
namespace Go.Proofs.YtcmohggnehkjeaaGreat
open Go.RowKit Ieee

/-- An odd part and a power, cut towards nought. -/
def tr (o : Nat) (E : Int) : Nat := if E < 0 then o / 2 ^ (-E).toNat else o * 2 ^ E.toNat
def toV (ms : Bool) (t : Nat) : Value := if ms = true then (if 9223372036854775808 < t then .tuple #[.int .i64 0, .int .i64 3] else .tuple #[.int .i64 (-(t : Int)), .int .i64 0]) else (if 9223372036854775808 ≤ t then .tuple #[.int .i64 0, .int .i64 3] else .tuple #[.int .i64 t, .int .i64 0])

theorem tr_end {o k : Nat} {E : Int} (hk : k = 0 ∨ E + k ≤ 0) (hx : ¬ (E + k < 0 ∧ 0 < o / 2 ^ k)) : tr o E = o / 2 ^ k * 2 ^ (E + k).toNat := by
  unfold tr
  by_cases he : E < 0
  · rw [if_pos he]
    have hle : E + k ≤ 0 := by rcases hk with rfl | h <;> omega
    rw [show (E + k).toNat = 0 by omega, Nat.pow_zero, Nat.mul_one]
    by_cases hz : E + k = 0
    · rw [show (-E).toNat = k by omega]
    · have h0 : o / 2 ^ k = 0 := by
        rcases Nat.eq_zero_or_pos (o / 2 ^ k) with h | h
        · exact h
        · exact absurd ⟨by omega, h⟩ hx
      rw [h0]
      have h1 : (-E).toNat = k + ((-E).toNat - k) := by omega
      rw [h1, Nat.pow_add, ← Nat.div_div_eq_div_mul, h0, Nat.zero_div]
  · rw [if_neg he]
    have h0 : k = 0 := by omega
    subst h0
    simp

theorem toV_over {ms : Bool} {t : Nat} (h : 9223372036854775808 < t) : toV ms t = .tuple #[.int .i64 0, .int .i64 3] := by
  unfold toV
  cases ms
  · rw [if_neg (by decide), if_pos (by omega)]
  · rw [if_pos rfl, if_pos h]
theorem over {c d : Nat} (h : 4611686018427387904 < c) (hd : 0 < d) : 9223372036854775808 < c * 2 ^ d := by
  obtain ⟨d', rfl⟩ : ∃ d', d = d' + 1 := ⟨d - 1, by omega⟩
  rw [Nat.pow_succ, ← Nat.mul_assoc]
  have := Nat.mul_le_mul_left c (Nat.one_le_two_pow (n := d'))
  omega

/-- What ToInt answers. -/
def toIntV (b : Nat) : Value := if 9218868437227405312 ≤ rung b then .tuple #[.int .i64 0, .int .i64 3] else toV (sgn b) (tr (oddW b) (expW b))
end Go.Proofs.YtcmohggnehkjeaaGreat
