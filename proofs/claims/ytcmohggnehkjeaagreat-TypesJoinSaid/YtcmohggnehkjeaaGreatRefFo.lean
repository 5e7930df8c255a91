/-
  Contract of basculeref03.FromInt.
-/
import Derived.Test.YtcmohggnehkjeaaGreatRefFr
namespace Go.Proofs.YtcmohggnehkjeaaGreat
open Go.RowKit Ieee

theorem W_neg {n : Int} (h1 : -9223372036854775808 ≤ n) (h : n < 0) : IntKind.u64.wrap (-(IntKind.u64.wrap n)) = (n.natAbs : Int) := by
  rw [IntKind.wrap_u64, IntKind.wrap_u64]; omega
theorem W_pos {n : Int} (h2 : n ≤ 9223372036854775807) (h : ¬ n < 0) : IntKind.u64.wrap n = (n.natAbs : Int) := by
  rw [IntKind.wrap_u64]; omega
theorem e_small {m e : Nat} (hm : m < 18446744073709551616) (h : 1 ≤ m / 2 ^ e) : e < 64 := by
  have h1 := (Nat.le_div_iff_mul_le (Nat.two_pow_pos e)).1 h
  have h2 : 2 ^ e < 2 ^ 64 := by omega
  exact (Nat.pow_lt_pow_iff_right (by omega)).1 h2

end Go.Proofs.YtcmohggnehkjeaaGreat
