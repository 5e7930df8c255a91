/-
  Contract of basculeref03.made.
-/
import Derived.Test.YtfkjehgbghckhaaDoorRefFt
namespace Go.Proofs.YtfkjehgbghckhaaDoor
open Go.RowKit Ieee

theorem log2_mul2 {o : Nat} (h : 0 < o) (j : Nat) : (o * 2 ^ j).log2 = o.log2 + j := log2_mul_pow h j

/-- Where lifting ends. -/
theorem lift_end {o j : Nat} {p : Int} (ho : 0 < o) (hm : o * 2 ^ j < 9007199254740992) (hj : j = 0 ∨ -1074 ≤ p - j) (hx : ¬ (o * 2 ^ j < 4503599627370496 ∧ -1074 < p - j)) :
    (p < -1074 → p - j < -1074) ∧ (-1074 ≤ p → p - j = lastOf o p ∧ (o * 2 ^ j < 4503599627370496 → p - j = -1074)) := by
  refine ⟨fun h => by omega, fun h => ?_⟩
  have hge : -1074 ≤ p - j := by rcases hj with rfl | h <;> omega
  have hpos : 0 < o * 2 ^ j := Nat.mul_pos ho (Nat.two_pow_pos _)
  have hl := log2_mul2 ho j
  by_cases hb : o * 2 ^ j < 4503599627370496
  · have he : p - j = -1074 := by omega
    have h1 := (Nat.log2_lt (show o * 2 ^ j ≠ 0 by omega)).2 (show o * 2 ^ j < 2 ^ 52 by omega)
    refine ⟨?_, fun _ => he⟩
    unfold lastOf
    omega
  · have h1 := (Nat.log2_lt (show o * 2 ^ j ≠ 0 by omega)).2 (show o * 2 ^ j < 2 ^ 53 by omega)
    have h2 := (Nat.le_log2 (show o * 2 ^ j ≠ 0 by omega)).2 (show 2 ^ 52 ≤ o * 2 ^ j by omega)
    refine ⟨?_, fun h => absurd h hb⟩
    unfold lastOf
    omega

/-- Is there a float that is just this? -/
def fits (m : Nat) (e : Int) : Prop := m ≤ 9007199254740992 ∧ (m = 0 ∨ (-1074 ≤ e + twos m ∧ e + twos m + ((oddOf m).log2 : Int) ≤ 1023))

theorem oddOf_pos {m : Nat} (h : 0 < m) : 0 < oddOf m := by
  induction m using Nat.strongRecOn with
  | ind m ih =>
    by_cases h2 : m % 2 = 0
    · rw [oddOf_even h h2]; exact ih _ (by omega) (by omega)
    · rw [oddOf_odd h2]; exact h
theorem odd_twos : ∀ m, 0 < m → oddOf m * 2 ^ twos m = m := by
  intro m
  induction m using Nat.strongRecOn with
  | ind m ih =>
    intro h
    by_cases h2 : m % 2 = 0
    · have := ih (m / 2) (by omega) (by omega)
      rw [oddOf_even h h2, twos_even h h2, Nat.pow_succ, ← Nat.mul_assoc, this]; omega
    · rw [oddOf_odd h2, twos_odd h2, Nat.pow_zero, Nat.mul_one]
theorem oddOf_is {m : Nat} (h : 0 < m) : oddOf m % 2 = 1 := by
  induction m using Nat.strongRecOn with
  | ind m ih =>
    by_cases h2 : m % 2 = 0
    · rw [oddOf_even h h2]; exact ih _ (by omega) (by omega)
    · rw [oddOf_odd h2]; omega
/-- The word nearest to it, in its odd part's terms. -/
theorem nearest_odd (neg : Bool) {m : Nat} (e : Int) (h : 0 < m) : double.nearest neg m e = double.nearest neg (oddOf m) (e + twos m) := by
  have h1 := nearest_shift double neg (oddOf m) (e + twos m) (twos m)
  rw [odd_twos m h, show e + (twos m : Int) - (twos m : Int) = e by omega] at h1
  exact h1

/-- What a sign, an odd number and a power make. -/
def madeV (neg : Bool) (o : Nat) (P : Int) : Value := if -1074 ≤ P ∧ P + (o.log2 : Int) ≤ 1023 then .tuple #[.float .f64 (double.nearest neg o P), .int .i64 0] else .tuple #[.float .f64 0, .int .i64 3]

/-- At the end of lifting. -/
theorem madeV_low {neg : Bool} {o j : Nat} {P : Int} (ho : 0 < o) (hm : o * 2 ^ j < 9007199254740992) (hj : j = 0 ∨ -1074 ≤ P - j) (hx : ¬ (o * 2 ^ j < 4503599627370496 ∧ -1074 < P - j)) (h : P - j < -1074) : madeV neg o P = .tuple #[.float .f64 0, .int .i64 3] := by
  unfold madeV
  rw [if_neg]
  intro hc
  have := (lift_end ho hm hj hx).2 hc.1
  unfold lastOf at this
  omega
theorem lift_log {o j : Nat} {P : Int} (hl : P - j = lastOf o P) : P + (o.log2 : Int) ≤ 1023 ↔ P - j ≤ 971 := by
  rw [hl]; unfold lastOf; omega
theorem madeV_high {neg : Bool} {o j : Nat} {P : Int} (ho : 0 < o) (hm : o * 2 ^ j < 9007199254740992) (hj : j = 0 ∨ -1074 ≤ P - j) (hx : ¬ (o * 2 ^ j < 4503599627370496 ∧ -1074 < P - j)) (h : 971 < P - j) : madeV neg o P = .tuple #[.float .f64 0, .int .i64 3] := by
  unfold madeV
  rw [if_neg]
  intro hc
  have := (lift_log ((lift_end ho hm hj hx).2 hc.1).1).1 hc.2
  omega
theorem madeV_good {neg : Bool} {o j : Nat} {P : Int} (ho : 0 < o) (hm : o * 2 ^ j < 9007199254740992) (hj : j = 0 ∨ -1074 ≤ P - j) (hx : ¬ (o * 2 ^ j < 4503599627370496 ∧ -1074 < P - j)) (h : -1074 ≤ P - j) (h2 : P - j ≤ 971) :
    madeV neg o P = .tuple #[.float .f64 (double.word neg ((P - j + 1074).toNat * 4503599627370496 + o * 2 ^ j)), .int .i64 0] ∧ (o * 2 ^ j < 4503599627370496 → P - j = -1074) := by
  have hP : -1074 ≤ P := by omega
  obtain ⟨e1, e2⟩ := (lift_end ho hm hj hx).2 hP
  have hlog := (lift_log e1).2 h2
  have hpos : o ≤ o * 2 ^ j := Nat.le_mul_of_pos_right _ (Nat.two_pow_pos _)
  refine ⟨?_, e2⟩
  unfold madeV
  rw [if_pos ⟨hP, hlog⟩, (nearest_just neg ho (by omega) hP hlog).1, ← e1, show (P - (P - (j : Int))).toNat = j by omega]

/-- What made answers. -/
def madeT (neg : Bool) (m : Nat) (e : Int) : Value := if 9007199254740992 < m then .tuple #[.float .f64 0, .int .i64 3] else if m = 0 then .tuple #[.float .f64 (double.word neg 0), .int .i64 0] else madeV neg (oddOf m) (e + twos m)
end Go.Proofs.YtfkjehgbghckhaaDoor
