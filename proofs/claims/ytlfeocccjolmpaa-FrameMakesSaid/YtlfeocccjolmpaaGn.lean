/-
  The sum by half bytes, plainly: four steps are a look into a table of sixteen and a shift.
-/
import Derived.Test.YtlfeocccjolmpaaGa
namespace Go.Proofs.Ytlfeocccjolmpaa

theorem cs_xor (a b : Nat) : cs (a ^^^ b) = cs a ^^^ cs b := by
  have h2 : (a ^^^ b) / 2 = a / 2 ^^^ b / 2 := Nat.xor_div_two
  have hm : (a ^^^ b) % 2 = 1 ↔ ¬ ((a % 2 = 1) ↔ (b % 2 = 1)) := Nat.xor_mod_two_eq_one
  unfold cs
  rw [h2]
  by_cases ha : a % 2 = 1
  · by_cases hb : b % 2 = 1
    · rw [if_neg (by rw [hm]; simp [ha, hb]), if_pos ha, if_pos hb]
      rw [Nat.xor_assoc, Nat.xor_comm 3988292384 (b / 2 ^^^ 3988292384), Nat.xor_assoc, Nat.xor_self, Nat.xor_zero]
    · rw [if_pos (by rw [hm]; simp [ha, hb]), if_pos ha, if_neg hb]
      rw [Nat.xor_assoc, Nat.xor_assoc, Nat.xor_comm (b / 2)]
  · by_cases hb : b % 2 = 1
    · rw [if_pos (by rw [hm]; simp [ha, hb]), if_neg ha, if_pos hb, Nat.xor_assoc]
    · rw [if_neg (by rw [hm]; simp [ha, hb]), if_neg ha, if_neg hb]
theorem csn_xor : ∀ (k a b : Nat), csn k (a ^^^ b) = csn k a ^^^ csn k b
  | 0, _, _ => rfl
  | k + 1, a, b => by
    show csn k (cs (a ^^^ b)) = csn k (cs a) ^^^ csn k (cs b)
    rw [cs_xor, csn_xor k]
theorem cs_even (h : Nat) : cs (2 * h) = h := by
  unfold cs
  rw [if_neg (by omega)]
  omega
theorem csn_high (h : Nat) : csn 4 (16 * h) = h := by
  show cs (cs (cs (cs (16 * h)))) = h
  rw [show 16 * h = 2 * (2 * (2 * (2 * h))) by omega, cs_even, cs_even, cs_even, cs_even]
/-- A half byte: what stands above it is shifted down, and what stands in it is looked up. -/
theorem csn_half (c : Nat) : csn 4 c = c / 16 ^^^ csn 4 (c % 16) := by
  have e : c = 16 * (c / 16) ^^^ c % 16 := by
    have h1 : 16 * (c / 16) ||| c % 16 = 16 * (c / 16) + c % 16 := by
      have := Nat.two_pow_add_eq_or_of_lt (i := 4) (b := c % 16) (by omega) (c / 16)
      simpa using this.symm
    have h2 : 16 * (c / 16) &&& c % 16 = 0 := by
      apply Nat.eq_of_testBit_eq
      intro j
      rw [Nat.testBit_and, Nat.zero_testBit]
      by_cases hj : j < 4
      · have : (16 * (c / 16)).testBit j = false := by
          rw [show 16 * (c / 16) = 2 ^ 4 * (c / 16) by omega, Nat.testBit_two_pow_mul]
          simp
          omega
        rw [this]; rfl
      · have : (c % 16).testBit j = false := Nat.testBit_lt_two_pow (Nat.lt_of_lt_of_le (show c % 16 < 2 ^ 4 by omega) (Nat.pow_le_pow_right (by decide) (by omega)))
        rw [this, Bool.and_false]
    have h3 : 16 * (c / 16) ^^^ c % 16 = 16 * (c / 16) ||| c % 16 := by
      apply Nat.eq_of_testBit_eq
      intro j
      have hj := congrArg (fun z => z.testBit j) h2
      simp only [Nat.testBit_and, Nat.zero_testBit] at hj
      rw [Nat.testBit_xor, Nat.testBit_or]
      generalize (16 * (c / 16)).testBit j = x at hj ⊢
      generalize (c % 16).testBit j = y at hj ⊢
      cases x <;> cases y <;> simp_all
    rw [h3, h1]
    omega
  have h := csn_xor 4 (16 * (c / 16)) (c % 16)
  rw [← e, csn_high] at h
  exact h
theorem cb_halves (c b : Nat) : cb c b = csn 4 (csn 4 (c ^^^ b)) := csn_add 4 4 _
end Go.Proofs.Ytlfeocccjolmpaa
