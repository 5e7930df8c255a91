/-
  Contracts of the program's makeOdd, split, textOfSize, Text.
-/
import Derived.Test.YtcmohggnehkjeaaGreatFf
namespace Go.Proofs.YtcmohggnehkjeaaGreat
open Go.RowKit Ieee

theorem twos_pow (m : Nat) : ∀ k, twos (2 ^ k * (2 * m + 1)) = k ∧ oddOf (2 ^ k * (2 * m + 1)) = 2 * m + 1 := by
  intro k
  induction k with
  | zero => rw [Nat.pow_zero, Nat.one_mul]; exact ⟨twos_odd (by omega), oddOf_odd (by omega)⟩
  | succ k ih =>
    have hp : 0 < 2 ^ k * (2 * m + 1) := Nat.mul_pos (Nat.two_pow_pos _) (by omega)
    have e : 2 ^ (k + 1) * (2 * m + 1) = 2 * (2 ^ k * (2 * m + 1)) := by rw [Nat.pow_succ]; ac_rfl
    rw [e]
    generalize 2 ^ k * (2 * m + 1) = n at *
    rw [twos_even (by omega) (by omega), oddOf_even (by omega) (by omega), show 2 * n / 2 = n by omega]
    exact ⟨by omega, ih.2⟩
theorem ctz_twos {n : Nat} (h : 0 < n) (hn : n < 18446744073709551616) : Lib.ctz 64 n = twos n ∧ n / 2 ^ twos n = oddOf n ∧ twos n < 64 := by
  obtain ⟨m, hm, hk⟩ := Lib.ctzFrom_spec 64 n h (by omega)
  have e : Lib.ctz 64 n = Lib.ctzFrom 64 n := by unfold Lib.ctz; rw [if_neg (by omega)]
  rw [e]
  generalize Lib.ctzFrom 64 n = k at *
  obtain ⟨t, o⟩ := twos_pow m k
  rw [← hm] at t o
  refine ⟨t.symm, ?_, by omega⟩
  rw [t, o, hm, Nat.mul_div_cancel_left _ (Nat.two_pow_pos _)]

theorem and_52 (b : Nat) (hb : b < 18446744073709551616) : bits BinOp.and IntKind.u64 (b : Int) 4503599627370495 = ((b % 4503599627370496 : Nat) : Int) := by
  have h := bits_and_u64_nat b 4503599627370495 hb (by omega)
  have e : b &&& 4503599627370495 = b % 4503599627370496 := Nat.and_two_pow_sub_one_eq_mod b 52
  rw [e] at h
  exact h
theorem or_52 {m : Nat} (hm : m < 4503599627370496) : bits BinOp.or IntKind.u64 (m : Int) 4503599627370496 = ((4503599627370496 + m : Nat) : Int) := by
  have h := bits_or_u64_nat m 4503599627370496 (by omega) (by omega)
  have e : m ||| 4503599627370496 = 4503599627370496 + m := by
    rw [Nat.or_comm]
    have := Nat.two_pow_add_eq_or_of_lt (i := 52) (b := m) (by omega) 1
    rw [Nat.mul_one] at this
    exact this.symm
  rw [e] at h
  exact h

/-- The text without a minus. -/
def sizeB (b : Nat) : ByteArray := if rung b = 9218868437227405312 then ⟨#[105, 110, 102]⟩ else strL (digL (oddW b)) ++ ⟨#[112]⟩ ++ expS (expW b)
theorem expS_size {e : Int} (h : -18446744073709551616 < e ∧ e < 18446744073709551616) : (expS e).size ≤ 21 := by
  unfold expS
  split
  · have := digits_size (show (-e).toNat < 18446744073709551616 by omega)
    rw [ByteArray.size_append]
    have e1 : ByteArray.size ⟨#[45]⟩ = 1 := rfl
    omega
  · have := digits_size (show e.toNat < 18446744073709551616 by omega)
    omega
theorem sizeB_size (b : Nat) : (sizeB b).size ≤ 42 := by
  unfold sizeB
  split
  · decide
  · have h1 := digits_size (show oddW b < 18446744073709551616 by have := oddW_lt b; omega)
    have h2 := expS_size (show -18446744073709551616 < expW b ∧ expW b < 18446744073709551616 by have := expW_in b; omega)
    simp only [ByteArray.size_append]
    have e1 : ByteArray.size ⟨#[112]⟩ = 1 := rfl
    omega
theorem sizeB_zero : sizeB 0 = ⟨#[48, 112, 48]⟩ := by
  unfold sizeB
  rw [if_neg (by decide)]
  have e1 : oddW 0 = 0 := by unfold oddW; rw [if_pos (by decide)]
  have e2 : expW 0 = 0 := by unfold expW; rw [if_pos (by decide)]
  rw [e1, e2]
  unfold expS
  rw [if_neg (by decide)]
  have e3 : digL 0 = [48] := by rw [digL]; rfl
  have e4 : digL (0 : Int).toNat = [48] := e3
  rw [e3, e4]
  rfl

theorem sizeB_neg {b : Nat} (hb : okW b) : sizeB (negW b) = sizeB b := by
  have h := (negW_parts hb).2
  have e1 : mantW (negW b) = mantW b := by unfold mantW; rw [h]
  have e2 : placeW (negW b) = placeW b := by unfold placeW; rw [h]
  unfold sizeB oddW expW
  rw [h, e1, e2]
theorem textB_up {b : Nat} (h : nanB b = false) (hs : sgn b = false) : textB b = sizeB b := by
  unfold textB sizeB signS
  rw [h, hs]
  simp only [Bool.false_eq_true, if_false]
  split
  · rfl
  · rw [show (⟨#[]⟩ : ByteArray) ++ strL (digL (oddW b)) = strL (digL (oddW b)) from ByteArray.empty_append]
theorem textB_down {b : Nat} (h : nanB b = false) (hs : sgn b = true) : textB b = ⟨#[45]⟩ ++ sizeB b := by
  unfold textB sizeB signS
  rw [h, hs]
  simp only [Bool.false_eq_true, if_false, if_true]
  split
  · rfl
  · simp only [ByteArray.append_assoc]
end Go.Proofs.YtcmohggnehkjeaaGreat
