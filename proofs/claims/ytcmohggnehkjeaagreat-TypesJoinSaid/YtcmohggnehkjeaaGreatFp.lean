/-
  Contracts of the program's parseDigits, powerOfTwo, scale.
-/
import Derived.Test.YtcmohggnehkjeaaGreatFt
import Derived.Lib.ItoaNum
namespace Go.Proofs.YtcmohggnehkjeaaGreat
open Go.RowKit Ieee

/-- Digits as the program reads them: a number that is too great grows no further. -/
def pdN (l : List UInt8) : Nat := l.foldl (fun n c => if n ≤ 9007199254740992 then n * 10 + (c.toNat - 48) else n) 0
/-- Digits as a number. -/
def numN (l : List UInt8) : Nat := l.foldl (fun n c => n * 10 + (c.toNat - 48)) 0
theorem pdN_snoc (l : List UInt8) (c : UInt8) : pdN (l ++ [c]) = if pdN l ≤ 9007199254740992 then pdN l * 10 + (c.toNat - 48) else pdN l := by
  unfold pdN; rw [List.foldl_append]; rfl
theorem numN_snoc (l : List UInt8) (c : UInt8) : numN (l ++ [c]) = numN l * 10 + (c.toNat - 48) := by
  unfold numN; rw [List.foldl_append]; rfl
theorem snoc_ind {P : List UInt8 → Prop} (h0 : P []) (h1 : ∀ l c, P l → P (l ++ [c])) (l : List UInt8) : P l := by
  have : ∀ n, ∀ l : List UInt8, l.length = n → P l := by
    intro n
    induction n with
    | zero => intro l hl; rw [List.length_eq_zero_iff.1 hl]; exact h0
    | succ n ih =>
      intro l hl
      rcases l.eq_nil_or_concat with rfl | ⟨a, b, rfl⟩
      · exact h0
      · simpa using h1 a b (ih a (by simp at hl; omega))
  exact this _ l rfl
theorem capN_num (l : List UInt8) : capN l = min (numN l) 576460752303423488 := by
  induction l using snoc_ind with
  | h0 => rfl
  | h1 l c ih => rw [capN_snoc, numN_snoc, ih]; omega
theorem pdN_num (l : List UInt8) : pdN l = numN l ∨ (9007199254740992 < pdN l ∧ 9007199254740992 < numN l) := by
  induction l using snoc_ind with
  | h0 => exact .inl rfl
  | h1 l c ih => rw [pdN_snoc, numN_snoc]; split <;> omega
theorem pdN_le (l : List UInt8) (h : l.all isD = true) : pdN l ≤ 90071992547409929 := by
  induction l using snoc_ind with
  | h0 => unfold pdN; simp
  | h1 l c ih =>
    rw [List.all_append, Bool.and_eq_true] at h
    have hc : isD c = true := by simpa using h.2
    unfold isD at hc
    rw [Bool.and_eq_true, decide_eq_true_eq, decide_eq_true_eq] at hc
    have := ih h.1
    rw [pdN_snoc]
    split <;> omega
theorem numN_lt (l : List UInt8) (h : l.all isD = true) : numN l < 10 ^ l.length := by
  induction l using snoc_ind with
  | h0 => unfold numN; simp
  | h1 l c ih =>
    rw [List.all_append, Bool.and_eq_true] at h
    have hc : isD c = true := by simpa using h.2
    unfold isD at hc
    rw [Bool.and_eq_true, decide_eq_true_eq, decide_eq_true_eq] at hc
    have := ih h.1
    rw [numN_snoc, List.length_append, List.length_singleton, Nat.pow_succ]
    omega
theorem madeT_pd (neg : Bool) (l : List UInt8) (e : Int) : madeT neg (pdN l) e = madeT neg (capN l) e := by
  rw [capN_num]
  rcases pdN_num l with h | h
  · by_cases hb : numN l ≤ 9007199254740992
    · rw [h, Nat.min_eq_left (by omega)]
    · unfold madeT; rw [if_pos (by omega), if_pos (by omega)]
  · unfold madeT; rw [if_pos (by omega), if_pos (by omega)]
theorem pd_short {l : List UInt8} (h : l.all isD = true) (hl : l.length ≤ 4) : pdN l = capN l ∧ capN l ≤ 9999 := by
  have h1 := numN_lt l h
  have h2 : 10 ^ l.length ≤ 10 ^ 4 := Nat.pow_le_pow_right (by omega) hl
  have e4 : 10 ^ 4 = 10000 := by decide
  rw [capN_num]
  rcases pdN_num l with h3 | h3 <;> omega

/-- From 1 to so many digits, and nothing else? -/
def okD (l : List UInt8) (most : Nat) : Bool := decide (1 ≤ l.length) && decide (l.length ≤ most) && l.all isD
def pdV (l : List UInt8) (most : Nat) : Value := if okD l most = true then .tuple #[.int .u64 (pdN l : Nat), .bool true] else .tuple #[.int .u64 0, .bool false]
theorem pdV_no {l : List UInt8} {most : Nat} (h : okD l most = false) : pdV l most = .tuple #[.int .u64 0, .bool false] := by unfold pdV; rw [if_neg (by simp [h])]

/-- A power of two as a word. -/
theorem power_word {P : Int} (h1 : -1074 ≤ P) (h2 : P ≤ 1023) : double.nearest false 1 P = if P + 1074 < 52 then 2 ^ (P + 1074).toNat else (P + 1023).toNat * 4503599627370496 := by
  have e1 : (1 : Nat).log2 = 0 := by decide
  rw [(nearest_just false (show 0 < 1 by omega) (by omega) h1 (by rw [e1]; omega)).1]
  unfold Format.word lastOf
  rw [e1]
  simp only [Bool.false_eq_true, if_false, Nat.one_mul]
  split
  · rw [show max (P + ((0 : Nat) : Int) - 52) (-1074) = -1074 by omega, show (-1074 + 1074 : Int).toNat = 0 by decide, Nat.zero_mul, Nat.zero_add, show P - -1074 = P + 1074 by omega]
  · have e52 : (2 : Nat) ^ 52 = 4503599627370496 := by decide
    rw [show max (P + ((0 : Nat) : Int) - 52) (-1074) = P - 52 by omega, show (P - (P - 52)).toNat = 52 by omega, e52, show (P + 1023).toNat = (P - 52 + 1074).toNat + 1 by omega, Nat.add_mul, Nat.one_mul]
/-- An odd number times a power of two is just the float nearest to that. -/
theorem scale_mul {o : Nat} {P : Int} (ho : 0 < o) (ho2 : o < 9007199254740992) (h1 : -1074 ≤ P) (h2 : P + (o.log2 : Int) ≤ 1023) :
    double.mul (double.nearest false o 0) (double.nearest false 1 P) = some (double.nearest false o P) := by
  have e1 : (1 : Nat).log2 = 0 := by decide
  obtain ⟨k, hr, hk⟩ := read_ib (n := (o : Int)) (by omega)
  have hib : ib (o : Int) = double.nearest false o 0 := by unfold ib; rw [decide_eq_false (by omega)]; rfl
  rw [hib, decide_eq_false (by omega), Int.natAbs_natCast] at hr
  obtain ⟨_, hq, hl⟩ := nearest_just false (show 0 < 1 by omega) (by omega) h1 (by rw [e1]; omega)
  unfold Format.mul
  rw [hr, hq]
  show some (double.nearest (false ^^ false) (o * 2 ^ k * (1 * 2 ^ (P - lastOf 1 P).toNat)) (-(k : Int) + lastOf 1 P)) = _
  have e : o * 2 ^ k * (1 * 2 ^ (P - lastOf 1 P).toNat) = o * 2 ^ (k + (P - lastOf 1 P).toNat) := by rw [Nat.one_mul, Nat.pow_add, Nat.mul_assoc]
  rw [e, show -(k : Int) + lastOf 1 P = P - ((k + (P - lastOf 1 P).toNat : Nat) : Int) by omega, nearest_shift]
  rfl
theorem bitLen_log {o : Nat} (ho : 0 < o) (ho2 : o < 18446744073709551616) : Lib.bitLen o = o.log2 + 1 := by
  unfold Lib.bitLen
  obtain ⟨h1, h2, h3⟩ := Lib.bitLenAux_bounds 64 o (by omega) (by omega)
  have := log2_eq (n := o) (k := Lib.bitLenAux 64 o - 1) h2 (by rw [show Lib.bitLenAux 64 o - 1 + 1 = Lib.bitLenAux 64 o by omega]; exact h3)
  omega

end Go.Proofs.YtcmohggnehkjeaaGreat
