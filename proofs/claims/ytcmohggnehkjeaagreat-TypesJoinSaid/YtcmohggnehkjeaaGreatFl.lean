/-
  binary64 in the model's words, plainly: no walk, no number of a seat. What is read is written again; the order of words; halves, sums and products of whole numbers.
-/
import Derived.Laws.FloatArith
namespace Go.Proofs.YtcmohggnehkjeaaGreat
open Ieee

theorem sl (n k : Nat) : n <<< k = n * 2 ^ k := Nat.shiftLeft_eq n k

/-- A cut that drops only noughts. -/
theorem cut_exact (way : Toward) (neg : Bool) (n d : Nat) : way.cut neg (n * 2 ^ d) d = n := by
  unfold Toward.cut
  rcases Nat.eq_zero_or_pos n with rfl | hn
  · simp only [Nat.zero_mul, Nat.log2_zero, Nat.zero_add, sl, Nat.one_mul, Nat.zero_div, Nat.zero_mod]
    cases way <;> simp
  · have hlog : d ≤ (n * 2 ^ d).log2 := by
      rw [Nat.le_log2 (by have := Nat.two_pow_pos d; exact Nat.ne_of_gt (Nat.mul_pos hn this))]
      exact Nat.le_mul_of_pos_left _ hn
    have hmin : min d ((n * 2 ^ d).log2 + 2) = d := by omega
    have hp : 0 < 2 ^ d := Nat.two_pow_pos _
    rw [hmin]
    simp only [sl, Nat.one_mul, Nat.mul_div_cancel _ hp, Nat.mul_mod_left]
    cases way <;> simp
theorem cut_zero (way : Toward) (neg : Bool) (n : Nat) : way.cut neg n 0 = n := by
  have := cut_exact way neg n 0
  simpa using this

theorem log2_mul_pow {n : Nat} (hn : 0 < n) (k : Nat) : (n * 2 ^ k).log2 = n.log2 + k := by
  have hp : 0 < 2 ^ k := Nat.two_pow_pos _
  have hnk : n * 2 ^ k ≠ 0 := Nat.ne_of_gt (Nat.mul_pos hn hp)
  have h1 : 2 ^ n.log2 ≤ n := (Nat.le_log2 (by omega)).1 (Nat.le_refl _)
  have h2 : n < 2 ^ (n.log2 + 1) := (Nat.log2_lt (by omega)).1 (Nat.lt_succ_self _)
  have h3 : n.log2 + k ≤ (n * 2 ^ k).log2 := by
    rw [Nat.le_log2 hnk, Nat.pow_add]
    exact Nat.mul_le_mul_right _ h1
  have h4 : (n * 2 ^ k).log2 < n.log2 + 1 + k := by
    rw [Nat.log2_lt hnk, Nat.pow_add]
    exact Nat.mul_lt_mul_of_pos_right h2 hp
  omega

/-- A cut of a number with more noughts behind it. -/
theorem cut_shift (way : Toward) (neg : Bool) {n : Nat} (hn : 0 < n) (d k : Nat) : way.cut neg (n * 2 ^ k) (d + k) = way.cut neg n d := by
  unfold Toward.cut
  rw [log2_mul_pow hn k, show min (d + k) (n.log2 + k + 2) = min d (n.log2 + 2) + k by omega]
  generalize min d (n.log2 + 2) = g
  have hk : 0 < 2 ^ k := Nat.two_pow_pos _
  simp only [sl, Nat.one_mul, Nat.pow_add]
  rw [Nat.mul_div_mul_right _ _ hk, Nat.mul_mod_mul_right]
  have e1 : (2 ^ g * 2 ^ k < 2 * (n % 2 ^ g * 2 ^ k)) = (2 ^ g < 2 * (n % 2 ^ g)) := by
    rw [← Nat.mul_assoc]
    exact propext (Nat.mul_lt_mul_right hk)
  have e2 : (2 ^ g * 2 ^ k == 2 * (n % 2 ^ g * 2 ^ k)) = (2 ^ g == 2 * (n % 2 ^ g)) := by
    rw [← Nat.mul_assoc, Bool.eq_iff_iff]
    simp only [beq_iff_eq]
    exact Nat.mul_left_inj (by omega)
  have e3 : (n % 2 ^ g * 2 ^ k != 0) = (n % 2 ^ g != 0) := by
    rw [Bool.eq_iff_iff]
    simp only [bne_iff_ne]
    have : n % 2 ^ g * 2 ^ k = 0 ↔ n % 2 ^ g = 0 := by rw [Nat.mul_eq_zero]; omega
    exact not_congr this
  cases way <;> simp only [e1, e2, e3]

/-- The nearest word hangs on the number alone, not on how it is spelled. -/
theorem nearest_shift (f : Format) (neg : Bool) (mag : Nat) (place : Int) (k : Nat) : f.nearest neg (mag * 2 ^ k) (place - k) = f.nearest neg mag place := by
  unfold Format.nearest
  rcases Nat.eq_zero_or_pos mag with rfl | hm
  · simp
  have hk : 0 < 2 ^ k := Nat.two_pow_pos _
  rw [if_neg (Nat.ne_of_gt (Nat.mul_pos hm hk)), if_neg (Nat.ne_of_gt hm), log2_mul_pow hm k]
  have hlast : max (place - k + ((mag.log2 + k : Nat) : Int) - f.fractionBits) f.leastPlace = max (place + (mag.log2 : Int) - f.fractionBits) f.leastPlace := by
    congr 1
    omega
  simp only [hlast]
  generalize max (place + (mag.log2 : Int) - f.fractionBits) f.leastPlace = last
  have hc : Toward.even.cut neg ((mag * 2 ^ k) <<< (place - k - last).toNat) (last - (place - k)).toNat = Toward.even.cut neg (mag <<< (place - last).toNat) (last - place).toNat := by
    simp only [sl]
    by_cases h1 : last + k ≤ place
    · rw [show (last - (place - k)).toNat = 0 by omega, show (last - place).toNat = 0 by omega, cut_zero, cut_zero, Nat.mul_assoc, ← Nat.pow_add, show k + (place - k - last).toNat = (place - last).toNat by omega]
    · by_cases h2 : last ≤ place
      · rw [show (place - k - last).toNat = 0 by omega, show (last - place).toNat = 0 by omega, cut_zero, Nat.pow_zero, Nat.mul_one,
          show k = (place - last).toNat + (last - (place - k)).toNat by omega, Nat.pow_add, ← Nat.mul_assoc,
          show (last - (place - (((place - last).toNat + (last - (place - k)).toNat : Nat) : Int))).toNat = (last - (place - k)).toNat by omega]
        exact cut_exact _ _ _ _
      · rw [show (place - k - last).toNat = 0 by omega, show (place - last).toNat = 0 by omega, Nat.pow_zero, Nat.mul_one, Nat.mul_one, show (last - (place - k)).toNat = (last - place).toNat + k by omega]
        exact cut_shift _ _ hm _ _
  rw [hc]

theorem D_binade : double.binade = 4503599627370496 := by decide
theorem D_inf : double.infRung = 9218868437227405312 := by decide
theorem D_sign : double.signWeight = 9223372036854775808 := by decide
theorem D_least : double.leastPlace = -1074 := by decide
theorem D_frac : double.fractionBits = 52 := rfl

theorem log2_eq {n k : Nat} (h1 : 2 ^ k ≤ n) (h2 : n < 2 ^ (k + 1)) : n.log2 = k := by
  have hn : n ≠ 0 := by have := Nat.two_pow_pos k; omega
  have a := (Nat.le_log2 hn).2 h1
  have b := (Nat.log2_lt hn).2 h2
  omega

/-- What is read of a rung below infinity's, written again. -/
theorem write_read_fin (w : Nat) (hw : w < 18446744073709551616) (hr : w % 9223372036854775808 < 9218868437227405312) : double.write (double.read w) = w := by
  have hwd : double.word (w / 9223372036854775808 % 2 == 1) (w % 9223372036854775808) = w := by
    unfold Format.word
    rw [D_sign]
    by_cases h : w / 9223372036854775808 % 2 = 1
    · simp only [h, beq_self_eq_true, if_true]; omega
    · have h' : (w / 9223372036854775808 % 2 == 1) = false := by simpa using h
      simp only [h', Bool.false_eq_true, if_false]; omega
  unfold Format.read
  simp only [D_sign, D_binade, D_inf, D_least]
  generalize (w / 9223372036854775808 % 2 == 1) = neg at *
  generalize w % 9223372036854775808 = r at *
  by_cases h1 : r < 4503599627370496
  · rw [if_pos h1]
    show double.nearest neg r (-1074) = w
    rw [← hwd]
    unfold Format.nearest
    by_cases h0 : r = 0
    · rw [if_pos h0, h0]
    · rw [if_neg h0]
      have hl : r.log2 < 52 := (Nat.log2_lt h0).2 h1
      simp only [D_least, D_frac, D_binade, D_inf]
      rw [show max (-1074 + (r.log2 : Int) - ((52 : Nat) : Int)) (-1074) = -1074 by omega]
      simp only [Int.sub_self, Int.toNat_zero, sl, Nat.pow_zero, Nat.mul_one, cut_zero, Nat.zero_mul, Nat.zero_add]
      congr 1
      omega
  · rw [if_neg h1, if_pos hr]
    show double.nearest neg (4503599627370496 + r % 4503599627370496) (-1074 + ((r / 4503599627370496 - 1 : Nat) : Int)) = w
    rw [← hwd]
    unfold Format.nearest
    rw [if_neg (by omega)]
    have hl : (4503599627370496 + r % 4503599627370496).log2 = 52 := log2_eq (by show 4503599627370496 ≤ _; omega) (by show _ < 9007199254740992; omega)
    simp only [D_least, D_frac, D_binade, D_inf, hl]
    generalize hp : (-1074 + ((r / 4503599627370496 - 1 : Nat) : Int)) = place
    rw [show max (place + ((52 : Nat) : Int) - ((52 : Nat) : Int)) (-1074) = place by omega]
    simp only [Int.sub_self, Int.toNat_zero, sl, Nat.pow_zero, Nat.mul_one, cut_zero]
    congr 1
    omega

/-- The sign and the rung of a word, put together. -/
theorem word_parts (w : Nat) (hw : w < 18446744073709551616) : double.word (w / 9223372036854775808 % 2 == 1) (w % 9223372036854775808) = w := by
  unfold Format.word
  rw [D_sign]
  by_cases h : w / 9223372036854775808 % 2 = 1
  · simp only [h, beq_self_eq_true, if_true]; omega
  · have h' : (w / 9223372036854775808 % 2 == 1) = false := by simpa using h
    simp only [h', Bool.false_eq_true, if_false]; omega

/-- What is read of a word, written again, is that word: of a NaN too. -/
theorem write_read (w : Nat) (hw : w < 18446744073709551616) : double.write (double.read w) = w := by
  by_cases hr : w % 9223372036854775808 < 9218868437227405312
  · exact write_read_fin w hw hr
  · have hwd := word_parts w hw
    unfold Format.read
    simp only [D_sign, D_binade, D_inf]
    generalize (w / 9223372036854775808 % 2 == 1) = neg at *
    have hlt : w % 9223372036854775808 < 9223372036854775808 := Nat.mod_lt _ (by omega)
    generalize w % 9223372036854775808 = r at *
    rw [if_neg (by omega), if_neg hr]
    by_cases h2 : r = 9218868437227405312
    · rw [if_pos h2]
      show double.word neg double.infRung = w
      rw [D_inf, ← h2]
      exact hwd
    · rw [if_neg h2]
      show double.word neg (double.infRung + (r - 9218868437227405312) % double.binade) = w
      rw [D_inf, D_binade, ← hwd, show 9218868437227405312 + (r - 9218868437227405312) % 4503599627370496 = r by omega]

/-! ### What is read, by rungs -/
def sgn (w : Nat) : Bool := w / 9223372036854775808 % 2 == 1
def rung (w : Nat) : Nat := w % 9223372036854775808

theorem read_sub {w : Nat} (h : rung w < 4503599627370496) : double.read w = .number (sgn w) (rung w) (-1074) := by
  unfold Format.read
  simp only [D_sign, D_binade, D_least]
  exact if_pos h
theorem read_norm {w : Nat} (h : ¬ rung w < 4503599627370496) (h2 : rung w < 9218868437227405312) : double.read w = .number (sgn w) (4503599627370496 + rung w % 4503599627370496) (-1074 + ((rung w / 4503599627370496 - 1 : Nat) : Int)) := by
  unfold Format.read
  simp only [D_sign, D_binade, D_inf, D_least]
  exact (if_neg h).trans (if_pos h2)
theorem read_inf {w : Nat} (h : rung w = 9218868437227405312) : double.read w = .infinity (sgn w) := by
  have hr : w % 9223372036854775808 = 9218868437227405312 := h
  unfold Format.read
  simp only [D_sign, D_binade, D_inf, D_least]
  rw [hr, if_neg (by omega), if_neg (by omega), if_pos rfl]
  rfl
theorem read_nan {w : Nat} (h : 9218868437227405312 < rung w) : double.read w = .nan (sgn w) (rung w - 9218868437227405312) := by
  unfold Format.read
  simp only [D_sign, D_binade, D_inf, D_least]
  have h' : 9218868437227405312 < w % 9223372036854775808 := h
  rw [if_neg (by omega), if_neg (by omega), if_neg (by omega)]
  rfl

/-- A finite one: its number. -/
theorem read_fin {w : Nat} (h : rung w < 9218868437227405312) : ∃ m p, double.read w = .number (sgn w) m p ∧ m < 9007199254740992 ∧ -1074 ≤ p ∧ p ≤ 971 ∧ (m = 0 ↔ rung w = 0) := by
  by_cases h1 : rung w < 4503599627370496
  · exact ⟨_, _, read_sub h1, by omega, by omega, by omega, Iff.rfl⟩
  · exact ⟨_, _, read_norm h1 h, by omega, by omega, by omega, by omega⟩

/-! ### Sums and products in either order -/
theorem sum_comm (d e : Datum) : d.sum e = e.sum d := by
  cases d with
  | nan s f => cases e <;> rfl
  | infinity s =>
    cases e with
    | nan t g => rfl
    | infinity t => cases s <;> cases t <;> rfl
    | number t n j => rfl
  | number s m i =>
    cases e with
    | nan t g => rfl
    | infinity t => rfl
    | number t n j =>
      unfold Datum.sum
      simp only
      rw [show min i j = min j i by omega, Int.add_comm, Bool.and_comm s t]
theorem product_comm (d e : Datum) : d.product e = e.product d := by
  cases d with
  | nan s f => cases e <;> rfl
  | infinity s =>
    cases e with
    | nan t g => rfl
    | infinity t => cases s <;> cases t <;> rfl
    | number t n j => unfold Datum.product; simp only [Bool.xor_comm s t]
  | number s m i =>
    cases e with
    | nan t g => rfl
    | infinity t => unfold Datum.product; simp only [Bool.xor_comm]
    | number t n j => unfold Datum.product; simp only [Bool.xor_comm s t, Nat.mul_comm m n, Int.add_comm i j]
theorem add_comm (x y : Nat) : double.add x y = double.add y x := by unfold Format.add; rw [sum_comm]
theorem mul_comm (x y : Nat) : double.mul x y = double.mul y x := by unfold Format.mul; rw [product_comm]

/-- Where the sum has no answer. -/
theorem sum_none (d e : Datum) : d.sum e = none ↔ d.isNaN = true ∨ e.isNaN = true ∨ ∃ s, d = .infinity s ∧ e = .infinity (!s) := by
  cases d <;> cases e <;> simp [Datum.sum, Datum.isNaN]
  rename_i s t
  cases s <;> cases t <;> simp

/-- Times one. -/
theorem mul_one_bits (w : Nat) (hw : w < 18446744073709551616) (h : ¬ 9218868437227405312 < rung w) : double.mul w 4607182418800017408 = some w := by
  have h1 : double.read 4607182418800017408 = .number false 4503599627370496 (-52) := by decide
  unfold Format.mul
  rw [h1]
  by_cases hf : rung w < 9218868437227405312
  · obtain ⟨m, p, hr, _, _, _, _⟩ := read_fin hf
    have hwr := write_read w hw
    rw [hr] at hwr ⊢
    show some (double.nearest (sgn w ^^ false) (m * 4503599627370496) (p + -52)) = some w
    rw [Bool.xor_false, show p + -52 = p - ((52 : Nat) : Int) by omega]
    have := nearest_shift double (sgn w) m p 52
    rw [show (2 : Nat) ^ 52 = 4503599627370496 by decide] at this
    rw [this]
    exact congrArg some hwr
  · have hi : rung w = 9218868437227405312 := by omega
    have hwr := write_read w hw
    rw [read_inf hi] at hwr ⊢
    show some (double.word (sgn w ^^ false) double.infRung) = some w
    rw [Bool.xor_false]
    exact congrArg some hwr

/-- Half of one is it by two. -/
theorem half (w : Nat) : double.mul w 4602678819172646912 = double.div w 4611686018427387904 := by
  have h1 : double.read 4602678819172646912 = .number false 4503599627370496 (-53) := by decide
  have h2 : double.read 4611686018427387904 = .number false 4503599627370496 (-51) := by decide
  unfold Format.mul Format.div
  rw [h1, h2, D_frac]
  by_cases hf : rung w < 9218868437227405312
  · obtain ⟨m, p, hr, hm, _, _, _⟩ := read_fin hf
    rw [hr]
    unfold Datum.product Datum.quotient
    simp only [Option.map_some, sl]
    have hl : (4503599627370496 : Nat).log2 = 52 := by decide
    have hml : m.log2 ≤ 52 := by
      rcases Nat.eq_zero_or_pos m with rfl | h0
      · simp
      · have := (Nat.log2_lt (Nat.ne_of_gt h0)).2 (show m < 2 ^ 53 by omega)
        omega
    rw [hl, if_neg (by decide)]
    simp only [Option.map_some]
    generalize hmo : 52 + 2 + 52 - m.log2 = more
    obtain ⟨k, rfl⟩ : ∃ k, more = k + 52 := ⟨more - 52, by omega⟩
    have e52 : (2 : Nat) ^ 52 = 4503599627370496 := by decide
    rw [Nat.pow_add, e52, ← Nat.mul_assoc, Nat.mul_div_cancel _ (by omega), Nat.mul_mod_left]
    show some (double.nearest (sgn w ^^ false) (m * 4503599627370496) (p + -53)) = some (double.nearest (sgn w ^^ false) (2 * (m * 2 ^ k) + 0) (p - -51 - ((k + 52 : Nat) : Int) - 1))
    have a := nearest_shift double (sgn w ^^ false) m (p - 1) 52
    have b := nearest_shift double (sgn w ^^ false) m (p - 1) (k + 1)
    rw [e52] at a
    rw [show p + -53 = p - 1 - ((52 : Nat) : Int) by omega, a, ← b, show p - -51 - ((k + 52 : Nat) : Int) - 1 = p - 1 - ((k + 1 : Nat) : Int) by omega,
      show 2 * (m * 2 ^ k) + 0 = m * 2 ^ (k + 1) by rw [Nat.pow_succ, Nat.add_zero]; ac_rfl]
  · by_cases hi : rung w = 9218868437227405312
    · rw [read_inf hi]
      rfl
    · rw [read_nan (by omega)]
      rfl

/-! ### The order -/
/-- The number of a rung below infinity's, in units of the least place. -/
def mgn (r : Nat) : Nat := if r < 4503599627370496 then r else (4503599627370496 + r % 4503599627370496) * 2 ^ (r / 4503599627370496 - 1)

theorem mgn_step (r : Nat) : mgn r < mgn (r + 1) := by
  unfold mgn
  by_cases h1 : r + 1 < 4503599627370496
  · rw [if_pos (by omega), if_pos h1]; omega
  · rw [if_neg h1]
    by_cases h2 : r < 4503599627370496
    · rw [if_pos h2, show (r + 1) % 4503599627370496 = 0 by omega, show (r + 1) / 4503599627370496 - 1 = 0 by omega]
      omega
    · rw [if_neg h2]
      by_cases h3 : r % 4503599627370496 + 1 < 4503599627370496
      · rw [show (r + 1) % 4503599627370496 = r % 4503599627370496 + 1 by omega, show (r + 1) / 4503599627370496 = r / 4503599627370496 by omega]
        exact Nat.mul_lt_mul_of_pos_right (by omega) (Nat.two_pow_pos _)
      · rw [show (r + 1) % 4503599627370496 = 0 by omega, show (r + 1) / 4503599627370496 - 1 = (r / 4503599627370496 - 1) + 1 by omega, Nat.pow_succ, Nat.mul_comm (2 ^ _) 2, ← Nat.mul_assoc]
        exact Nat.mul_lt_mul_of_pos_right (by omega) (Nat.two_pow_pos _)
theorem mgn_lt {r s : Nat} (h : r < s) : mgn r < mgn s := by
  obtain ⟨k, rfl⟩ : ∃ k, s = r + 1 + k := ⟨s - r - 1, by omega⟩
  induction k with
  | zero => exact mgn_step r
  | succ k ih => exact Nat.lt_trans (ih (by omega)) (mgn_step _)
theorem mgn_cmp (r s : Nat) : compare (mgn r : Int) (mgn s : Int) = compare (r : Int) (s : Int) := by
  rcases Nat.lt_trichotomy r s with h | rfl | h
  · have := mgn_lt h
    rw [Int.compare_eq_lt.2 (by omega), Int.compare_eq_lt.2 (by omega)]
  · rw [Int.compare_eq_eq.2 rfl, Int.compare_eq_eq.2 rfl]
  · have := mgn_lt h
    rw [Int.compare_eq_gt.2 (by omega), Int.compare_eq_gt.2 (by omega)]

/-- A word's rung with its sign. -/
def sv (w : Nat) : Int := if sgn w then -(rung w : Int) else (rung w : Int)

theorem read_mgn {w : Nat} (h : rung w < 9218868437227405312) : ∃ m p, double.read w = .number (sgn w) m p ∧ -1074 ≤ p ∧ m * 2 ^ (p + 1074).toNat = mgn (rung w) := by
  by_cases h1 : rung w < 4503599627370496
  · refine ⟨_, _, read_sub h1, by omega, ?_⟩
    rw [mgn, if_pos h1, show (-1074 + 1074 : Int).toNat = 0 by omega, Nat.pow_zero, Nat.mul_one]
  · refine ⟨_, _, read_norm h1 h, by omega, ?_⟩
    rw [mgn, if_neg h1, show (-1074 + ((rung w / 4503599627370496 - 1 : Nat) : Int) + 1074).toNat = rung w / 4503599627370496 - 1 by omega]

theorem signed_eq (s : Bool) (m k : Nat) : signed s m k = if s then -((m * 2 ^ k : Nat) : Int) else ((m * 2 ^ k : Nat) : Int) := by
  unfold signed
  rw [sl]

theorem cmp_scale (a b : Int) (k : Nat) : compare (a * 2 ^ k) (b * 2 ^ k) = compare a b := by
  have hk : (0 : Int) < 2 ^ k := Int.pow_pos (by omega)
  rcases Int.lt_trichotomy a b with h | rfl | h
  · rw [Int.compare_eq_lt.2 h, Int.compare_eq_lt.2 (Int.mul_lt_mul_of_pos_right h hk)]
  · rw [Int.compare_eq_eq.2 rfl, Int.compare_eq_eq.2 rfl]
  · rw [Int.compare_eq_gt.2 h, Int.compare_eq_gt.2 (Int.mul_lt_mul_of_pos_right h hk)]

theorem signed_scale (s : Bool) (m : Nat) (i base : Int) (h1 : -1074 ≤ base) (h2 : base ≤ i) : signed s m (i - base).toNat * 2 ^ (base + 1074).toNat = if s then -((m * 2 ^ (i + 1074).toNat : Nat) : Int) else ((m * 2 ^ (i + 1074).toNat : Nat) : Int) := by
  rw [signed_eq]
  have e : (i + 1074).toNat = (i - base).toNat + (base + 1074).toNat := by omega
  have hp : ((m * 2 ^ (i - base).toNat : Nat) : Int) * 2 ^ (base + 1074).toNat = ((m * 2 ^ (i + 1074).toNat : Nat) : Int) := by
    rw [e, Nat.pow_add, ← Nat.mul_assoc, Int.natCast_mul (m * 2 ^ (i - base).toNat), Int.natCast_pow]
    rfl
  cases s
  · simp only [Bool.false_eq_true, if_false]
    exact hp
  · simp only [if_true]
    rw [Int.neg_mul, hp]

theorem cmp_neg (a b : Int) : compare (-a) (-b) = compare b a := by
  rcases Int.lt_trichotomy a b with h | rfl | h
  · rw [Int.compare_eq_gt.2 (by omega), Int.compare_eq_gt.2 h]
  · rw [Int.compare_eq_eq.2 rfl, Int.compare_eq_eq.2 rfl]
  · rw [Int.compare_eq_lt.2 (by omega), Int.compare_eq_lt.2 h]

theorem mgn_zero : mgn 0 = 0 := rfl
theorem mgn_pos {r : Nat} (h : 0 < r) : 0 < mgn r := by
  have := mgn_lt h
  rw [mgn_zero] at this
  exact this

theorem order_fin {x y : Nat} (hx : rung x < 9218868437227405312) (hy : rung y < 9218868437227405312) : double.order x y = some (compare (sv x) (sv y)) := by
  obtain ⟨m, i, rx, hi, hm⟩ := read_mgn hx
  obtain ⟨n, j, ry, hj, hn⟩ := read_mgn hy
  unfold Format.order
  rw [rx, ry]
  show some (compare (signed (sgn x) m (i - min i j).toNat) (signed (sgn y) n (j - min i j).toNat)) = _
  rw [← cmp_scale _ _ (min i j + 1074).toNat, signed_scale _ _ _ _ (by omega) (by omega), signed_scale _ _ _ _ (by omega) (by omega), hm, hn]
  unfold sv
  have hc := mgn_cmp (rung x) (rung y)
  have hc' := mgn_cmp (rung y) (rung x)
  congr 1
  cases sgn x <;> cases sgn y <;> simp only [Bool.false_eq_true, if_false, if_true]
  · exact hc
  · rcases Nat.eq_zero_or_pos (rung x) with h0 | h0
    · rcases Nat.eq_zero_or_pos (rung y) with h1 | h1
      · rw [h0, h1, mgn_zero]
      · have := mgn_pos h1
        rw [h0, mgn_zero, Int.compare_eq_gt.2 (by omega), Int.compare_eq_gt.2 (by omega)]
    · have := mgn_pos h0
      rw [Int.compare_eq_gt.2 (by omega), Int.compare_eq_gt.2 (by omega)]
  · rcases Nat.eq_zero_or_pos (rung x) with h0 | h0
    · rcases Nat.eq_zero_or_pos (rung y) with h1 | h1
      · rw [h0, h1, mgn_zero]
      · have := mgn_pos h1
        rw [h0, mgn_zero, Int.compare_eq_lt.2 (by omega), Int.compare_eq_lt.2 (by omega)]
    · have := mgn_pos h0
      rw [Int.compare_eq_lt.2 (by omega), Int.compare_eq_lt.2 (by omega)]
  · rw [cmp_neg, cmp_neg]
    exact hc'

/-- The order of words that are numbers or infinities. -/
theorem order_word {x y : Nat} (hx : rung x ≤ 9218868437227405312) (hy : rung y ≤ 9218868437227405312) : double.order x y = some (compare (sv x) (sv y)) := by
  by_cases h1 : rung x < 9218868437227405312
  · by_cases h2 : rung y < 9218868437227405312
    · exact order_fin h1 h2
    · obtain ⟨m, i, rx, _⟩ := read_mgn h1
      have e : rung y = 9218868437227405312 := by omega
      unfold Format.order
      rw [rx, read_inf e]
      show some (if sgn y then Ordering.gt else Ordering.lt) = _
      unfold sv
      rw [e]
      cases sgn y
      · cases sgn x
        · simp only [Bool.false_eq_true, if_false]; rw [Int.compare_eq_lt.2 (by omega)]
        · simp only [Bool.false_eq_true, if_false, if_true]; rw [Int.compare_eq_lt.2 (by omega)]
      · cases sgn x
        · simp only [Bool.false_eq_true, if_false, if_true]; rw [Int.compare_eq_gt.2 (by omega)]
        · simp only [if_true]; rw [Int.compare_eq_gt.2 (by omega)]
  · have e : rung x = 9218868437227405312 := by omega
    by_cases h2 : rung y < 9218868437227405312
    · obtain ⟨m, i, ry, _⟩ := read_mgn h2
      unfold Format.order
      rw [ry, read_inf e]
      show some (if sgn x then Ordering.lt else Ordering.gt) = _
      unfold sv
      rw [e]
      cases sgn x
      · cases sgn y
        · simp only [Bool.false_eq_true, if_false]; rw [Int.compare_eq_gt.2 (by omega)]
        · simp only [Bool.false_eq_true, if_false, if_true]; rw [Int.compare_eq_gt.2 (by omega)]
      · cases sgn y
        · simp only [Bool.false_eq_true, if_false, if_true]; rw [Int.compare_eq_lt.2 (by omega)]
        · simp only [if_true]; rw [Int.compare_eq_lt.2 (by omega)]
    · have e2 : rung y = 9218868437227405312 := by omega
      unfold Format.order
      rw [read_inf e, read_inf e2]
      show some (compare (sgn y).toNat (sgn x).toNat) = _
      unfold sv
      rw [e, e2]
      cases sgn x <;> cases sgn y <;> rfl
/-- A NaN stands to nothing. -/
theorem order_nan {x y : Nat} (h : 9218868437227405312 < rung x ∨ 9218868437227405312 < rung y) : double.order x y = none := by
  unfold Format.order
  rcases h with h | h
  · rw [read_nan h]; rfl
  · rw [read_nan h]
    cases double.read x <;> rfl
/-- A NaN alone differs from itself. -/
theorem order_self (x : Nat) : (double.order x x == some .eq) = decide (rung x ≤ 9218868437227405312) := by
  by_cases h : rung x ≤ 9218868437227405312
  · rw [order_word h h, Int.compare_eq_eq.2 rfl]; simp [h]
  · rw [order_nan (.inl (by omega))]; simp [h]

/-! ### Numbers that are words just so -/
/-- Where the last digit of such a number lies. -/
def lastOf (m : Nat) (p : Int) : Int := max (p + (m.log2 : Int) - 52) (-1074)

theorem word_sgn (neg : Bool) {r : Nat} (h : r < 9223372036854775808) : sgn (double.word neg r) = neg ∧ rung (double.word neg r) = r ∧ double.word neg r < 18446744073709551616 := by
  unfold sgn rung Format.word
  rw [D_sign]
  cases neg
  · simp only [Bool.false_eq_true, if_false]
    refine ⟨?_, by omega, by omega⟩
    rw [show r / 9223372036854775808 = 0 by omega]
    rfl
  · simp only [if_true]
    refine ⟨?_, by omega, by omega⟩
    rw [show (9223372036854775808 + r) / 9223372036854775808 = 1 by omega]
    rfl

/-- A number of at most 53 digits, not too great and no part of it too small, is read of the word nearest to it. -/
theorem nearest_just (neg : Bool) {m : Nat} {p : Int} (hm : 0 < m) (hm2 : m < 9007199254740992) (hp : -1074 ≤ p) (hp2 : p + (m.log2 : Int) ≤ 1023) :
    double.nearest neg m p = double.word neg ((lastOf m p + 1074).toNat * 4503599627370496 + m * 2 ^ (p - lastOf m p).toNat) ∧
    double.read (double.nearest neg m p) = .number neg (m * 2 ^ (p - lastOf m p).toNat) (lastOf m p) ∧ lastOf m p ≤ p := by
  have hl : m.log2 ≤ 52 := by
    have := (Nat.log2_lt (by omega)).2 (show m < 2 ^ 53 by omega)
    omega
  have hlo : 2 ^ m.log2 ≤ m := (Nat.le_log2 (by omega)).1 (Nat.le_refl _)
  have hhi : m < 2 ^ (m.log2 + 1) := (Nat.log2_lt (by omega)).1 (Nat.lt_succ_self _)
  have hle : lastOf m p ≤ p := by unfold lastOf; omega
  have hlast : max (p + (m.log2 : Int) - (double.fractionBits : Int)) double.leastPlace = lastOf m p := by rw [D_frac, D_least]; rfl
  have hn : double.nearest neg m p = double.word neg (min ((lastOf m p + 1074).toNat * 4503599627370496 + m * 2 ^ (p - lastOf m p).toNat) 9218868437227405312) := by
    unfold Format.nearest
    rw [if_neg (by omega)]
    simp only [hlast]
    rw [show (lastOf m p - p).toNat = 0 by omega, cut_zero, sl, D_least, D_binade, D_inf, show lastOf m p - -1074 = lastOf m p + 1074 by omega]
  have e52 : (2 : Nat) ^ 52 = 4503599627370496 := by decide
  have e53 : (2 : Nat) ^ 53 = 9007199254740992 := by decide
  by_cases hs : p + (m.log2 : Int) - 52 ≤ -1074
  · have el : lastOf m p = -1074 := by unfold lastOf; omega
    have hk : m * 2 ^ (p - lastOf m p).toNat < 9007199254740992 := by
      have h1 : m * 2 ^ (p - lastOf m p).toNat < 2 ^ (m.log2 + 1) * 2 ^ (p - lastOf m p).toNat := Nat.mul_lt_mul_of_pos_right hhi (Nat.two_pow_pos _)
      rw [← Nat.pow_add] at h1
      have h2 : 2 ^ (m.log2 + 1 + (p - lastOf m p).toNat) ≤ 2 ^ 53 := Nat.pow_le_pow_right (by omega) (by rw [el]; omega)
      omega
    rw [el] at hn hk ⊢
    rw [show (-1074 + 1074 : Int).toNat = 0 by omega, Nat.zero_mul, Nat.zero_add] at hn ⊢
    rw [Nat.min_eq_left (by omega)] at hn
    refine ⟨hn, ?_, hp⟩
    rw [hn]
    generalize m * 2 ^ (p - -1074).toNat = k at *
    obtain ⟨w1, w2, _⟩ := word_sgn neg (show k < 9223372036854775808 by omega)
    by_cases hk2 : k < 4503599627370496
    · rw [read_sub (by rw [w2]; exact hk2), w1, w2]
    · rw [read_norm (by rw [w2]; exact hk2) (by rw [w2]; omega), w1, w2, show 4503599627370496 + k % 4503599627370496 = k by omega, show -1074 + ((k / 4503599627370496 - 1 : Nat) : Int) = -1074 by omega]
  · have el : lastOf m p = p + (m.log2 : Int) - 52 := by unfold lastOf; omega
    have hsh : (p - lastOf m p).toNat = 52 - m.log2 := by rw [el]; omega
    have hk1 : 4503599627370496 ≤ m * 2 ^ (p - lastOf m p).toNat := by
      rw [hsh]
      have h1 : 2 ^ m.log2 * 2 ^ (52 - m.log2) ≤ m * 2 ^ (52 - m.log2) := Nat.mul_le_mul_right _ hlo
      rw [← Nat.pow_add, show m.log2 + (52 - m.log2) = 52 by omega, e52] at h1
      exact h1
    have hk2 : m * 2 ^ (p - lastOf m p).toNat < 9007199254740992 := by
      rw [hsh]
      have h1 : m * 2 ^ (52 - m.log2) < 2 ^ (m.log2 + 1) * 2 ^ (52 - m.log2) := Nat.mul_lt_mul_of_pos_right hhi (Nat.two_pow_pos _)
      rw [← Nat.pow_add, show m.log2 + 1 + (52 - m.log2) = 53 by omega, e53] at h1
      exact h1
    have hq : (lastOf m p + 1074).toNat ≤ 2045 := by rw [el]; omega
    have hq0 : -1074 ≤ lastOf m p := by unfold lastOf; omega
    generalize m * 2 ^ (p - lastOf m p).toNat = k at *
    generalize lastOf m p = last at *
    rw [Nat.min_eq_left (by omega)] at hn
    refine ⟨hn, ?_, hle⟩
    rw [hn]
    obtain ⟨w1, w2, _⟩ := word_sgn neg (show (last + 1074).toNat * 4503599627370496 + k < 9223372036854775808 by omega)
    rw [read_norm (by rw [w2]; omega) (by rw [w2]; omega), w1, w2]
    congr 1
    · omega
    · omega

theorem nearest_zero (neg : Bool) (p : Int) : double.nearest neg 0 p = double.word neg 0 := if_pos rfl
theorem read_zero (neg : Bool) : double.read (double.word neg 0) = .number neg 0 (-1074) := by
  obtain ⟨w1, w2, _⟩ := word_sgn neg (show 0 < 9223372036854775808 by omega)
  rw [read_sub (by rw [w2]; omega), w1, w2]

/-! ### Whole numbers -/
/-- The bits of a whole number's float. -/
def ib (n : Int) : Nat := double.nearest (n < 0) n.natAbs 0

/-- What is read of a whole number of at most 53 digits: a number that is it. -/
theorem read_ib {n : Int} (h : n.natAbs < 9007199254740992) : ∃ k : Nat, double.read (ib n) = .number (n < 0) (n.natAbs * 2 ^ k) (-(k : Int)) ∧ k ≤ 1074 := by
  unfold ib
  rcases Nat.eq_zero_or_pos n.natAbs with h0 | h0
  · rw [h0, nearest_zero, read_zero]
    obtain ⟨k, hk⟩ : ∃ k : Nat, k = 1074 := ⟨_, rfl⟩
    exact ⟨k, by rw [Nat.zero_mul, show (-(k : Int)) = -1074 by omega], by omega⟩
  · have hl : n.natAbs.log2 ≤ 52 := by
      have := (Nat.log2_lt (by omega)).2 (show n.natAbs < 2 ^ 53 by omega)
      omega
    obtain ⟨_, h2, h3⟩ := nearest_just (n < 0) h0 h (show (-1074 : Int) ≤ 0 by omega) (by omega)
    have hlo : -1074 ≤ lastOf n.natAbs 0 := by unfold lastOf; omega
    refine ⟨(0 - lastOf n.natAbs 0).toNat, ?_, by omega⟩
    rw [h2]
    congr 1
    omega

theorem signed_int (n : Int) (k : Nat) : signed (n < 0) (n.natAbs * 2 ^ k) 0 = n * 2 ^ k := by
  rw [signed_eq, Nat.pow_zero, Nat.mul_one]
  by_cases h : n < 0
  · simp only [h, decide_true, if_true]
    rw [Int.natCast_mul, Int.natCast_pow, ← Int.neg_mul]
    congr 1
    omega
  · simp only [h, decide_false, Bool.false_eq_true, if_false]
    rw [Int.natCast_mul, Int.natCast_pow]
    congr 1
    omega
theorem signed_up (s : Bool) (m a b : Nat) : signed s m (a + b) = signed s (m * 2 ^ a) b := by
  rw [signed_eq, signed_eq, Nat.pow_add, Nat.mul_assoc]

/-- A whole number, spelled with noughts behind the point. -/
theorem write_int (n : Int) (k : Nat) (z : Bool) (hz : n ≠ 0 → z = decide (n < 0)) : double.nearest z (n * 2 ^ k).natAbs (-(k : Int)) = if n = 0 then double.word z 0 else ib n := by
  have e : (n * 2 ^ k).natAbs = n.natAbs * 2 ^ k := by
    rw [Int.natAbs_mul, Int.natAbs_pow]
    rfl
  rw [e]
  have := nearest_shift double z n.natAbs 0 k
  rw [show (0 : Int) - (k : Int) = -(k : Int) by omega] at this
  rw [this]
  by_cases h : n = 0
  · subst h
    rw [if_pos rfl]
    exact nearest_zero z 0
  · rw [if_neg h, hz h]
    rfl

/-- Sums of whole numbers. -/
theorem add_int {a b : Int} (ha : a.natAbs < 9007199254740992) (hb : b.natAbs < 9007199254740992) : double.add (ib a) (ib b) = some (ib (a + b)) := by
  obtain ⟨i, ra, hi⟩ := read_ib ha
  obtain ⟨j, rb, hj⟩ := read_ib hb
  unfold Format.add
  rw [ra, rb]
  unfold Datum.sum
  simp only [Option.map_some]
  have s1 : signed (a < 0) (a.natAbs * 2 ^ i) (-(i : Int) - min (-(i : Int)) (-(j : Int))).toNat = a * 2 ^ (max i j) := by
    have h := signed_up (a < 0) (a.natAbs * 2 ^ i) (-(i : Int) - min (-(i : Int)) (-(j : Int))).toNat 0
    rw [Nat.add_zero] at h
    rw [h, Nat.mul_assoc, ← Nat.pow_add, show i + (-(i : Int) - min (-(i : Int)) (-(j : Int))).toNat = max i j by omega]
    exact signed_int a _
  have s2 : signed (b < 0) (b.natAbs * 2 ^ j) (-(j : Int) - min (-(i : Int)) (-(j : Int))).toNat = b * 2 ^ (max i j) := by
    have h := signed_up (b < 0) (b.natAbs * 2 ^ j) (-(j : Int) - min (-(i : Int)) (-(j : Int))).toNat 0
    rw [Nat.add_zero] at h
    rw [h, Nat.mul_assoc, ← Nat.pow_add, show j + (-(j : Int) - min (-(i : Int)) (-(j : Int))).toNat = max i j by omega]
    exact signed_int b _
  rw [s1, s2, ← Int.add_mul, show min (-(i : Int)) (-(j : Int)) = -((max i j : Nat) : Int) by omega]
  generalize max i j = k
  congr 1
  show double.nearest _ ((a + b) * 2 ^ k).natAbs (-(k : Int)) = ib (a + b)
  have hk : (0 : Int) < 2 ^ k := Int.pow_pos (by omega)
  rw [write_int (a + b) k _ (fun hne => ?_)]
  · by_cases h0 : a + b = 0
    · rw [if_pos h0, h0]
      rw [if_pos (Int.zero_mul _)]
      have : (decide (a < 0) && decide (b < 0)) = false := by
        rw [Bool.and_eq_false_iff]
        simp only [decide_eq_false_iff_not]
        omega
      rw [this]
      rfl
    · rw [if_neg h0]
  · have h1 : ¬ (a + b) * 2 ^ k = 0 := by
      intro e
      rcases Int.mul_eq_zero.1 e with h | h
      · exact hne h
      · omega
    rw [if_neg h1]
    rw [decide_eq_decide]
    constructor
    · intro h
      by_cases h' : a + b < 0
      · exact h'
      · have := Int.mul_nonneg (show 0 ≤ a + b by omega) (Int.le_of_lt hk)
        omega
    · intro h
      exact Int.mul_neg_of_neg_of_pos h hk

/-- What is read of a number written is that number: products of whole numbers. -/
theorem mul_int {a b : Int} (ha : a.natAbs < 9007199254740992) (hb : b.natAbs < 9007199254740992) :
    double.mul (ib a) (ib b) = some (if a * b = 0 then double.word (decide (a < 0) ^^ decide (b < 0)) 0 else ib (a * b)) := by
  obtain ⟨i, ra, hi⟩ := read_ib ha
  obtain ⟨j, rb, hj⟩ := read_ib hb
  unfold Format.mul
  rw [ra, rb]
  show some (double.nearest (decide (a < 0) ^^ decide (b < 0)) (a.natAbs * 2 ^ i * (b.natAbs * 2 ^ j)) (-(i : Int) + -(j : Int))) = _
  have e : a.natAbs * 2 ^ i * (b.natAbs * 2 ^ j) = (a * b * 2 ^ (i + j)).natAbs := by
    rw [Int.natAbs_mul, Int.natAbs_mul, Int.natAbs_pow, Nat.pow_add]
    show _ = a.natAbs * b.natAbs * (2 ^ i * 2 ^ j)
    ac_rfl
  rw [e, show -(i : Int) + -(j : Int) = -((i + j : Nat) : Int) by omega]
  congr 1
  refine write_int (a * b) (i + j) _ (fun hne => ?_)
  have h1 : a ≠ 0 := fun h => hne (by rw [h, Int.zero_mul])
  have h2 : b ≠ 0 := fun h => hne (by rw [h, Int.mul_zero])
  by_cases h3 : a < 0 <;> by_cases h4 : b < 0
  · have := Int.mul_pos_of_neg_of_neg h3 h4
    simp [h3, h4]; omega
  · have := Int.mul_neg_of_neg_of_pos h3 (show 0 < b by omega)
    simp [h3, h4, this]
  · have := Int.mul_neg_of_pos_of_neg (show 0 < a by omega) h4
    simp [h3, h4, this]
  · have := Int.mul_pos (show 0 < a by omega) (show 0 < b by omega)
    simp [h3, h4]; omega

/-- A whole number's float, cut towards zero, is that number. -/
theorem toInt_ib {n : Int} (h : n.natAbs < 9007199254740992) : (double.read (ib n)).toInt .zero = some n := by
  obtain ⟨k, hr, _⟩ := read_ib h
  rw [hr]
  unfold Datum.toInt Datum.integral
  simp only
  rw [show (-(k : Int)).toNat = 0 by omega, sl, Nat.pow_zero, Nat.mul_one, show (- -(k : Int)).toNat = k by omega, cut_exact]
  have := signed_int n 0
  rw [Nat.pow_zero, Nat.mul_one, Int.pow_zero, Int.mul_one] at this
  rw [this]
end Go.Proofs.YtcmohggnehkjeaaGreat
