/-
  What the laws of floats ask of binary64, plainly: no walk.
-/
import Derived.Test.YtfkjehgbghckhaaDoorRefPb
import Derived.Test.YtfkjehgbghckhaaDoorRefFr
namespace Go.Proofs.YtfkjehgbghckhaaDoor
open Go.RowKit Ieee

theorem order_equal {a b : Nat} (ha : okW a) (hb : okW b) : (double.order a b == some .eq) = eqB a b := by
  unfold eqB
  cases hna : nanB a
  · cases hnb : nanB b
    · obtain ⟨ka, ra⟩ := keyI_num ha hna
      obtain ⟨kb, rb⟩ := keyI_num hb hnb
      rw [order_word ra rb, ka, kb, Bool.eq_iff_iff]
      simp only [beq_iff_eq, Option.some.injEq, Int.compare_eq_eq, Bool.not_false, Bool.true_and, Bool.or_eq_true, decide_eq_true_eq, Bool.and_eq_true]
      unfold sv ordI
      cases sgn a <;> cases sgn b <;> simp <;> omega
    · rw [(nan_none hnb a).2]; simp
  · rw [(nan_none hna b).1]; simp
theorem order_less {a b : Nat} (ha : okW a) (hb : okW b) : (double.order a b == some .lt) = lessB a b := by
  unfold lessB
  cases hna : nanB a
  · cases hnb : nanB b
    · obtain ⟨ka, ra⟩ := keyI_num ha hna
      obtain ⟨kb, rb⟩ := keyI_num hb hnb
      rw [order_word ra rb, ka, kb, Bool.eq_iff_iff]
      simp only [beq_iff_eq, Option.some.injEq, Int.compare_eq_lt, Bool.not_false, Bool.true_and, decide_eq_true_eq, Bool.and_eq_true, Bool.not_eq_true', Bool.and_eq_false_iff, decide_eq_false_iff_not]
      unfold sv ordI
      cases sgn a <;> cases sgn b <;> simp <;> omega
    · rw [(nan_none hnb a).2]; simp
  · rw [(nan_none hna b).1]; simp

theorem word_is {a b : Nat} (ha : okW a) (hb : okW b) (hs : sgn a = sgn b) (hr : rung a = rung b) : a = b := by
  have h1 := word_parts a ha
  have h2 := word_parts b hb
  unfold sgn at hs
  unfold rung at hr
  rw [← h1, ← h2, hs, hr]
theorem rung_nan {b : Nat} (h : nanB b = true) : 9218868437227405312 < rung b := by unfold nanB at h; simpa using h
theorem rung_num {b : Nat} (h : nanB b = false) : rung b ≤ 9218868437227405312 := by unfold nanB at h; simpa using h
theorem canon_num {b : Nat} (h : nanB b = false) : canonW b = b := by unfold canonW; rw [if_neg (by rw [h]; exact Bool.false_ne_true)]
/-- Two stand at one place just if they are one, once all NaN are one. -/
theorem same_key {a b : Nat} (ha : okW a) (hb : okW b) : (keyI a = keyI b) ↔ canonW a = canonW b := by
  cases hna : nanB a
  · cases hnb : nanB b
    · obtain ⟨ka, ra⟩ := keyI_num ha hna
      obtain ⟨kb, rb⟩ := keyI_num hb hnb
      rw [ka, kb, canon_num hna, canon_num hnb]
      constructor
      · intro h
        refine word_is ha hb ?_ ?_
        · cases hs : sgn a <;> cases ht : sgn b <;> simp [hs, ht] at h <;> first | rfl | omega
        · cases hs : sgn a <;> cases ht : sgn b <;> simp [hs, ht] at h <;> omega
      · rintro rfl; rfl
    · obtain ⟨ka, ra⟩ := keyI_num ha hna
      rw [ka, keyI_nan hnb, canon_num hna, canon_nan hnb]
      constructor
      · intro h; split at h <;> omega
      · rintro rfl; exact absurd hna (by decide)
  · cases hnb : nanB b
    · obtain ⟨kb, rb⟩ := keyI_num hb hnb
      rw [kb, keyI_nan hna, canon_num hnb, canon_nan hna]
      constructor
      · intro h; split at h <;> omega
      · intro h; rw [← h] at hnb; exact absurd hnb (by decide)
    · rw [keyI_nan hna, keyI_nan hnb, canon_nan hna, canon_nan hnb]
      exact ⟨fun _ => rfl, fun _ => rfl⟩

theorem negW_nan {b : Nat} (hb : okW b) : nanB (negW b) = nanB b := by unfold nanB; rw [(negW_parts hb).2]
theorem negW_negW {b : Nat} (hb : okW b) : negW (negW b) = b := by
  have h1 := negW_parts hb
  have h2 := negW_parts (neg_ok hb)
  exact word_is (neg_ok (neg_ok hb)) hb (by rw [h2.1, h1.1, Bool.not_not]) (by rw [h2.2, h1.2])
theorem key_neg {b : Nat} (hb : okW b) (h : nanB b = false) : keyI (negW b) = -1 - keyI b := by
  obtain ⟨k1, _⟩ := keyI_num hb h
  obtain ⟨k2, _⟩ := keyI_num (neg_ok hb) (by rw [negW_nan hb]; exact h)
  rw [k1, k2, (negW_parts hb).1, (negW_parts hb).2]
  cases sgn b
  · simp
  · simp
    omega
theorem ord_neg (x y : Int) : ordI (-1 - x) (-1 - y) = -ordI x y := by unfold ordI; split <;> split <;> (try split) <;> omega
theorem ord_swap (x y : Int) : ordI y x = -ordI x y := by unfold ordI; split <;> split <;> (try split) <;> omega
theorem ord_in (x y : Int) : -1 ≤ ordI x y ∧ ordI x y ≤ 1 := by unfold ordI; split <;> (try split) <;> omega
theorem ord_zero (x y : Int) : ordI x y = 0 ↔ x = y := by unfold ordI; split <;> (try split) <;> omega
theorem ord_le {x y : Int} : ordI x y ≤ 0 ↔ x ≤ y := by unfold ordI; split <;> (try split) <;> omega
theorem ord_lt {x y : Int} : ordI x y < 0 ↔ x < y := by unfold ordI; split <;> (try split) <;> omega
theorem sv_neg {b : Nat} (hb : okW b) : sv (negW b) = -sv b := by
  unfold sv
  rw [(negW_parts hb).1, (negW_parts hb).2]
  cases sgn b <;> simp
theorem order_neg {a b : Nat} (ha : okW a) (hb : okW b) (na : nanB a = false) (nb : nanB b = false) : double.order (negW b) (negW a) = double.order a b := by
  rw [order_word (by rw [(negW_parts hb).2]; exact rung_num nb) (by rw [(negW_parts ha).2]; exact rung_num na), order_word (rung_num na) (rung_num nb), sv_neg ha, sv_neg hb, cmp_neg]

/-! ### Sums -/
theorem canon_canon (b : Nat) : canonW (canonW b) = canonW b := by
  cases h : nanB b
  · rw [canon_num h, canon_num h]
  · rw [canon_nan h]; decide
theorem canon_op (r : Option Nat) : canonW (opW r) = opW r := by
  cases r with
  | none => decide
  | some x => exact canon_canon x
theorem isnan_read {b : Nat} : (double.read b).isNaN = nanB b := by
  by_cases h : rung b < 9218868437227405312
  · obtain ⟨m, p, hr, _⟩ := read_fin h
    rw [hr]; unfold nanB; rw [decide_eq_false (by omega)]; rfl
  · by_cases h2 : rung b = 9218868437227405312
    · rw [read_inf h2]; unfold nanB; rw [decide_eq_false (by omega)]; rfl
    · rw [read_nan (by omega)]; unfold nanB; rw [decide_eq_true (by omega)]; rfl
theorem read_neg {b : Nat} (hb : okW b) (h : nanB b = false) : double.read (negW b) = (double.read b).opposite := by
  have hp := negW_parts hb
  have hr := rung_num h
  by_cases h1 : rung b < 9218868437227405312
  · rw [read_mant h1, read_mant (by rw [hp.2]; exact h1), hp.1]
    have e1 : mantW (negW b) = mantW b := by unfold mantW; rw [hp.2]
    have e2 : placeW (negW b) = placeW b := by unfold placeW; rw [hp.2]
    rw [e1, e2]; rfl
  · have h2 : rung b = 9218868437227405312 := by omega
    rw [read_inf h2, read_inf (by rw [hp.2]; exact h2), hp.1]; rfl
theorem nan_sum {d e : Datum} (h : d.isNaN = true ∨ e.isNaN = true) : d.sum e = none := (sum_none d e).2 (by rcases h with h | h; exact .inl h; exact .inr (.inl h))
theorem nan_opposite (d : Datum) : d.opposite.isNaN = d.isNaN := by cases d <;> rfl
theorem add_nan {a b : Nat} (h : nanB a = true ∨ nanB b = true) : double.add a b = none := by
  unfold Format.add
  rw [nan_sum (by rw [isnan_read, isnan_read]; exact h)]; rfl
theorem sub_nan {a b : Nat} (h : nanB a = true ∨ nanB b = true) : double.sub a b = none := by
  unfold Format.sub
  rw [nan_sum (by rw [nan_opposite, isnan_read, isnan_read]; exact h)]; rfl
/-- A difference is the sum with the other sign. -/
theorem sub_add {a b : Nat} (hb : okW b) : opW (double.sub a b) = opW (double.add a (canonW (negW b))) := by
  cases h : nanB b
  · rw [canon_num (by rw [negW_nan hb]; exact h)]
    unfold Format.sub Format.add
    rw [read_neg hb h]
  · rw [sub_nan (.inr h), canon_nan (by rw [negW_nan hb]; exact h), add_nan (.inr (by decide))]
theorem div_nan {a b : Nat} (h : nanB a = true ∨ nanB b = true) : double.div a b = none := by
  unfold Format.div
  rw [← isnan_read, ← isnan_read] at h
  generalize double.read a = d at *
  generalize double.read b = e at *
  cases d <;> cases e <;> simp [Datum.isNaN] at h <;> rfl
theorem mul_nan {a b : Nat} (h : nanB a = true ∨ nanB b = true) : double.mul a b = none := by
  unfold Format.mul
  rw [← isnan_read, ← isnan_read] at h
  generalize double.read a = d at *
  generalize double.read b = e at *
  cases d <;> cases e <;> simp [Datum.isNaN] at h <;> rfl
theorem mul_one_op {a : Nat} (ha : okW a) : opW (double.mul a 4607182418800017408) = canonW a := by
  cases h : nanB a
  · rw [mul_one_bits a ha (by have := rung_num h; omega)]; rfl
  · rw [mul_nan (.inl h), canon_nan h]; rfl
theorem neg_neg_op {a : Nat} (ha : okW a) : canonW (negW (canonW (negW a))) = canonW a := by
  cases h : nanB a
  · have h1 : canonW (negW a) = negW a := canon_num (by rw [negW_nan ha]; exact h)
    rw [h1, negW_negW ha]
  · have h1 : canonW (negW a) = 9221120237041090560 := canon_nan (by rw [negW_nan ha]; exact h)
    rw [h1, canon_nan h]; decide

/-! ### Small whole numbers -/
theorem ib_ok (n : Int) : okW (ib n) := double.nearest_lt _ _ _
theorem ib_fin {n : Int} (h : n.natAbs < 9007199254740992) : rung (ib n) < 9218868437227405312 := by
  obtain ⟨k, hr, _⟩ := read_ib h
  rcases Nat.lt_or_ge (rung (ib n)) 9218868437227405312 with h1 | h1
  · exact h1
  · exfalso
    by_cases h2 : rung (ib n) = 9218868437227405312
    · rw [read_inf h2] at hr; cases hr
    · rw [read_nan (by omega)] at hr; cases hr
theorem fin_canon {b : Nat} (h : rung b < 9218868437227405312) : canonW b = b := canon_num (by unfold nanB; rw [decide_eq_false (by omega)])
/-- A number that is whole, as ToInt answers it. -/
theorem int_of {b : Nat} {n : Int} (hf : rung b < 9218868437227405312) (h : (double.read b).toInt .zero = some n) (hn : n.natAbs < 9223372036854775808) : toIntV b = .tuple #[.int .i64 n, .int .i64 0] := by
  rw [toInt_read hf] at h
  have h' := Option.some.inj h
  unfold toIntV
  rw [if_neg (by omega), tr_whole]
  unfold toV
  cases hs : sgn b
  · rw [hs] at h'
    simp only [Bool.false_eq_true, if_false] at h'
    rw [if_neg (by simp), if_neg (by omega), h']
  · rw [hs] at h'
    simp only [if_true] at h'
    rw [if_pos rfl, if_neg (by omega), h']
theorem int_ib {n : Int} (h : n.natAbs < 9007199254740992) : toIntV (ib n) = .tuple #[.int .i64 n, .int .i64 0] := int_of (ib_fin h) (toInt_ib h) (by omega)
theorem add_ib {a b : Int} (ha : a.natAbs < 9007199254740992) (hb : b.natAbs < 9007199254740992) (h : (a + b).natAbs < 9007199254740992) : opW (double.add (ib a) (ib b)) = ib (a + b) := by
  rw [add_int ha hb]; exact fin_canon (ib_fin h)
theorem signed_not (s : Bool) (m k : Nat) : signed (!s) m k = -signed s m k := by
  rw [signed_eq, signed_eq]
  cases s <;> simp
theorem sub_int {a b : Int} (ha : a.natAbs < 9007199254740992) (hb : b.natAbs < 9007199254740992) : double.sub (ib a) (ib b) = some (ib (a - b)) := by
  obtain ⟨i, ra, hi⟩ := read_ib ha
  obtain ⟨j, rb, hj⟩ := read_ib hb
  unfold Format.sub
  rw [ra, rb]
  unfold Datum.opposite Datum.sum
  simp only [Option.map_some]
  have s1 : signed (a < 0) (a.natAbs * 2 ^ i) (-(i : Int) - min (-(i : Int)) (-(j : Int))).toNat = a * 2 ^ (max i j) := by
    have h := signed_up (a < 0) (a.natAbs * 2 ^ i) (-(i : Int) - min (-(i : Int)) (-(j : Int))).toNat 0
    rw [Nat.add_zero] at h
    rw [h, Nat.mul_assoc, ← Nat.pow_add, show i + (-(i : Int) - min (-(i : Int)) (-(j : Int))).toNat = max i j by omega]
    exact signed_int a _
  have s2 : signed (!decide (b < 0)) (b.natAbs * 2 ^ j) (-(j : Int) - min (-(i : Int)) (-(j : Int))).toNat = -(b * 2 ^ (max i j)) := by
    rw [signed_not]
    have h := signed_up (b < 0) (b.natAbs * 2 ^ j) (-(j : Int) - min (-(i : Int)) (-(j : Int))).toNat 0
    rw [Nat.add_zero] at h
    rw [h, Nat.mul_assoc, ← Nat.pow_add, show j + (-(j : Int) - min (-(i : Int)) (-(j : Int))).toNat = max i j by omega]
    exact congrArg Neg.neg (signed_int b _)
  rw [s1, s2, show a * 2 ^ (max i j) + -(b * 2 ^ (max i j)) = (a - b) * 2 ^ (max i j) by rw [Int.sub_mul]; omega, show min (-(i : Int)) (-(j : Int)) = -((max i j : Nat) : Int) by omega]
  generalize max i j = k
  congr 1
  show double.nearest _ ((a - b) * 2 ^ k).natAbs (-(k : Int)) = ib (a - b)
  have hk : (0 : Int) < 2 ^ k := Int.pow_pos (by omega)
  rw [write_int (a - b) k _ (fun hne => ?_)]
  · by_cases h0 : a - b = 0
    · rw [if_pos h0, h0]
      rw [if_pos (Int.zero_mul _)]
      have : (decide (a < 0) && !decide (b < 0)) = false := by
        rw [Bool.and_eq_false_iff]
        simp only [decide_eq_false_iff_not, Bool.not_eq_false', decide_eq_true_eq]
        omega
      rw [this]
      rfl
    · rw [if_neg h0]
  · have h1 : ¬ (a - b) * 2 ^ k = 0 := by
      intro e
      rcases Int.mul_eq_zero.1 e with h | h
      · exact hne h
      · omega
    rw [if_neg h1]
    rw [decide_eq_decide]
    constructor
    · intro h
      by_cases h' : a - b < 0
      · exact h'
      · have := Int.mul_nonneg (show 0 ≤ a - b by omega) (Int.le_of_lt hk)
        omega
    · intro h
      exact Int.mul_neg_of_neg_of_pos h hk
theorem sub_ib {a b : Int} (ha : a.natAbs < 9007199254740992) (hb : b.natAbs < 9007199254740992) (h : (a - b).natAbs < 9007199254740992) : opW (double.sub (ib a) (ib b)) = ib (a - b) := by
  rw [sub_int ha hb]; exact fin_canon (ib_fin h)
theorem int_zero (s : Bool) : toIntV (canonW (double.word s 0)) = .tuple #[.int .i64 0, .int .i64 0] := by
  have hw := word_sgn s (show 0 < 9223372036854775808 by omega)
  have hf : rung (double.word s 0) < 9218868437227405312 := by rw [hw.2.1]; omega
  rw [fin_canon hf]
  refine int_of hf ?_ (by decide)
  rw [read_zero]
  cases s <;> decide
theorem int_53 : toIntV (canonW (ib 9007199254740992)) = .tuple #[.int .i64 9007199254740992, .int .i64 0] := by
  have hf : rung (ib 9007199254740992) < 9218868437227405312 := by decide
  rw [fin_canon hf]
  exact int_of hf (by decide) (by decide)
theorem int_n53 : toIntV (canonW (ib (-9007199254740992))) = .tuple #[.int .i64 (-9007199254740992), .int .i64 0] := by
  have hf : rung (ib (-9007199254740992)) < 9218868437227405312 := by decide
  rw [fin_canon hf]
  exact int_of hf (by decide) (by decide)
theorem mul_ib {a b : Int} (ha : a.natAbs < 9007199254740992) (hb : b.natAbs < 9007199254740992) (h1 : -9007199254740992 ≤ a * b) (h2 : a * b ≤ 9007199254740992) : toIntV (opW (double.mul (ib a) (ib b))) = .tuple #[.int .i64 (a * b), .int .i64 0] := by
  rw [mul_int ha hb]
  show toIntV (canonW _) = _
  by_cases h0 : a * b = 0
  · rw [if_pos h0, h0]; exact int_zero _
  · rw [if_neg h0]
    generalize a * b = n at *
    by_cases h3 : n = 9007199254740992
    · rw [h3]; exact int_53
    · by_cases h4 : n = -9007199254740992
      · rw [h4]; exact int_n53
      · rw [fin_canon (ib_fin (by omega))]; exact int_ib (by omega)
theorem toInt_pair (b : Nat) : ∃ (x y : Int), toIntV b = .tuple #[.int .i64 x, .int .i64 y] := by
  unfold toIntV toV
  split
  · exact ⟨_, _, rfl⟩
  · split <;> split <;> exact ⟨_, _, rfl⟩
end Go.Proofs.YtfkjehgbghckhaaDoor
