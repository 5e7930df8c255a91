/-
  Contracts of the program's makeOdd, split, textOfSize, Text.
-/
import Derived.Test.YthplhgbclbeodaaDoorFf
namespace Go.Proofs.YthplhgbclbeodaaDoor
open Go.RowKit Ieee

theorem twos_pow (m : Nat) : ∀ k, twos (2 ^ k * (2 * m + 1)) = k ∧ oddOf (2 ^ k * (2 * m + 1)) = 2 * m + 1 := by
  intro k
  induction k with
  | zero => rw [Nat.pow_zero, Nat.one_mul]; exact ⟨twos_odd (by omega), oddOf_odd (by omega)⟩
  | succ k ih =>
    have hp : 0 < 2 ^ k * (2 * m + 1) := Nat.mul_pos (Nat.two_pow_pos _) (by omega)
    have e : 2 ^ (k + 1) * (2 * m + 1) = 2 * (2 ^ k * (2 * m + 1)) := by rw [Nat.pow_succ]; ac_rfl
    rw [e]
    generalize 2 ^ k * (2 * m + 1) = n at *
    rw [twos_even (by omega) (by omega), oddOf_even (by omega) (by omega), show 2 * n / 2 = n by omega]
    exact ⟨by omega, ih.2⟩
theorem ctz_twos {n : Nat} (h : 0 < n) (hn : n < 18446744073709551616) : Lib.ctz 64 n = twos n ∧ n / 2 ^ twos n = oddOf n ∧ twos n < 64 := by
  obtain ⟨m, hm, hk⟩ := Lib.ctzFrom_spec 64 n h (by omega)
  have e : Lib.ctz 64 n = Lib.ctzFrom 64 n := by unfold Lib.ctz; rw [if_neg (by omega)]
  rw [e]
  generalize Lib.ctzFrom 64 n = k at *
  obtain ⟨t, o⟩ := twos_pow m k
  rw [← hm] at t o
  refine ⟨t.symm, ?_, by omega⟩
  rw [t, o, hm, Nat.mul_div_cancel_left _ (Nat.two_pow_pos _)]

theorem makeOdd_any {n : Nat} {e : Int} (h : 0 < n) (hn : n < 18446744073709551616) (he : -100000 ≤ e ∧ e ≤ 100000) {w : World} (ht : Tabs w) : Calls Tryd.prog 61 #[.int .u64 n, .int .i64 e] w fun x w' => x = .returned (.tuple #[.int .u64 (oddOf n : Nat), .int .i64 (e + twos n)]) ∧ w = w' := by
  obtain ⟨c1, c2, c3⟩ := ctz_twos h hn
  have T := lib_bits_TrailingZeros64 n hn w (fun _ => ht.bits)
  rw [c1] at T
  have T' : Calls Tryd.prog 68 #[.int .u64 n] w fun x w' => x = .returned (.int .i64 (twos n)) ∧ w = w' := T.mono fun x w' h => ⟨h.1, h.2.symm⟩
  have D := Lib.hid c2
  clear T c1 c2 h hn ht
  generalize twos n = k at *
  generalize oddOf n = o at *
  go_enter Tryd.func61, Tryd.ntmps61
  go_wp2_with (go_at_call 68; refine T'.mono ?_; rintro e w' ⟨rfl, rfl⟩)
  go_ret2
  have e : (n : Int) / 2 ^ k = (o : Int) := by rw [← D.out, Int.natCast_ediv, Int.natCast_pow]; rfl
  rw [e]
  exact ⟨rfl, rfl⟩

theorem and_52 (b : Nat) (hb : b < 18446744073709551616) : bits BinOp.and IntKind.u64 (b : Int) 4503599627370495 = ((b % 4503599627370496 : Nat) : Int) := by
  have h := bits_and_u64_nat b 4503599627370495 hb (by omega)
  have e : b &&& 4503599627370495 = b % 4503599627370496 := Nat.and_two_pow_sub_one_eq_mod b 52
  rw [e] at h
  exact h
theorem or_52 {m : Nat} (hm : m < 4503599627370496) : bits BinOp.or IntKind.u64 (m : Int) 4503599627370496 = ((4503599627370496 + m : Nat) : Int) := by
  have h := bits_or_u64_nat m 4503599627370496 (by omega) (by omega)
  have e : m ||| 4503599627370496 = 4503599627370496 + m := by
    rw [Nat.or_comm]
    have := Nat.two_pow_add_eq_or_of_lt (i := 52) (b := m) (by omega) 1
    rw [Nat.mul_one] at this
    exact this.symm
  rw [e] at h
  exact h

theorem split_any {b : Nat} (h0 : 0 < b) (h1 : b < 9218868437227405312) {w : World} (ht : Tabs w) : Calls Tryd.prog 54 #[.float .f64 b] w fun x w' => x = .returned (.tuple #[.int .u64 (oddW b : Nat), .int .i64 (expW b)]) ∧ w = w' := by
  have H := bits_run
  have A := and_52 b (by omega)
  have hr : rung b = b := by unfold rung; omega
  by_cases hs : b < 4503599627370496
  · have em : mantW b = b := by unfold mantW; rw [hr, if_pos hs]
    have ep : placeW b = -1074 := by unfold placeW; rw [hr, if_pos hs]
    have ho : Hid (oddW b = oddOf b ∧ expW b = -1074 + twos b) := Lib.hid ⟨by unfold oddW; rw [em, if_neg (by omega)], by unfold expW; rw [em, ep, if_neg (by omega)]⟩
    rw [Nat.mod_eq_of_lt hs] at A
    have D : wrap64 ((b : Int) / 4503599627370496) = 0 := by unfold wrap64; omega
    have M := makeOdd_any h0 (show b < 18446744073709551616 by omega) (e := -1074) (by omega) ht
    clear h0 h1 hr hs em ep ht
    go_enter Tryd.func54, Tryd.ntmps54
    go_wp2_with (go_at_call 61; refine M.mono ?_; rintro e w' ⟨rfl, rfl⟩)
    go_ret2
    rw [ho.out.1, ho.out.2]
    exact ⟨rfl, rfl⟩
  · obtain ⟨m, hm⟩ : ∃ m, m = b % 4503599627370496 := ⟨_, rfl⟩
    obtain ⟨q, hq⟩ : ∃ q, q = b / 4503599627370496 := ⟨_, rfl⟩
    have em : mantW b = 4503599627370496 + m := by unfold mantW; rw [hr, if_neg hs, hm]
    have ep : placeW b = (q : Int) - 1075 := by unfold placeW; rw [hr, if_neg hs, hq]
    have ho : Hid (oddW b = oddOf (4503599627370496 + m) ∧ expW b = -1074 + ((q : Int) - 1) + twos (4503599627370496 + m)) := Lib.hid ⟨by unfold oddW; rw [em, if_neg (by omega)], by unfold expW; rw [em, ep, if_neg (by omega)]; omega⟩
    rw [← hm] at A
    have O := or_52 (show m < 4503599627370496 by omega)
    have D : wrap64 ((b : Int) / 4503599627370496) = (q : Int) := by unfold wrap64; omega
    have M := makeOdd_any (n := 4503599627370496 + m) (by omega) (show 4503599627370496 + m < 18446744073709551616 by omega) (e := -1074 + ((q : Int) - 1)) (by omega) ht
    have G : decide (0 < q) = true := by simp; omega
    have hq2 : (q : Int) < 2047 := by omega
    generalize 4503599627370496 + m = M0 at *
    clear h0 h1 hr hs em ep ht hm hq
    go_enter Tryd.func54, Tryd.ntmps54
    go_wp2_with (go_at_call 61; refine M.mono ?_; rintro e w' ⟨rfl, rfl⟩)
    go_ret2
    rw [ho.out.1, ho.out.2]
    exact ⟨rfl, rfl⟩

/-- The text without a minus. -/
def sizeB (b : Nat) : ByteArray := if rung b = 9218868437227405312 then ⟨#[105, 110, 102]⟩ else strL (digL (oddW b)) ++ ⟨#[112]⟩ ++ expS (expW b)
theorem expS_size {e : Int} (h : -18446744073709551616 < e ∧ e < 18446744073709551616) : (expS e).size ≤ 21 := by
  unfold expS
  split
  · have := digits_size (show (-e).toNat < 18446744073709551616 by omega)
    rw [ByteArray.size_append]
    have e1 : ByteArray.size ⟨#[45]⟩ = 1 := rfl
    omega
  · have := digits_size (show e.toNat < 18446744073709551616 by omega)
    omega
theorem sizeB_size (b : Nat) : (sizeB b).size ≤ 42 := by
  unfold sizeB
  split
  · decide
  · have h1 := digits_size (show oddW b < 18446744073709551616 by have := oddW_lt b; omega)
    have h2 := expS_size (show -18446744073709551616 < expW b ∧ expW b < 18446744073709551616 by have := expW_in b; omega)
    simp only [ByteArray.size_append]
    have e1 : ByteArray.size ⟨#[112]⟩ = 1 := rfl
    omega
theorem sizeB_zero : sizeB 0 = ⟨#[48, 112, 48]⟩ := by
  unfold sizeB
  rw [if_neg (by decide)]
  have e1 : oddW 0 = 0 := by unfold oddW; rw [if_pos (by decide)]
  have e2 : expW 0 = 0 := by unfold expW; rw [if_pos (by decide)]
  rw [e1, e2]
  unfold expS
  rw [if_neg (by decide)]
  have e3 : digL 0 = [48] := by rw [digL]; rfl
  have e4 : digL (0 : Int).toNat = [48] := e3
  rw [e3, e4]
  rfl

theorem size_any {b : Nat} (h1 : b ≤ 9218868437227405312) {w : World} (ht : Tabs w) : Calls Tryd.prog 44 #[.float .f64 b] w fun x w' => x = .returned (.string (sizeB b)) ∧ Below w.heap.size w w' := by
  have hr : rung b = b := by unfold rung; omega
  have hs : sgn b = false := by unfold sgn; simp; omega
  have E : ((FloatKind.format .f64).order b 0 == some Ordering.eq) = decide (rung b = 0) := eq_zero b
  by_cases h0 : b = 0
  · subst h0
    rw [sizeB_zero]
    have E' : ((FloatKind.format .f64).order 0 0 == some Ordering.eq) = true := E
    clear E ht h1 hr hs
    go_enter Tryd.func44, Tryd.ntmps44
    go_wp2
    go_ret
    exact ⟨rfl, Below.refl _ _⟩
  · rw [hr, decide_eq_false h0] at E
    have G : ((FloatKind.format .f64).order b 9218868437227405311 == some Ordering.gt) = decide (b = 9218868437227405312) := by
      show (double.order b 9218868437227405311 == some .gt) = _
      rw [order_word (by omega) (by decide), Bool.eq_iff_iff]
      have e : sv 9218868437227405311 = 9218868437227405311 := by decide
      have e2 : sv b = (b : Int) := by unfold sv; rw [hs, hr]; rfl
      rw [e, e2]
      simp only [beq_iff_eq, Option.some.injEq, Int.compare_eq_gt, decide_eq_true_eq]
      omega
    by_cases hi : b = 9218868437227405312
    · rw [decide_eq_true hi] at G
      have R : Hid (sizeB b = ⟨#[105, 110, 102]⟩) := Lib.hid (by unfold sizeB; rw [if_pos (by omega)])
      clear h0 hi h1 hr hs ht
      go_enter Tryd.func44, Tryd.ntmps44
      go_wp2
      go_ret
      rw [R.out]
      exact ⟨rfl, Below.refl _ _⟩
    · rw [decide_eq_false hi] at G
      have R : Hid (sizeB b = strL (digL (oddW b)) ++ ⟨#[112]⟩ ++ expS (expW b)) := Lib.hid (by unfold sizeB; rw [if_neg (by omega)])
      have P := split_any (show 0 < b by omega) (show b < 9218868437227405312 by omega) ht
      have U := @uint_any (oddW b) (by have := oddW_lt b; omega) w ht
      have I := fun W (hW : Tabs W) => @itoa_any (expW b) (by have := expW_in b; omega) (by have := expW_in b; omega) W hW
      have z1 := digits_size (show oddW b < 18446744073709551616 by have := oddW_lt b; omega)
      have z2 := expS_size (show -18446744073709551616 < expW b ∧ expW b < 18446744073709551616 by have := expW_in b; omega)
      generalize oddW b = n at *
      generalize expW b = k at *
      generalize strL (digL n) = DS at *
      generalize expS k = KS at *
      have F1 : ¬ 9223372036854775807 < DS.size + ByteArray.size ⟨#[112]⟩ := by
        have : ByteArray.size ⟨#[112]⟩ = 1 := rfl
        omega
      have F2 : ¬ 9223372036854775807 < (DS ++ ⟨#[112]⟩).size + KS.size := by
        have : ByteArray.size ⟨#[112]⟩ = 1 := rfl
        simp only [ByteArray.size_append]; omega
      clear h0 hi h1 hr hs z1 z2
      go_enter Tryd.func44, Tryd.ntmps44
      go_wp2_with (first | (go_at_call 54; refine P.mono ?_; rintro e w' ⟨rfl, rfl⟩) | (go_at_call 55; refine U.mono ?_; rintro e w1 ⟨rfl, hb1⟩) | (go_at_call 56; refine (I _ (ht.below hb1)).mono ?_; rintro e w2 ⟨rfl, hb2⟩))
      go_ret
      rw [R.out]
      exact ⟨rfl, hb1.trans (hb2.mono hb1.size)⟩

theorem sizeB_neg {b : Nat} (hb : okW b) : sizeB (negW b) = sizeB b := by
  have h := (negW_parts hb).2
  have e1 : mantW (negW b) = mantW b := by unfold mantW; rw [h]
  have e2 : placeW (negW b) = placeW b := by unfold placeW; rw [h]
  unfold sizeB oddW expW
  rw [h, e1, e2]
theorem textB_up {b : Nat} (h : nanB b = false) (hs : sgn b = false) : textB b = sizeB b := by
  unfold textB sizeB signS
  rw [h, hs]
  simp only [Bool.false_eq_true, if_false]
  split
  · rfl
  · rw [show (⟨#[]⟩ : ByteArray) ++ strL (digL (oddW b)) = strL (digL (oddW b)) from ByteArray.empty_append]
theorem textB_down {b : Nat} (h : nanB b = false) (hs : sgn b = true) : textB b = ⟨#[45]⟩ ++ sizeB b := by
  unfold textB sizeB signS
  rw [h, hs]
  simp only [Bool.false_eq_true, if_false, if_true]
  split
  · rfl
  · simp only [ByteArray.append_assoc]
theorem Text_f {b : Nat} (hb : okW b) {w : World} (ht : Tabs w) : Calls Tryd.prog 21 #[.float .f64 b] w fun x w' => x = .returned (.string (textB b)) ∧ Below w.heap.size w w' := by
  have N := isNaN_any b
  have M := hasMinus_any hb
  cases hn : nanB b
  · rw [hn] at N
    have hr : rung b ≤ 9218868437227405312 := by unfold nanB at hn; simpa using hn
    unfold minusB at M
    rw [hn, Bool.not_false, Bool.and_true] at M
    cases hs : sgn b
    · rw [hs] at M
      rw [textB_up hn hs]
      have S := @size_any b (by unfold okW at hb; unfold rung at hr; unfold sgn at hs; have : ¬ b / 9223372036854775808 % 2 = 1 := by simpa using hs
                                omega) w ht
      clear hn hr hb hs ht
      go_enter Tryd.func21, Tryd.ntmps21
      go_wp2_with (first | (go_at_call 41; (with_reducible refine Says.go N ?_); rintro e w' ⟨rfl, rfl⟩) | (go_at_call 43; (with_reducible refine Says.go M ?_); rintro e w' ⟨rfl, rfl⟩) | (go_at_call 44; refine S.mono ?_; rintro e w1 ⟨rfl, hb1⟩))
      go_ret
      exact ⟨rfl, hb1⟩
    · rw [hs] at M
      rw [textB_down hn hs, ← sizeB_neg hb]
      have hp := negW_parts hb
      have S := @size_any (negW b) (by have h3 := neg_ok hb; unfold okW at h3; rw [hs] at hp; have h4 := hp.1; have h5 := hp.2; unfold rung at h5 hr; unfold sgn at h4; have : ¬ negW b / 9223372036854775808 % 2 = 1 := by simpa using h4
                                       omega) w ht
      have U := neg_run b
      have z := sizeB_size (negW b)
      have F : ¬ 9223372036854775807 < ByteArray.size ⟨#[45]⟩ + (sizeB (negW b)).size := by
        have : ByteArray.size ⟨#[45]⟩ = 1 := rfl
        omega
      generalize sizeB (negW b) = T at *
      clear hn hr hb hs ht z hp
      go_enter Tryd.func21, Tryd.ntmps21
      go_wp2_with (first | (go_at_call 41; (with_reducible refine Says.go N ?_); rintro e w' ⟨rfl, rfl⟩) | (go_at_call 43; (with_reducible refine Says.go M ?_); rintro e w' ⟨rfl, rfl⟩) | (go_at_call 44; refine S.mono ?_; rintro e w1 ⟨rfl, hb1⟩))
      go_ret
      exact ⟨rfl, hb1⟩
  · rw [hn] at N
    have R : Hid (textB b = ⟨#[110, 97, 110]⟩) := Lib.hid (by unfold textB; rw [if_pos hn])
    clear hn M ht hb
    go_enter Tryd.func21, Tryd.ntmps21
    go_wp2_with (go_at_call 41; (with_reducible refine Says.go N ?_); rintro e w' ⟨rfl, rfl⟩)
    go_ret
    rw [R.out]
    exact ⟨rfl, Below.refl _ _⟩
end Go.Proofs.YthplhgbclbeodaaDoor
