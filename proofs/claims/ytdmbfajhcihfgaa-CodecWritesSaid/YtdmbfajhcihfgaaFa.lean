/-
  Contracts of the program's small float functions: isNaN, hasMinus, Canon, Neg, Equal, Less, FromInt.
-/
import Derived.Test.YtdmbfajhcihfgaaRefF
namespace Go.Proofs.Ytdmbfajhcihfgaa
open Go.RowKit Ieee

theorem Says.go {f : Nat} {a : Array Value} {v : Value} (h : Says f a v) {w : World} {Q : Ending → World → Prop} (hQ : ∀ e w', e = .returned v ∧ w = w' → Q e w') : Calls Try.prog f a w Q := (h w).mono hQ
theorem isNaN_any (b : Nat) : Says 112 #[.float .f64 b] (.bool (nanB b)) := by
  intro w
  have O : ((FloatKind.format .f64).order b b != some Ordering.eq) = nanB b := by
    have h := order_self b
    show (double.order b b != some .eq) = _
    rw [bne, h]
    unfold nanB
    rw [Bool.eq_iff_iff]
    simp
  have O' := Lib.hid O
  clear O
  go_enter Try.func112, Try.ntmps112
  go_wp2
  go_ret
  rw [O'.out]; exact ⟨rfl, rfl⟩

theorem Canon_f (b : Nat) : Says 95 #[.float .f64 b] (.float .f64 (canonW b)) := by
  intro w
  have H := float_run
  have N := isNaN_any b
  go_enter Try.func95, Try.ntmps95
  go_wp2_with (first | (go_at_call 112; refine (N _).mono ?_; rintro e w' ⟨rfl, rfl⟩))
  · go_ret
    unfold canonW; rw [if_pos (by assumption)]; exact ⟨rfl, rfl⟩
  · go_ret
    unfold canonW; rw [if_neg (by simp [*])]; exact ⟨rfl, rfl⟩

/-- With the other sign. -/
def negW (b : Nat) : Nat := Op.negFloat .f64 b
theorem xor63 {r : Nat} (h : r < 2 ^ 63) : 2 ^ 63 ^^^ r = 2 ^ 63 + r := by
  apply Nat.eq_of_testBit_eq
  intro i
  rw [Nat.testBit_xor, Nat.testBit_two_pow]
  rcases Nat.lt_trichotomy i 63 with h1 | rfl | h1
  · rw [Nat.testBit_two_pow_add_gt h1, decide_eq_false (by omega), Bool.false_xor]
  · rw [Nat.testBit_two_pow_add_eq, decide_eq_true rfl, Bool.true_xor]
  · have e : 2 ^ 64 ≤ 2 ^ i := Nat.pow_le_pow_right (by omega) (by omega)
    have e64 : (2 : Nat) ^ 64 = 2 ^ 63 + 2 ^ 63 := by omega
    rw [decide_eq_false (by omega), Bool.false_xor, Nat.testBit_lt_two_pow (show r < 2 ^ i by omega), Nat.testBit_lt_two_pow (show 2 ^ 63 + r < 2 ^ i by omega)]
theorem negW_eq {b : Nat} (hb : okW b) : negW b = double.word (!sgn b) (rung b) := by
  unfold negW Op.negFloat
  show b ^^^ 2 ^ 63 = _
  unfold okW at hb
  unfold Format.word sgn rung
  rw [D_sign]
  have e63 : (2 : Nat) ^ 63 = 9223372036854775808 := by decide
  by_cases h : b < 9223372036854775808
  · have e0 : b / 9223372036854775808 % 2 = 0 := by omega
    rw [Nat.xor_comm, xor63 (by omega), e0, e63]
    simp
    omega
  · have e1 : b / 9223372036854775808 % 2 = 1 := by omega
    obtain ⟨r, rfl⟩ : ∃ r, b = 9223372036854775808 + r := ⟨b - 9223372036854775808, by omega⟩
    have hx := xor63 (show r < 2 ^ 63 by omega)
    rw [e63] at hx
    rw [e1, e63, ← hx, Nat.xor_comm, ← Nat.xor_assoc, Nat.xor_self, Nat.zero_xor, hx]
    simp
    omega
theorem neg_run (b : Nat) (W : World) : (Op.unary .neg (.float .f64 b)).run Try.prog W = .ok (.float .f64 (negW b)) W := rfl
theorem lt_zero {b : Nat} (h : nanB b = false) : (double.order b 0 == some .lt) = (sgn b && decide (rung b ≠ 0)) := by
  have hb : rung b ≤ 9218868437227405312 := by unfold nanB at h; simpa using h
  rw [order_word hb (by decide)]
  have e : sv 0 = 0 := by decide
  rw [e, Bool.eq_iff_iff]
  simp only [beq_iff_eq, Option.some.injEq, Bool.and_eq_true, decide_eq_true_eq, Int.compare_eq_lt]
  unfold sv
  split
  · rename_i hs; simp [hs]; omega
  · rename_i hs; simp [hs]
theorem eq_zero (b : Nat) : (double.order b 0 == some .eq) = decide (rung b = 0) := by
  by_cases hb : rung b ≤ 9218868437227405312
  · rw [order_word hb (by decide)]
    have e : sv 0 = 0 := by decide
    rw [e, Bool.eq_iff_iff]
    simp only [beq_iff_eq, Option.some.injEq, decide_eq_true_eq, Int.compare_eq_eq]
    unfold sv
    split <;> omega
  · rw [order_nan (.inl (by omega))]
    rw [decide_eq_false (by omega)]
    rfl
/-- One by a zero. -/
theorem one_by {b : Nat} (hb : okW b) (h : rung b = 0) : double.div 4607182418800017408 b = some (double.word (sgn b) 9218868437227405312) := by
  have e : b = 0 ∨ b = 9223372036854775808 := by unfold rung at h; unfold okW at hb; omega
  rcases e with rfl | rfl <;> decide
theorem quo_run {x y r : Nat} (h : double.div x y = some r) (W : World) : (binOp .quo 23 (.float .f64 x) (.float .f64 y)).run Try.prog W = .ok (.float .f64 r) W :=
  run_float_arith W .quo 23 .f64 x y r h

def minusB (b : Nat) : Bool := sgn b && !nanB b
theorem hasMinus_any {b : Nat} (hb : okW b) : Says 118 #[.float .f64 b] (.bool (minusB b)) := by
  intro w
  by_cases hn : nanB b = true
  · have L : ((FloatKind.format .f64).order b 0 == some Ordering.lt) = false := by
      show (double.order b 0 == some .lt) = false
      rw [order_nan (.inl (by unfold nanB at hn; simpa using hn))]; rfl
    have E : ((FloatKind.format .f64).order b 0 == some Ordering.eq) = false := by
      show (double.order b 0 == some .eq) = false
      rw [order_nan (.inl (by unfold nanB at hn; simpa using hn))]; rfl
    have R : minusB b = false := by unfold minusB; rw [hn]; simp
    have R' := Lib.hid R
    clear R hn hb
    go_enter Try.func118, Try.ntmps118
    go_wp2
    go_ret
    rw [R'.out]; exact ⟨rfl, rfl⟩
  · have hn' : nanB b = false := by simpa using hn
    have L : ((FloatKind.format .f64).order b 0 == some Ordering.lt) = (sgn b && decide (rung b ≠ 0)) := lt_zero hn'
    have E : ((FloatKind.format .f64).order b 0 == some Ordering.eq) = decide (rung b = 0) := eq_zero b
    have R : minusB b = sgn b := by unfold minusB; rw [hn']; simp
    have R' := Lib.hid R
    clear R hn hn'
    by_cases hz : rung b = 0
    · have D := quo_run (one_by hb hz)
      rw [decide_eq_true hz] at E
      rw [decide_eq_false (by omega), Bool.and_false] at L
      cases hs : sgn b
      · rw [hs] at D R'
        have L2 : ((FloatKind.format .f64).order (double.word false 9218868437227405312) 0 == some Ordering.lt) = false := by decide
        generalize double.word false 9218868437227405312 = x at *
        clear hb hz hs
        go_enter Try.func118, Try.ntmps118
        go_wp2
        go_ret
        rw [R'.out]; exact ⟨rfl, rfl⟩
      · rw [hs] at D R'
        have L2 : ((FloatKind.format .f64).order (double.word true 9218868437227405312) 0 == some Ordering.lt) = true := by decide
        generalize double.word true 9218868437227405312 = x at *
        clear hb hz hs
        go_enter Try.func118, Try.ntmps118
        go_wp2
        go_ret
        rw [R'.out]; exact ⟨rfl, rfl⟩
    · rw [decide_eq_false hz] at E
      rw [decide_eq_true hz, Bool.and_true] at L
      clear hb hz
      cases hs : sgn b
      · rw [hs] at L R'
        clear hs
        go_enter Try.func118, Try.ntmps118
        go_wp2
        go_ret
        rw [R'.out]; exact ⟨rfl, rfl⟩
      · rw [hs] at L R'
        clear hs
        go_enter Try.func118, Try.ntmps118
        go_wp2
        go_ret
        rw [R'.out]; exact ⟨rfl, rfl⟩

/-- Which one stands first. -/
def aheadB (a b : Nat) : Bool := if nanB b = true then !nanB a else if rung a = 0 ∧ rung b = 0 then minusB a && !minusB b else (double.order a b == some .lt)
theorem isAhead_any {a b : Nat} (ha : okW a) (hb : okW b) : Says 116 #[.float .f64 a, .float .f64 b] (.bool (aheadB a b)) := by
  intro w
  have N := isNaN_any
  have M1 := hasMinus_any ha
  have M2 := hasMinus_any hb
  have Ea : ((FloatKind.format .f64).order a 0 == some Ordering.eq) = decide (rung a = 0) := eq_zero a
  have Eb : ((FloatKind.format .f64).order b 0 == some Ordering.eq) = decide (rung b = 0) := eq_zero b
  unfold aheadB
  by_cases hn : nanB b = true
  · rw [if_pos hn]
    have Nb := N b
    rw [hn] at Nb
    have Na := N a
    clear N hn M1 M2 Ea Eb ha hb
    go_enter Try.func116, Try.ntmps116
    go_wp2_with (go_at_call 112; first | ((with_reducible refine Says.go Nb ?_); rintro e w' ⟨rfl, rfl⟩) | ((with_reducible refine Says.go Na ?_); rintro e w' ⟨rfl, rfl⟩))
    go_ret
    exact ⟨rfl, rfl⟩
  · rw [if_neg hn]
    have Nb := N b
    rw [show nanB b = false by simpa using hn] at Nb
    clear N hn ha hb
    by_cases hz : rung a = 0
    · rw [decide_eq_true hz] at Ea
      by_cases hy : rung b = 0
      · rw [decide_eq_true hy] at Eb
        rw [if_pos ⟨hz, hy⟩]
        clear hz hy
        go_enter Try.func116, Try.ntmps116
        go_wp2_with (first | (go_at_call 112; (with_reducible refine Says.go Nb ?_); rintro e w' ⟨rfl, rfl⟩) | (go_at_call 118; first | ((with_reducible refine Says.go M1 ?_); rintro e w' ⟨rfl, rfl⟩) | ((with_reducible refine Says.go M2 ?_); rintro e w' ⟨rfl, rfl⟩)))
        all_goals (go_ret; refine ⟨?_, rfl⟩; clear M1 M2; simp [*])
      · rw [decide_eq_false hy] at Eb
        rw [if_neg (fun h => hy h.2)]
        clear hz hy M1 M2
        go_enter Try.func116, Try.ntmps116
        go_wp2_with (go_at_call 112; (with_reducible refine Says.go Nb ?_); rintro e w' ⟨rfl, rfl⟩)
        go_ret
        exact ⟨rfl, rfl⟩
    · rw [decide_eq_false hz] at Ea
      rw [if_neg (fun h => hz h.1)]
      clear hz M1 M2 Eb
      go_enter Try.func116, Try.ntmps116
      go_wp2_with (go_at_call 112; (with_reducible refine Says.go Nb ?_); rintro e w' ⟨rfl, rfl⟩)
      go_ret
      exact ⟨rfl, rfl⟩

theorem nan_none {b : Nat} (h : nanB b = true) (c : Nat) : double.order b c = none ∧ double.order c b = none :=
  have h' : 9218868437227405312 < rung b := by unfold nanB at h; simpa using h
  ⟨order_nan (.inl h'), order_nan (.inr h')⟩
theorem keyI_nan {b : Nat} (h : nanB b = true) : keyI b = 9223372036854775807 := by unfold keyI; rw [if_pos h]
theorem keyI_num {b : Nat} (hb : okW b) (h : nanB b = false) : keyI b = (if sgn b then -1 - (rung b : Int) else (rung b : Int)) ∧ rung b ≤ 9218868437227405312 := by
  have hr : rung b ≤ 9218868437227405312 := by unfold nanB at h; simpa using h
  refine ⟨?_, hr⟩
  unfold keyI
  rw [if_neg (by rw [h]; exact Bool.false_ne_true)]
  unfold okW at hb
  by_cases hs : sgn b = true
  · rw [if_pos hs, if_pos hs]
    unfold sgn at hs
    unfold rung
    have : b / 9223372036854775808 % 2 = 1 := by simpa using hs
    omega
  · rw [if_neg hs, if_neg hs]
    unfold sgn at hs
    unfold rung
    have : ¬ b / 9223372036854775808 % 2 = 1 := by simpa using hs
    omega
/-- The document's row is the program's. -/
theorem ahead_key {a b : Nat} (ha : okW a) (hb : okW b) : aheadB a b = decide (keyI a < keyI b) := by
  unfold aheadB
  cases hnb : nanB b
  · rw [if_neg (by simp)]
    obtain ⟨kb, rb⟩ := keyI_num hb hnb
    cases hna : nanB a
    · obtain ⟨ka, ra⟩ := keyI_num ha hna
      rw [ka, kb]
      by_cases hz : rung a = 0 ∧ rung b = 0
      · rw [if_pos hz]
        unfold minusB
        rw [hna, hnb, hz.1, hz.2]
        cases sgn a <;> cases sgn b <;> rfl
      · rw [if_neg hz, order_word ra rb, Bool.eq_iff_iff]
        simp only [beq_iff_eq, Option.some.injEq, Int.compare_eq_lt, decide_eq_true_eq]
        unfold sv
        split <;> split <;> omega
    · rw [keyI_nan hna, kb, (nan_none hna b).1]
      have hra : 9218868437227405312 < rung a := by unfold nanB at hna; simpa using hna
      rw [if_neg (by omega), decide_eq_false (by split <;> omega)]
      rfl
  · rw [if_pos rfl, keyI_nan hnb]
    cases hna : nanB a
    · obtain ⟨ka, ra⟩ := keyI_num ha hna
      rw [ka, decide_eq_true (by split <;> omega)]; rfl
    · rw [keyI_nan hna]; rfl

theorem Order_f {a b : Nat} (ha : okW a) (hb : okW b) : Says 111 #[.float .f64 a, .float .f64 b] (.int .i64 (ordI (keyI a) (keyI b))) := by
  intro w
  have A := isAhead_any ha hb
  have B := isAhead_any hb ha
  rw [ahead_key ha hb] at A
  rw [ahead_key hb ha] at B
  clear ha hb
  unfold ordI
  generalize keyI a = x at *
  generalize keyI b = y at *
  go_enter Try.func111, Try.ntmps111
  go_wp2_with (go_at_call 116; first | ((with_reducible refine Says.go A ?_); rintro e w' ⟨rfl, rfl⟩) | ((with_reducible refine Says.go B ?_); rintro e w' ⟨rfl, rfl⟩))
  all_goals (go_ret; exact ⟨rfl, rfl⟩)
end Go.Proofs.Ytdmbfajhcihfgaa
