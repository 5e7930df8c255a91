/-
  Contracts of the program's small float functions: isNaN, hasMinus, Canon, Neg, Equal, Less, FromInt.
  Keys of floats, plainly (where a seat has not the whole of the laws' facts on floats: the same names).
  Contracts of the program's hasNoFields, isRightAlone.
  Contract of the program's isRightAlone.
-/
import Derived.Test.YteclpehbpicpaaaM06
import Derived.Test.YteclpehbpicpaaaM09
namespace Go.Proofs.Yteclpehbpicpaaa
open Go.RowKit Ieee

theorem Says.go {f : Nat} {a : Array Value} {v : Value} (h : Says f a v) {w : World} {Q : Ending → World → Prop} (hQ : ∀ e w', e = .returned v ∧ w = w' → Q e w') : Calls Try.prog f a w Q := (h w).mono hQ
theorem isNaN_any (b : Nat) : Says 119 #[.float .f64 b] (.bool (nanB b)) := by
  intro w
  have O : ((FloatKind.format .f64).order b b != some Ordering.eq) = nanB b := by
    have h := order_self b
    show (double.order b b != some .eq) = _
    rw [bne, h]
    unfold nanB
    rw [Bool.eq_iff_iff]
    simp
  have O' := Lib.hid O
  clear O
  go_enter Try.func119, Try.ntmps119
  go_wp2
  go_ret
  rw [O'.out]; exact ⟨rfl, rfl⟩

theorem Canon_f (b : Nat) : Says 104 #[.float .f64 b] (.float .f64 (canonW b)) := by
  intro w
  have H := float_run
  have N := isNaN_any b
  go_enter Try.func104, Try.ntmps104
  go_wp2_with (first | (go_at_call 119; refine (N _).mono ?_; rintro e w' ⟨rfl, rfl⟩))
  · go_ret
    unfold canonW; rw [if_pos (by assumption)]; exact ⟨rfl, rfl⟩
  · go_ret
    unfold canonW; rw [if_neg (by simp [*])]; exact ⟨rfl, rfl⟩

/-- With the other sign. -/
def negW (b : Nat) : Nat := Op.negFloat .f64 b
theorem xor63 {r : Nat} (h : r < 2 ^ 63) : 2 ^ 63 ^^^ r = 2 ^ 63 + r := by
  apply Nat.eq_of_testBit_eq
  intro i
  rw [Nat.testBit_xor, Nat.testBit_two_pow]
  rcases Nat.lt_trichotomy i 63 with h1 | rfl | h1
  · rw [Nat.testBit_two_pow_add_gt h1, decide_eq_false (by omega), Bool.false_xor]
  · rw [Nat.testBit_two_pow_add_eq, decide_eq_true rfl, Bool.true_xor]
  · have e : 2 ^ 64 ≤ 2 ^ i := Nat.pow_le_pow_right (by omega) (by omega)
    have e64 : (2 : Nat) ^ 64 = 2 ^ 63 + 2 ^ 63 := by omega
    rw [decide_eq_false (by omega), Bool.false_xor, Nat.testBit_lt_two_pow (show r < 2 ^ i by omega), Nat.testBit_lt_two_pow (show 2 ^ 63 + r < 2 ^ i by omega)]
theorem negW_eq {b : Nat} (hb : okW b) : negW b = double.word (!sgn b) (rung b) := by
  unfold negW Op.negFloat
  show b ^^^ 2 ^ 63 = _
  unfold okW at hb
  unfold Format.word sgn rung
  rw [D_sign]
  have e63 : (2 : Nat) ^ 63 = 9223372036854775808 := by decide
  by_cases h : b < 9223372036854775808
  · have e0 : b / 9223372036854775808 % 2 = 0 := by omega
    rw [Nat.xor_comm, xor63 (by omega), e0, e63]
    simp
    omega
  · have e1 : b / 9223372036854775808 % 2 = 1 := by omega
    obtain ⟨r, rfl⟩ : ∃ r, b = 9223372036854775808 + r := ⟨b - 9223372036854775808, by omega⟩
    have hx := xor63 (show r < 2 ^ 63 by omega)
    rw [e63] at hx
    rw [e1, e63, ← hx, Nat.xor_comm, ← Nat.xor_assoc, Nat.xor_self, Nat.zero_xor, hx]
    simp
    omega
theorem neg_run (b : Nat) (W : World) : (Op.unary .neg (.float .f64 b)).run Try.prog W = .ok (.float .f64 (negW b)) W := rfl
theorem lt_zero {b : Nat} (h : nanB b = false) : (double.order b 0 == some .lt) = (sgn b && decide (rung b ≠ 0)) := by
  have hb : rung b ≤ 9218868437227405312 := by unfold nanB at h; simpa using h
  rw [order_word hb (by decide)]
  have e : sv 0 = 0 := by decide
  rw [e, Bool.eq_iff_iff]
  simp only [beq_iff_eq, Option.some.injEq, Bool.and_eq_true, decide_eq_true_eq, Int.compare_eq_lt]
  unfold sv
  split
  · rename_i hs; simp [hs]; omega
  · rename_i hs; simp [hs]
theorem eq_zero (b : Nat) : (double.order b 0 == some .eq) = decide (rung b = 0) := by
  by_cases hb : rung b ≤ 9218868437227405312
  · rw [order_word hb (by decide)]
    have e : sv 0 = 0 := by decide
    rw [e, Bool.eq_iff_iff]
    simp only [beq_iff_eq, Option.some.injEq, decide_eq_true_eq, Int.compare_eq_eq]
    unfold sv
    split <;> omega
  · rw [order_nan (.inl (by omega))]
    rw [decide_eq_false (by omega)]
    rfl
/-- One by a zero. -/
theorem one_by {b : Nat} (hb : okW b) (h : rung b = 0) : double.div 4607182418800017408 b = some (double.word (sgn b) 9218868437227405312) := by
  have e : b = 0 ∨ b = 9223372036854775808 := by unfold rung at h; unfold okW at hb; omega
  rcases e with rfl | rfl <;> decide
theorem quo_run {x y r : Nat} (h : double.div x y = some r) (W : World) : (binOp .quo 23 (.float .f64 x) (.float .f64 y)).run Try.prog W = .ok (.float .f64 r) W :=
  run_float_arith W .quo 23 .f64 x y r h

def minusB (b : Nat) : Bool := sgn b && !nanB b
theorem hasMinus_any {b : Nat} (hb : okW b) : Says 123 #[.float .f64 b] (.bool (minusB b)) := by
  intro w
  by_cases hn : nanB b = true
  · have L : ((FloatKind.format .f64).order b 0 == some Ordering.lt) = false := by
      show (double.order b 0 == some .lt) = false
      rw [order_nan (.inl (by unfold nanB at hn; simpa using hn))]; rfl
    have E : ((FloatKind.format .f64).order b 0 == some Ordering.eq) = false := by
      show (double.order b 0 == some .eq) = false
      rw [order_nan (.inl (by unfold nanB at hn; simpa using hn))]; rfl
    have R : minusB b = false := by unfold minusB; rw [hn]; simp
    have R' := Lib.hid R
    clear R hn hb
    go_enter Try.func123, Try.ntmps123
    go_wp2
    go_ret
    rw [R'.out]; exact ⟨rfl, rfl⟩
  · have hn' : nanB b = false := by simpa using hn
    have L : ((FloatKind.format .f64).order b 0 == some Ordering.lt) = (sgn b && decide (rung b ≠ 0)) := lt_zero hn'
    have E : ((FloatKind.format .f64).order b 0 == some Ordering.eq) = decide (rung b = 0) := eq_zero b
    have R : minusB b = sgn b := by unfold minusB; rw [hn']; simp
    have R' := Lib.hid R
    clear R hn hn'
    by_cases hz : rung b = 0
    · have D := quo_run (one_by hb hz)
      rw [decide_eq_true hz] at E
      rw [decide_eq_false (by omega), Bool.and_false] at L
      cases hs : sgn b
      · rw [hs] at D R'
        have L2 : ((FloatKind.format .f64).order (double.word false 9218868437227405312) 0 == some Ordering.lt) = false := by decide
        generalize double.word false 9218868437227405312 = x at *
        clear hb hz hs
        go_enter Try.func123, Try.ntmps123
        go_wp2
        go_ret
        rw [R'.out]; exact ⟨rfl, rfl⟩
      · rw [hs] at D R'
        have L2 : ((FloatKind.format .f64).order (double.word true 9218868437227405312) 0 == some Ordering.lt) = true := by decide
        generalize double.word true 9218868437227405312 = x at *
        clear hb hz hs
        go_enter Try.func123, Try.ntmps123
        go_wp2
        go_ret
        rw [R'.out]; exact ⟨rfl, rfl⟩
    · rw [decide_eq_false hz] at E
      rw [decide_eq_true hz, Bool.and_true] at L
      clear hb hz
      cases hs : sgn b
      · rw [hs] at L R'
        clear hs
        go_enter Try.func123, Try.ntmps123
        go_wp2
        go_ret
        rw [R'.out]; exact ⟨rfl, rfl⟩
      · rw [hs] at L R'
        clear hs
        go_enter Try.func123, Try.ntmps123
        go_wp2
        go_ret
        rw [R'.out]; exact ⟨rfl, rfl⟩

/-- Which one stands first. -/
def aheadB (a b : Nat) : Bool := if nanB b = true then !nanB a else if rung a = 0 ∧ rung b = 0 then minusB a && !minusB b else (double.order a b == some .lt)
theorem isAhead_any {a b : Nat} (ha : okW a) (hb : okW b) : Says 122 #[.float .f64 a, .float .f64 b] (.bool (aheadB a b)) := by
  intro w
  have N := isNaN_any
  have M1 := hasMinus_any ha
  have M2 := hasMinus_any hb
  have Ea : ((FloatKind.format .f64).order a 0 == some Ordering.eq) = decide (rung a = 0) := eq_zero a
  have Eb : ((FloatKind.format .f64).order b 0 == some Ordering.eq) = decide (rung b = 0) := eq_zero b
  unfold aheadB
  by_cases hn : nanB b = true
  · rw [if_pos hn]
    have Nb := N b
    rw [hn] at Nb
    have Na := N a
    clear N hn M1 M2 Ea Eb ha hb
    go_enter Try.func122, Try.ntmps122
    go_wp2_with (go_at_call 119; first | ((with_reducible refine Says.go Nb ?_); rintro e w' ⟨rfl, rfl⟩) | ((with_reducible refine Says.go Na ?_); rintro e w' ⟨rfl, rfl⟩))
    go_ret
    exact ⟨rfl, rfl⟩
  · rw [if_neg hn]
    have Nb := N b
    rw [show nanB b = false by simpa using hn] at Nb
    clear N hn ha hb
    by_cases hz : rung a = 0
    · rw [decide_eq_true hz] at Ea
      by_cases hy : rung b = 0
      · rw [decide_eq_true hy] at Eb
        rw [if_pos ⟨hz, hy⟩]
        clear hz hy
        go_enter Try.func122, Try.ntmps122
        go_wp2_with (first | (go_at_call 119; (with_reducible refine Says.go Nb ?_); rintro e w' ⟨rfl, rfl⟩) | (go_at_call 123; first | ((with_reducible refine Says.go M1 ?_); rintro e w' ⟨rfl, rfl⟩) | ((with_reducible refine Says.go M2 ?_); rintro e w' ⟨rfl, rfl⟩)))
        all_goals (go_ret; refine ⟨?_, rfl⟩; clear M1 M2; simp [*])
      · rw [decide_eq_false hy] at Eb
        rw [if_neg (fun h => hy h.2)]
        clear hz hy M1 M2
        go_enter Try.func122, Try.ntmps122
        go_wp2_with (go_at_call 119; (with_reducible refine Says.go Nb ?_); rintro e w' ⟨rfl, rfl⟩)
        go_ret
        exact ⟨rfl, rfl⟩
    · rw [decide_eq_false hz] at Ea
      rw [if_neg (fun h => hz h.1)]
      clear hz M1 M2 Eb
      go_enter Try.func122, Try.ntmps122
      go_wp2_with (go_at_call 119; (with_reducible refine Says.go Nb ?_); rintro e w' ⟨rfl, rfl⟩)
      go_ret
      exact ⟨rfl, rfl⟩

theorem nan_none {b : Nat} (h : nanB b = true) (c : Nat) : double.order b c = none ∧ double.order c b = none :=
  have h' : 9218868437227405312 < rung b := by unfold nanB at h; simpa using h
  ⟨order_nan (.inl h'), order_nan (.inr h')⟩
theorem keyI_nan {b : Nat} (h : nanB b = true) : keyI b = 9223372036854775807 := by unfold keyI; rw [if_pos h]
theorem keyI_num {b : Nat} (hb : okW b) (h : nanB b = false) : keyI b = (if sgn b then -1 - (rung b : Int) else (rung b : Int)) ∧ rung b ≤ 9218868437227405312 := by
  have hr : rung b ≤ 9218868437227405312 := by unfold nanB at h; simpa using h
  refine ⟨?_, hr⟩
  unfold keyI
  rw [if_neg (by rw [h]; exact Bool.false_ne_true)]
  unfold okW at hb
  by_cases hs : sgn b = true
  · rw [if_pos hs, if_pos hs]
    unfold sgn at hs
    unfold rung
    have : b / 9223372036854775808 % 2 = 1 := by simpa using hs
    omega
  · rw [if_neg hs, if_neg hs]
    unfold sgn at hs
    unfold rung
    have : ¬ b / 9223372036854775808 % 2 = 1 := by simpa using hs
    omega
/-- The document's row is the program's. -/
theorem ahead_key {a b : Nat} (ha : okW a) (hb : okW b) : aheadB a b = decide (keyI a < keyI b) := by
  unfold aheadB
  cases hnb : nanB b
  · rw [if_neg (by simp)]
    obtain ⟨kb, rb⟩ := keyI_num hb hnb
    cases hna : nanB a
    · obtain ⟨ka, ra⟩ := keyI_num ha hna
      rw [ka, kb]
      by_cases hz : rung a = 0 ∧ rung b = 0
      · rw [if_pos hz]
        unfold minusB
        rw [hna, hnb, hz.1, hz.2]
        cases sgn a <;> cases sgn b <;> rfl
      · rw [if_neg hz, order_word ra rb, Bool.eq_iff_iff]
        simp only [beq_iff_eq, Option.some.injEq, Int.compare_eq_lt, decide_eq_true_eq]
        unfold sv
        split <;> split <;> omega
    · rw [keyI_nan hna, kb, (nan_none hna b).1]
      have hra : 9218868437227405312 < rung a := by unfold nanB at hna; simpa using hna
      rw [if_neg (by omega), decide_eq_false (by split <;> omega)]
      rfl
  · rw [if_pos rfl, keyI_nan hnb]
    cases hna : nanB a
    · obtain ⟨ka, ra⟩ := keyI_num ha hna
      rw [ka, decide_eq_true (by split <;> omega)]; rfl
    · rw [keyI_nan hna]; rfl

theorem Order_f {a b : Nat} (ha : okW a) (hb : okW b) : Says 118 #[.float .f64 a, .float .f64 b] (.int .i64 (ordI (keyI a) (keyI b))) := by
  intro w
  have A := isAhead_any ha hb
  have B := isAhead_any hb ha
  rw [ahead_key ha hb] at A
  rw [ahead_key hb ha] at B
  clear ha hb
  unfold ordI
  generalize keyI a = x at *
  generalize keyI b = y at *
  go_enter Try.func118, Try.ntmps118
  go_wp2_with (go_at_call 122; first | ((with_reducible refine Says.go A ?_); rintro e w' ⟨rfl, rfl⟩) | ((with_reducible refine Says.go B ?_); rintro e w' ⟨rfl, rfl⟩))
  all_goals (go_ret; exact ⟨rfl, rfl⟩)
end Go.Proofs.Yteclpehbpicpaaa
namespace Go.Proofs.Yteclpehbpicpaaa
open Go.RowKit Ieee

theorem canon_nan {b : Nat} (h : nanB b = true) : canonW b = 9221120237041090560 := by unfold canonW; rw [if_pos h]
theorem word_is {a b : Nat} (ha : okW a) (hb : okW b) (hs : sgn a = sgn b) (hr : rung a = rung b) : a = b := by
  have h1 := word_parts a ha
  have h2 := word_parts b hb
  unfold sgn at hs
  unfold rung at hr
  rw [← h1, ← h2, hs, hr]
theorem rung_nan {b : Nat} (h : nanB b = true) : 9218868437227405312 < rung b := by unfold nanB at h; simpa using h
theorem rung_num {b : Nat} (h : nanB b = false) : rung b ≤ 9218868437227405312 := by unfold nanB at h; simpa using h
theorem canon_num {b : Nat} (h : nanB b = false) : canonW b = b := by unfold canonW; rw [if_neg (by rw [h]; exact Bool.false_ne_true)]
/-- Two stand at one place just if they are one, once all NaN are one. -/
theorem same_key {a b : Nat} (ha : okW a) (hb : okW b) : (keyI a = keyI b) ↔ canonW a = canonW b := by
  cases hna : nanB a
  · cases hnb : nanB b
    · obtain ⟨ka, ra⟩ := keyI_num ha hna
      obtain ⟨kb, rb⟩ := keyI_num hb hnb
      rw [ka, kb, canon_num hna, canon_num hnb]
      constructor
      · intro h
        refine word_is ha hb ?_ ?_
        · cases hs : sgn a <;> cases ht : sgn b <;> simp [hs, ht] at h <;> first | rfl | omega
        · cases hs : sgn a <;> cases ht : sgn b <;> simp [hs, ht] at h <;> omega
      · rintro rfl; rfl
    · obtain ⟨ka, ra⟩ := keyI_num ha hna
      rw [ka, keyI_nan hnb, canon_num hna, canon_nan hnb]
      constructor
      · intro h; split at h <;> omega
      · rintro rfl; exact absurd hna (by decide)
  · cases hnb : nanB b
    · obtain ⟨kb, rb⟩ := keyI_num hb hnb
      rw [kb, keyI_nan hna, canon_num hnb, canon_nan hna]
      constructor
      · intro h; split at h <;> omega
      · intro h; rw [← h] at hnb; exact absurd hnb (by decide)
    · rw [keyI_nan hna, keyI_nan hnb, canon_nan hna, canon_nan hnb]
      exact ⟨fun _ => rfl, fun _ => rfl⟩
theorem ord_zero (x y : Int) : ordI x y = 0 ↔ x = y := by unfold ordI; split <;> (try split) <;> omega
end Go.Proofs.Yteclpehbpicpaaa
namespace Go.Proofs.Yteclpehbpicpaaa
open Go.RowKit

theorem zero_key {f : Nat} (hf : okW f) : (ordI (keyI f) (keyI 0) == 0) = zeroB f := by
  unfold zeroB
  have h0 : okW 0 := by unfold okW; decide
  have h := same_key hf h0
  have hz := ord_zero (keyI f) (keyI 0)
  by_cases e : canonW f = canonW 0
  · rw [decide_eq_true e]; simp [hz.2 (h.2 e)]
  · rw [decide_eq_false e]
    have : ¬ ordI (keyI f) (keyI 0) = 0 := fun hh => e (h.1 (hz.1 hh))
    simp [this]
/-- No field is set but the kind. -/
def nofB (n : Int) (f : Nat) (s : ByteArray) (c m : Nat) : Bool := decide (n = 0) && (zeroB f && (emptyB s && (decide (c = 0) && decide (m = 0))))
set_option maxHeartbeats 1000000 in
theorem nof_f {k n : Int} {f : Nat} {s : ByteArray} {A : Option Addr} {c ca : Nat} {B : Option Addr} {m cb : Nat} (hf : okW f) (w : World) :
    Calls Try.prog 103 #[.agg (fields k n f s A c ca B m cb)] w fun e w' => e = .returned (.bool (nofB n f s c m)) ∧ Below w.heap.size w w' := by
  have hb : Below w.heap.size w (w.alloc (.cells (fields k n f s A c ca B m cb) 27)) := (Below.refl _ _).alloc (Nat.le_refl _) _
  have O := Order_f hf (show okW 0 by unfold okW; decide)
  have hz := zero_key hf
  unfold fields at *
  generalize ordI (keyI f) (keyI 0) = q at *
  by_cases hn : n = 0
  · have tn : (n == 0) = true := by simpa using hn
    cases hzf : zeroB f with
    | true =>
      rw [hzf] at hz
      cases hs : emptyB s with
      | true =>
        have ts : s.toList.isEmpty = true := hs
        by_cases hc : c = 0
        · have tc : ((c : Int) == 0) = true := by simp; omega
          by_cases hm : m = 0
          · have tm : ((m : Int) == 0) = true := by simp; omega
            have R : Hid (nofB n f s c m = true) := Lib.hid (by unfold nofB; simp [hn, hzf, hs, hc, hm])
            clear hn hzf hs hc hm hf
            go_enter Try.func103, Try.ntmps103
            go_wp2_with (go_at_call 118; (with_reducible refine Says.go O ?_); rintro e w' ⟨rfl, rfl⟩)
            go_ret
            exact ⟨by rw [R.out]; rfl, hb⟩
          · have tm : ((m : Int) == 0) = false := by simp; omega
            have R : Hid (nofB n f s c m = false) := Lib.hid (by unfold nofB; simp [hm])
            clear hn hzf hs hc hm hf
            go_enter Try.func103, Try.ntmps103
            go_wp2_with (go_at_call 118; (with_reducible refine Says.go O ?_); rintro e w' ⟨rfl, rfl⟩)
            go_ret
            exact ⟨by rw [R.out]; rfl, hb⟩
        · have tc : ((c : Int) == 0) = false := by simp; omega
          have R : Hid (nofB n f s c m = false) := Lib.hid (by unfold nofB; simp [hc])
          clear hn hzf hs hc hf
          go_enter Try.func103, Try.ntmps103
          go_wp2_with (go_at_call 118; (with_reducible refine Says.go O ?_); rintro e w' ⟨rfl, rfl⟩)
          go_ret
          exact ⟨by rw [R.out]; rfl, hb⟩
      | false =>
        have ts : s.toList.isEmpty = false := hs
        have R : Hid (nofB n f s c m = false) := Lib.hid (by unfold nofB; simp [hs])
        clear hn hzf hs hf
        go_enter Try.func103, Try.ntmps103
        go_wp2_with (go_at_call 118; (with_reducible refine Says.go O ?_); rintro e w' ⟨rfl, rfl⟩)
        go_ret
        exact ⟨by rw [R.out]; rfl, hb⟩
    | false =>
      rw [hzf] at hz
      have R : Hid (nofB n f s c m = false) := Lib.hid (by unfold nofB; simp [hzf])
      clear hn hzf hf
      go_enter Try.func103, Try.ntmps103
      go_wp2_with (go_at_call 118; (with_reducible refine Says.go O ?_); rintro e w' ⟨rfl, rfl⟩)
      go_ret
      exact ⟨by rw [R.out]; rfl, hb⟩
  · have tn : (n == 0) = false := by simpa using hn
    have R : Hid (nofB n f s c m = false) := Lib.hid (by unfold nofB; simp [hn])
    clear hn hf
    go_enter Try.func103, Try.ntmps103
    go_wp2_with fail
    go_ret
    exact ⟨by rw [R.out]; rfl, hb⟩
end Go.Proofs.Yteclpehbpicpaaa
namespace Go.Proofs.Yteclpehbpicpaaa
open Go.RowKit

/-- Is a value right, whatever its items are? -/
def aloneB (k n : Int) (f : Nat) (s : ByteArray) (c : Nat) (ns : Nat → ByteArray) (m : Nat) : Bool :=
  if k = 1 then (decide (n = 0) || decide (n = 1)) && nofB 0 f s c m
  else if k = 2 then nofB 0 f s c m
  else if k = 3 then nofB n 0 s c m
  else if k = 4 then decide (s.size ≤ 200) && nofB n f ⟨#[]⟩ c m
  else if k = 5 then nofB n f s c 0
  else if k = 6 then (((c : Int) == (m : Int)) && riseB c ns) && nofB n f s 0 0
  else false
theorem alone_plain {k n : Int} {f : Nat} {s : ByteArray} {c m : Nat} (ns : Nat → ByteArray) (h5 : k ≠ 5) (h6 : k ≠ 6) : aloneB k n f s c ns m = plainB k n f s c m := by
  have z0 : zeroB 0 = true := by unfold zeroB; simp
  have e0 : emptyB ⟨#[]⟩ = true := by decide +kernel
  unfold aloneB plainB nofB
  rw [if_neg h5, if_neg h6, z0, e0]
  by_cases h1 : k = 1
  · rw [if_pos h1, if_pos h1]
    cases decide (n = 0) <;> cases decide (n = 1) <;> cases zeroB f <;> cases emptyB s <;> cases decide (c = 0) <;> cases decide (m = 0) <;> rfl
  rw [if_neg h1, if_neg h1]
  by_cases h2 : k = 2
  · rw [if_pos h2, if_pos h2]
    cases zeroB f <;> cases emptyB s <;> cases decide (c = 0) <;> cases decide (m = 0) <;> rfl
  rw [if_neg h2, if_neg h2]
  by_cases h3 : k = 3
  · rw [if_pos h3, if_pos h3]
    cases decide (n = 0) <;> cases emptyB s <;> cases decide (c = 0) <;> cases decide (m = 0) <;> rfl
  rw [if_neg h3, if_neg h3]
  by_cases h4 : k = 4
  · rw [if_pos h4, if_pos h4]
    cases decide (n = 0) <;> cases zeroB f <;> cases decide (s.size ≤ 200) <;> cases decide (c = 0) <;> cases decide (m = 0) <;> rfl
  rw [if_neg h4, if_neg h4]
theorem alone_head {k n : Int} {f : Nat} {s : ByteArray} {c m : Nat} (ns : Nat → ByteArray) (h : k = 5 ∨ k = 6) : aloneB k n f s c ns m = headB k n f s c ns m := by
  unfold aloneB headB nofB
  rcases h with rfl | rfl
  · simp only [show ¬ ((5 : Int) = 1) by omega, show ¬ ((5 : Int) = 2) by omega, show ¬ ((5 : Int) = 3) by omega, show ¬ ((5 : Int) = 4) by omega, if_true, if_false]
    cases decide (n = 0) <;> cases zeroB f <;> cases emptyB s <;> cases decide (c = 0) <;> rfl
  · simp only [show ¬ ((6 : Int) = 1) by omega, show ¬ ((6 : Int) = 2) by omega, show ¬ ((6 : Int) = 3) by omega, show ¬ ((6 : Int) = 4) by omega, show ¬ ((6 : Int) = 5) by omega, if_true, if_false]
    cases decide (n = 0) <;> cases zeroB f <;> cases emptyB s <;> cases riseB c ns <;> cases ((c : Int) == (m : Int)) <;> rfl

/-- The box may be written. -/
theorem box_free {w : World} {a0 a1 a2 a3 a4 a5 : Value} {t : TypeId} : Hid (∀ w', Below (w.alloc (.cells #[a0, a1, a2, a3, a4, a5] t)).heap.size (w.alloc (.cells #[a0, a1, a2, a3, a4, a5] t)) w' → ∀ o, w'.frozen? ⟨w.heap.size, o, none⟩ = false) := Lib.hid fun w' hb o => by
  rw [hb.frozen (p := ⟨w.heap.size, o, none⟩) (by simp)]
  simp

set_option maxHeartbeats 2000000 in
theorem alone_f {k n : Int} {f : Nat} {s : ByteArray} {A : Option Addr} {c ca : Nat} {B : Option Addr} {m cb : Nat} {ns : Nat → ByteArray} {w : World} (hf : okW f) (hns : Strs w w.heap.size A c ns) (hc : c ≤ 9223372036854775807) :
    Calls Try.prog 71 #[.agg (fields k n f s A c ca B m cb)] w fun e w' => e = .returned (.bool (aloneB k n f s c ns m)) ∧ Below w.heap.size w w' := by
  have hbW : ∀ cs t, Below w.heap.size w (w.alloc (.cells cs t)) := fun cs t => (Below.refl _ _).alloc (Nat.le_refl _) _
  have hsW : ∀ cs t, w.heap.size ≤ (w.alloc (.cells cs t)).heap.size := fun cs t => (hbW cs t).size
  have N := fun (k' n' : Int) (f' : Nat) (s' : ByteArray) (A' : Option Addr) (c' ca' : Nat) (B' : Option Addr) (m' cb' : Nat) (h : okW f') (W : World) => nof_f (k := k') (n := n') (f := f') (s := s') (A := A') (c := c') (ca := ca') (B := B') (m := m') (cb := cb') h W
  have SF := float_store
  have ok0 : okW 0 := by unfold okW; decide
  unfold fields at *
  by_cases h1 : k = 1
  · by_cases hn : n = 0 ∨ n = 1
    · have R : Hid (aloneB k n f s c ns m = nofB 0 f s c m) := Lib.hid (by unfold aloneB; rw [if_pos h1]; rcases hn with rfl | rfl <;> simp)
      have N1 := N 1 0 f s A c ca B m cb hf
      rcases hn with rfl | rfl
      · subst h1
        clear N hns
        go_enter Try.func71, Try.ntmps71
        go_wp2_with (go_at_call 103; refine (N1 _).mono ?_; rintro e w3 ⟨rfl, hb3⟩)
        go_ret
        exact ⟨by rw [R.out]; rfl, (hbW _ _).trans (hb3.mono (hsW _ _))⟩
      · subst h1
        clear N hns
        go_enter Try.func71, Try.ntmps71
        go_wp2_with (go_at_call 103; refine (N1 _).mono ?_; rintro e w3 ⟨rfl, hb3⟩)
        go_ret
        exact ⟨by rw [R.out]; rfl, (hbW _ _).trans (hb3.mono (hsW _ _))⟩
    · have R : Hid (aloneB k n f s c ns m = false) := Lib.hid (by unfold aloneB; rw [if_pos h1]; simp; omega)
      have t0 : (n != 0) = true := by simp; omega
      have t1 : (n != 1) = true := by simp; omega
      subst h1
      clear N hns hn
      go_enter Try.func71, Try.ntmps71
      go_wp2_with fail
      go_ret
      exact ⟨by rw [R.out]; rfl, hbW _ _⟩
  · have k1 : (k == 1) = false := by simpa using h1
    by_cases h2 : k = 2
    · have R : Hid (aloneB k n f s c ns m = nofB 0 f s c m) := Lib.hid (by unfold aloneB; rw [if_neg h1, if_pos h2])
      have N1 := N 2 0 f s A c ca B m cb hf
      subst h2
      clear N hns k1 h1
      go_enter Try.func71, Try.ntmps71
      go_wp2_with (go_at_call 103; refine (N1 _).mono ?_; rintro e w3 ⟨rfl, hb3⟩)
      go_ret
      exact ⟨by rw [R.out]; rfl, (hbW _ _).trans (hb3.mono (hsW _ _))⟩
    · have k2 : (k == 2) = false := by simpa using h2
      by_cases h3 : k = 3
      · have R : Hid (aloneB k n f s c ns m = nofB n 0 s c m) := Lib.hid (by unfold aloneB; rw [if_neg h1, if_neg h2, if_pos h3])
        have N1 := N 3 n 0 s A c ca B m cb ok0
        subst h3
        clear N hns k1 h1 k2 h2
        go_enter Try.func71, Try.ntmps71
        go_wp2_with (go_at_call 103; refine (N1 _).mono ?_; rintro e w3 ⟨rfl, hb3⟩)
        go_ret
        exact ⟨by rw [R.out]; rfl, (hbW _ _).trans (hb3.mono (hsW _ _))⟩
      · have k3 : (k == 3) = false := by simpa using h3
        by_cases h4 : k = 4
        · by_cases hl : s.size ≤ 200
          · have R : Hid (aloneB k n f s c ns m = nofB n f ⟨#[]⟩ c m) := Lib.hid (by unfold aloneB; rw [if_neg h1, if_neg h2, if_neg h3, if_pos h4, decide_eq_true hl, Bool.true_and])
            have N1 := N 4 n f ⟨#[]⟩ A c ca B m cb hf
            subst h4
            clear N hns k1 h1 k2 h2 k3 h3
            go_enter Try.func71, Try.ntmps71
            go_wp2_with (go_at_call 103; refine (N1 _).mono ?_; rintro e w3 ⟨rfl, hb3⟩)
            go_ret
            exact ⟨by rw [R.out]; rfl, (hbW _ _).trans (hb3.mono (hsW _ _))⟩
          · have R : Hid (aloneB k n f s c ns m = false) := Lib.hid (by unfold aloneB; rw [if_neg h1, if_neg h2, if_neg h3, if_pos h4, decide_eq_false hl, Bool.false_and])
            subst h4
            clear N hns k1 h1 k2 h2 k3 h3
            go_enter Try.func71, Try.ntmps71
            go_wp2_with fail
            go_ret
            exact ⟨by rw [R.out]; rfl, hbW _ _⟩
        · have k4 : (k == 4) = false := by simpa using h4
          by_cases h5 : k = 5
          · have R : Hid (aloneB k n f s c ns m = nofB n f s c 0) := Lib.hid (by unfold aloneB; rw [if_neg h1, if_neg h2, if_neg h3, if_neg h4, if_pos h5])
            have N1 := N 5 n f s A c ca none 0 0 hf
            subst h5
            clear N hns k1 h1 k2 h2 k3 h3 k4 h4
            go_enter Try.func71, Try.ntmps71
            go_wp2_with (go_at_call 103; refine (N1 _).mono ?_; rintro e w3 ⟨rfl, hb3⟩)
            go_ret
            exact ⟨by rw [R.out]; rfl, (hbW _ _).trans (hb3.mono (hsW _ _))⟩
          · have k5 : (k == 5) = false := by simpa using h5
            by_cases h6 : k = 6
            · have hE : Hid (aloneB k n f s c ns m = ((((c : Int) == (m : Int)) && riseB c ns) && nofB n f s 0 0)) := Lib.hid (by unfold aloneB; rw [if_neg h1, if_neg h2, if_neg h3, if_neg h4, if_neg h5, if_pos h6])
              have N1 := N 6 n f s none 0 0 none 0 0 hf
              have HK := box_stays (w := w) (a0 := .int .i64 6) (a1 := .int .i64 n) (a2 := .float .f64 f) (a3 := .string s) (a4 := .slice A c ca) (a5 := .slice B m cb) (t := 27)
              have HF := box_free (w := w) (a0 := .int .i64 6) (a1 := .int .i64 n) (a2 := .float .f64 f) (a3 := .string s) (a4 := .slice A c ca) (a5 := .slice B m cb) (t := 27)
              have M := names_f (ca := ca) (n := (m : Int)) (strs_keep hns (hbW #[.int .i64 6, .int .i64 n, .float .f64 f, .string s, .slice A c ca, .slice B m cb] 27)) (hsW _ _) hc
              subst h6
              generalize hr : (((c : Int) == (m : Int)) && riseB c ns) = r at *
              clear N hns k1 h1 k2 h2 k3 h3 k4 h4 k5 h5 hr
              cases r with
              | false =>
                go_enter Try.func71, Try.ntmps71
                go_wp2_with (first | (go_at_call 102; refine M.mono ?_; rintro e w1 ⟨rfl, hb1⟩))
                go_ret
                exact ⟨by rw [hE.out]; rfl, (hbW _ _).trans (hb1.mono (hsW _ _))⟩
              | true =>
                have hbig : ∀ w1 : World, Below (w.alloc (.cells #[.int .i64 6, .int .i64 n, .float .f64 f, .string s, .slice A c ca, .slice B m cb] 27)).heap.size (w.alloc (.cells #[.int .i64 6, .int .i64 n, .float .f64 f, .string s, .slice A c ca, .slice B m cb] 27)) w1 → Below w.heap.size w ((w1.setCell ⟨w.heap.size, 4, none⟩ (.slice none 0 0)).setCell ⟨w.heap.size, 5, none⟩ (.slice none 0 0)) := fun w1 hb1 =>
                  (((hbW _ _).trans (hb1.mono (hsW _ _))).setCell (Nat.le_refl _) _).setCell (Nat.le_refl _) _
                go_enter Try.func71, Try.ntmps71
                go_wp2_with (first | (go_at_call 102; refine M.mono ?_; rintro e w1 ⟨rfl, hb1⟩; obtain ⟨q0, q1, q2, q3, q4, q5⟩ := HK.out w1 hb1; have f4 := HF.out w1 hb1 4; have f5 := HF.out w1 hb1 5) | (go_at_call 103; refine (N1 _).mono ?_; rintro e w3 ⟨rfl, hb3⟩))
                go_ret
                exact ⟨by rw [hE.out]; rfl, (hbig w1 hb1).trans (hb3.mono (hbig w1 hb1).size)⟩
            · have k6 : (k == 6) = false := by simpa using h6
              have R : Hid (aloneB k n f s c ns m = false) := Lib.hid (by unfold aloneB; rw [if_neg h1, if_neg h2, if_neg h3, if_neg h4, if_neg h5, if_neg h6])
              clear N hns h1 h2 h3 h4 h5 h6
              go_enter Try.func71, Try.ntmps71
              go_wp2_with fail
              go_ret
              exact ⟨by rw [R.out]; rfl, hbW _ _⟩
end Go.Proofs.Yteclpehbpicpaaa
