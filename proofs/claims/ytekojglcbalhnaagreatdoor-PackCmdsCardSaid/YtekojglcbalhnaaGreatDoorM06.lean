/-
  Contracts of the program's names: isLetter, isDigit, Name, areNames.
  Contracts of the program's small float functions: isNaN, hasMinus, Canon, Neg, Equal, Less, FromInt.
  Keys of floats, plainly (where a seat has not the whole of the laws' facts on floats: the same names).
  Contracts of the program's hasNoFields, isRightAlone.
-/
import Derived.Test.YtekojglcbalhnaaGreatDoorM01
import Derived.Test.YtekojglcbalhnaaGreatDoorM04
import Derived.Test.YtekojglcbalhnaaGreatDoorM05
namespace Go.Proofs.YtekojglcbalhnaaGreatDoor
open Go.RowKit

theorem letter_f (c : UInt8) (w : World) : Calls Tryz.prog 237 #[.int .u8 c.toNat] w fun e w' => e = .returned (.bool (letterB c)) ∧ w = w' := by
  by_cases l1 : 97 ≤ c.toNat
  · by_cases l2 : c.toNat ≤ 122
    · have R : Hid (letterB c = true) := Lib.hid (by unfold letterB; rw [decide_eq_true l1, decide_eq_true l2]; rfl)
      have t1 : decide ((97 : Int) ≤ (c.toNat : Int)) = true := by simp; omega
      have t2 : decide ((c.toNat : Int) ≤ 122) = true := by simp; omega
      clear l1 l2
      go_enter Tryz.func237, Tryz.ntmps237
      go_wp2
      go_ret
      exact ⟨by rw [R.out]; rfl, rfl⟩
    · have R : Hid (letterB c = false) := Lib.hid (by unfold letterB; rw [decide_eq_false l2]; simp)
      have t1 : decide ((97 : Int) ≤ (c.toNat : Int)) = true := by simp; omega
      have t2 : decide ((c.toNat : Int) ≤ 122) = false := by simp; omega
      clear l1 l2
      go_enter Tryz.func237, Tryz.ntmps237
      go_wp2
      go_ret
      exact ⟨by rw [R.out]; rfl, rfl⟩
  · have R : Hid (letterB c = false) := Lib.hid (by unfold letterB; rw [decide_eq_false l1]; rfl)
    have t1 : decide ((97 : Int) ≤ (c.toNat : Int)) = false := by simp; omega
    clear l1
    go_enter Tryz.func237, Tryz.ntmps237
    go_wp2
    go_ret
    exact ⟨by rw [R.out]; rfl, rfl⟩
theorem digit_f (c : UInt8) (w : World) : Calls Tryz.prog 238 #[.int .u8 c.toNat] w fun e w' => e = .returned (.bool (digitB c)) ∧ w = w' := by
  by_cases l1 : 48 ≤ c.toNat
  · by_cases l2 : c.toNat ≤ 57
    · have R : Hid (digitB c = true) := Lib.hid (by unfold digitB; rw [decide_eq_true l1, decide_eq_true l2]; rfl)
      have t1 : decide ((48 : Int) ≤ (c.toNat : Int)) = true := by simp; omega
      have t2 : decide ((c.toNat : Int) ≤ 57) = true := by simp; omega
      clear l1 l2
      go_enter Tryz.func238, Tryz.ntmps238
      go_wp2
      go_ret
      exact ⟨by rw [R.out]; rfl, rfl⟩
    · have R : Hid (digitB c = false) := Lib.hid (by unfold digitB; rw [decide_eq_false l2]; simp)
      have t1 : decide ((48 : Int) ≤ (c.toNat : Int)) = true := by simp; omega
      have t2 : decide ((c.toNat : Int) ≤ 57) = false := by simp; omega
      clear l1 l2
      go_enter Tryz.func238, Tryz.ntmps238
      go_wp2
      go_ret
      exact ⟨by rw [R.out]; rfl, rfl⟩
  · have R : Hid (digitB c = false) := Lib.hid (by unfold digitB; rw [decide_eq_false l1]; rfl)
    have t1 : decide ((48 : Int) ≤ (c.toNat : Int)) = false := by simp; omega
    clear l1
    go_enter Tryz.func238, Tryz.ntmps238
    go_wp2
    go_ret
    exact ⟨by rw [R.out]; rfl, rfl⟩
set_option maxHeartbeats 1000000 in
theorem name_f {s : ByteArray} (hs : s.size ≤ 9223372036854775807) (w : World) : Calls Tryz.prog 217 #[.string s] w fun e w' => e = .returned (.bool (nameB s)) ∧ Below w.heap.size w w' := by
  have L := letter_f
  have D := digit_f
  have hb0 := Below.refl w.heap.size w
  by_cases h1 : s.size < 1
  · have R : Hid (nameB s = false) := Lib.hid (by unfold nameB; rw [decide_eq_false (by omega)]; rfl)
    go_enter Tryz.func217, Tryz.ntmps217
    go_wp2_with fail
    go_ret
    exact ⟨by rw [R.out]; rfl, hb0⟩
  · by_cases h2 : 30 < s.size
    · have R : Hid (nameB s = false) := Lib.hid (by unfold nameB; rw [decide_eq_false (show ¬ s.size ≤ 30 by omega)]; simp)
      go_enter Tryz.func217, Tryz.ntmps217
      go_wp2_with fail
      go_ret
      exact ⟨by rw [R.out]; rfl, hb0⟩
    · have h0 : 0 < s.size := by omega
      obtain ⟨c0, hc0⟩ : ∃ c, s[0] = c := ⟨_, rfl⟩
      have L0 := L c0
      cases hl : letterB c0 with
      | false =>
        have R : Hid (nameB s = false) := Lib.hid (nameB_no h0 (by rw [hc0]; unfold atB; rw [hl]; rfl))
        rw [hl] at L0
        clear hl L D
        go_enter Tryz.func217, Tryz.ntmps217
        go_wp2_with (go_at_call 237; refine (L0 _).mono ?_; rintro e w' ⟨rfl, rfl⟩)
        go_ret
        exact ⟨by rw [R.out]; rfl, hb0⟩
      | true =>
        rw [hl] at L0
        have Z : Hid (atB 0 s[0] = true) := Lib.hid (by rw [hc0]; unfold atB; rw [hl]; rfl)
        clear hl
        go_enter Tryz.func217, Tryz.ntmps217
        go_wp2_with (go_at_call 237; refine (L0 _).mono ?_; rintro e w' ⟨rfl, rfl⟩)
        clear L0 hc0
        go_loopw [20] (fun iv wr => ∃ k : Nat, k ≤ s.size ∧ iv = .int .i64 k ∧ Hid (∀ j (_ : j < k) (h : j < s.size), atB j s[j] = true) ∧ Below w.heap.size w wr) (fun iv _ => s.size - (intOf iv).toNat)
        case atStart => exact ⟨0, Nat.zero_le _, rfl, Lib.hid fun j hj _ => absurd hj (by omega), hb0⟩
        case round =>
          obtain ⟨k, hk, rfl, hh, hb⟩ := hrel
          by_cases hlt : k < s.size
          · obtain ⟨c, hc⟩ : ∃ c, s[k] = c := ⟨_, rfl⟩
            have yes : atB k c = true → Hid (∀ j (_ : j < k + 1) (h : j < s.size), atB j s[j] = true) := fun hy => Lib.hid fun j hj h => by
              by_cases e : j = k
              · subst e; rw [hc]; exact hy
              · exact hh.out j (by omega) h
            have no : atB k c = false → Hid (nameB s = false) := fun hn => Lib.hid (nameB_no hlt (by rw [hc]; exact hn))
            have k0 : k = 0 → Hid (∀ j (_ : j < k + 1) (h : j < s.size), atB j s[j] = true) := fun e => yes (by subst e; rw [← hc]; exact Z.out)
            have Lc := L c
            have Dc := D c
            clear hh Z
            cases l : letterB c with
            | true =>
              have Y := yes (by unfold atB; rw [l]; rfl)
              rw [l] at Lc
              clear yes no k0 l Dc L D
              go_wp2_with (first | (go_at_call 237; refine (Lc _).mono ?_; rintro e w' ⟨rfl, rfl⟩))
              go_roundw
              case rel => exact ⟨k + 1, by omega, by go_num, Y, hb⟩
              case measure => simp [intOf]; omega
            | false =>
              rw [l] at Lc
              cases d : digitB c with
              | true =>
                have Y : Hid (∀ j (_ : j < k + 1) (h : j < s.size), atB j s[j] = true) := by
                  by_cases e : k = 0
                  · exact k0 e
                  · exact yes (by unfold atB; rw [d, decide_eq_true (show 0 < k by omega)]; simp)
                rw [d] at Dc
                clear yes no k0 l d L D
                go_wp2_with (first | (go_at_call 237; refine (Lc _).mono ?_; rintro e w' ⟨rfl, rfl⟩) | (go_at_call 238; refine (Dc _).mono ?_; rintro e w' ⟨rfl, rfl⟩))
                go_roundw
                case rel => exact ⟨k + 1, by omega, by go_num, Y, hb⟩
                case measure => simp [intOf]; omega
              | false =>
                rw [d] at Dc
                by_cases u : c.toNat = 95
                · have Y : Hid (∀ j (_ : j < k + 1) (h : j < s.size), atB j s[j] = true) := by
                    by_cases e : k = 0
                    · exact k0 e
                    · exact yes (by unfold atB; rw [decide_eq_true u, decide_eq_true (show 0 < k by omega)]; simp)
                  have n1 : ((c.toNat : Int) != 95) = false := by simp; omega
                  clear yes no k0 l d u L D
                  go_wp2_with (first | (go_at_call 237; refine (Lc _).mono ?_; rintro e w' ⟨rfl, rfl⟩) | (go_at_call 238; refine (Dc _).mono ?_; rintro e w' ⟨rfl, rfl⟩))
                  go_roundw
                  case rel => exact ⟨k + 1, by omega, by go_num, Y, hb⟩
                  case measure => simp [intOf]; omega
                · have N := no (by unfold atB; rw [l, d, decide_eq_false u]; simp)
                  have n1 : ((c.toNat : Int) != 95) = true := by simp; omega
                  clear yes no k0 l d u L D
                  go_wp2_with (first | (go_at_call 237; refine (Lc _).mono ?_; rintro e w' ⟨rfl, rfl⟩) | (go_at_call 238; refine (Dc _).mono ?_; rintro e w' ⟨rfl, rfl⟩))
                  go_ret
                  exact ⟨by rw [N.out]; rfl, hb⟩
          · have R : Hid (nameB s = true) := Lib.hid (nameB_yes (by omega) (by omega) fun j h => hh.out j (by omega) h)
            clear hh L D Z
            go_wp2_with fail
            go_ret
            exact ⟨by rw [R.out]; rfl, hb⟩
set_option maxHeartbeats 1000000 in
theorem names_f {A : Option Addr} {c ca : Nat} {ns : Nat → ByteArray} {lim : Nat} {w : World} {n : Int} (h1 : Strs w lim A c ns) (hlim : lim ≤ w.heap.size) (hc : c ≤ 9223372036854775807) :
    Calls Tryz.prog 187 #[.slice A c ca, .int .i64 n] w fun e w' => e = .returned (.bool (((c : Int) == n) && riseB c ns)) ∧ Below w.heap.size w w' := by
  have hb0 := Below.refl w.heap.size w
  cases hcn : ((c : Int) == n) with
  | false =>
    have t1 : ((c : Int) != n) = true := by rw [bne, hcn]; rfl
    clear h1
    go_enter Tryz.func187, Tryz.ntmps187
    go_wp2_with fail
    go_ret
    exact ⟨by rw [Bool.false_and]; rfl, hb0⟩
  | true =>
    have t1 : ((c : Int) != n) = false := by rw [bne, hcn]; rfl
    rw [Bool.true_and]
    go_enter Tryz.func187, Tryz.ntmps187
    go_wp2_with fail
    clear t1 hcn
    go_loopw [13] (fun iv wr => ∃ i : Nat, i ≤ c ∧ iv = .int .i64 i ∧ Hid (∀ j, j < i → riseAt ns j = true) ∧ Below w.heap.size w wr) (fun iv _ => c - (intOf iv).toNat)
    case atStart => exact ⟨0, Nat.zero_le _, rfl, Lib.hid fun j hj => absurd hj (by omega), hb0⟩
    case round =>
      obtain ⟨i, hi, rfl, hh, hb⟩ := hrel
      by_cases hlt : i < c
      · obtain ⟨g, o, rfl, hg, hx⟩ := h1 (by omega)
        have x1 : wr.cell? ⟨g, o + i, none⟩ = _ := (hb.cell (p := ⟨g, o + i, none⟩) (show g < _ by omega)).trans (hx i hlt).1
        have T := name_f (s := ns i) (by have := (hx i hlt).2; unfold maxLen at this; exact this)
        have yes : riseAt ns i = true → Hid (∀ j, j < i + 1 → riseAt ns j = true) := fun hy => Lib.hid fun j hj => by
          by_cases e : j = i
          · subst e; exact hy
          · exact hh.out j (by omega)
        have no : riseAt ns i = false → Hid (riseB c ns = false) := fun hn => Lib.hid (riseB_no hlt hn)
        have hgr : g < wr.heap.size := by have := hb.size; omega
        clear hh
        cases hn : nameB (ns i)
        · have N := no (by unfold riseAt; rw [hn]; rfl)
          rw [hn] at T
          clear yes no hx h1 hn
          go_wp2_with (first | (go_at_call 217; refine (T _).mono ?_; rintro e w3 ⟨rfl, hb3⟩))
          go_ret
          exact ⟨by rw [N.out]; rfl, hb.trans (hb3.mono hb.size)⟩
        · rw [hn] at T
          by_cases k0 : i = 0
          · have Y := yes (by unfold riseAt; rw [hn, decide_eq_true k0]; rfl)
            subst k0
            have x1z : wr.cell? ⟨g, o, none⟩ = some (.string (ns 0)) := x1
            clear yes no hx h1 hn x1
            go_wp2_with (first | (go_at_call 217; refine (T _).mono ?_; rintro e w3 ⟨rfl, hb3⟩))
            go_roundw
            case rel => exact ⟨0 + 1, by omega, by go_num, Y, hb.trans (hb3.mono hb.size)⟩
            case measure => simp [intOf]; omega
          · obtain ⟨p, rfl⟩ : ∃ p, i = p + 1 := ⟨i - 1, by omega⟩
            have x0 : wr.cell? ⟨g, o + p, none⟩ = _ := (hb.cell (p := ⟨g, o + p, none⟩) (show g < _ by omega)).trans (hx p (by omega)).1
            cases hless : Op.bytesLess (ns p).toList (ns (p + 1)).toList
            · have N := no (by unfold riseAt lessS; rw [show p + 1 - 1 = p by omega, hless, decide_eq_false (by omega)]; simp)
              clear yes no hx h1 hn
              go_wp2_with (first | (go_at_call 217; refine (T _).mono ?_; rintro e w3 ⟨rfl, hb3⟩; have x0' := (hb3.cell (p := ⟨g, o + p, none⟩) hgr).trans x0))
              go_ret
              exact ⟨by rw [N.out]; rfl, hb.trans (hb3.mono hb.size)⟩
            · have Y := yes (by unfold riseAt lessS; rw [hn, show p + 1 - 1 = p by omega, hless]; simp)
              clear yes no hx h1 hn
              go_wp2_with (first | (go_at_call 217; refine (T _).mono ?_; rintro e w3 ⟨rfl, hb3⟩; have x0' := (hb3.cell (p := ⟨g, o + p, none⟩) hgr).trans x0))
              go_roundw
              case rel => exact ⟨p + 1 + 1, by omega, by go_num, Y, hb.trans (hb3.mono hb.size)⟩
              case measure => simp [intOf]; omega
      · have R : Hid (riseB c ns = true) := Lib.hid (riseB_yes fun i h => hh.out i (by omega))
        clear hh h1
        go_wp2_with fail
        go_ret
        exact ⟨by rw [R.out]; rfl, hb⟩
end Go.Proofs.YtekojglcbalhnaaGreatDoor
namespace Go.Proofs.YtekojglcbalhnaaGreatDoor
open Go.RowKit Ieee

theorem Says.go {f : Nat} {a : Array Value} {v : Value} (h : Says f a v) {w : World} {Q : Ending → World → Prop} (hQ : ∀ e w', e = .returned v ∧ w = w' → Q e w') : Calls Tryz.prog f a w Q := (h w).mono hQ
theorem isNaN_any (b : Nat) : Says 219 #[.float .f64 b] (.bool (nanB b)) := by
  intro w
  have O : ((FloatKind.format .f64).order b b != some Ordering.eq) = nanB b := by
    have h := order_self b
    show (double.order b b != some .eq) = _
    rw [bne, h]
    unfold nanB
    rw [Bool.eq_iff_iff]
    simp
  have O' := Lib.hid O
  clear O
  go_enter Tryz.func219, Tryz.ntmps219
  go_wp2
  go_ret
  rw [O'.out]; exact ⟨rfl, rfl⟩

theorem Canon_f (b : Nat) : Says 189 #[.float .f64 b] (.float .f64 (canonW b)) := by
  intro w
  have H := float_run
  have N := isNaN_any b
  go_enter Tryz.func189, Tryz.ntmps189
  go_wp2_with (first | (go_at_call 219; refine (N _).mono ?_; rintro e w' ⟨rfl, rfl⟩))
  · go_ret
    unfold canonW; rw [if_pos (by assumption)]; exact ⟨rfl, rfl⟩
  · go_ret
    unfold canonW; rw [if_neg (by simp [*])]; exact ⟨rfl, rfl⟩

/-- With the other sign. -/
def negW (b : Nat) : Nat := Op.negFloat .f64 b
theorem xor63 {r : Nat} (h : r < 2 ^ 63) : 2 ^ 63 ^^^ r = 2 ^ 63 + r := by
  apply Nat.eq_of_testBit_eq
  intro i
  rw [Nat.testBit_xor, Nat.testBit_two_pow]
  rcases Nat.lt_trichotomy i 63 with h1 | rfl | h1
  · rw [Nat.testBit_two_pow_add_gt h1, decide_eq_false (by omega), Bool.false_xor]
  · rw [Nat.testBit_two_pow_add_eq, decide_eq_true rfl, Bool.true_xor]
  · have e : 2 ^ 64 ≤ 2 ^ i := Nat.pow_le_pow_right (by omega) (by omega)
    have e64 : (2 : Nat) ^ 64 = 2 ^ 63 + 2 ^ 63 := by omega
    rw [decide_eq_false (by omega), Bool.false_xor, Nat.testBit_lt_two_pow (show r < 2 ^ i by omega), Nat.testBit_lt_two_pow (show 2 ^ 63 + r < 2 ^ i by omega)]
theorem negW_eq {b : Nat} (hb : okW b) : negW b = double.word (!sgn b) (rung b) := by
  unfold negW Op.negFloat
  show b ^^^ 2 ^ 63 = _
  unfold okW at hb
  unfold Format.word sgn rung
  rw [D_sign]
  have e63 : (2 : Nat) ^ 63 = 9223372036854775808 := by decide
  by_cases h : b < 9223372036854775808
  · have e0 : b / 9223372036854775808 % 2 = 0 := by omega
    rw [Nat.xor_comm, xor63 (by omega), e0, e63]
    simp
    omega
  · have e1 : b / 9223372036854775808 % 2 = 1 := by omega
    obtain ⟨r, rfl⟩ : ∃ r, b = 9223372036854775808 + r := ⟨b - 9223372036854775808, by omega⟩
    have hx := xor63 (show r < 2 ^ 63 by omega)
    rw [e63] at hx
    rw [e1, e63, ← hx, Nat.xor_comm, ← Nat.xor_assoc, Nat.xor_self, Nat.zero_xor, hx]
    simp
    omega
theorem neg_run (b : Nat) (W : World) : (Op.unary .neg (.float .f64 b)).run Tryz.prog W = .ok (.float .f64 (negW b)) W := rfl
theorem lt_zero {b : Nat} (h : nanB b = false) : (double.order b 0 == some .lt) = (sgn b && decide (rung b ≠ 0)) := by
  have hb : rung b ≤ 9218868437227405312 := by unfold nanB at h; simpa using h
  rw [order_word hb (by decide)]
  have e : sv 0 = 0 := by decide
  rw [e, Bool.eq_iff_iff]
  simp only [beq_iff_eq, Option.some.injEq, Bool.and_eq_true, decide_eq_true_eq, Int.compare_eq_lt]
  unfold sv
  split
  · rename_i hs; simp [hs]; omega
  · rename_i hs; simp [hs]
theorem eq_zero (b : Nat) : (double.order b 0 == some .eq) = decide (rung b = 0) := by
  by_cases hb : rung b ≤ 9218868437227405312
  · rw [order_word hb (by decide)]
    have e : sv 0 = 0 := by decide
    rw [e, Bool.eq_iff_iff]
    simp only [beq_iff_eq, Option.some.injEq, decide_eq_true_eq, Int.compare_eq_eq]
    unfold sv
    split <;> omega
  · rw [order_nan (.inl (by omega))]
    rw [decide_eq_false (by omega)]
    rfl
/-- One by a zero. -/
theorem one_by {b : Nat} (hb : okW b) (h : rung b = 0) : double.div 4607182418800017408 b = some (double.word (sgn b) 9218868437227405312) := by
  have e : b = 0 ∨ b = 9223372036854775808 := by unfold rung at h; unfold okW at hb; omega
  rcases e with rfl | rfl <;> decide
theorem quo_run {x y r : Nat} (h : double.div x y = some r) (W : World) : (binOp .quo 24 (.float .f64 x) (.float .f64 y)).run Tryz.prog W = .ok (.float .f64 r) W :=
  run_float_arith W .quo 24 .f64 x y r h

def minusB (b : Nat) : Bool := sgn b && !nanB b
theorem hasMinus_any {b : Nat} (hb : okW b) : Says 262 #[.float .f64 b] (.bool (minusB b)) := by
  intro w
  by_cases hn : nanB b = true
  · have L : ((FloatKind.format .f64).order b 0 == some Ordering.lt) = false := by
      show (double.order b 0 == some .lt) = false
      rw [order_nan (.inl (by unfold nanB at hn; simpa using hn))]; rfl
    have E : ((FloatKind.format .f64).order b 0 == some Ordering.eq) = false := by
      show (double.order b 0 == some .eq) = false
      rw [order_nan (.inl (by unfold nanB at hn; simpa using hn))]; rfl
    have R : minusB b = false := by unfold minusB; rw [hn]; simp
    have R' := Lib.hid R
    clear R hn hb
    go_enter Tryz.func262, Tryz.ntmps262
    go_wp2
    go_ret
    rw [R'.out]; exact ⟨rfl, rfl⟩
  · have hn' : nanB b = false := by simpa using hn
    have L : ((FloatKind.format .f64).order b 0 == some Ordering.lt) = (sgn b && decide (rung b ≠ 0)) := lt_zero hn'
    have E : ((FloatKind.format .f64).order b 0 == some Ordering.eq) = decide (rung b = 0) := eq_zero b
    have R : minusB b = sgn b := by unfold minusB; rw [hn']; simp
    have R' := Lib.hid R
    clear R hn hn'
    by_cases hz : rung b = 0
    · have D := quo_run (one_by hb hz)
      rw [decide_eq_true hz] at E
      rw [decide_eq_false (by omega), Bool.and_false] at L
      cases hs : sgn b
      · rw [hs] at D R'
        have L2 : ((FloatKind.format .f64).order (double.word false 9218868437227405312) 0 == some Ordering.lt) = false := by decide
        generalize double.word false 9218868437227405312 = x at *
        clear hb hz hs
        go_enter Tryz.func262, Tryz.ntmps262
        go_wp2
        go_ret
        rw [R'.out]; exact ⟨rfl, rfl⟩
      · rw [hs] at D R'
        have L2 : ((FloatKind.format .f64).order (double.word true 9218868437227405312) 0 == some Ordering.lt) = true := by decide
        generalize double.word true 9218868437227405312 = x at *
        clear hb hz hs
        go_enter Tryz.func262, Tryz.ntmps262
        go_wp2
        go_ret
        rw [R'.out]; exact ⟨rfl, rfl⟩
    · rw [decide_eq_false hz] at E
      rw [decide_eq_true hz, Bool.and_true] at L
      clear hb hz
      cases hs : sgn b
      · rw [hs] at L R'
        clear hs
        go_enter Tryz.func262, Tryz.ntmps262
        go_wp2
        go_ret
        rw [R'.out]; exact ⟨rfl, rfl⟩
      · rw [hs] at L R'
        clear hs
        go_enter Tryz.func262, Tryz.ntmps262
        go_wp2
        go_ret
        rw [R'.out]; exact ⟨rfl, rfl⟩

/-- Which one stands first. -/
def aheadB (a b : Nat) : Bool := if nanB b = true then !nanB a else if rung a = 0 ∧ rung b = 0 then minusB a && !minusB b else (double.order a b == some .lt)
theorem isAhead_any {a b : Nat} (ha : okW a) (hb : okW b) : Says 239 #[.float .f64 a, .float .f64 b] (.bool (aheadB a b)) := by
  intro w
  have N := isNaN_any
  have M1 := hasMinus_any ha
  have M2 := hasMinus_any hb
  have Ea : ((FloatKind.format .f64).order a 0 == some Ordering.eq) = decide (rung a = 0) := eq_zero a
  have Eb : ((FloatKind.format .f64).order b 0 == some Ordering.eq) = decide (rung b = 0) := eq_zero b
  unfold aheadB
  by_cases hn : nanB b = true
  · rw [if_pos hn]
    have Nb := N b
    rw [hn] at Nb
    have Na := N a
    clear N hn M1 M2 Ea Eb ha hb
    go_enter Tryz.func239, Tryz.ntmps239
    go_wp2_with (go_at_call 219; first | ((with_reducible refine Says.go Nb ?_); rintro e w' ⟨rfl, rfl⟩) | ((with_reducible refine Says.go Na ?_); rintro e w' ⟨rfl, rfl⟩))
    go_ret
    exact ⟨rfl, rfl⟩
  · rw [if_neg hn]
    have Nb := N b
    rw [show nanB b = false by simpa using hn] at Nb
    clear N hn ha hb
    by_cases hz : rung a = 0
    · rw [decide_eq_true hz] at Ea
      by_cases hy : rung b = 0
      · rw [decide_eq_true hy] at Eb
        rw [if_pos ⟨hz, hy⟩]
        clear hz hy
        go_enter Tryz.func239, Tryz.ntmps239
        go_wp2_with (first | (go_at_call 219; (with_reducible refine Says.go Nb ?_); rintro e w' ⟨rfl, rfl⟩) | (go_at_call 262; first | ((with_reducible refine Says.go M1 ?_); rintro e w' ⟨rfl, rfl⟩) | ((with_reducible refine Says.go M2 ?_); rintro e w' ⟨rfl, rfl⟩)))
        all_goals (go_ret; refine ⟨?_, rfl⟩; clear M1 M2; simp [*])
      · rw [decide_eq_false hy] at Eb
        rw [if_neg (fun h => hy h.2)]
        clear hz hy M1 M2
        go_enter Tryz.func239, Tryz.ntmps239
        go_wp2_with (go_at_call 219; (with_reducible refine Says.go Nb ?_); rintro e w' ⟨rfl, rfl⟩)
        go_ret
        exact ⟨rfl, rfl⟩
    · rw [decide_eq_false hz] at Ea
      rw [if_neg (fun h => hz h.1)]
      clear hz M1 M2 Eb
      go_enter Tryz.func239, Tryz.ntmps239
      go_wp2_with (go_at_call 219; (with_reducible refine Says.go Nb ?_); rintro e w' ⟨rfl, rfl⟩)
      go_ret
      exact ⟨rfl, rfl⟩

theorem nan_none {b : Nat} (h : nanB b = true) (c : Nat) : double.order b c = none ∧ double.order c b = none :=
  have h' : 9218868437227405312 < rung b := by unfold nanB at h; simpa using h
  ⟨order_nan (.inl h'), order_nan (.inr h')⟩
theorem keyI_nan {b : Nat} (h : nanB b = true) : keyI b = 9223372036854775807 := by unfold keyI; rw [if_pos h]
theorem keyI_num {b : Nat} (hb : okW b) (h : nanB b = false) : keyI b = (if sgn b then -1 - (rung b : Int) else (rung b : Int)) ∧ rung b ≤ 9218868437227405312 := by
  have hr : rung b ≤ 9218868437227405312 := by unfold nanB at h; simpa using h
  refine ⟨?_, hr⟩
  unfold keyI
  rw [if_neg (by rw [h]; exact Bool.false_ne_true)]
  unfold okW at hb
  by_cases hs : sgn b = true
  · rw [if_pos hs, if_pos hs]
    unfold sgn at hs
    unfold rung
    have : b / 9223372036854775808 % 2 = 1 := by simpa using hs
    omega
  · rw [if_neg hs, if_neg hs]
    unfold sgn at hs
    unfold rung
    have : ¬ b / 9223372036854775808 % 2 = 1 := by simpa using hs
    omega
/-- The document's row is the program's. -/
theorem ahead_key {a b : Nat} (ha : okW a) (hb : okW b) : aheadB a b = decide (keyI a < keyI b) := by
  unfold aheadB
  cases hnb : nanB b
  · rw [if_neg (by simp)]
    obtain ⟨kb, rb⟩ := keyI_num hb hnb
    cases hna : nanB a
    · obtain ⟨ka, ra⟩ := keyI_num ha hna
      rw [ka, kb]
      by_cases hz : rung a = 0 ∧ rung b = 0
      · rw [if_pos hz]
        unfold minusB
        rw [hna, hnb, hz.1, hz.2]
        cases sgn a <;> cases sgn b <;> rfl
      · rw [if_neg hz, order_word ra rb, Bool.eq_iff_iff]
        simp only [beq_iff_eq, Option.some.injEq, Int.compare_eq_lt, decide_eq_true_eq]
        unfold sv
        split <;> split <;> omega
    · rw [keyI_nan hna, kb, (nan_none hna b).1]
      have hra : 9218868437227405312 < rung a := by unfold nanB at hna; simpa using hna
      rw [if_neg (by omega), decide_eq_false (by split <;> omega)]
      rfl
  · rw [if_pos rfl, keyI_nan hnb]
    cases hna : nanB a
    · obtain ⟨ka, ra⟩ := keyI_num ha hna
      rw [ka, decide_eq_true (by split <;> omega)]; rfl
    · rw [keyI_nan hna]; rfl

theorem Order_f {a b : Nat} (ha : okW a) (hb : okW b) : Says 218 #[.float .f64 a, .float .f64 b] (.int .i64 (ordI (keyI a) (keyI b))) := by
  intro w
  have A := isAhead_any ha hb
  have B := isAhead_any hb ha
  rw [ahead_key ha hb] at A
  rw [ahead_key hb ha] at B
  clear ha hb
  unfold ordI
  generalize keyI a = x at *
  generalize keyI b = y at *
  go_enter Tryz.func218, Tryz.ntmps218
  go_wp2_with (go_at_call 239; first | ((with_reducible refine Says.go A ?_); rintro e w' ⟨rfl, rfl⟩) | ((with_reducible refine Says.go B ?_); rintro e w' ⟨rfl, rfl⟩))
  all_goals (go_ret; exact ⟨rfl, rfl⟩)
end Go.Proofs.YtekojglcbalhnaaGreatDoor
namespace Go.Proofs.YtekojglcbalhnaaGreatDoor
open Go.RowKit Ieee

theorem canon_nan {b : Nat} (h : nanB b = true) : canonW b = 9221120237041090560 := by unfold canonW; rw [if_pos h]
theorem word_is {a b : Nat} (ha : okW a) (hb : okW b) (hs : sgn a = sgn b) (hr : rung a = rung b) : a = b := by
  have h1 := word_parts a ha
  have h2 := word_parts b hb
  unfold sgn at hs
  unfold rung at hr
  rw [← h1, ← h2, hs, hr]
theorem rung_nan {b : Nat} (h : nanB b = true) : 9218868437227405312 < rung b := by unfold nanB at h; simpa using h
theorem rung_num {b : Nat} (h : nanB b = false) : rung b ≤ 9218868437227405312 := by unfold nanB at h; simpa using h
theorem canon_num {b : Nat} (h : nanB b = false) : canonW b = b := by unfold canonW; rw [if_neg (by rw [h]; exact Bool.false_ne_true)]
/-- Two stand at one place just if they are one, once all NaN are one. -/
theorem same_key {a b : Nat} (ha : okW a) (hb : okW b) : (keyI a = keyI b) ↔ canonW a = canonW b := by
  cases hna : nanB a
  · cases hnb : nanB b
    · obtain ⟨ka, ra⟩ := keyI_num ha hna
      obtain ⟨kb, rb⟩ := keyI_num hb hnb
      rw [ka, kb, canon_num hna, canon_num hnb]
      constructor
      · intro h
        refine word_is ha hb ?_ ?_
        · cases hs : sgn a <;> cases ht : sgn b <;> simp [hs, ht] at h <;> first | rfl | omega
        · cases hs : sgn a <;> cases ht : sgn b <;> simp [hs, ht] at h <;> omega
      · rintro rfl; rfl
    · obtain ⟨ka, ra⟩ := keyI_num ha hna
      rw [ka, keyI_nan hnb, canon_num hna, canon_nan hnb]
      constructor
      · intro h; split at h <;> omega
      · rintro rfl; exact absurd hna (by decide)
  · cases hnb : nanB b
    · obtain ⟨kb, rb⟩ := keyI_num hb hnb
      rw [kb, keyI_nan hna, canon_num hnb, canon_nan hna]
      constructor
      · intro h; split at h <;> omega
      · intro h; rw [← h] at hnb; exact absurd hnb (by decide)
    · rw [keyI_nan hna, keyI_nan hnb, canon_nan hna, canon_nan hnb]
      exact ⟨fun _ => rfl, fun _ => rfl⟩
theorem ord_zero (x y : Int) : ordI x y = 0 ↔ x = y := by unfold ordI; split <;> (try split) <;> omega
end Go.Proofs.YtekojglcbalhnaaGreatDoor
namespace Go.Proofs.YtekojglcbalhnaaGreatDoor
open Go.RowKit

theorem zero_key {f : Nat} (hf : okW f) : (ordI (keyI f) (keyI 0) == 0) = zeroB f := by
  unfold zeroB
  have h0 : okW 0 := by unfold okW; decide
  have h := same_key hf h0
  have hz := ord_zero (keyI f) (keyI 0)
  by_cases e : canonW f = canonW 0
  · rw [decide_eq_true e]; simp [hz.2 (h.2 e)]
  · rw [decide_eq_false e]
    have : ¬ ordI (keyI f) (keyI 0) = 0 := fun hh => e (h.1 (hz.1 hh))
    simp [this]
/-- No field is set but the kind. -/
def nofB (n : Int) (f : Nat) (s : ByteArray) (c m : Nat) : Bool := decide (n = 0) && (zeroB f && (emptyB s && (decide (c = 0) && decide (m = 0))))
set_option maxHeartbeats 1000000 in
theorem nof_f {k n : Int} {f : Nat} {s : ByteArray} {A : Option Addr} {c ca : Nat} {B : Option Addr} {m cb : Nat} (hf : okW f) (w : World) :
    Calls Tryz.prog 188 #[.agg (fields k n f s A c ca B m cb)] w fun e w' => e = .returned (.bool (nofB n f s c m)) ∧ Below w.heap.size w w' := by
  have hb : Below w.heap.size w (w.alloc (.cells (fields k n f s A c ca B m cb) 28)) := (Below.refl _ _).alloc (Nat.le_refl _) _
  have O := Order_f hf (show okW 0 by unfold okW; decide)
  have hz := zero_key hf
  unfold fields at *
  generalize ordI (keyI f) (keyI 0) = q at *
  by_cases hn : n = 0
  · have tn : (n == 0) = true := by simpa using hn
    cases hzf : zeroB f with
    | true =>
      rw [hzf] at hz
      cases hs : emptyB s with
      | true =>
        have ts : s.toList.isEmpty = true := hs
        by_cases hc : c = 0
        · have tc : ((c : Int) == 0) = true := by simp; omega
          by_cases hm : m = 0
          · have tm : ((m : Int) == 0) = true := by simp; omega
            have R : Hid (nofB n f s c m = true) := Lib.hid (by unfold nofB; simp [hn, hzf, hs, hc, hm])
            clear hn hzf hs hc hm hf
            go_enter Tryz.func188, Tryz.ntmps188
            go_wp2_with (go_at_call 218; (with_reducible refine Says.go O ?_); rintro e w' ⟨rfl, rfl⟩)
            go_ret
            exact ⟨by rw [R.out]; rfl, hb⟩
          · have tm : ((m : Int) == 0) = false := by simp; omega
            have R : Hid (nofB n f s c m = false) := Lib.hid (by unfold nofB; simp [hm])
            clear hn hzf hs hc hm hf
            go_enter Tryz.func188, Tryz.ntmps188
            go_wp2_with (go_at_call 218; (with_reducible refine Says.go O ?_); rintro e w' ⟨rfl, rfl⟩)
            go_ret
            exact ⟨by rw [R.out]; rfl, hb⟩
        · have tc : ((c : Int) == 0) = false := by simp; omega
          have R : Hid (nofB n f s c m = false) := Lib.hid (by unfold nofB; simp [hc])
          clear hn hzf hs hc hf
          go_enter Tryz.func188, Tryz.ntmps188
          go_wp2_with (go_at_call 218; (with_reducible refine Says.go O ?_); rintro e w' ⟨rfl, rfl⟩)
          go_ret
          exact ⟨by rw [R.out]; rfl, hb⟩
      | false =>
        have ts : s.toList.isEmpty = false := hs
        have R : Hid (nofB n f s c m = false) := Lib.hid (by unfold nofB; simp [hs])
        clear hn hzf hs hf
        go_enter Tryz.func188, Tryz.ntmps188
        go_wp2_with (go_at_call 218; (with_reducible refine Says.go O ?_); rintro e w' ⟨rfl, rfl⟩)
        go_ret
        exact ⟨by rw [R.out]; rfl, hb⟩
    | false =>
      rw [hzf] at hz
      have R : Hid (nofB n f s c m = false) := Lib.hid (by unfold nofB; simp [hzf])
      clear hn hzf hf
      go_enter Tryz.func188, Tryz.ntmps188
      go_wp2_with (go_at_call 218; (with_reducible refine Says.go O ?_); rintro e w' ⟨rfl, rfl⟩)
      go_ret
      exact ⟨by rw [R.out]; rfl, hb⟩
  · have tn : (n == 0) = false := by simpa using hn
    have R : Hid (nofB n f s c m = false) := Lib.hid (by unfold nofB; simp [hn])
    clear hn hf
    go_enter Tryz.func188, Tryz.ntmps188
    go_wp2_with fail
    go_ret
    exact ⟨by rw [R.out]; rfl, hb⟩
end Go.Proofs.YtekojglcbalhnaaGreatDoor
