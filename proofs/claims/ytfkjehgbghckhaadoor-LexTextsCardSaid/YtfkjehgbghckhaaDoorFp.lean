/-
  Contracts of the program's parseDigits, powerOfTwo, scale.
-/
import Derived.Test.YtfkjehgbghckhaaDoorFt
import Derived.Lib.ItoaNum
namespace Go.Proofs.YtfkjehgbghckhaaDoor
open Go.RowKit Ieee

/-- Digits as the program reads them: a number that is too great grows no further. -/
def pdN (l : List UInt8) : Nat := l.foldl (fun n c => if n ≤ 9007199254740992 then n * 10 + (c.toNat - 48) else n) 0
/-- Digits as a number. -/
def numN (l : List UInt8) : Nat := l.foldl (fun n c => n * 10 + (c.toNat - 48)) 0
theorem pdN_snoc (l : List UInt8) (c : UInt8) : pdN (l ++ [c]) = if pdN l ≤ 9007199254740992 then pdN l * 10 + (c.toNat - 48) else pdN l := by
  unfold pdN; rw [List.foldl_append]; rfl
theorem numN_snoc (l : List UInt8) (c : UInt8) : numN (l ++ [c]) = numN l * 10 + (c.toNat - 48) := by
  unfold numN; rw [List.foldl_append]; rfl
theorem snoc_ind {P : List UInt8 → Prop} (h0 : P []) (h1 : ∀ l c, P l → P (l ++ [c])) (l : List UInt8) : P l := by
  have : ∀ n, ∀ l : List UInt8, l.length = n → P l := by
    intro n
    induction n with
    | zero => intro l hl; rw [List.length_eq_zero_iff.1 hl]; exact h0
    | succ n ih =>
      intro l hl
      rcases l.eq_nil_or_concat with rfl | ⟨a, b, rfl⟩
      · exact h0
      · simpa using h1 a b (ih a (by simp at hl; omega))
  exact this _ l rfl
theorem capN_num (l : List UInt8) : capN l = min (numN l) 576460752303423488 := by
  induction l using snoc_ind with
  | h0 => rfl
  | h1 l c ih => rw [capN_snoc, numN_snoc, ih]; omega
theorem pdN_num (l : List UInt8) : pdN l = numN l ∨ (9007199254740992 < pdN l ∧ 9007199254740992 < numN l) := by
  induction l using snoc_ind with
  | h0 => exact .inl rfl
  | h1 l c ih => rw [pdN_snoc, numN_snoc]; split <;> omega
theorem pdN_le (l : List UInt8) (h : l.all isD = true) : pdN l ≤ 90071992547409929 := by
  induction l using snoc_ind with
  | h0 => unfold pdN; simp
  | h1 l c ih =>
    rw [List.all_append, Bool.and_eq_true] at h
    have hc : isD c = true := by simpa using h.2
    unfold isD at hc
    rw [Bool.and_eq_true, decide_eq_true_eq, decide_eq_true_eq] at hc
    have := ih h.1
    rw [pdN_snoc]
    split <;> omega
theorem numN_lt (l : List UInt8) (h : l.all isD = true) : numN l < 10 ^ l.length := by
  induction l using snoc_ind with
  | h0 => unfold numN; simp
  | h1 l c ih =>
    rw [List.all_append, Bool.and_eq_true] at h
    have hc : isD c = true := by simpa using h.2
    unfold isD at hc
    rw [Bool.and_eq_true, decide_eq_true_eq, decide_eq_true_eq] at hc
    have := ih h.1
    rw [numN_snoc, List.length_append, List.length_singleton, Nat.pow_succ]
    omega
theorem madeT_pd (neg : Bool) (l : List UInt8) (e : Int) : madeT neg (pdN l) e = madeT neg (capN l) e := by
  rw [capN_num]
  rcases pdN_num l with h | h
  · by_cases hb : numN l ≤ 9007199254740992
    · rw [h, Nat.min_eq_left (by omega)]
    · unfold madeT; rw [if_pos (by omega), if_pos (by omega)]
  · unfold madeT; rw [if_pos (by omega), if_pos (by omega)]
theorem pd_short {l : List UInt8} (h : l.all isD = true) (hl : l.length ≤ 4) : pdN l = capN l ∧ capN l ≤ 9999 := by
  have h1 := numN_lt l h
  have h2 : 10 ^ l.length ≤ 10 ^ 4 := Nat.pow_le_pow_right (by omega) hl
  have e4 : 10 ^ 4 = 10000 := by decide
  rw [capN_num]
  rcases pdN_num l with h3 | h3 <;> omega

/-- From 1 to so many digits, and nothing else? -/
def okD (l : List UInt8) (most : Nat) : Bool := decide (1 ≤ l.length) && decide (l.length ≤ most) && l.all isD
def pdV (l : List UInt8) (most : Nat) : Value := if okD l most = true then .tuple #[.int .u64 (pdN l : Nat), .bool true] else .tuple #[.int .u64 0, .bool false]
theorem pdV_no {l : List UInt8} {most : Nat} (h : okD l most = false) : pdV l most = .tuple #[.int .u64 0, .bool false] := by unfold pdV; rw [if_neg (by simp [h])]

theorem digits_short {s : ByteArray} {most : Nat} (h : s.size < 1) : Says 72 #[.string s, .int .i64 most] (pdV s.data.toList most) := by
  intro w
  have R := Lib.hid (pdV_no (l := s.data.toList) (most := most) (by unfold okD; rw [decide_eq_false (show ¬ 1 ≤ s.data.toList.length by rw [show s.data.toList.length = s.size from Array.length_toList]; omega)]; rfl))
  go_enter Tryd.func72, Tryd.ntmps72
  go_wp2
  go_ret2
  rw [R.out]; exact ⟨rfl, rfl⟩
theorem digits_long {s : ByteArray} {most : Nat} (h : ¬ s.size < 1) (h2 : most < s.size) : Says 72 #[.string s, .int .i64 most] (pdV s.data.toList most) := by
  intro w
  have R := Lib.hid (pdV_no (l := s.data.toList) (most := most) (by unfold okD; rw [decide_eq_false (show ¬ s.data.toList.length ≤ most by simp; omega)]; simp))
  go_enter Tryd.func72, Tryd.ntmps72
  go_wp2
  go_ret2
  rw [R.out]; exact ⟨rfl, rfl⟩
theorem digits_in {s : ByteArray} {most : Nat} (h : ¬ s.size < 1) (h2 : ¬ most < s.size) (hm : most ≤ 20) : Says 72 #[.string s, .int .i64 most] (pdV s.data.toList most) := by
  intro w
  go_enter Tryd.func72, Tryd.ntmps72
  go_wp2
  go_loop [4, 18] (fun nv kv => ∃ (k n : Nat), k ≤ s.size ∧ kv = .int .i64 k ∧ nv = .int .u64 n ∧ Hid (n = pdN (s.data.toList.take k) ∧ (s.data.toList.take k).all isD = true)) (fun _ kv => s.size - (intOf kv).toNat)
  case atStart => exact ⟨0, 0, Nat.zero_le _, rfl, rfl, Lib.hid ⟨rfl, rfl⟩⟩
  case round =>
    obtain ⟨k, n, hk, rfl, rfl, hh⟩ := hrel
    have hn := Lib.hid (show n ≤ 90071992547409929 by rw [hh.out.1]; exact pdN_le _ hh.out.2)
    by_cases hlt : k < s.size
    · obtain ⟨c, hc⟩ : ∃ c, s[k] = c := ⟨_, rfl⟩
      have hsn := take_snoc s k hlt
      rw [hc] at hsn
      have hno : isD c = false → Hid (pdV s.data.toList most = .tuple #[.int .u64 0, .bool false]) := fun hd => Lib.hid (pdV_no (by
        have hg := get_opt s k hlt
        rw [hc] at hg
        have : s.data.toList.all isD = false := by
          rw [List.all_eq_false]
          exact ⟨c, List.mem_of_getElem? hg, by simp [hd]⟩
        unfold okD; rw [this]; simp))
      by_cases c1 : 48 ≤ c.toNat
      · by_cases c2 : c.toNat ≤ 57
        · have D : IntKind.u8.wrap ((c.toNat : Int) - 48) = ((c.toNat - 48 : Nat) : Int) := by rw [IntKind.wrap_u8]; omega
          have T1 : decide ((c.toNat : Int) < 48) = false := by simp; omega
          have T2 : decide ((57 : Int) < (c.toNat : Int)) = false := by simp; omega
          have hall : (s.data.toList.take (k + 1)).all isD = true := by rw [hsn, List.all_append, hh.out.2]; simp [isD, c1, c2]
          have hstep : pdN (s.data.toList.take (k + 1)) = if n ≤ 9007199254740992 then n * 10 + (c.toNat - 48) else n := by rw [hsn, pdN_snoc, ← hh.out.1]
          by_cases hg : n ≤ 9007199254740992
          · rw [if_pos hg] at hstep
            have h6 := Lib.hid (And.intro hstep.symm hall)
            have G : decide ((n : Int) ≤ 9007199254740992) = true := by simp; omega
            have W2 := Lib.hid (show IntKind.u64.wrap (IntKind.u64.wrap ((n : Int) * 10) + ((c.toNat - 48 : Nat) : Int)) = ((n * 10 + (c.toNat - 48) : Nat) : Int) by rw [IntKind.wrap_u64, IntKind.wrap_u64]; have := hn.out; omega)
            clear hsn hh hno hall hstep hg
            go_wp2
            go_round
            case rel => exact ⟨k + 1, _, by omega, by go_num, by rw [W2.out], h6⟩
            case measure => simp [intOf]; omega
          · rw [if_neg hg] at hstep
            have h6 := Lib.hid (And.intro hstep.symm hall)
            have G : decide ((n : Int) ≤ 9007199254740992) = false := by simp; omega
            clear hsn hh hno hall hstep hg
            go_wp2
            go_round
            case rel => exact ⟨k + 1, n, by omega, by go_num, rfl, h6⟩
            case measure => simp [intOf]; omega
        · have R := hno (by simp [isD]; omega)
          have T1 : decide ((c.toNat : Int) < 48) = false := by simp; omega
          have T2 : decide ((57 : Int) < (c.toNat : Int)) = true := by simp; omega
          clear hsn hh hno
          go_wp2
          go_ret2
          exact ⟨by rw [R.out]; rfl, rfl⟩
      · have R := hno (by simp [isD]; omega)
        have T1 : decide ((c.toNat : Int) < 48) = true := by simp; omega
        clear hsn hh hno
        go_wp2
        go_ret2
        exact ⟨by rw [R.out]; rfl, rfl⟩
    · have R : Hid (pdV s.data.toList most = .tuple #[.int .u64 n, .bool true]) := Lib.hid (by
        have e : s.data.toList.take k = s.data.toList := List.take_of_length_le (by simp; omega)
        have h3 := hh.out
        rw [e] at h3
        unfold pdV okD
        rw [decide_eq_true (show 1 ≤ s.data.toList.length by simp; omega), decide_eq_true (show s.data.toList.length ≤ most by simp; omega), h3.2, ← h3.1]
        rfl)
      clear hh
      go_wp2
      go_ret2
      exact ⟨by rw [R.out]; rfl, rfl⟩
theorem digits_any {s : ByteArray} {most : Nat} (hm : most ≤ 20) : Says 72 #[.string s, .int .i64 most] (pdV s.data.toList most) := by
  by_cases h : s.size < 1
  · exact digits_short h
  · by_cases h2 : most < s.size
    · exact digits_long h h2
    · exact digits_in h h2 hm

/-- A power of two as a word. -/
theorem power_word {P : Int} (h1 : -1074 ≤ P) (h2 : P ≤ 1023) : double.nearest false 1 P = if P + 1074 < 52 then 2 ^ (P + 1074).toNat else (P + 1023).toNat * 4503599627370496 := by
  have e1 : (1 : Nat).log2 = 0 := by decide
  rw [(nearest_just false (show 0 < 1 by omega) (by omega) h1 (by rw [e1]; omega)).1]
  unfold Format.word lastOf
  rw [e1]
  simp only [Bool.false_eq_true, if_false, Nat.one_mul]
  split
  · rw [show max (P + ((0 : Nat) : Int) - 52) (-1074) = -1074 by omega, show (-1074 + 1074 : Int).toNat = 0 by decide, Nat.zero_mul, Nat.zero_add, show P - -1074 = P + 1074 by omega]
  · have e52 : (2 : Nat) ^ 52 = 4503599627370496 := by decide
    rw [show max (P + ((0 : Nat) : Int) - 52) (-1074) = P - 52 by omega, show (P - (P - 52)).toNat = 52 by omega, e52, show (P + 1023).toNat = (P - 52 + 1074).toNat + 1 by omega, Nat.add_mul, Nat.one_mul]
theorem power_any {P : Int} (h1 : -1074 ≤ P) (h2 : P ≤ 1023) : Says 83 #[.int .i64 P] (.float .f64 (double.nearest false 1 P)) := by
  intro w
  have H := float_run
  rw [power_word h1 h2]
  by_cases h : P + 1074 < 52
  · rw [if_pos h]
    obtain ⟨k, rfl, hk⟩ : ∃ k : Nat, P = (k : Int) - 1074 ∧ k < 52 := ⟨(P + 1074).toNat, by omega, by omega⟩
    clear h h1 h2
    go_enter Tryd.func83, Tryd.ntmps83
    go_wp2
    go_ret
    have hp : 2 ^ k < 2 ^ 52 := Nat.pow_lt_pow_right (by omega) hk
    have e52 : (2 : Nat) ^ 52 = 4503599627370496 := by decide
    have e : (IntKind.u64.wrap (2 ^ k)).toNat = 2 ^ ((k : Int) - 1074 + 1074).toNat := by
      rw [show ((k : Int) - 1074 + 1074).toNat = k by omega, show (2 : Int) ^ k = ((2 ^ k : Nat) : Int) by rw [Int.natCast_pow]; rfl, IntKind.wrap_u64]
      generalize 2 ^ k = x at *
      omega
    exact ⟨congrArg (fun x => Ending.returned (.float .f64 x)) e, rfl⟩
  · rw [if_neg h]
    go_enter Tryd.func83, Tryd.ntmps83
    go_wp2
    go_ret
    have e : ((P + 1074 - 52 + 1) * 4503599627370496).toNat = (P + 1023).toNat * 4503599627370496 := by omega
    exact ⟨congrArg (fun x => Ending.returned (.float .f64 x)) e, rfl⟩

/-- An odd number times a power of two is just the float nearest to that. -/
theorem scale_mul {o : Nat} {P : Int} (ho : 0 < o) (ho2 : o < 9007199254740992) (h1 : -1074 ≤ P) (h2 : P + (o.log2 : Int) ≤ 1023) :
    double.mul (double.nearest false o 0) (double.nearest false 1 P) = some (double.nearest false o P) := by
  have e1 : (1 : Nat).log2 = 0 := by decide
  obtain ⟨k, hr, hk⟩ := read_ib (n := (o : Int)) (by omega)
  have hib : ib (o : Int) = double.nearest false o 0 := by unfold ib; rw [decide_eq_false (by omega)]; rfl
  rw [hib, decide_eq_false (by omega), Int.natAbs_natCast] at hr
  obtain ⟨_, hq, hl⟩ := nearest_just false (show 0 < 1 by omega) (by omega) h1 (by rw [e1]; omega)
  unfold Format.mul
  rw [hr, hq]
  show some (double.nearest (false ^^ false) (o * 2 ^ k * (1 * 2 ^ (P - lastOf 1 P).toNat)) (-(k : Int) + lastOf 1 P)) = _
  have e : o * 2 ^ k * (1 * 2 ^ (P - lastOf 1 P).toNat) = o * 2 ^ (k + (P - lastOf 1 P).toNat) := by rw [Nat.one_mul, Nat.pow_add, Nat.mul_assoc]
  rw [e, show -(k : Int) + lastOf 1 P = P - ((k + (P - lastOf 1 P).toNat : Nat) : Int) by omega, nearest_shift]
  rfl
theorem bitLen_log {o : Nat} (ho : 0 < o) (ho2 : o < 18446744073709551616) : Lib.bitLen o = o.log2 + 1 := by
  unfold Lib.bitLen
  obtain ⟨h1, h2, h3⟩ := Lib.bitLenAux_bounds 64 o (by omega) (by omega)
  have := log2_eq (n := o) (k := Lib.bitLenAux 64 o - 1) h2 (by rw [show Lib.bitLenAux 64 o - 1 + 1 = Lib.bitLenAux 64 o by omega]; exact h3)
  omega

theorem scale_big {n : Nat} (e : Int) (h : 9007199254740992 < n) : Says 73 #[.int .u64 n, .int .i64 e] (madeT false n e) := by
  intro w
  have R := Lib.hid (show madeT false n e = .tuple #[.float .f64 0, .int .i64 3] by unfold madeT; rw [if_pos h])
  have T : decide ((9007199254740992 : Int) < (n : Int)) = true := by simp; omega
  clear h
  go_enter Tryd.func73, Tryd.ntmps73
  go_wp2
  go_ret2
  rw [R.out]; exact ⟨rfl, rfl⟩
theorem scale_zero (e : Int) : Says 73 #[.int .u64 0, .int .i64 e] (madeT false 0 e) := by
  intro w
  have R := Lib.hid (show madeT false 0 e = .tuple #[.float .f64 0, .int .i64 0] by unfold madeT; rw [if_neg (by omega), if_pos rfl]; rfl)
  go_enter Tryd.func73, Tryd.ntmps73
  go_wp2
  go_ret2
  rw [R.out]; exact ⟨rfl, rfl⟩
theorem scale_some {n : Nat} {e : Int} (h0 : 0 < n) (h : n ≤ 9007199254740992) (he : -100000 ≤ e ∧ e ≤ 100000) {w : World} (ht : Tabs w) : Calls Tryd.prog 73 #[.int .u64 n, .int .i64 e] w fun x w' => x = .returned (madeT false n e) ∧ w = w' := by
  have R := Lib.hid (show madeT false n e = madeV false (oddOf n) (e + twos n) by unfold madeT; rw [if_neg (by omega), if_neg (by omega)])
  have T1 : decide ((9007199254740992 : Int) < (n : Int)) = false := by simp; omega
  have T2 : ((n : Int) == 0) = false := by simp; omega
  have M := makeOdd_any h0 (by omega) he ht
  have ho := oddOf_pos h0
  have ho1 := oddOf_is h0
  have ho2 := oddOf_le n
  obtain ⟨_, _, ht64⟩ := ctz_twos h0 (show n < 18446744073709551616 by omega)
  have hodd : oddOf n < 9007199254740992 := by omega
  have L := lib_bits_Len64 (oddOf n) w (by omega) (by omega)
  rw [Int.toNat_natCast, bitLen_log ho (by omega)] at L
  have hlog : (oddOf n).log2 < 53 := (Nat.log2_lt (by omega)).2 (by omega)
  obtain ⟨P, hP⟩ : ∃ P : Int, Hid (P = e + twos n) := ⟨_, Lib.hid rfl⟩
  have hPb : -100000 ≤ P ∧ P ≤ 100100 := by have := hP.out; omega
  rw [← hP.out] at M R
  have K := @scale_mul (oddOf n) P ho hodd
  have Q := @power_any P
  have L' : Calls Tryd.prog 82 #[.int .u64 (oddOf n : Nat)] w fun x w' => x = .returned (.int .i64 ((oddOf n).log2 + 1 : Nat)) ∧ w = w' := L.mono fun x w' h => ⟨h.1, h.2.symm⟩
  clear L ho1 ho2 hP ht64 he h0 h ht
  generalize oddOf n = o at *
  by_cases c1 : P < -1074
  · have R2 : Hid (madeT false n e = .tuple #[.float .f64 0, .int .i64 3]) := Lib.hid (by rw [R.out]; unfold madeV; rw [if_neg (by omega)])
    clear R K Q L'
    go_enter Tryd.func73, Tryd.ntmps73
    go_wp2_with (go_at_call 81; refine M.mono ?_; rintro e w' ⟨rfl, rfl⟩)
    go_ret2
    rw [R2.out]; exact ⟨rfl, rfl⟩
  · by_cases c2 : 1024 < P + ((o.log2 : Int) + 1)
    · have R2 : Hid (madeT false n e = .tuple #[.float .f64 0, .int .i64 3]) := Lib.hid (by rw [R.out]; unfold madeV; rw [if_neg (by omega)])
      clear R K Q
      go_enter Tryd.func73, Tryd.ntmps73
      go_wp2_with (first | (go_at_call 81; refine M.mono ?_; rintro e w' ⟨rfl, rfl⟩) | (go_at_call 82; refine L'.mono ?_; rintro e w' ⟨rfl, rfl⟩))
      go_ret2
      rw [R2.out]; exact ⟨rfl, rfl⟩
    · have R2 : Hid (madeT false n e = .tuple #[.float .f64 (double.nearest false o P), .int .i64 0]) := Lib.hid (by rw [R.out]; unfold madeV; rw [if_pos (by omega)])
      have X := fun W => run_float_arith (P := Tryd.prog) W .mul 28 .f64 (double.nearest false o 0) (double.nearest false 1 P) _ (K (by omega) (by omega))
      have F : floatOfInt .f64 (o : Int) = double.nearest false o 0 := by
        show double.nearest (decide ((o : Int) < 0)) (o : Int).natAbs 0 = _
        rw [decide_eq_false (by omega)]; rfl
      rw [← F] at X
      have Q' := Q (by omega) (by omega)
      clear R K Q F
      generalize double.nearest false 1 P = pw at *
      generalize double.nearest false o P = r at *
      go_enter Tryd.func73, Tryd.ntmps73
      go_wp2_with (first | (go_at_call 81; refine M.mono ?_; rintro e w' ⟨rfl, rfl⟩) | (go_at_call 82; refine L'.mono ?_; rintro e w' ⟨rfl, rfl⟩) | (go_at_call 83; (with_reducible refine Says.go Q' ?_); rintro e w' ⟨rfl, rfl⟩))
      go_ret2
      rw [R2.out]; exact ⟨rfl, rfl⟩
theorem scale_any {n : Nat} {e : Int} (he : -100000 ≤ e ∧ e ≤ 100000) {w : World} (ht : Tabs w) : Calls Tryd.prog 73 #[.int .u64 n, .int .i64 e] w fun x w' => x = .returned (madeT false n e) ∧ w = w' := by
  by_cases h : 9007199254740992 < n
  · exact scale_big e h w
  · by_cases hz : n = 0
    · subst hz; exact scale_zero e w
    · exact scale_some (by omega) (by omega) he ht
end Go.Proofs.YtfkjehgbghckhaaDoor
