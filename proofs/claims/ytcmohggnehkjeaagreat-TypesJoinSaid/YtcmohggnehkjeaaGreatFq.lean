/-
  Contracts of strings.Cut at one byte, and of the program's parseSize and Parse.
-/
import Derived.Test.YtcmohggnehkjeaaGreatFp
import Derived.Lib.IndexLaws
namespace Go.Proofs.YtcmohggnehkjeaaGreat
open Go.RowKit Ieee

/-- What stands ahead of the first p, and behind it. -/
def leftL (l : List UInt8) : List UInt8 := l.takeWhile (fun c => c != 112)
def rightL (l : List UInt8) : List UInt8 := (l.dropWhile (fun c => c != 112)).drop 1
theorem left_right_at : ∀ {l : List UInt8} {k : Nat}, l[k]? = some 112 → (∀ (j : Nat), j < k → l[j]? ≠ some 112) → leftL l = l.take k ∧ rightL l = l.drop (k + 1)
  | [], k, h, _ => by simp at h
  | b :: l, 0, h, _ => by
    have hb : b = 112 := by simpa using h
    subst hb
    simp [leftL, rightL]
  | b :: l, k + 1, h, hn => by
    have hb : b ≠ 112 := fun e => hn 0 (by omega) (by simp [e])
    have ih := left_right_at (l := l) (k := k) (by simpa using h) (fun j hj e => hn (j + 1) (by omega) (by simpa using e))
    unfold leftL rightL at *
    simp only [List.takeWhile_cons, List.dropWhile_cons, bne_iff_ne, ne_eq, hb, not_false_eq_true, if_true, ih.1, ih.2]
    exact ⟨rfl, rfl⟩
theorem left_right_no : ∀ {l : List UInt8}, (∀ (j : Nat), l[j]? ≠ some 112) → leftL l = l ∧ rightL l = []
  | [], _ => by simp [leftL, rightL]
  | b :: l, hn => by
    have hb : b ≠ 112 := fun e => hn 0 (by simp [e])
    have ih := left_right_no (l := l) (fun (j : Nat) e => hn (j + 1) (by simpa using e))
    unfold leftL rightL at *
    simp only [List.takeWhile_cons, List.dropWhile_cons, bne_iff_ne, ne_eq, hb, not_false_eq_true, if_true, ih.1, ih.2]
    exact ⟨trivial, trivial⟩
theorem ext_take (l : List UInt8) (k : Nat) : (strL l).extract 0 k = strL (l.take k) := by
  rw [Lib.extract_eq]
  show (⟨((l.drop 0).take (k - 0)).toArray⟩ : ByteArray) = _
  rw [List.drop_zero, Nat.sub_zero]
  rfl
theorem ext_drop (l : List UInt8) (k : Nat) : (strL l).extract k (strL l).size = strL (l.drop k) := by
  rw [Lib.extract_eq]
  show (⟨((l.drop k).take (l.length - k)).toArray⟩ : ByteArray) = _
  rw [List.take_of_length_le (by simp)]
  rfl
/-- What stands behind the p, without a minus. -/
def belowB (l : List UInt8) : Bool := Lib.hasPrefix (rightL l) [45]
def bodyL (l : List UInt8) : List UInt8 := Lib.trimPrefix (rightL l) [45]
def sgnI (b : Bool) (n : Nat) : Int := if b = true then -(n : Int) else (n : Int)
def bodyV (neg : Bool) (l : List UInt8) : Value := if okD (leftL l) 20 = true ∧ okD (bodyL l) 4 = true then madeT neg (capN (leftL l)) (sgnI (belowB l) (capN (bodyL l))) else .tuple #[.float .f64 0, .int .i64 5]
def sizeV (neg : Bool) (l : List UInt8) : Value := if l = [105, 110, 102] then .tuple #[.float .f64 (double.word neg 9218868437227405312), .int .i64 0] else bodyV neg l
def parseV (l : List UInt8) : Value := if l = [110, 97, 110] then .tuple #[.float .f64 9221120237041090560, .int .i64 0] else sizeV (Lib.hasPrefix l [45]) (Lib.trimPrefix l [45])

/-- Sign aside, a number's nearest word is one. -/
theorem nearest_sign (m : Nat) (p : Int) : ∃ r, r < 9223372036854775808 ∧ ∀ neg, double.nearest neg m p = double.word neg r := by
  unfold Format.nearest
  by_cases h : m = 0
  · exact ⟨0, by omega, fun neg => by rw [if_pos h]⟩
  · simp only [if_neg h]
    exact ⟨min ((max (p + (m.log2 : Int) - (double.fractionBits : Int)) double.leastPlace - double.leastPlace).toNat * double.binade + Toward.even.cut false (m <<< (p - max (p + (m.log2 : Int) - (double.fractionBits : Int)) double.leastPlace).toNat) (max (p + (m.log2 : Int) - (double.fractionBits : Int)) double.leastPlace - p).toNat) double.infRung, by rw [D_inf]; omega, fun neg => rfl⟩
theorem word_neg {r : Nat} (h : r < 9223372036854775808) : double.word true r = negW (double.word false r) ∧ okW (double.word false r) := by
  have h1 := word_sgn false h
  refine ⟨?_, h1.2.2⟩
  rw [negW_eq h1.2.2, h1.1, h1.2.1]; rfl
/-- V is an answer without a minus, U the one with it. -/
def Turned (V U : Value) : Prop := ∃ (x : Nat) (y : Int), V = .tuple #[.float .f64 x, .int .i64 y] ∧ ((y = 0 ∧ okW x ∧ U = .tuple #[.float .f64 (negW x), .int .i64 0]) ∨ (y ≠ 0 ∧ x = 0 ∧ U = V))
theorem turned_word {r : Nat} (h : r < 9223372036854775808) : Turned (.tuple #[.float .f64 (double.word false r), .int .i64 0]) (.tuple #[.float .f64 (double.word true r), .int .i64 0]) :=
  ⟨_, 0, rfl, .inl ⟨rfl, (word_neg h).2, by rw [(word_neg h).1]⟩⟩
theorem turned_err {y : Int} (h : y ≠ 0) : Turned (.tuple #[.float .f64 0, .int .i64 y]) (.tuple #[.float .f64 0, .int .i64 y]) := ⟨0, y, rfl, .inr ⟨h, rfl, rfl⟩⟩
theorem turned_made (n : Nat) (e : Int) : Turned (madeT false n e) (madeT true n e) := by
  unfold madeT
  by_cases h1 : 9007199254740992 < n
  · rw [if_pos h1, if_pos h1]; exact turned_err (by decide)
  · rw [if_neg h1, if_neg h1]
    by_cases h2 : n = 0
    · rw [if_pos h2, if_pos h2]; exact turned_word (by omega)
    · rw [if_neg h2, if_neg h2]
      unfold madeV
      by_cases h3 : -1074 ≤ e + twos n ∧ e + twos n + ((oddOf n).log2 : Int) ≤ 1023
      · rw [if_pos h3, if_pos h3]
        obtain ⟨r, hr, hw⟩ := nearest_sign (oddOf n) (e + twos n)
        rw [hw, hw]; exact turned_word hr
      · rw [if_neg h3, if_neg h3]; exact turned_err (by decide)
theorem turned_size (l : List UInt8) : Turned (sizeV false l) (sizeV true l) := by
  unfold sizeV
  by_cases h : l = [105, 110, 102]
  · rw [if_pos h, if_pos h]; exact turned_word (by omega)
  · rw [if_neg h, if_neg h]
    unfold bodyV
    by_cases h2 : okD (leftL l) 20 = true ∧ okD (bodyL l) 4 = true
    · rw [if_pos h2, if_pos h2]; exact turned_made _ _
    · rw [if_neg h2, if_neg h2]; exact turned_err (by decide)

theorem pdV_is (l : List UInt8) (most : Nat) : ∃ n, pdV l most = .tuple #[.int .u64 (n : Nat), .bool (okD l most)] ∧ (okD l most = true → n = pdN l) ∧ (okD l most = false → n = 0) := by
  unfold pdV
  cases h : okD l most
  · exact ⟨0, by simp, by simp, fun _ => rfl⟩
  · exact ⟨pdN l, by simp, fun _ => rfl, by simp⟩
theorem okD_all {l : List UInt8} {most : Nat} (h : okD l most = true) : l.all isD = true ∧ l.length ≤ most ∧ 1 ≤ l.length := by
  unfold okD at h
  simp only [Bool.and_eq_true, decide_eq_true_eq] at h
  exact ⟨h.2, h.1.2, h.1.1⟩
theorem leftL_le (l : List UInt8) : (leftL l).length ≤ l.length := by
  unfold leftL
  exact (List.takeWhile_sublist _).length_le
theorem beq_list_false {l k : List UInt8} (h : l ≠ k) : (l == k) = false := by simpa using h

theorem trim_le (l k : List UInt8) : (Lib.trimPrefix l k).length ≤ l.length := by
  unfold Lib.trimPrefix; split
  · simp
  · exact Nat.le_refl _
end Go.Proofs.YtcmohggnehkjeaaGreat
