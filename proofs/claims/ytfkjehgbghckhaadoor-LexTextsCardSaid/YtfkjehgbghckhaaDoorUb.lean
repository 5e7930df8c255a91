/-
  The document's blank, digit, letter, run and Word.
-/
import Derived.Test.YtfkjehgbghckhaaDoorUa
namespace Go.Proofs.YtfkjehgbghckhaaDoor
open Go.RowKit

theorem u8_test (c : UInt8) (n : Nat) : ((c.toNat : Int) == (n : Int)) = decide (c.toNat = n) := by
  rw [Bool.eq_iff_iff, beq_iff_eq, decide_eq_true_eq]; omega
/-- Behind digits from a place on. -/
theorem tw_cons {p : UInt8 → Bool} {c : UInt8} {l : List UInt8} (h : p c = true) : ((c :: l).takeWhile p).length = (l.takeWhile p).length + 1 := by
  rw [List.takeWhile_cons_of_pos h]; rfl
theorem tw_stop {p : UInt8 → Bool} {c : UInt8} {l : List UInt8} (h : p c = false) : ((c :: l).takeWhile p).length = 0 := by
  rw [List.takeWhile_cons_of_neg (by rw [h]; exact Bool.false_ne_true)]; rfl
/-- The words of the language. -/
def wordsL : List (List UInt8) := [[116, 114, 117, 101], [102, 97, 108, 115, 101], [110, 97, 110], [105, 110, 102], [108, 101, 110], [102, 108, 111, 97, 116], [105, 110, 116], [115, 116, 114]]
def wordB (l : List UInt8) : Bool := decide (l ∈ wordsL)
theorem str_is (s : ByteArray) : s.toList = s.data.toList := ByteArray.toList_eq s
theorem beq_no {l k : List UInt8} (h : ¬ l = k) : (l == k) = false := by simpa using h
theorem beq_yes {l k : List UInt8} (h : l = k) : (l == k) = true := by simpa using h
end Go.Proofs.YtfkjehgbghckhaaDoor
