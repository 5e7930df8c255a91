/-
  Contract of basculeref03.Digits.
-/
import Derived.Test.YtfkjehgbghckhaaGreatDoorRefFp
import Derived.Laws.IdiomStrings
namespace Go.Proofs.YtfkjehgbghckhaaGreatDoor
open Go.RowKit

/-- The last digit. -/
def dc (n : Nat) : UInt8 := UInt8.ofNat (48 + n % 10)
def digL (n : Nat) : List UInt8 := if n < 10 then [dc n] else digL (n / 10) ++ [dc n]
termination_by n
decreasing_by omega
theorem digL_last {n : Nat} (h : n / 10 = 0) : digL n = [dc n] := by rw [digL, if_pos (by omega)]
theorem digL_more {n : Nat} (h : n / 10 ≠ 0) : digL n = digL (n / 10) ++ [dc n] := by rw [digL, if_neg (by omega)]
def strL (l : List UInt8) : ByteArray := ⟨l.toArray⟩
theorem strL_append (a b : List UInt8) : strL a ++ strL b = strL (a ++ b) := by
  apply ByteArray.ext; unfold strL; simp

theorem digL_pos (n : Nat) : 1 ≤ (digL n).length := by
  rw [digL]; split <;> simp
theorem digL_len : ∀ (k n : Nat), n < 10 ^ k → 1 ≤ k → (digL n).length ≤ k := by
  intro k
  induction k with
  | zero => intro n _ h; omega
  | succ k ih =>
    intro n hn _
    by_cases hz : n / 10 = 0
    · rw [digL_last hz]; simp
    · rw [digL_more hz]
      have h10 : n / 10 < 10 ^ k := by rw [Nat.pow_succ] at hn; omega
      have hk : 1 ≤ k := by
        rcases Nat.eq_zero_or_pos k with rfl | h
        · simp at h10; omega
        · exact h
      have := ih _ h10 hk
      simp; omega
theorem digL_len20 {n : Nat} (h : n < 18446744073709551616) : (digL n).length ≤ 20 := digL_len 20 n (by omega) (by omega)

theorem one_byte (w : World) (m : Nat) : (convert 50 9 (.slice (some ⟨w.heap.size, 0, none⟩) 1 1)).run Tryz.prog (w.alloc (.cells #[.int .u8 (48 + (m : Int) % 10)] 5)) = .ok (.string (strL [dc m])) (w.alloc (.cells #[.int .u8 (48 + (m : Int) % 10)] 5)) := by
  have h := run_convert_bytes_back (P := Tryz.prog) (w.alloc (.cells #[.int .u8 (48 + (m : Int) % 10)] 5)) 50 9 5 ⟨w.heap.size, 0, none⟩ 1 [dc m] Tryz.underlying50 Tryz.underlying5 Tryz.underlying9
  refine h ?_
  intro j hj
  have hj0 : j = 0 := by simpa using hj
  subst hj0
  have e : (⟨w.heap.size, 0, none⟩ : Addr).add (0 : Nat) = ⟨w.heap.size, 0, none⟩ := rfl
  have c := World.cell?_alloc_mark w #[.int .u8 (48 + (m : Int) % 10)] 5 (0, 0) 0
  rw [e, c]
  unfold dc
  simp
  omega

end Go.Proofs.YtfkjehgbghckhaaGreatDoor
