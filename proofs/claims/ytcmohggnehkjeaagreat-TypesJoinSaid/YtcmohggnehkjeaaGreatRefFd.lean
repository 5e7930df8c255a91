/-
  Contract of basculeref03.Digits.
-/
import Derived.Test.YtcmohggnehkjeaaGreatRefFp
import Derived.Laws.IdiomStrings
namespace Go.Proofs.YtcmohggnehkjeaaGreat
open Go.RowKit

/-- The last digit. -/
def dc (n : Nat) : UInt8 := UInt8.ofNat (48 + n % 10)
def digL (n : Nat) : List UInt8 := if n < 10 then [dc n] else digL (n / 10) ++ [dc n]
termination_by n
decreasing_by omega
theorem digL_last {n : Nat} (h : n / 10 = 0) : digL n = [dc n] := by rw [digL, if_pos (by omega)]
theorem digL_more {n : Nat} (h : n / 10 ≠ 0) : digL n = digL (n / 10) ++ [dc n] := by rw [digL, if_neg (by omega)]
def strL (l : List UInt8) : ByteArray := ⟨l.toArray⟩
theorem strL_append (a b : List UInt8) : strL a ++ strL b = strL (a ++ b) := by
  apply ByteArray.ext; unfold strL; simp

theorem digL_pos (n : Nat) : 1 ≤ (digL n).length := by
  rw [digL]; split <;> simp
theorem digL_len : ∀ (k n : Nat), n < 10 ^ k → 1 ≤ k → (digL n).length ≤ k := by
  intro k
  induction k with
  | zero => intro n _ h; omega
  | succ k ih =>
    intro n hn _
    by_cases hz : n / 10 = 0
    · rw [digL_last hz]; simp
    · rw [digL_more hz]
      have h10 : n / 10 < 10 ^ k := by rw [Nat.pow_succ] at hn; omega
      have hk : 1 ≤ k := by
        rcases Nat.eq_zero_or_pos k with rfl | h
        · simp at h10; omega
        · exact h
      have := ih _ h10 hk
      simp; omega
theorem digL_len20 {n : Nat} (h : n < 18446744073709551616) : (digL n).length ≤ 20 := digL_len 20 n (by omega) (by omega)

theorem one_byte (w : World) (m : Nat) : (convert 199 9 (.slice (some ⟨w.heap.size, 0, none⟩) 1 1)).run Tryz.prog (w.alloc (.cells #[.int .u8 (48 + (m : Int) % 10)] 5)) = .ok (.string (strL [dc m])) (w.alloc (.cells #[.int .u8 (48 + (m : Int) % 10)] 5)) := by
  have h := run_convert_bytes_back (P := Tryz.prog) (w.alloc (.cells #[.int .u8 (48 + (m : Int) % 10)] 5)) 199 9 5 ⟨w.heap.size, 0, none⟩ 1 [dc m] Tryz.underlying199 Tryz.underlying5 Tryz.underlying9
  refine h ?_
  intro j hj
  have hj0 : j = 0 := by simpa using hj
  subst hj0
  have e : (⟨w.heap.size, 0, none⟩ : Addr).add (0 : Nat) = ⟨w.heap.size, 0, none⟩ := rfl
  have c := World.cell?_alloc_mark w #[.int .u8 (48 + (m : Int) % 10)] 5 (0, 0) 0
  rw [e, c]
  unfold dc
  simp
  omega

set_option maxRecDepth 20000 in
theorem Digits_any {n : Nat} (hn : n < 18446744073709551616) (w : World) : Calls Tryz.prog 166 #[.int .u64 n] w fun e w' => e = .returned (.string (strL (digL n))) ∧ Below w.heap.size w w' := by
  have hn' := Lib.hid hn
  clear hn
  go_enter Tryz.func166, Tryz.ntmps166
  go_wp2
  go_loopw [0, 3] (fun nv sv wr => ∃ (m : Nat) (l : List UInt8), m ≤ n ∧ nv = .int .u64 m ∧ sv = .string (strL l) ∧ Hid (digL m ++ l = digL n) ∧ Below w.heap.size w wr) (fun nv _ _ => (intOf nv).toNat)
  case atStart => exact ⟨n, [], Nat.le_refl _, rfl, rfl, Lib.hid (by simp), Below.refl _ _⟩
  case round =>
    obtain ⟨m, l, hm, rfl, rfl, hl, hb⟩ := hrel
    have hc := one_byte wr m
    have hb' : Below w.heap.size w (wr.alloc (.cells #[.int .u8 (48 + (m : Int) % 10)] 5)) := hb.alloc (by have := hb.size; omega) _
    have hs := strL_append [dc m] l
    have hz0 : ¬ 9223372036854775807 < (strL [dc m]).size + (strL l).size := by
      have h1 := digL_len20 hn'.out
      have h2 : (strL [dc m]).size = 1 := rfl
      have h3 : (strL l).size = l.length := rfl
      have h4 : (digL m ++ l).length ≤ 20 := by rw [hl.out]; exact h1
      simp at h4
      omega
    have D : IntKind.u64.wrap ((m : Int) / 10) = ((m / 10 : Nat) : Int) := by
      have := hn'.out
      rw [IntKind.wrap_u64]; omega
    have hm' := Lib.hid hm
    clear hm
    by_cases hz : m / 10 = 0
    · have hl' : Hid (digL n = dc m :: l) := Lib.hid (by rw [← hl.out, digL_last hz]; rfl)
      have T : (((m / 10 : Nat) : Int) == 0) = true := by simp; omega
      clear hl hz
      go_wp2
      go_ret
      exact ⟨by rw [hl'.out]; rfl, hb'⟩
    · have hl' : Hid (digL (m / 10) ++ (dc m :: l) = digL n) := Lib.hid (by rw [← hl.out, digL_more hz]; simp)
      have T : (((m / 10 : Nat) : Int) == 0) = false := by simp; omega
      have h7 : Hid (m / 10 ≤ n ∧ m / 10 < m) := Lib.hid ⟨by have := hm'.out; omega, by omega⟩
      clear hl hz
      go_wp2
      go_roundw
      case rel => exact ⟨m / 10, _, h7.out.1, rfl, rfl, hl', hb'⟩
      case measure => have := h7.out.2; simp [intOf]; omega
end Go.Proofs.YtcmohggnehkjeaaGreat
