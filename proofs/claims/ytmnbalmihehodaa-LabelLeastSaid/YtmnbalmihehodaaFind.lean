/-
  Contracts of find, join, meet, Join, Meet.
-/
import Derived.Test.YtmnbalmihehodaaLeaf
namespace Go.Proofs.Ytmnbalmihehodaa
open Go.RowKit

/-- Eight sets. -/
def arr8 (A : Nat → Nat) : Array Value := #[.int .u8 (A 0), .int .u8 (A 1), .int .u8 (A 2), .int .u8 (A 3), .int .u8 (A 4), .int .u8 (A 5), .int .u8 (A 6), .int .u8 (A 7)]

theorem arr8_at (A : Nat → Nat) : ∀ i, i < 8 → (arr8 A)[i]? = some (.int .u8 (A i)) := nat_cases8 rfl rfl rfl rfl rfl rfl rfl rfl

/-- The first of n that has just this set. -/
def fnd (n : Nat) (A : Nat → Nat) (S : Nat) : Option Nat := (List.range n).find? fun i => A i == S
theorem fnd_some {n k : Nat} {A : Nat → Nat} {S : Nat} (hk : k < n) (h : A k = S) (hno : ∀ d, d < k → A d ≠ S) : fnd n A S = some k := by
  unfold fnd
  rw [List.find?_range_eq_some]
  exact ⟨by simpa using h, by simpa using hk, fun j hj => by simpa using hno j hj⟩
theorem fnd_none {n : Nat} {A : Nat → Nat} {S : Nat} (hno : ∀ d, d < n → A d ≠ S) : fnd n A S = none := by
  unfold fnd
  rw [List.find?_eq_none]
  intro d hd
  simpa using hno d (by simpa using hd)

def fndV (n : Nat) (A : Nat → Nat) (S : Nat) : Value := .tuple #[.int .i64 ((fnd n A S).getD 0 : Nat), .bool (fnd n A S).isSome]

def NoHit (A : Nat → Nat) (S k : Nat) : Prop := ∀ d, d < k → A d ≠ S

theorem find_any (n S : Nat) (A : Nat → Nat) (w : World) (hn : n ≤ 8) :
    Calls Try.prog 55 #[.agg (arr8 A), .int .i64 n, .int .u8 S] w fun e w' => e = .returned (fndV n A S) ∧ Below w.heap.size w w' := by
  have hat := arr8_at A
  generalize arr8 A = cs at hat
  have hc : ∀ i, i < 8 → (w.alloc (.cells cs 67)).cell? ⟨w.heap.size, i, none⟩ = some (.int .u8 (A i)) := fun i hi => by
    rw [cell_of_heap (t := 67) (cs := cs) (heap_alloc_new w _), hat i hi]
  have hb : Below w.heap.size w (w.alloc (.cells cs 67)) := (Below.refl _ _).alloc (Nat.le_refl _) _
  clear hat
  go_enter Try.func55, Try.ntmps55
  go_wp2
  go_loop [10] (fun i => ∃ k : Nat, k ≤ n ∧ i = .int .i64 k ∧ NoHit A S k) (fun i => n - (intOf i).toNat)
  case atStart => exact ⟨0, Nat.zero_le _, rfl, fun d hd => absurd hd (Nat.not_lt_zero _)⟩
  case round =>
    obtain ⟨k, hk, rfl, hno⟩ := hrel
    by_cases hlt : k < n
    · have hck := hc k (by omega)
      clear hc
      by_cases he : A k = S
      · have Hf := Lib.hid (fnd_some hlt he hno)
        have he' : ((A k : Int) == (S : Int)) = true := by simp [he]
        clear he
        go_wp2
        go_ret2
        exact ⟨by rw [fndV, Hf.out]; rfl, hb⟩
      · have hno' : NoHit A S (k + 1) := fun d hd => by
          by_cases e : d = k
          · subst e; exact he
          · exact hno d (by omega)
        have he' : ((A k : Int) == (S : Int)) = false := by simp; omega
        have Hn := Lib.hid hno'
        clear hno hno' he
        go_wp2
        go_round
        case rel => exact ⟨k + 1, by omega, by go_num, Hn.out⟩
        case measure => simp [intOf]; omega
    · obtain rfl : k = n := by omega
      have Hf := Lib.hid (fnd_none hno)
      clear hno
      go_wp2
      go_ret2
      exact ⟨by rw [fndV, Hf.out]; rfl, hb⟩
end Go.Proofs.Ytmnbalmihehodaa
