/-
  Contract of basculeref03.Text.
-/
import Derived.Test.YtfkjehgbghckhaaGreatDoorRefFd
namespace Go.Proofs.YtfkjehgbghckhaaGreatDoor
open Go.RowKit

def oddW (b : Nat) : Nat := if mantW b = 0 then 0 else oddOf (mantW b)
def expW (b : Nat) : Int := if mantW b = 0 then 0 else placeW b + twos (mantW b)
theorem partsV_eq (b : Nat) : partsV b = .tuple #[.int .u64 (oddW b : Nat), .int .i64 (expW b)] := by
  unfold partsV oddW expW; split <;> rfl
theorem oddOf_le : ∀ m, oddOf m ≤ m := by
  intro m
  induction m using Nat.strongRecOn with
  | ind m ih =>
    rw [oddOf]
    split
    · have := ih (m / 2) (by omega); omega
    · omega
theorem twos_le : ∀ m, twos m ≤ m := by
  intro m
  induction m using Nat.strongRecOn with
  | ind m ih =>
    rw [twos]
    split
    · have := ih (m / 2) (by omega); omega
    · omega
theorem oddW_lt (b : Nat) : oddW b < 9007199254740992 := by
  unfold oddW
  have := mant_lt b
  have := oddOf_le (mantW b)
  split <;> omega
theorem expW_in (b : Nat) : -1074 ≤ expW b ∧ expW b < 9007199254742000 := by
  unfold expW
  have := mant_lt b
  have := place_in b
  have := twos_le (mantW b)
  split <;> omega

def signS (b : Nat) : ByteArray := if sgn b = true then ⟨#[45]⟩ else ⟨#[]⟩
def expS (e : Int) : ByteArray := if e < 0 then ⟨#[45]⟩ ++ strL (digL (-e).toNat) else strL (digL e.toNat)
def textB (b : Nat) : ByteArray := if nanB b = true then ⟨#[110, 97, 110]⟩ else if rung b = 9218868437227405312 then signS b ++ ⟨#[105, 110, 102]⟩ else signS b ++ strL (digL (oddW b)) ++ ⟨#[112]⟩ ++ expS (expW b)

theorem signS_size (b : Nat) : (signS b).size ≤ 1 := by unfold signS; split <;> decide
theorem digits_size {n : Nat} (h : n < 18446744073709551616) : (strL (digL n)).size ≤ 20 := digL_len20 h

end Go.Proofs.YtfkjehgbghckhaaGreatDoor
