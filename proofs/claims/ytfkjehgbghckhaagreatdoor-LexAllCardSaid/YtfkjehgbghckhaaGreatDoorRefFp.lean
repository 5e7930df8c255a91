/-
  Contract of basculeref03.parts.
-/
import Derived.Test.YtfkjehgbghckhaaGreatDoorRefF
import Derived.Deep.Cut
import Derived.Deep.CutRange
namespace Go.Proofs.YtfkjehgbghckhaaGreatDoor
open Go.RowKit

def twos (m : Nat) : Nat := if 0 < m ∧ m % 2 = 0 then twos (m / 2) + 1 else 0
termination_by m
decreasing_by omega
def oddOf (m : Nat) : Nat := if 0 < m ∧ m % 2 = 0 then oddOf (m / 2) else m
termination_by m
decreasing_by omega
theorem twos_even {m : Nat} (h : 0 < m) (h2 : m % 2 = 0) : twos m = twos (m / 2) + 1 := by rw [twos, if_pos ⟨h, h2⟩]
theorem twos_odd {m : Nat} (h2 : m % 2 ≠ 0) : twos m = 0 := by rw [twos, if_neg (fun h => h2 h.2)]
theorem oddOf_even {m : Nat} (h : 0 < m) (h2 : m % 2 = 0) : oddOf m = oddOf (m / 2) := by rw [oddOf, if_pos ⟨h, h2⟩]
theorem oddOf_odd {m : Nat} (h2 : m % 2 ≠ 0) : oddOf m = m := by rw [oddOf, if_neg (fun h => h2 h.2)]

def mantW (b : Nat) : Nat := if rung b < 4503599627370496 then rung b else 4503599627370496 + rung b % 4503599627370496
def placeW (b : Nat) : Int := if rung b < 4503599627370496 then -1074 else (rung b / 4503599627370496 : Nat) - 1075

theorem mant0 (b : Nat) : IntKind.u64.wrap ((b : Int) * 4096) / 4096 = ((b % 4503599627370496 : Nat) : Int) := by rw [IntKind.wrap_u64]; omega
theorem place0 (b : Nat) : wrap64 (wrap64 (IntKind.u64.wrap ((b : Int) * 2) / 9007199254740992) - 1075) = ((rung b / 4503599627370496 : Nat) : Int) - 1075 := by
  rw [IntKind.wrap_u64]; unfold wrap64 rung; omega
theorem mant_sub {b : Nat} (h : rung b / 4503599627370496 = 0) : mantW b = b % 4503599627370496 := by unfold mantW rung at *; rw [if_pos (by omega)]; omega
theorem mant_norm {b : Nat} (h : rung b / 4503599627370496 ≠ 0) : mantW b = b % 4503599627370496 + 4503599627370496 := by unfold mantW rung at *; rw [if_neg (by omega)]; omega
theorem place_sub {b : Nat} (h : rung b / 4503599627370496 = 0) : placeW b = -1074 := by unfold placeW; rw [if_pos (by omega)]
theorem place_norm {b : Nat} (h : rung b / 4503599627370496 ≠ 0) : placeW b = (rung b / 4503599627370496 : Nat) - 1075 := by unfold placeW; rw [if_neg (by omega)]
theorem place_in (b : Nat) : -1074 ≤ placeW b ∧ placeW b ≤ 972 := by
  unfold placeW
  split
  · omega
  · unfold rung at *; omega
theorem mant_lt (b : Nat) : mantW b < 9007199254740992 := by unfold mantW; split <;> omega

def partsV (b : Nat) : Value := if mantW b = 0 then .tuple #[.int .u64 0, .int .i64 0] else .tuple #[.int .u64 (oddOf (mantW b) : Nat), .int .i64 (placeW b + twos (mantW b))]

end Go.Proofs.YtfkjehgbghckhaaGreatDoor
