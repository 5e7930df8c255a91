/-
  Contracts of basculeref03's small functions: what is no number, the canonical one, the order.
-/
import Derived.Test.YtfkjehgbghckhaaGreatDoorChecked
import Derived.Test.YtfkjehgbghckhaaGreatDoorFl
import Derived.WalkKit
import Derived.WalkLawsBesides
import Derived.Laws.Externs
import Derived.Lib.EndianBits
import Derived.Lib.Hide
import Derived.Outline
namespace Go.Proofs.YtfkjehgbghckhaaGreatDoor
open Go.RowKit

theorem bits_run (b : Nat) (w : World) : (callFunc 28 #[.float .f64 b]).run Tryz.prog w = .ok (.value (.int .u64 (b : Int))) w := by
  rw [run_callFunc_extern Tryz.func28 (by kernel_rfl) (by kernel_rfl) (by kernel_rfl) (e := Extern.MathFloatBits.float64bits) (by kernel_rfl)]; rfl
theorem float_run (n : Int) (w : World) : (callFunc 45 #[.int .u64 n]).run Tryz.prog w = .ok (.value (.float .f64 n.toNat)) w := by
  rw [run_callFunc_extern Tryz.func45 (by kernel_rfl) (by kernel_rfl) (by kernel_rfl) (e := Extern.MathFloatBits.float64frombits) (by kernel_rfl)]; rfl

def nanB (b : Nat) : Bool := decide (9218868437227405312 < rung b)
theorem nanB_shl (b : Nat) : decide ((18437736874454810624 : Int) < IntKind.u64.wrap ((b : Int) * 2)) = nanB b := by
  rw [IntKind.wrap_u64]; unfold nanB rung; rw [decide_eq_decide]; omega
theorem infB_shl (b : Nat) : (IntKind.u64.wrap ((b : Int) * 2) == (18437736874454810624 : Int)) = decide (rung b = 9218868437227405312) := by
  rw [IntKind.wrap_u64]; unfold rung; rw [Bool.eq_iff_iff, beq_iff_eq, decide_eq_true_eq]; omega
theorem zeroB_shl (b : Nat) : (IntKind.u64.wrap ((b : Int) * 2) == 0) = decide (rung b = 0) := by
  rw [IntKind.wrap_u64]; unfold rung; rw [Bool.eq_iff_iff, beq_iff_eq, decide_eq_true_eq]; omega
theorem sgn_le {b : Nat} (hb : b < 18446744073709551616) : decide ((9223372036854775808 : Int) ≤ (b : Int)) = sgn b := by
  unfold sgn; rw [Bool.eq_iff_iff, beq_iff_eq, decide_eq_true_eq]; omega

theorem NaN_any (b : Nat) (w : World) : Calls Tryz.prog 44 #[.float .f64 b] w fun e w' => e = .returned (.bool (nanB b)) ∧ w = w' := by
  have H := bits_run
  go_enter Tryz.func44, Tryz.ntmps44
  go_wp2_with fail
  go_ret
  rw [nanB_shl]; exact ⟨rfl, rfl⟩

def canonW (b : Nat) : Nat := if nanB b = true then 9221120237041090560 else b
theorem Canon_any (b : Nat) (w : World) : Calls Tryz.prog 29 #[.float .f64 b] w fun e w' => e = .returned (.float .f64 (canonW b)) ∧ w = w' := by
  have H := float_run
  have N := NaN_any b
  go_enter Tryz.func29, Tryz.ntmps29
  go_wp2_with (first | (go_at_call 44; refine (N _).mono ?_; rintro e w' ⟨rfl, rfl⟩))
  · go_ret
    unfold canonW; rw [if_pos (by assumption)]; exact ⟨rfl, rfl⟩
  · go_ret
    unfold canonW; rw [if_neg (by simp [*])]; exact ⟨rfl, rfl⟩

def keyI (b : Nat) : Int := if nanB b = true then 9223372036854775807 else if sgn b = true then -1 - ((b : Int) - 9223372036854775808) else b
def ordI (x y : Int) : Int := if x < y then -1 else if y < x then 1 else 0
def Says (f : Nat) (a : Array Value) (v : Value) : Prop := ∀ w, Calls Tryz.prog f a w fun e w' => e = .returned v ∧ w = w'
def okW (b : Nat) : Prop := b < 18446744073709551616
def eqB (a b : Nat) : Bool := !nanB a && !nanB b && (decide (ordI (keyI a) (keyI b) = 0) || decide (rung a = 0) && decide (rung b = 0))
def lessB (a b : Nat) : Bool := !nanB a && !nanB b && !(decide (rung a = 0) && decide (rung b = 0)) && decide (ordI (keyI a) (keyI b) < 0)

theorem Same_of {c : Nat → Nat} {a b : Nat} (C : ∀ a, Says 29 #[.float .f64 a] (.float .f64 (c a))) (w : World) :
    Calls Tryz.prog 23 #[.float .f64 a, .float .f64 b] w fun e w' => e = .returned (.bool (decide (c a = c b))) ∧ w = w' := by
  have H := bits_run
  go_enter Tryz.func23, Tryz.ntmps23
  go_wp2_with (go_at_call 29; refine (C _ _).mono ?_; rintro e w' ⟨rfl, rfl⟩)
  go_ret
  have e : ((c a : Int) == (c b : Int)) = decide (c a = c b) := by rw [Bool.eq_iff_iff, beq_iff_eq, decide_eq_true_eq, Int.ofNat_inj]
  rw [e]; exact ⟨rfl, rfl⟩
theorem Same_any (a b : Nat) : Says 23 #[.float .f64 a, .float .f64 b] (.bool (decide (canonW a = canonW b))) := Same_of Canon_any
end Go.Proofs.YtfkjehgbghckhaaGreatDoor
