/-
  Contracts of basculeref03's small functions: what is no number, the canonical one, the order.
-/
import Derived.Test.YtcmohggnehkjeaaGreatChecked
import Derived.Test.YtcmohggnehkjeaaGreatFl
import Derived.WalkKit
import Derived.WalkLawsBesides
import Derived.Laws.Externs
import Derived.Lib.EndianBits
import Derived.Lib.Hide
import Derived.Outline
namespace Go.Proofs.YtcmohggnehkjeaaGreat
open Go.RowKit

theorem bits_run (b : Nat) (w : World) : (callFunc 163 #[.float .f64 b]).run Tryz.prog w = .ok (.value (.int .u64 (b : Int))) w := by
  rw [run_callFunc_extern Tryz.func163 (by kernel_rfl) (by kernel_rfl) (by kernel_rfl) (e := Extern.MathFloatBits.float64bits) (by kernel_rfl)]; rfl
theorem float_run (n : Int) (w : World) : (callFunc 196 #[.int .u64 n]).run Tryz.prog w = .ok (.value (.float .f64 n.toNat)) w := by
  rw [run_callFunc_extern Tryz.func196 (by kernel_rfl) (by kernel_rfl) (by kernel_rfl) (e := Extern.MathFloatBits.float64frombits) (by kernel_rfl)]; rfl

def nanB (b : Nat) : Bool := decide (9218868437227405312 < rung b)
theorem nanB_shl (b : Nat) : decide ((18437736874454810624 : Int) < IntKind.u64.wrap ((b : Int) * 2)) = nanB b := by
  rw [IntKind.wrap_u64]; unfold nanB rung; rw [decide_eq_decide]; omega
theorem infB_shl (b : Nat) : (IntKind.u64.wrap ((b : Int) * 2) == (18437736874454810624 : Int)) = decide (rung b = 9218868437227405312) := by
  rw [IntKind.wrap_u64]; unfold rung; rw [Bool.eq_iff_iff, beq_iff_eq, decide_eq_true_eq]; omega
theorem zeroB_shl (b : Nat) : (IntKind.u64.wrap ((b : Int) * 2) == 0) = decide (rung b = 0) := by
  rw [IntKind.wrap_u64]; unfold rung; rw [Bool.eq_iff_iff, beq_iff_eq, decide_eq_true_eq]; omega
theorem sgn_le {b : Nat} (hb : b < 18446744073709551616) : decide ((9223372036854775808 : Int) ≤ (b : Int)) = sgn b := by
  unfold sgn; rw [Bool.eq_iff_iff, beq_iff_eq, decide_eq_true_eq]; omega

theorem NaN_any (b : Nat) (w : World) : Calls Tryz.prog 138 #[.float .f64 b] w fun e w' => e = .returned (.bool (nanB b)) ∧ w = w' := by
  have H := bits_run
  go_enter Tryz.func138, Tryz.ntmps138
  go_wp2_with fail
  go_ret
  rw [nanB_shl]; exact ⟨rfl, rfl⟩

theorem minus_any {b : Nat} (hb : b < 18446744073709551616) (w : World) : Calls Tryz.prog 164 #[.float .f64 b] w fun e w' => e = .returned (.bool (sgn b)) ∧ w = w' := by
  have H := bits_run
  go_enter Tryz.func164, Tryz.ntmps164
  go_wp2_with fail
  go_ret
  rw [sgn_le hb]; exact ⟨rfl, rfl⟩

def canonW (b : Nat) : Nat := if nanB b = true then 9221120237041090560 else b
theorem Canon_any (b : Nat) (w : World) : Calls Tryz.prog 167 #[.float .f64 b] w fun e w' => e = .returned (.float .f64 (canonW b)) ∧ w = w' := by
  have H := float_run
  have N := NaN_any b
  go_enter Tryz.func167, Tryz.ntmps167
  go_wp2_with (first | (go_at_call 138; refine (N _).mono ?_; rintro e w' ⟨rfl, rfl⟩))
  · go_ret
    unfold canonW; rw [if_pos (by assumption)]; exact ⟨rfl, rfl⟩
  · go_ret
    unfold canonW; rw [if_neg (by simp [*])]; exact ⟨rfl, rfl⟩

theorem key_nan {b : Nat} (h : nanB b = true) (w : World) : Calls Tryz.prog 195 #[.float .f64 b] w fun e w' => e = .returned (.int .i64 9223372036854775807) ∧ w = w' := by
  have H := bits_run
  have N := NaN_any b
  rw [h] at N
  go_enter Tryz.func195, Tryz.ntmps195
  go_wp2_with (first | (go_at_call 138; refine (N _).mono ?_; rintro e w' ⟨rfl, rfl⟩))
  go_ret
  exact ⟨rfl, rfl⟩
theorem key_up {b : Nat} (hb : b < 18446744073709551616) (h : nanB b = false) (hs : sgn b = false) (w : World) : Calls Tryz.prog 195 #[.float .f64 b] w fun e w' => e = .returned (.int .i64 b) ∧ w = w' := by
  have H := bits_run
  have N := NaN_any b
  have D := sgn_le hb
  rw [h] at N
  rw [hs] at D
  clear h hs hb
  go_enter Tryz.func195, Tryz.ntmps195
  go_wp2_with (first | (go_at_call 138; refine (N _).mono ?_; rintro e w' ⟨rfl, rfl⟩))
  go_ret
  have e : wrap64 (b : Int) = (b : Int) := by
    have := of_decide_eq_false D; unfold wrap64; omega
  rw [e]; exact ⟨rfl, rfl⟩
theorem key_down {b : Nat} (hb : b < 18446744073709551616) (h : nanB b = false) (hs : sgn b = true) (w : World) : Calls Tryz.prog 195 #[.float .f64 b] w fun e w' => e = .returned (.int .i64 (-1 - ((b : Int) - 9223372036854775808))) ∧ w = w' := by
  have H := bits_run
  have N := NaN_any b
  have D := sgn_le hb
  rw [h] at N
  rw [hs] at D
  have W : wrap64 (-1 - wrap64 (IntKind.u64.wrap ((b : Int) - 9223372036854775808))) = -1 - ((b : Int) - 9223372036854775808) := by
    have := of_decide_eq_true D; rw [IntKind.wrap_u64]; unfold wrap64; omega
  have W2 := Lib.hid W
  clear h hs hb W
  go_enter Tryz.func195, Tryz.ntmps195
  go_wp2_with (first | (go_at_call 138; refine (N _).mono ?_; rintro e w' ⟨rfl, rfl⟩))
  go_ret
  rw [W2.out]; exact ⟨rfl, rfl⟩
def keyI (b : Nat) : Int := if nanB b = true then 9223372036854775807 else if sgn b = true then -1 - ((b : Int) - 9223372036854775808) else b
theorem key_any {b : Nat} (hb : b < 18446744073709551616) (w : World) : Calls Tryz.prog 195 #[.float .f64 b] w fun e w' => e = .returned (.int .i64 (keyI b)) ∧ w = w' := by
  unfold keyI
  by_cases h : nanB b = true
  · rw [if_pos h]; exact key_nan h w
  · rw [if_neg h]
    by_cases hs : sgn b = true
    · rw [if_pos hs]; exact key_down hb (by simpa using h) hs w
    · rw [if_neg hs]; exact key_up hb (by simpa using h) (by simpa using hs) w

def ordI (x y : Int) : Int := if x < y then -1 else if y < x then 1 else 0
def Says (f : Nat) (a : Array Value) (v : Value) : Prop := ∀ w, Calls Tryz.prog f a w fun e w' => e = .returned v ∧ w = w'
theorem Order_of {k : Nat → Int} {a b : Nat} {P : Nat → Prop} (K : ∀ c, P c → Says 195 #[.float .f64 c] (.int .i64 (k c))) (ha : P a) (hb : P b) (w : World) : Calls Tryz.prog 162 #[.float .f64 a, .float .f64 b] w fun e w' => e = .returned (.int .i64 (ordI (k a) (k b))) ∧ w = w' := by
  unfold ordI
  go_enter Tryz.func162, Tryz.ntmps162
  go_wp2_with (go_at_call 195; refine (K _ (by assumption) _).mono ?_; rintro e w' ⟨rfl, rfl⟩)
  all_goals (go_ret; exact ⟨rfl, rfl⟩)
def okW (b : Nat) : Prop := b < 18446744073709551616
theorem Order_any {a b : Nat} (ha : okW a) (hb : okW b) : Says 162 #[.float .f64 a, .float .f64 b] (.int .i64 (ordI (keyI a) (keyI b))) :=
  Order_of (fun _ h => key_any h) ha hb

def eqB (a b : Nat) : Bool := !nanB a && !nanB b && (decide (ordI (keyI a) (keyI b) = 0) || decide (rung a = 0) && decide (rung b = 0))
def lessB (a b : Nat) : Bool := !nanB a && !nanB b && !(decide (rung a = 0) && decide (rung b = 0)) && decide (ordI (keyI a) (keyI b) < 0)

theorem Same_of {c : Nat → Nat} {a b : Nat} (C : ∀ a, Says 167 #[.float .f64 a] (.float .f64 (c a))) (w : World) :
    Calls Tryz.prog 140 #[.float .f64 a, .float .f64 b] w fun e w' => e = .returned (.bool (decide (c a = c b))) ∧ w = w' := by
  have H := bits_run
  go_enter Tryz.func140, Tryz.ntmps140
  go_wp2_with (go_at_call 167; refine (C _ _).mono ?_; rintro e w' ⟨rfl, rfl⟩)
  go_ret
  have e : ((c a : Int) == (c b : Int)) = decide (c a = c b) := by rw [Bool.eq_iff_iff, beq_iff_eq, decide_eq_true_eq, Int.ofNat_inj]
  rw [e]; exact ⟨rfl, rfl⟩
theorem Same_any (a b : Nat) : Says 140 #[.float .f64 a, .float .f64 b] (.bool (decide (canonW a = canonW b))) := Same_of Canon_any
end Go.Proofs.YtcmohggnehkjeaaGreat
