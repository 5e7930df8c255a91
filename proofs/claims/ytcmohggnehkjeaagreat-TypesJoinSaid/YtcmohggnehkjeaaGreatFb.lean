/-
  Contracts of the program's Add, Sub, Mul, Div.
-/
import Derived.Test.YtcmohggnehkjeaaGreatFa
namespace Go.Proofs.YtcmohggnehkjeaaGreat
open Go.RowKit Ieee

/-- The NaN that is drawn where the operation has no answer. -/
def nanOf (a b : Nat) (W : World) : Nat := Question.cut (.nanBits .f64 a b) (W.tape W.drawn (.nanBits .f64 a b))
theorem nanOf_nan (a b : Nat) (W : World) : nanB (nanOf a b W) = true := by
  unfold nanOf Question.cut nanB rung
  simp only
  generalize W.tape W.drawn (.nanBits .f64 a b) = t
  have h1 : (2 : Nat) ^ 63 = 9223372036854775808 := by decide
  have h2 : (2 : Nat) ^ 52 - 1 = 4503599627370495 := by decide
  rw [h1, h2]
  rw [decide_eq_true_eq]
  have h3 := Nat.mod_lt (t / 2) (show 0 < 4503599627370495 by decide)
  have h4 := Nat.mod_lt t (show 0 < 2 by decide)
  generalize t / 2 % 4503599627370495 = q at *
  generalize t % 2 = m at *
  omega
theorem op_none {op : BinOp} {x y : Nat} (ho : op = .add ∨ op = .sub ∨ op = .mul ∨ op = .quo) (h : floatBits op .f64 x y = none) (W : World) : (binOp op 23 (.float .f64 x) (.float .f64 y)).run Tryz.prog W = .ok (.float .f64 (nanOf x y W)) W.drew := by
  unfold floatBits at h
  rcases ho with rfl | rfl | rfl | rfl <;> simp only at h <;> simp [binOp, Op.floatArith, h, nanOf, Question.forced]
/-- What an operation answers. -/
def opW (r : Option Nat) : Nat := match r with | some r => canonW r | none => 9221120237041090560
theorem canon_nan {b : Nat} (h : nanB b = true) : canonW b = 9221120237041090560 := by unfold canonW; rw [if_pos h]

theorem canonW_lt {b : Nat} (h : okW b) : okW (canonW b) := by
  unfold canonW; split
  · unfold okW; omega
  · exact h
theorem opW_lt {r : Option Nat} (h : ∀ x, r = some x → okW x) : okW (opW r) := by
  cases r with
  | none => show 9221120237041090560 < 18446744073709551616; omega
  | some x => exact canonW_lt (h x rfl)
theorem add_ok (a b : Nat) : okW (opW (double.add a b)) := opW_lt fun _ h => double.add_lt h
theorem sub_ok (a b : Nat) : okW (opW (double.sub a b)) := opW_lt fun _ h => double.sub_lt h
theorem mul_ok (a b : Nat) : okW (opW (double.mul a b)) := opW_lt fun _ h => double.mul_lt h
theorem div_ok (a b : Nat) : okW (opW (double.div a b)) := opW_lt fun _ h => double.div_lt h
theorem neg_ok {b : Nat} (h : okW b) : okW (negW b) := by
  rw [negW_eq h]
  exact (word_sgn _ (Nat.mod_lt _ (by omega))).2.2
theorem negW_parts {b : Nat} (h : okW b) : sgn (negW b) = !sgn b ∧ rung (negW b) = rung b := by
  rw [negW_eq h]
  have := word_sgn (!sgn b) (show rung b < 9223372036854775808 from Nat.mod_lt _ (by omega))
  exact ⟨this.1, this.2.1⟩
end Go.Proofs.YtcmohggnehkjeaaGreat
