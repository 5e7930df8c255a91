/-
  Contracts of math.NaN, math.Inf and basculeref03.number.
-/
import Derived.Test.YtfkjehgbghckhaaDoorRefFm
import Derived.Deep.QuietTactic
import Derived.BigQuiet
namespace Go.Proofs.YtfkjehgbghckhaaDoor
open Go.RowKit Ieee

theorem nan_run (w : World) : Calls Tryd.prog 53 #[] w fun e w' => e = .returned (.float .f64 9221120237041090561) ∧ w = w' := by
  have H := float_run
  go_enter Tryd.func53, Tryd.ntmps53
  go_wp2
  go_ret
  exact ⟨rfl, rfl⟩
theorem inf_up (w : World) : Calls Tryd.prog 70 #[.int .i64 1] w fun e w' => e = .returned (.float .f64 9218868437227405312) ∧ w = w' := by
  have H := float_run
  go_enter Tryd.func70, Tryd.ntmps70
  go_wp2
  go_ret
  exact ⟨rfl, rfl⟩
theorem inf_down (w : World) : Calls Tryd.prog 70 #[.int .i64 (-1)] w fun e w' => e = .returned (.float .f64 18442240474082181120) ∧ w = w' := by
  have H := float_run
  go_enter Tryd.func70, Tryd.ntmps70
  go_wp2
  go_ret
  exact ⟨rfl, rfl⟩

/-- A digit. -/
def isD (c : UInt8) : Bool := decide (48 ≤ c.toNat) && decide (c.toNat ≤ 57)
/-- Digits as a number, at most 2^59. -/
def capN (l : List UInt8) : Nat := l.foldl (fun n c => min (n * 10 + (c.toNat - 48)) 576460752303423488) 0
theorem capN_le (l : List UInt8) : capN l ≤ 576460752303423488 := by
  unfold capN
  rcases l.eq_nil_or_concat with rfl | ⟨a, b, rfl⟩
  · simp
  · simp [List.foldl_append]; omega
theorem capN_snoc (l : List UInt8) (c : UInt8) : capN (l ++ [c]) = min (capN l * 10 + (c.toNat - 48)) 576460752303423488 := by
  unfold capN; rw [List.foldl_append]; rfl
theorem lead_is {l : List UInt8} {k : Nat} (h : (l.take k).all isD = true) (hx : ∀ c, l[k]? = some c → isD c = false) : l.takeWhile isD = l.take k := by
  conv => lhs; rw [← List.take_append_drop k l]
  rw [List.takeWhile_append_of_pos (by simpa [List.all_eq_true] using h)]
  have : (l.drop k).takeWhile isD = [] := by
    cases hd : l.drop k with
    | nil => rfl
    | cons c t =>
      have : l[k]? = some c := by
        have := congrArg List.head? hd
        simpa [List.head?_drop] using this
      rw [List.takeWhile_cons_of_neg (by simp [hx c this])]
  rw [this, List.append_nil]
theorem take_snoc (s : ByteArray) (k : Nat) (h : k < s.size) : s.data.toList.take (k + 1) = s.data.toList.take k ++ [s[k]] := by
  rw [List.take_succ_eq_append_getElem (by simpa using h)]; rfl
theorem get_opt (s : ByteArray) (k : Nat) (h : k < s.size) : s.data.toList[k]? = some s[k] := by
  rw [List.getElem?_eq_getElem (by simpa using h)]; rfl

/-- What number answers. -/
def numV (s : ByteArray) : Value := .tuple #[.int .u64 (capN (s.data.toList.takeWhile isD) : Nat), .int .i64 ((s.data.toList.takeWhile isD).length : Nat), .string (s.extract (s.data.toList.takeWhile isD).length s.size)]
theorem numV_is {s : ByteArray} {k n : Nat} (hk : k ≤ s.size) (hn : n = capN (s.data.toList.take k)) (hx : s.data.toList.takeWhile isD = s.data.toList.take k) : numV s = .tuple #[.int .u64 n, .int .i64 k, .string (s.extract k s.size)] := by
  unfold numV
  rw [hx, ← hn, show (s.data.toList.take k).length = k by rw [List.length_take]; simp; omega]

end Go.Proofs.YtfkjehgbghckhaaDoor
