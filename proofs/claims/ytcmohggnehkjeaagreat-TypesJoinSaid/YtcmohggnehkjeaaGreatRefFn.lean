/-
  Contracts of math.NaN, math.Inf and basculeref03.number.
-/
import Derived.Test.YtcmohggnehkjeaaGreatRefFm
import Derived.Deep.QuietTactic
import Derived.BigQuiet
namespace Go.Proofs.YtcmohggnehkjeaaGreat
open Go.RowKit Ieee

theorem nan_run (w : World) : Calls Tryz.prog 210 #[] w fun e w' => e = .returned (.float .f64 9221120237041090561) ∧ w = w' := by
  have H := float_run
  go_enter Tryz.func210, Tryz.ntmps210
  go_wp2
  go_ret
  exact ⟨rfl, rfl⟩
theorem inf_up (w : World) : Calls Tryz.prog 211 #[.int .i64 1] w fun e w' => e = .returned (.float .f64 9218868437227405312) ∧ w = w' := by
  have H := float_run
  go_enter Tryz.func211, Tryz.ntmps211
  go_wp2
  go_ret
  exact ⟨rfl, rfl⟩
theorem inf_down (w : World) : Calls Tryz.prog 211 #[.int .i64 (-1)] w fun e w' => e = .returned (.float .f64 18442240474082181120) ∧ w = w' := by
  have H := float_run
  go_enter Tryz.func211, Tryz.ntmps211
  go_wp2
  go_ret
  exact ⟨rfl, rfl⟩

/-- A digit. -/
def isD (c : UInt8) : Bool := decide (48 ≤ c.toNat) && decide (c.toNat ≤ 57)
/-- Digits as a number, at most 2^59. -/
def capN (l : List UInt8) : Nat := l.foldl (fun n c => min (n * 10 + (c.toNat - 48)) 576460752303423488) 0
theorem capN_le (l : List UInt8) : capN l ≤ 576460752303423488 := by
  unfold capN
  rcases l.eq_nil_or_concat with rfl | ⟨a, b, rfl⟩
  · simp
  · simp [List.foldl_append]; omega
theorem capN_snoc (l : List UInt8) (c : UInt8) : capN (l ++ [c]) = min (capN l * 10 + (c.toNat - 48)) 576460752303423488 := by
  unfold capN; rw [List.foldl_append]; rfl
theorem lead_is {l : List UInt8} {k : Nat} (h : (l.take k).all isD = true) (hx : ∀ c, l[k]? = some c → isD c = false) : l.takeWhile isD = l.take k := by
  conv => lhs; rw [← List.take_append_drop k l]
  rw [List.takeWhile_append_of_pos (by simpa [List.all_eq_true] using h)]
  have : (l.drop k).takeWhile isD = [] := by
    cases hd : l.drop k with
    | nil => rfl
    | cons c t =>
      have : l[k]? = some c := by
        have := congrArg List.head? hd
        simpa [List.head?_drop] using this
      rw [List.takeWhile_cons_of_neg (by simp [hx c this])]
  rw [this, List.append_nil]
theorem take_snoc (s : ByteArray) (k : Nat) (h : k < s.size) : s.data.toList.take (k + 1) = s.data.toList.take k ++ [s[k]] := by
  rw [List.take_succ_eq_append_getElem (by simpa using h)]; rfl
theorem get_opt (s : ByteArray) (k : Nat) (h : k < s.size) : s.data.toList[k]? = some s[k] := by
  rw [List.getElem?_eq_getElem (by simpa using h)]; rfl

/-- What number answers. -/
def numV (s : ByteArray) : Value := .tuple #[.int .u64 (capN (s.data.toList.takeWhile isD) : Nat), .int .i64 ((s.data.toList.takeWhile isD).length : Nat), .string (s.extract (s.data.toList.takeWhile isD).length s.size)]
theorem numV_is {s : ByteArray} {k n : Nat} (hk : k ≤ s.size) (hn : n = capN (s.data.toList.take k)) (hx : s.data.toList.takeWhile isD = s.data.toList.take k) : numV s = .tuple #[.int .u64 n, .int .i64 k, .string (s.extract k s.size)] := by
  unfold numV
  rw [hx, ← hn, show (s.data.toList.take k).length = k by rw [List.length_take]; simp; omega]

theorem number_any {s : ByteArray} (hs : s.size ≤ 100000) (w : World) : Calls Tryz.prog 212 #[.string s] w fun e w' => e = .returned (numV s) ∧ Below w.heap.size w w' := by
  go_enter Tryz.func212, Tryz.ntmps212
  go_wp2
  go_loop [5, 6] (fun nv kv => ∃ (k n : Nat), k ≤ s.size ∧ kv = .int .i64 k ∧ nv = .int .u64 n ∧ Hid (n = capN (s.data.toList.take k) ∧ (s.data.toList.take k).all isD = true)) (fun _ kv => s.size - (intOf kv).toNat)
  case atStart => exact ⟨0, 0, Nat.zero_le _, rfl, rfl, Lib.hid ⟨rfl, rfl⟩⟩
  case round =>
    obtain ⟨k, n, hk, rfl, rfl, hh⟩ := hrel
    have hn := Lib.hid (show n ≤ 576460752303423488 by rw [hh.out.1]; exact capN_le _)
    by_cases hlt : k < s.size
    · obtain ⟨c, hc⟩ : ∃ c, s[k] = c := ⟨_, rfl⟩
      have hsn := take_snoc s k hlt
      rw [hc] at hsn
      have hno : isD c = false → Hid (numV s = .tuple #[.int .u64 n, .int .i64 k, .string (s.extract k s.size)]) := fun hd => Lib.hid (numV_is hk hh.out.1 (lead_is hh.out.2 (fun d h => by
        rw [get_opt s k hlt, hc] at h; cases h; exact hd)))
      by_cases c1 : 48 ≤ c.toNat
      · by_cases c2 : c.toNat ≤ 57
        · have D : IntKind.u8.wrap ((c.toNat : Int) - 48) = ((c.toNat - 48 : Nat) : Int) := by rw [IntKind.wrap_u8]; omega
          have D2 : Hid ((if 576460752303423488 < IntKind.u64.wrap (IntKind.u64.wrap ((n : Int) * 10) + ((c.toNat - 48 : Nat) : Int)) then (576460752303423488 : Int) else IntKind.u64.wrap (IntKind.u64.wrap ((n : Int) * 10) + ((c.toNat - 48 : Nat) : Int))) = ((min (n * 10 + (c.toNat - 48)) 576460752303423488 : Nat) : Int)) := Lib.hid (by
            have := hn.out
            rw [IntKind.wrap_u64, IntKind.wrap_u64]
            split <;> omega)
          have h6 := Lib.hid (show min (n * 10 + (c.toNat - 48)) 576460752303423488 = capN (s.data.toList.take (k + 1)) ∧ (s.data.toList.take (k + 1)).all isD = true from by
            rw [hsn, capN_snoc, ← hh.out.1]
            refine ⟨rfl, ?_⟩
            rw [List.all_append, hh.out.2]
            simp [isD, c1, c2])
          clear hsn hh hno
          go_wp2
          go_round
          case rel => exact ⟨k + 1, _, by omega, by go_num, by rw [D2.out], h6⟩
          case measure => simp [intOf]; omega
        · have R := hno (by simp [isD]; omega)
          have T : decide ((c.toNat : Int) ≤ 57) = false := by simp; omega
          clear hsn hh hno
          go_upto_region 6 with (fail)
          go_quiet (fail)
          go_wp2_with fail
          go_ret3
          exact ⟨by rw [R.out]; rfl, below_drewN (Below.refl _ _) _⟩
      · have R := hno (by simp [isD]; omega)
        clear hsn hh hno
        go_upto_region 6 with (fail)
        go_quiet (fail)
        go_wp2_with fail
        go_ret3
        exact ⟨by rw [R.out]; rfl, below_drewN (Below.refl _ _) _⟩
    · have R := Lib.hid (numV_is hk hh.out.1 (lead_is hh.out.2 (fun c h => by
        rw [List.getElem?_eq_none (by simp; omega)] at h; cases h)))
      clear hh
      go_upto_region 6 with (fail)
      go_quiet (fail)
      go_wp2_with fail
      go_ret3
      exact ⟨by rw [R.out]; rfl, below_drewN (Below.refl _ _) _⟩
end Go.Proofs.YtcmohggnehkjeaaGreat
