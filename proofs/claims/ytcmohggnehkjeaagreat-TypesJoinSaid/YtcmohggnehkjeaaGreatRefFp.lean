/-
  Contract of basculeref03.parts.
-/
import Derived.Test.YtcmohggnehkjeaaGreatRefF
import Derived.Deep.Cut
import Derived.Deep.CutRange
namespace Go.Proofs.YtcmohggnehkjeaaGreat
open Go.RowKit

def twos (m : Nat) : Nat := if 0 < m ∧ m % 2 = 0 then twos (m / 2) + 1 else 0
termination_by m
decreasing_by omega
def oddOf (m : Nat) : Nat := if 0 < m ∧ m % 2 = 0 then oddOf (m / 2) else m
termination_by m
decreasing_by omega
theorem twos_even {m : Nat} (h : 0 < m) (h2 : m % 2 = 0) : twos m = twos (m / 2) + 1 := by rw [twos, if_pos ⟨h, h2⟩]
theorem twos_odd {m : Nat} (h2 : m % 2 ≠ 0) : twos m = 0 := by rw [twos, if_neg (fun h => h2 h.2)]
theorem oddOf_even {m : Nat} (h : 0 < m) (h2 : m % 2 = 0) : oddOf m = oddOf (m / 2) := by rw [oddOf, if_pos ⟨h, h2⟩]
theorem oddOf_odd {m : Nat} (h2 : m % 2 ≠ 0) : oddOf m = m := by rw [oddOf, if_neg (fun h => h2 h.2)]

def mantW (b : Nat) : Nat := if rung b < 4503599627370496 then rung b else 4503599627370496 + rung b % 4503599627370496
def placeW (b : Nat) : Int := if rung b < 4503599627370496 then -1074 else (rung b / 4503599627370496 : Nat) - 1075

theorem mant0 (b : Nat) : IntKind.u64.wrap ((b : Int) * 4096) / 4096 = ((b % 4503599627370496 : Nat) : Int) := by rw [IntKind.wrap_u64]; omega
theorem place0 (b : Nat) : wrap64 (wrap64 (IntKind.u64.wrap ((b : Int) * 2) / 9007199254740992) - 1075) = ((rung b / 4503599627370496 : Nat) : Int) - 1075 := by
  rw [IntKind.wrap_u64]; unfold wrap64 rung; omega
theorem mant_sub {b : Nat} (h : rung b / 4503599627370496 = 0) : mantW b = b % 4503599627370496 := by unfold mantW rung at *; rw [if_pos (by omega)]; omega
theorem mant_norm {b : Nat} (h : rung b / 4503599627370496 ≠ 0) : mantW b = b % 4503599627370496 + 4503599627370496 := by unfold mantW rung at *; rw [if_neg (by omega)]; omega
theorem place_sub {b : Nat} (h : rung b / 4503599627370496 = 0) : placeW b = -1074 := by unfold placeW; rw [if_pos (by omega)]
theorem place_norm {b : Nat} (h : rung b / 4503599627370496 ≠ 0) : placeW b = (rung b / 4503599627370496 : Nat) - 1075 := by unfold placeW; rw [if_neg (by omega)]
theorem place_in (b : Nat) : -1074 ≤ placeW b ∧ placeW b ≤ 972 := by
  unfold placeW
  split
  · omega
  · unfold rung at *; omega
theorem mant_lt (b : Nat) : mantW b < 9007199254740992 := by unfold mantW; split <;> omega

def partsV (b : Nat) : Value := if mantW b = 0 then .tuple #[.int .u64 0, .int .i64 0] else .tuple #[.int .u64 (oddOf (mantW b) : Nat), .int .i64 (placeW b + twos (mantW b))]

theorem parts_any {b : Nat} (w : World) : Calls Tryz.prog 165 #[.float .f64 b] w fun e w' => e = .returned (partsV b) ∧ w = w' := by
  have H := bits_run
  have F : Hid ((rung b / 4503599627370496 = 0 → mantW b = b % 4503599627370496 ∧ placeW b = -1074) ∧ (rung b / 4503599627370496 ≠ 0 → mantW b = b % 4503599627370496 + 4503599627370496 ∧ placeW b = (rung b / 4503599627370496 : Nat) - 1075)) := Lib.hid ⟨fun h => ⟨mant_sub h, place_sub h⟩, fun h => ⟨mant_norm h, place_norm h⟩⟩
  have hM := Lib.hid (mant_lt b)
  have hE := Lib.hid (place_in b)
  unfold partsV
  generalize mantW b = M at *
  generalize placeW b = E at *
  go_enter Tryz.func165, Tryz.ntmps165
  go_upto_region 4 with (fail)
  rw [mant0, place0]
  by_cases h : rung b / 4503599627370496 = 0
  · have e := Lib.hid (F.out.1 h)
    rw [h]
    clear h F
    generalize b % 4503599627370496 = m at *
    go_upto_region 7 with (fail)
    rw [← e.out.1, ← e.out.2]
    clear e
    by_cases hz : M = 0
    · subst hz
      go_wp2
      go_ret2
      exact ⟨rfl, rfl⟩
    · have T2 : ((M : Int) == 0) = false := by simp; omega
      go_wp2
      go_loop [5, 6] (fun mv ev => ∃ m k : Nat, 0 < m ∧ m + k ≤ M ∧ mv = .int .u64 m ∧ ev = .int .i64 (E + k) ∧ Hid (oddOf m = oddOf M ∧ twos m + k = twos M)) (fun mv _ => (intOf mv).toNat)
      case atStart => exact ⟨M, 0, by omega, by omega, rfl, by simp, Lib.hid ⟨rfl, rfl⟩⟩
      case round =>
        obtain ⟨m, k, hm, hmk, rfl, rfl, ho⟩ := hrel
        by_cases h2 : m % 2 = 0
        · have T3 : ((m : Int) % 2 == 0) = true := by simp; omega
          have D : IntKind.u64.wrap ((m : Int) / 2) = ((m / 2 : Nat) : Int) := by
            have := hM.out
            rw [IntKind.wrap_u64]; omega
          have A : wrap64 (E + k + 1) = E + ((k + 1 : Nat) : Int) := by have := hM.out; have := hE.out; unfold wrap64; omega
          have h3 : 0 < m / 2 := by omega
          have h4 : m / 2 + (k + 1) ≤ M := by omega
          have ho' : Hid (oddOf (m / 2) = oddOf M ∧ twos (m / 2) + (k + 1) = twos M) := Lib.hid ⟨by rw [← oddOf_even hm h2]; exact ho.out.1, by have := ho.out.2; rw [twos_even hm h2] at this; omega⟩
          have h5 : m / 2 < m := by omega
          have h6 := Lib.hid (And.intro h3 (And.intro h4 h5))
          clear ho hmk h2 h3 h4 h5
          go_wp2
          go_round
          case rel => exact ⟨m / 2, k + 1, h6.out.1, h6.out.2.1, by go_num, by go_num, ho'⟩
          case measure => have := h6.out.2.2; simp [intOf]; omega
        · have T3 : ((m : Int) % 2 == 0) = false := by simp; omega
          have ho' : Hid (oddOf M = m ∧ twos M = k) := Lib.hid ⟨by rw [← ho.out.1, oddOf_odd h2], by rw [← ho.out.2, twos_odd h2]; omega⟩
          clear ho h2
          go_wp2
          go_ret2
          exact ⟨by rw [ho'.out.1, ho'.out.2]; rfl, rfl⟩
  · have e := Lib.hid (F.out.2 h)
    have T : (((rung b / 4503599627370496 : Nat) : Int) - 1075 == -1075) = false := by simp; omega
    have S : IntKind.u64.wrap (((b % 4503599627370496 : Nat) : Int) + 4503599627370496) = ((b % 4503599627370496 + 4503599627370496 : Nat) : Int) := by rw [IntKind.wrap_u64]; omega
    clear h F
    generalize b % 4503599627370496 + 4503599627370496 = n at *
    generalize b % 4503599627370496 = m at *
    generalize rung b / 4503599627370496 = x at *
    go_upto_region 7 with (fail)
    rw [← e.out.1, ← e.out.2]
    clear e
    by_cases hz : M = 0
    · subst hz
      go_wp2
      go_ret2
      exact ⟨rfl, rfl⟩
    · have T2 : ((M : Int) == 0) = false := by simp; omega
      go_wp2
      go_loop [5, 6] (fun mv ev => ∃ m k : Nat, 0 < m ∧ m + k ≤ M ∧ mv = .int .u64 m ∧ ev = .int .i64 (E + k) ∧ Hid (oddOf m = oddOf M ∧ twos m + k = twos M)) (fun mv _ => (intOf mv).toNat)
      case atStart => exact ⟨M, 0, by omega, by omega, rfl, by simp, Lib.hid ⟨rfl, rfl⟩⟩
      case round =>
        obtain ⟨m, k, hm, hmk, rfl, rfl, ho⟩ := hrel
        by_cases h2 : m % 2 = 0
        · have T3 : ((m : Int) % 2 == 0) = true := by simp; omega
          have D : IntKind.u64.wrap ((m : Int) / 2) = ((m / 2 : Nat) : Int) := by
            have := hM.out
            rw [IntKind.wrap_u64]; omega
          have A : wrap64 (E + k + 1) = E + ((k + 1 : Nat) : Int) := by have := hM.out; have := hE.out; unfold wrap64; omega
          have h3 : 0 < m / 2 := by omega
          have h4 : m / 2 + (k + 1) ≤ M := by omega
          have ho' : Hid (oddOf (m / 2) = oddOf M ∧ twos (m / 2) + (k + 1) = twos M) := Lib.hid ⟨by rw [← oddOf_even hm h2]; exact ho.out.1, by have := ho.out.2; rw [twos_even hm h2] at this; omega⟩
          have h5 : m / 2 < m := by omega
          have h6 := Lib.hid (And.intro h3 (And.intro h4 h5))
          clear ho hmk h2 h3 h4 h5
          go_wp2
          go_round
          case rel => exact ⟨m / 2, k + 1, h6.out.1, h6.out.2.1, by go_num, by go_num, ho'⟩
          case measure => have := h6.out.2.2; simp [intOf]; omega
        · have T3 : ((m : Int) % 2 == 0) = false := by simp; omega
          have ho' : Hid (oddOf M = m ∧ twos M = k) := Lib.hid ⟨by rw [← ho.out.1, oddOf_odd h2], by rw [← ho.out.2, twos_odd h2]; omega⟩
          clear ho h2
          go_wp2
          go_ret2
          exact ⟨by rw [ho'.out.1, ho'.out.2]; rfl, rfl⟩
end Go.Proofs.YtcmohggnehkjeaaGreat
