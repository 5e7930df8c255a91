/-
  Contract of basculeref03.FromInt.
-/
import Derived.Test.YthplhgbclbeodaaDoorRefFr
namespace Go.Proofs.YthplhgbclbeodaaDoor
open Go.RowKit Ieee

theorem W_neg {n : Int} (h1 : -9223372036854775808 ≤ n) (h : n < 0) : IntKind.u64.wrap (-(IntKind.u64.wrap n)) = (n.natAbs : Int) := by
  rw [IntKind.wrap_u64, IntKind.wrap_u64]; omega
theorem W_pos {n : Int} (h2 : n ≤ 9223372036854775807) (h : ¬ n < 0) : IntKind.u64.wrap n = (n.natAbs : Int) := by
  rw [IntKind.wrap_u64]; omega
theorem e_small {m e : Nat} (hm : m < 18446744073709551616) (h : 1 ≤ m / 2 ^ e) : e < 64 := by
  have h1 := (Nat.le_div_iff_mul_le (Nat.two_pow_pos e)).1 h
  have h2 : 2 ^ e < 2 ^ 64 := by omega
  exact (Nat.pow_lt_pow_iff_right (by omega)).1 h2

set_option maxHeartbeats 400000 in
theorem FromInt_any {n : Int} (h1 : -9223372036854775808 ≤ n) (h2 : n ≤ 9223372036854775807) (w : World) : Calls Tryd.prog 28 #[.int .i64 n] w fun e w' => e = .returned (.float .f64 (double.nearest (decide (n < 0)) n.natAbs 0)) ∧ w = w' := by
  by_cases h : n < 0
  · have C : decide (n < 0) = true := by simpa using h
    have W := W_neg h1 h
    have hz : n.natAbs ≠ 0 := by omega
    rw [C]
    have hm : Hid (n.natAbs ≤ 9223372036854775808) := Lib.hid (by omega)
    generalize n.natAbs = m at *
    clear h h1 h2
    go_enter Tryd.func28, Tryd.ntmps28
    go_upto_region 6 with (fail)
    go_loop [4, 5] (fun xv ev => ∃ e x : Nat, xv = .int .u64 x ∧ ev = .int .i64 e ∧ Hid (x = m / 2 ^ e ∧ x ≤ m ∧ (e = 0 ∨ 4503599627370496 ≤ x))) (fun xv _ => (intOf xv).toNat)
    case atStart => exact ⟨0, m, rfl, rfl, Lib.hid ⟨by simp, Nat.le_refl _, Or.inl rfl⟩⟩
    case round =>
      obtain ⟨e, x, rfl, rfl, hh⟩ := hrel
      by_cases c1 : 9007199254740992 ≤ x
      · have C1 : decide ((9007199254740992 : Int) ≤ (x : Int)) = true := by simp; omega
        have he := e_small (m := m) (e := e) (by have := hm.out; omega) (by have := hh.out; omega)
        have D : IntKind.u64.wrap ((x : Int) / 2) = ((x / 2 : Nat) : Int) := by have := hm.out; have := hh.out; rw [IntKind.wrap_u64]; omega
        have A : wrap64 ((e : Int) + 1) = ((e + 1 : Nat) : Int) := by unfold wrap64; omega
        have h6 : Hid ((x / 2 = m / 2 ^ (e + 1) ∧ x / 2 ≤ m ∧ (e + 1 = 0 ∨ 4503599627370496 ≤ x / 2)) ∧ x / 2 < x) := Lib.hid ⟨⟨by rw [hh.out.1, Nat.pow_succ, Nat.div_div_eq_div_mul], by have := hh.out; omega, by omega⟩, by omega⟩
        clear hh c1 he
        go_wp2
        go_round
        case rel => exact ⟨e + 1, x / 2, by go_num, by go_num, Lib.hid h6.out.1⟩
        case measure => have := h6.out.2; simp [intOf]; omega
      · have C1 : decide ((9007199254740992 : Int) ≤ (x : Int)) = false := by simp; omega
        rcases Nat.eq_zero_or_pos e with rfl | hpos
        · have hxm : x = m := by rw [hh.out.1]; simp
          subst hxm
          have K := made_any true x (e := 0) (by omega)
          rw [made_short true (by omega) (fun h => absurd h hz)] at K
          have D : IntKind.u64.wrap ((x : Int) - IntKind.u64.wrap (x : Int)) = 0 := by rw [IntKind.wrap_u64, IntKind.wrap_u64]; omega
          clear hh c1
          go_wp2_with (go_at_call 53; refine (K _).mono ?_; rintro e w' ⟨rfl, rfl⟩)
          go_ret
          exact ⟨rfl, rfl⟩
        · obtain ⟨k, rfl⟩ : ∃ k, e = k + 1 := ⟨e - 1, by omega⟩
          have hx1 : 4503599627370496 ≤ m / 2 ^ (k + 1) := by have := hh.out; omega
          have hx2 : m / 2 ^ (k + 1) < 9007199254740992 := by have := hh.out; omega
          have hk : k ≤ 62 := by have := e_small (m := m) (e := k + 1) (by have := hm.out; omega) (by omega); omega
          have hl := made_long true (m := m) (e := k + 1) (by have := hm.out; omega) hx1 hx2 (by omega) rfl
          rw [show (((k + 1 : Nat) : Int)) = (k : Int) + 1 from rfl] at hl
          obtain ⟨q, hq⟩ : ∃ q : Nat, q = 2 ^ k := ⟨_, rfl⟩
          have hq1 : 2 ^ (k + 1) = 2 * q := by rw [hq, Nat.pow_succ]; omega
          have hqi : (2 : Int) ^ k = (q : Int) := by rw [hq]; exact (Int.natCast_pow 2 k).symm
          have hqi1 : (2 : Int) ^ (k + 1) = 2 * (q : Int) := by rw [Int.pow_succ, hqi]; omega
          have hxq : x = m / (2 * q) := by rw [hh.out.1, hq1]
          rw [hq1] at hl
          rw [← hxq] at hl
          obtain ⟨r, hr⟩ : ∃ r : Nat, r = m % (2 * q) := ⟨_, rfl⟩
          rw [← hr] at hl
          have hdm : x * (2 * q) + r = m := by rw [hxq, hr, Nat.mul_comm]; exact Nat.div_add_mod m (2 * q)
          have hqm : q ≤ m := by
            have hx0 : 1 ≤ x := by have := hh.out; omega
            have := Nat.mul_le_mul_right (2 * q) hx0
            omega
          have H2 : IntKind.u64.wrap ((2 : Int) ^ k) = (q : Int) := by rw [hqi, IntKind.wrap_u64]; have := hm.out; omega
          have D : IntKind.u64.wrap ((m : Int) - IntKind.u64.wrap ((x : Int) * 2 ^ (k + 1))) = (r : Int) := by
            rw [hqi1, show (x : Int) * (2 * (q : Int)) = ((x * (2 * q) : Nat) : Int) by simp, IntKind.wrap_u64, IntKind.wrap_u64]
            have := hm.out
            omega
          have D4 : IntKind.u64.wrap ((x : Int) + 1) = ((x + 1 : Nat) : Int) := by rw [IntKind.wrap_u64]; omega
          have hke : -100000 ≤ (k : Int) + 1 ∧ (k : Int) + 1 ≤ 100000 := by omega
          have K0 := Lib.hid (made_any true x hke)
          have K1 := Lib.hid (made_any true (x + 1) hke)
          have hkb : 0 ≤ (k : Int) ∧ (k : Int) ≤ 62 := by omega
          clear hke hk hqm hdm hr hxq hqi1 hqi hq1 hq hx1 hx2 hh c1 hpos
          have hl' := Lib.hid hl
          clear hl
          by_cases u1 : q < r
          · have K := K1.out
            have hv := hl'.out
            rw [show (decide (2 * q < 2 * r) || 2 * q == 2 * r && x % 2 == 1).toNat = 1 by rw [decide_eq_true (show 2 * q < 2 * r by omega)]; rfl] at hv
            rw [hv] at K
            clear K0 K1 hl' hv
            go_wp2_with (go_at_call 53; refine (K _).mono ?_; rintro e w' ⟨rfl, rfl⟩)
            go_ret
            exact ⟨rfl, rfl⟩
          · by_cases u2 : r = q
            · subst u2
              by_cases u3 : x % 2 = 1
              · have T : ((x : Int) % 2 == 1) = true := by simp; omega
                have K := K1.out
                have hv := hl'.out
                rw [show (decide (2 * r < 2 * r) || 2 * r == 2 * r && x % 2 == 1).toNat = 1 by rw [u3]; simp] at hv
                rw [hv] at K
                clear K0 K1 hl' hv u3
                go_wp2_with (go_at_call 53; refine (K _).mono ?_; rintro e w' ⟨rfl, rfl⟩)
                go_ret
                exact ⟨rfl, rfl⟩
              · have T : ((x : Int) % 2 == 1) = false := by simp; omega
                have K := K0.out
                have hv := hl'.out
                rw [show (decide (2 * r < 2 * r) || 2 * r == 2 * r && x % 2 == 1).toNat = 0 by simp [u3]] at hv
                rw [Nat.add_zero] at hv
                rw [hv] at K
                clear K0 K1 hl' hv u3
                go_wp2_with (go_at_call 53; refine (K _).mono ?_; rintro e w' ⟨rfl, rfl⟩)
                go_ret
                exact ⟨rfl, rfl⟩
            · have T : ((r : Int) == (q : Int)) = false := by simp; omega
              have K := K0.out
              have hv := hl'.out
              rw [show (decide (2 * q < 2 * r) || 2 * q == 2 * r && x % 2 == 1).toNat = 0 by
                rw [decide_eq_false (show ¬ 2 * q < 2 * r by omega), show (2 * q == 2 * r) = false by simp; omega]; rfl] at hv
              rw [Nat.add_zero] at hv
              rw [hv] at K
              clear K0 K1 hl' hv
              go_wp2_with (go_at_call 53; refine (K _).mono ?_; rintro e w' ⟨rfl, rfl⟩)
              go_ret
              exact ⟨rfl, rfl⟩
  · have C : decide (n < 0) = false := by simpa using h
    have W := W_pos h2 h
    rw [C]
    have hm : Hid (n.natAbs ≤ 9223372036854775808) := Lib.hid (by omega)
    generalize n.natAbs = m at *
    clear h h1 h2
    go_enter Tryd.func28, Tryd.ntmps28
    go_upto_region 6 with (fail)
    go_loop [4, 5] (fun xv ev => ∃ e x : Nat, xv = .int .u64 x ∧ ev = .int .i64 e ∧ Hid (x = m / 2 ^ e ∧ x ≤ m ∧ (e = 0 ∨ 4503599627370496 ≤ x))) (fun xv _ => (intOf xv).toNat)
    case atStart => exact ⟨0, m, rfl, rfl, Lib.hid ⟨by simp, Nat.le_refl _, Or.inl rfl⟩⟩
    case round =>
      obtain ⟨e, x, rfl, rfl, hh⟩ := hrel
      by_cases c1 : 9007199254740992 ≤ x
      · have C1 : decide ((9007199254740992 : Int) ≤ (x : Int)) = true := by simp; omega
        have he := e_small (m := m) (e := e) (by have := hm.out; omega) (by have := hh.out; omega)
        have D : IntKind.u64.wrap ((x : Int) / 2) = ((x / 2 : Nat) : Int) := by have := hm.out; have := hh.out; rw [IntKind.wrap_u64]; omega
        have A : wrap64 ((e : Int) + 1) = ((e + 1 : Nat) : Int) := by unfold wrap64; omega
        have h6 : Hid ((x / 2 = m / 2 ^ (e + 1) ∧ x / 2 ≤ m ∧ (e + 1 = 0 ∨ 4503599627370496 ≤ x / 2)) ∧ x / 2 < x) := Lib.hid ⟨⟨by rw [hh.out.1, Nat.pow_succ, Nat.div_div_eq_div_mul], by have := hh.out; omega, by omega⟩, by omega⟩
        clear hh c1 he
        go_wp2
        go_round
        case rel => exact ⟨e + 1, x / 2, by go_num, by go_num, Lib.hid h6.out.1⟩
        case measure => have := h6.out.2; simp [intOf]; omega
      · have C1 : decide ((9007199254740992 : Int) ≤ (x : Int)) = false := by simp; omega
        rcases Nat.eq_zero_or_pos e with rfl | hpos
        · have hxm : x = m := by rw [hh.out.1]; simp
          subst hxm
          have K := made_any false x (e := 0) (by omega)
          rw [made_short false (by omega) (fun _ => rfl)] at K
          have D : IntKind.u64.wrap ((x : Int) - IntKind.u64.wrap (x : Int)) = 0 := by rw [IntKind.wrap_u64, IntKind.wrap_u64]; omega
          clear hh c1
          go_wp2_with (go_at_call 53; refine (K _).mono ?_; rintro e w' ⟨rfl, rfl⟩)
          go_ret
          exact ⟨rfl, rfl⟩
        · obtain ⟨k, rfl⟩ : ∃ k, e = k + 1 := ⟨e - 1, by omega⟩
          have hx1 : 4503599627370496 ≤ m / 2 ^ (k + 1) := by have := hh.out; omega
          have hx2 : m / 2 ^ (k + 1) < 9007199254740992 := by have := hh.out; omega
          have hk : k ≤ 62 := by have := e_small (m := m) (e := k + 1) (by have := hm.out; omega) (by omega); omega
          have hl := made_long false (m := m) (e := k + 1) (by have := hm.out; omega) hx1 hx2 (by omega) rfl
          rw [show (((k + 1 : Nat) : Int)) = (k : Int) + 1 from rfl] at hl
          obtain ⟨q, hq⟩ : ∃ q : Nat, q = 2 ^ k := ⟨_, rfl⟩
          have hq1 : 2 ^ (k + 1) = 2 * q := by rw [hq, Nat.pow_succ]; omega
          have hqi : (2 : Int) ^ k = (q : Int) := by rw [hq]; exact (Int.natCast_pow 2 k).symm
          have hqi1 : (2 : Int) ^ (k + 1) = 2 * (q : Int) := by rw [Int.pow_succ, hqi]; omega
          have hxq : x = m / (2 * q) := by rw [hh.out.1, hq1]
          rw [hq1] at hl
          rw [← hxq] at hl
          obtain ⟨r, hr⟩ : ∃ r : Nat, r = m % (2 * q) := ⟨_, rfl⟩
          rw [← hr] at hl
          have hdm : x * (2 * q) + r = m := by rw [hxq, hr, Nat.mul_comm]; exact Nat.div_add_mod m (2 * q)
          have hqm : q ≤ m := by
            have hx0 : 1 ≤ x := by have := hh.out; omega
            have := Nat.mul_le_mul_right (2 * q) hx0
            omega
          have H2 : IntKind.u64.wrap ((2 : Int) ^ k) = (q : Int) := by rw [hqi, IntKind.wrap_u64]; have := hm.out; omega
          have D : IntKind.u64.wrap ((m : Int) - IntKind.u64.wrap ((x : Int) * 2 ^ (k + 1))) = (r : Int) := by
            rw [hqi1, show (x : Int) * (2 * (q : Int)) = ((x * (2 * q) : Nat) : Int) by simp, IntKind.wrap_u64, IntKind.wrap_u64]
            have := hm.out
            omega
          have D4 : IntKind.u64.wrap ((x : Int) + 1) = ((x + 1 : Nat) : Int) := by rw [IntKind.wrap_u64]; omega
          have hke : -100000 ≤ (k : Int) + 1 ∧ (k : Int) + 1 ≤ 100000 := by omega
          have K0 := Lib.hid (made_any false x hke)
          have K1 := Lib.hid (made_any false (x + 1) hke)
          have hkb : 0 ≤ (k : Int) ∧ (k : Int) ≤ 62 := by omega
          clear hke hk hqm hdm hr hxq hqi1 hqi hq1 hq hx1 hx2 hh c1 hpos
          have hl' := Lib.hid hl
          clear hl
          by_cases u1 : q < r
          · have K := K1.out
            have hv := hl'.out
            rw [show (decide (2 * q < 2 * r) || 2 * q == 2 * r && x % 2 == 1).toNat = 1 by rw [decide_eq_true (show 2 * q < 2 * r by omega)]; rfl] at hv
            rw [hv] at K
            clear K0 K1 hl' hv
            go_wp2_with (go_at_call 53; refine (K _).mono ?_; rintro e w' ⟨rfl, rfl⟩)
            go_ret
            exact ⟨rfl, rfl⟩
          · by_cases u2 : r = q
            · subst u2
              by_cases u3 : x % 2 = 1
              · have T : ((x : Int) % 2 == 1) = true := by simp; omega
                have K := K1.out
                have hv := hl'.out
                rw [show (decide (2 * r < 2 * r) || 2 * r == 2 * r && x % 2 == 1).toNat = 1 by rw [u3]; simp] at hv
                rw [hv] at K
                clear K0 K1 hl' hv u3
                go_wp2_with (go_at_call 53; refine (K _).mono ?_; rintro e w' ⟨rfl, rfl⟩)
                go_ret
                exact ⟨rfl, rfl⟩
              · have T : ((x : Int) % 2 == 1) = false := by simp; omega
                have K := K0.out
                have hv := hl'.out
                rw [show (decide (2 * r < 2 * r) || 2 * r == 2 * r && x % 2 == 1).toNat = 0 by simp [u3]] at hv
                rw [Nat.add_zero] at hv
                rw [hv] at K
                clear K0 K1 hl' hv u3
                go_wp2_with (go_at_call 53; refine (K _).mono ?_; rintro e w' ⟨rfl, rfl⟩)
                go_ret
                exact ⟨rfl, rfl⟩
            · have T : ((r : Int) == (q : Int)) = false := by simp; omega
              have K := K0.out
              have hv := hl'.out
              rw [show (decide (2 * q < 2 * r) || 2 * q == 2 * r && x % 2 == 1).toNat = 0 by
                rw [decide_eq_false (show ¬ 2 * q < 2 * r by omega), show (2 * q == 2 * r) = false by simp; omega]; rfl] at hv
              rw [Nat.add_zero] at hv
              rw [hv] at K
              clear K0 K1 hl' hv
              go_wp2_with (go_at_call 53; refine (K _).mono ?_; rintro e w' ⟨rfl, rfl⟩)
              go_ret
              exact ⟨rfl, rfl⟩
end Go.Proofs.YthplhgbclbeodaaDoor
