/-
  Contract of basculeref03.ToInt.
-/
import Derived.Test.YthplhgbclbeodaaDoorRefFm
namespace Go.Proofs.YthplhgbclbeodaaDoor
open Go.RowKit Ieee

/-- An odd part and a power, cut towards nought. -/
def tr (o : Nat) (E : Int) : Nat := if E < 0 then o / 2 ^ (-E).toNat else o * 2 ^ E.toNat
def toV (ms : Bool) (t : Nat) : Value := if ms = true then (if 9223372036854775808 < t then .tuple #[.int .i64 0, .int .i64 3] else .tuple #[.int .i64 (-(t : Int)), .int .i64 0]) else (if 9223372036854775808 ≤ t then .tuple #[.int .i64 0, .int .i64 3] else .tuple #[.int .i64 t, .int .i64 0])

theorem tr_end {o k : Nat} {E : Int} (hk : k = 0 ∨ E + k ≤ 0) (hx : ¬ (E + k < 0 ∧ 0 < o / 2 ^ k)) : tr o E = o / 2 ^ k * 2 ^ (E + k).toNat := by
  unfold tr
  by_cases he : E < 0
  · rw [if_pos he]
    have hle : E + k ≤ 0 := by rcases hk with rfl | h <;> omega
    rw [show (E + k).toNat = 0 by omega, Nat.pow_zero, Nat.mul_one]
    by_cases hz : E + k = 0
    · rw [show (-E).toNat = k by omega]
    · have h0 : o / 2 ^ k = 0 := by
        rcases Nat.eq_zero_or_pos (o / 2 ^ k) with h | h
        · exact h
        · exact absurd ⟨by omega, h⟩ hx
      rw [h0]
      have h1 : (-E).toNat = k + ((-E).toNat - k) := by omega
      rw [h1, Nat.pow_add, ← Nat.div_div_eq_div_mul, h0, Nat.zero_div]
  · rw [if_neg he]
    have h0 : k = 0 := by omega
    subst h0
    simp

theorem toV_over {ms : Bool} {t : Nat} (h : 9223372036854775808 < t) : toV ms t = .tuple #[.int .i64 0, .int .i64 3] := by
  unfold toV
  cases ms
  · rw [if_neg (by decide), if_pos (by omega)]
  · rw [if_pos rfl, if_pos h]
theorem over {c d : Nat} (h : 4611686018427387904 < c) (hd : 0 < d) : 9223372036854775808 < c * 2 ^ d := by
  obtain ⟨d', rfl⟩ : ∃ d', d = d' + 1 := ⟨d - 1, by omega⟩
  rw [Nat.pow_succ, ← Nat.mul_assoc]
  have := Nat.mul_le_mul_left c (Nat.one_le_two_pow (n := d'))
  omega

theorem ToInt_nan {b : Nat} (h : nanB b = true) (w : World) : Calls Tryd.prog 26 #[.float .f64 b] w fun e w' => e = .returned (.tuple #[.int .i64 0, .int .i64 3]) ∧ w = w' := by
  have N := NaN_any b
  rw [h] at N
  clear h
  go_enter Tryd.func26, Tryd.ntmps26
  go_wp2_with (go_at_call 35; refine (N _).mono ?_; rintro e w' ⟨rfl, rfl⟩)
  go_ret2
  exact ⟨rfl, rfl⟩
theorem ToInt_inf {b : Nat} (h : nanB b = false) (I : (IntKind.u64.wrap ((b : Int) * 2) == (18437736874454810624 : Int)) = true) (w : World) : Calls Tryd.prog 26 #[.float .f64 b] w fun e w' => e = .returned (.tuple #[.int .i64 0, .int .i64 3]) ∧ w = w' := by
  have H := bits_run
  have N := NaN_any b
  rw [h] at N
  clear h
  go_enter Tryd.func26, Tryd.ntmps26
  go_wp2_with (go_at_call 35; refine (N _).mono ?_; rintro e w' ⟨rfl, rfl⟩)
  go_ret2
  exact ⟨rfl, rfl⟩

theorem ToInt_some {b o : Nat} {E : Int} {ms : Bool} (N : ∀ w, Calls Tryd.prog 35 #[.float .f64 b] w fun e w' => e = .returned (.bool false) ∧ w = w') (M : ∀ w, Calls Tryd.prog 48 #[.float .f64 b] w fun e w' => e = .returned (.bool ms) ∧ w = w')
    (I : (IntKind.u64.wrap ((b : Int) * 2) == (18437736874454810624 : Int)) = false) (Q : ∀ w, Calls Tryd.prog 49 #[.float .f64 b] w fun e w' => e = .returned (.tuple #[.int .u64 (o : Nat), .int .i64 E]) ∧ w = w')
    (ho : o < 9007199254740992) (hE : -1074 ≤ E ∧ E < 9007199254742000) (w : World) : Calls Tryd.prog 26 #[.float .f64 b] w fun e w' => e = .returned (toV ms (tr o E)) ∧ w = w' := by
  have H := bits_run
  have ho' := Lib.hid ho
  have hE' := Lib.hid hE
  clear ho hE
  go_enter Tryd.func26, Tryd.ntmps26
  go_wp2_with (first | (go_at_call 35; refine (N _).mono ?_; rintro e w' ⟨rfl, rfl⟩) | (go_at_call 49; refine (Q _).mono ?_; rintro e w' ⟨rfl, rfl⟩))
  clear I
  go_loop [4, 5] (fun mv ev => ∃ (a k : Nat) (F : Int), mv = .int .u64 a ∧ ev = .int .i64 F ∧ Hid (F = E + k ∧ a = o / 2 ^ k ∧ a ≤ o ∧ (k = 0 ∨ E + k ≤ 0))) (fun _ ev => (-(intOf ev)).toNat)
  case atStart => exact ⟨o, 0, E, rfl, rfl, Lib.hid ⟨by simp, by simp, Nat.le_refl _, Or.inl rfl⟩⟩
  case round =>
    obtain ⟨a, k, F, rfl, rfl, hh⟩ := hrel
    by_cases c1 : F < 0
    · have C1 : decide (F < 0) = true := by simp; omega
      by_cases c2 : 0 < a
      · have C2 : decide (0 < (a : Int)) = true := by simp; omega
        have D : IntKind.u64.wrap ((a : Int) / 2) = ((a / 2 : Nat) : Int) := by
          have := ho'.out
          have := hh.out
          rw [IntKind.wrap_u64]; omega
        have A : wrap64 (F + 1) = F + 1 := by have := hE'.out; have := hh.out; unfold wrap64; omega
        have h6 : Hid ((F + 1 = E + ((k + 1 : Nat) : Int) ∧ a / 2 = o / 2 ^ (k + 1) ∧ a / 2 ≤ o ∧ (k + 1 = 0 ∨ E + ((k + 1 : Nat) : Int) ≤ 0)) ∧ (-(F + 1)).toNat < (-F).toNat) :=
          Lib.hid ⟨⟨by have := hh.out; omega, by rw [hh.out.2.1, Nat.pow_succ, Nat.div_div_eq_div_mul], by have := hh.out; omega, Or.inr (by have := hh.out; omega)⟩, by omega⟩
        clear hh c1
        go_wp2
        go_round
        case rel => exact ⟨a / 2, k + 1, F + 1, by go_num, by rw [A], Lib.hid h6.out.1⟩
        case measure => rw [A]; exact h6.out.2
      · have a0 : a = 0 := by omega
        subst a0
        have t := Lib.hid (show tr o E = 0 * 2 ^ F.toNat from by rw [hh.out.1, hh.out.2.1]; exact tr_end hh.out.2.2.2 (by have := hh.out; omega))
        go_wp2
        clear C1
        have C3 : decide (0 < F) = false := by simp; omega
        clear c1 c2 hh
        rw [Nat.zero_mul] at t
        go_loop [4, 6] (fun mv iv => mv = .int .u64 0 ∧ iv = .int .i64 0) (fun _ _ => 0)
        case atStart => exact ⟨rfl, rfl⟩
        case round =>
          obtain ⟨rfl, rfl⟩ := hrel
          cases ms
          · go_wp2_with (go_at_call 48; refine (M _).mono ?_; rintro e w' ⟨rfl, rfl⟩)
            go_ret2
            exact ⟨by rw [t.out]; simp [toV], rfl⟩
          · go_wp2_with (go_at_call 48; refine (M _).mono ?_; rintro e w' ⟨rfl, rfl⟩)
            go_ret2
            exact ⟨by rw [t.out]; simp [toV], rfl⟩
    · have C1 : decide (F < 0) = false := by simp; omega
      have t := Lib.hid (show tr o E = a * 2 ^ F.toNat from by rw [hh.out.1, hh.out.2.1]; exact tr_end hh.out.2.2.2 (by have := hh.out; omega))
      have hb := Lib.hid (show a < 9007199254740992 from by have := ho'.out; have := hh.out; omega)
      have hF := Lib.hid (show -9007199254742000 < F ∧ F < 9007199254742000 from by have := hE'.out; have := hh.out; omega)
      clear hh c1
      go_wp2
      clear C1
      go_loop [4, 6] (fun mv iv => ∃ c i : Nat, mv = .int .u64 c ∧ iv = .int .i64 i ∧ Hid (c = a * 2 ^ i ∧ (i = 0 ∨ (i : Int) ≤ F) ∧ c ≤ 9223372036854775808)) (fun _ iv => (F - intOf iv).toNat)
      case atStart => exact ⟨a, 0, rfl, rfl, Lib.hid ⟨by simp, Or.inl rfl, by have := hb.out; omega⟩⟩
      case round =>
        obtain ⟨c, i, rfl, rfl, hh⟩ := hrel
        by_cases c1 : (i : Int) < F
        · have C1 : decide ((i : Int) < F) = true := by simp; omega
          by_cases c2 : 0 < c
          · by_cases c3 : 4611686018427387904 < c
            · have C3 : decide ((4611686018427387904 : Int) < (c : Int)) = true := by simp; omega
              have R := Lib.hid (show toV ms (tr o E) = .tuple #[.int .i64 0, .int .i64 3] from by
                rw [t.out, show F.toNat = i + (F.toNat - i) by omega, Nat.pow_add, ← Nat.mul_assoc, ← hh.out.1]
                exact toV_over (over c3 (by omega)))
              clear hh c1 c3
              go_wp2
              go_ret2
              exact ⟨by rw [R.out]; rfl, rfl⟩
            · have C3 : decide ((4611686018427387904 : Int) < (c : Int)) = false := by simp; omega
              have D : IntKind.u64.wrap ((c : Int) * 2) = ((c * 2 : Nat) : Int) := by
                rw [IntKind.wrap_u64]; omega
              have A : wrap64 ((i : Int) + 1) = ((i + 1 : Nat) : Int) := by have := hF.out; unfold wrap64; omega
              have h6 : Hid ((c * 2 = a * 2 ^ (i + 1) ∧ (i + 1 = 0 ∨ ((i + 1 : Nat) : Int) ≤ F) ∧ c * 2 ≤ 9223372036854775808) ∧ (F - ((i + 1 : Nat) : Int)).toNat < (F - (i : Int)).toNat) :=
                Lib.hid ⟨⟨by rw [hh.out.1, Nat.pow_succ, Nat.mul_assoc], Or.inr (by omega), by omega⟩, by omega⟩
              clear hh c1 c3
              go_wp2
              go_round
              case rel => exact ⟨c * 2, i + 1, by go_num, by go_num, Lib.hid h6.out.1⟩
              case measure => rw [A]; exact h6.out.2
          · have tc := Lib.hid (show tr o E = c from by
              rw [t.out]
              have h0 : a * 2 ^ i = 0 := by rw [← hh.out.1]; omega
              have h1 : a = 0 := by
                rcases Nat.mul_eq_zero.1 h0 with h | h
                · exact h
                · exact absurd h (Nat.pos_iff_ne_zero.1 (Nat.two_pow_pos i))
              rw [h1]; omega)
            have hc := hh.out.2.2
            have N1 : wrap64 (IntKind.u64.wrap (-(c : Int))) = -(c : Int) := by rw [IntKind.wrap_u64]; unfold wrap64; omega
            have B1 : decide ((9223372036854775808 : Int) < (c : Int)) = false := by simp; omega
            cases ms
            · by_cases g : 9223372036854775808 ≤ c
              · have B2 : decide ((9223372036854775808 : Int) ≤ (c : Int)) = true := by simp; omega
                have R := Lib.hid (show toV false (tr o E) = .tuple #[.int .i64 0, .int .i64 3] from by rw [tc.out]; unfold toV; rw [if_neg (by decide), if_pos g])
                clear hh c1 hc g N1
                go_wp2_with (go_at_call 48; refine (M _).mono ?_; rintro e w' ⟨rfl, rfl⟩)
                go_ret2
                exact ⟨by rw [R.out]; rfl, rfl⟩
              · have B2 : decide ((9223372036854775808 : Int) ≤ (c : Int)) = false := by simp; omega
                have R := Lib.hid (show toV false (tr o E) = .tuple #[.int .i64 c, .int .i64 0] from by rw [tc.out]; unfold toV; rw [if_neg (by decide), if_neg g])
                have W : wrap64 (c : Int) = c := by unfold wrap64; omega
                clear hh c1 hc g N1
                go_wp2_with (go_at_call 48; refine (M _).mono ?_; rintro e w' ⟨rfl, rfl⟩)
                go_ret2
                exact ⟨by rw [R.out]; simp, rfl⟩
            · have R := Lib.hid (show toV true (tr o E) = .tuple #[.int .i64 (-(c : Int)), .int .i64 0] from by rw [tc.out]; unfold toV; rw [if_pos rfl, if_neg (by omega)])
              clear hh c1 hc
              go_wp2_with (go_at_call 48; refine (M _).mono ?_; rintro e w' ⟨rfl, rfl⟩)
              go_ret2
              exact ⟨by rw [R.out]; simp, rfl⟩
        · have C1 : decide ((i : Int) < F) = false := by simp; omega
          have tc := Lib.hid (show tr o E = c from by
            rw [t.out, hh.out.1, show F.toNat = i by have := hh.out; omega])
          have hc := hh.out.2.2
          have N1 : wrap64 (IntKind.u64.wrap (-(c : Int))) = -(c : Int) := by rw [IntKind.wrap_u64]; unfold wrap64; omega
          have B1 : decide ((9223372036854775808 : Int) < (c : Int)) = false := by simp; omega
          cases ms
          · by_cases g : 9223372036854775808 ≤ c
            · have B2 : decide ((9223372036854775808 : Int) ≤ (c : Int)) = true := by simp; omega
              have R := Lib.hid (show toV false (tr o E) = .tuple #[.int .i64 0, .int .i64 3] from by rw [tc.out]; unfold toV; rw [if_neg (by decide), if_pos g])
              clear hh c1 hc g N1
              go_wp2_with (go_at_call 48; refine (M _).mono ?_; rintro e w' ⟨rfl, rfl⟩)
              go_ret2
              exact ⟨by rw [R.out]; rfl, rfl⟩
            · have B2 : decide ((9223372036854775808 : Int) ≤ (c : Int)) = false := by simp; omega
              have R := Lib.hid (show toV false (tr o E) = .tuple #[.int .i64 c, .int .i64 0] from by rw [tc.out]; unfold toV; rw [if_neg (by decide), if_neg g])
              have W : wrap64 (c : Int) = c := by unfold wrap64; omega
              clear hh c1 hc g N1
              go_wp2_with (go_at_call 48; refine (M _).mono ?_; rintro e w' ⟨rfl, rfl⟩)
              go_ret2
              exact ⟨by rw [R.out]; simp [W], rfl⟩
          · have R := Lib.hid (show toV true (tr o E) = .tuple #[.int .i64 (-(c : Int)), .int .i64 0] from by rw [tc.out]; unfold toV; rw [if_pos rfl, if_neg (by omega)])
            clear hh c1 hc
            go_wp2_with (go_at_call 48; refine (M _).mono ?_; rintro e w' ⟨rfl, rfl⟩)
            go_ret2
            exact ⟨by rw [R.out]; simp [N1], rfl⟩
/-- What ToInt answers. -/
def toIntV (b : Nat) : Value := if 9218868437227405312 ≤ rung b then .tuple #[.int .i64 0, .int .i64 3] else toV (sgn b) (tr (oddW b) (expW b))
theorem ToInt_any {b : Nat} (hb : okW b) : Says 26 #[.float .f64 b] (toIntV b) := by
  intro w
  unfold toIntV
  have I := infB_shl b
  by_cases hn : nanB b = true
  · have hn' := hn
    unfold nanB at hn'
    rw [if_pos (by have := of_decide_eq_true hn'; omega)]
    exact ToInt_nan hn w
  · have hn' : ¬ 9218868437227405312 < rung b := by
      intro h; exact hn (decide_eq_true h)
    have hf : nanB b = false := by simpa using hn
    by_cases hi : rung b = 9218868437227405312
    · rw [if_pos (by omega)]
      rw [decide_eq_true hi] at I
      exact ToInt_inf hf I w
    · rw [if_neg (by omega)]
      rw [decide_eq_false hi] at I
      have N := NaN_any b
      rw [hf] at N
      have Q := @parts_any b
      rw [partsV_eq] at Q
      exact ToInt_some N (minus_any hb) I Q (oddW_lt b) (expW_in b) w
end Go.Proofs.YthplhgbclbeodaaDoor
