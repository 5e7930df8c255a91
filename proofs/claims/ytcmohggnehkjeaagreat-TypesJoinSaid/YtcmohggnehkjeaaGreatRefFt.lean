/-
  Contract of basculeref03.Text.
-/
import Derived.Test.YtcmohggnehkjeaaGreatRefFd
namespace Go.Proofs.YtcmohggnehkjeaaGreat
open Go.RowKit

def oddW (b : Nat) : Nat := if mantW b = 0 then 0 else oddOf (mantW b)
def expW (b : Nat) : Int := if mantW b = 0 then 0 else placeW b + twos (mantW b)
theorem partsV_eq (b : Nat) : partsV b = .tuple #[.int .u64 (oddW b : Nat), .int .i64 (expW b)] := by
  unfold partsV oddW expW; split <;> rfl
theorem oddOf_le : ∀ m, oddOf m ≤ m := by
  intro m
  induction m using Nat.strongRecOn with
  | ind m ih =>
    rw [oddOf]
    split
    · have := ih (m / 2) (by omega); omega
    · omega
theorem twos_le : ∀ m, twos m ≤ m := by
  intro m
  induction m using Nat.strongRecOn with
  | ind m ih =>
    rw [twos]
    split
    · have := ih (m / 2) (by omega); omega
    · omega
theorem oddW_lt (b : Nat) : oddW b < 9007199254740992 := by
  unfold oddW
  have := mant_lt b
  have := oddOf_le (mantW b)
  split <;> omega
theorem expW_in (b : Nat) : -1074 ≤ expW b ∧ expW b < 9007199254742000 := by
  unfold expW
  have := mant_lt b
  have := place_in b
  have := twos_le (mantW b)
  split <;> omega

def signS (b : Nat) : ByteArray := if sgn b = true then ⟨#[45]⟩ else ⟨#[]⟩
def expS (e : Int) : ByteArray := if e < 0 then ⟨#[45]⟩ ++ strL (digL (-e).toNat) else strL (digL e.toNat)
def textB (b : Nat) : ByteArray := if nanB b = true then ⟨#[110, 97, 110]⟩ else if rung b = 9218868437227405312 then signS b ++ ⟨#[105, 110, 102]⟩ else signS b ++ strL (digL (oddW b)) ++ ⟨#[112]⟩ ++ expS (expW b)

theorem signS_size (b : Nat) : (signS b).size ≤ 1 := by unfold signS; split <;> decide
theorem digits_size {n : Nat} (h : n < 18446744073709551616) : (strL (digL n)).size ≤ 20 := digL_len20 h

theorem Text_nan {b : Nat} (hb : okW b) (h : nanB b = true) (w : World) : Calls Tryz.prog 139 #[.float .f64 b] w fun e w' => e = .returned (.string ⟨#[110, 97, 110]⟩) ∧ w = w' := by
  have M := @minus_any b hb
  have N := NaN_any b
  rw [h] at N
  clear hb h
  go_enter Tryz.func139, Tryz.ntmps139
  go_wp2_with (first | (go_at_call 138; refine (N _).mono ?_; rintro e w' ⟨rfl, rfl⟩) | (go_at_call 164; refine (M _).mono ?_; rintro e w' ⟨rfl, rfl⟩))
  all_goals (go_ret; exact ⟨rfl, rfl⟩)

theorem Text_inf {b : Nat} {s : ByteArray} {ms : Bool} (N : ∀ w, Calls Tryz.prog 138 #[.float .f64 b] w fun e w' => e = .returned (.bool false) ∧ w = w') (M : ∀ w, Calls Tryz.prog 164 #[.float .f64 b] w fun e w' => e = .returned (.bool ms) ∧ w = w') (hs : s = if ms then ⟨#[45]⟩ else ⟨#[]⟩)
    (I : (IntKind.u64.wrap ((b : Int) * 2) == (18437736874454810624 : Int)) = true) (w : World) : Calls Tryz.prog 139 #[.float .f64 b] w fun e w' => e = .returned (.string (s ++ ⟨#[105, 110, 102]⟩)) ∧ w = w' := by
  have H := bits_run
  have zs : s.size ≤ 1 := by rw [hs]; cases ms <;> decide
  have F1 : ¬ 9223372036854775807 < s.size + ByteArray.size ⟨#[105, 110, 102]⟩ := by
    have : ByteArray.size ⟨#[105, 110, 102]⟩ = 3 := rfl
    omega
  clear zs
  go_enter Tryz.func139, Tryz.ntmps139
  cases ms
  · have hs' : s = ⟨#[]⟩ := hs
    have hh := Lib.hid hs'
    clear hs hs'
    go_upto_region 4 with (first | (go_at_call 138; refine (N _).mono ?_; rintro e w' ⟨rfl, rfl⟩) | (go_at_call 164; refine (M _).mono ?_; rintro e w' ⟨rfl, rfl⟩))
    rw [← hh.out]
    clear hh
    go_wp2_with (go_at_call 138; refine (N _).mono ?_; rintro e w' ⟨rfl, rfl⟩)
    go_ret
    exact ⟨rfl, rfl⟩
  · have hs' : s = ⟨#[45]⟩ := hs
    have hh := Lib.hid hs'
    clear hs hs'
    go_upto_region 4 with (first | (go_at_call 138; refine (N _).mono ?_; rintro e w' ⟨rfl, rfl⟩) | (go_at_call 164; refine (M _).mono ?_; rintro e w' ⟨rfl, rfl⟩))
    rw [← hh.out]
    clear hh
    go_wp2_with (go_at_call 138; refine (N _).mono ?_; rintro e w' ⟨rfl, rfl⟩)
    go_ret
    exact ⟨rfl, rfl⟩

theorem Text_low {b n k : Nat} {s DS KS : ByteArray} {ms : Bool} (N : ∀ w, Calls Tryz.prog 138 #[.float .f64 b] w fun e w' => e = .returned (.bool false) ∧ w = w') (M : ∀ w, Calls Tryz.prog 164 #[.float .f64 b] w fun e w' => e = .returned (.bool ms) ∧ w = w') (hs : s = if ms then ⟨#[45]⟩ else ⟨#[]⟩)
    (I : (IntKind.u64.wrap ((b : Int) * 2) == (18437736874454810624 : Int)) = false) (Q : ∀ w, Calls Tryz.prog 165 #[.float .f64 b] w fun e w' => e = .returned (.tuple #[.int .u64 (n : Nat), .int .i64 (-(k : Int))]) ∧ w = w')
    (D : ∀ w, Calls Tryz.prog 166 #[.int .u64 n] w fun e w' => e = .returned (.string DS) ∧ Below w.heap.size w w') (K : ∀ w, Calls Tryz.prog 166 #[.int .u64 k] w fun e w' => e = .returned (.string KS) ∧ Below w.heap.size w w') (zD : DS.size ≤ 20) (zK : KS.size ≤ 20) (hk : 1 ≤ k ∧ k < 9223372036854775808) (w : World) :
    Calls Tryz.prog 139 #[.float .f64 b] w fun e w' => e = .returned (.string (s ++ DS ++ ⟨#[112]⟩ ++ ⟨#[45]⟩ ++ KS)) ∧ Below w.heap.size w w' := by
  have H := bits_run
  have zs : s.size ≤ 1 := by rw [hs]; cases ms <;> decide
  have F2 : ¬ 9223372036854775807 < s.size + DS.size := by omega
  have F3 : ¬ 9223372036854775807 < (s ++ DS).size + ByteArray.size ⟨#[112]⟩ := by
    have : ByteArray.size ⟨#[112]⟩ = 1 := rfl
    rw [ByteArray.size_append]; omega
  have F4 : ¬ 9223372036854775807 < (s ++ DS ++ ⟨#[112]⟩).size + ByteArray.size ⟨#[45]⟩ := by
    have : ByteArray.size ⟨#[112]⟩ = 1 := rfl
    have : ByteArray.size ⟨#[45]⟩ = 1 := rfl
    simp only [ByteArray.size_append]; omega
  have F5 : ¬ 9223372036854775807 < (s ++ DS ++ ⟨#[112]⟩ ++ ⟨#[45]⟩).size + KS.size := by
    have : ByteArray.size ⟨#[112]⟩ = 1 := rfl
    have : ByteArray.size ⟨#[45]⟩ = 1 := rfl
    simp only [ByteArray.size_append]; omega
  clear zs zD zK
  go_enter Tryz.func139, Tryz.ntmps139
  cases ms
  · have hs' : s = ⟨#[]⟩ := hs
    have hh := Lib.hid hs'
    clear hs hs'
    go_upto_region 4 with (first | (go_at_call 138; refine (N _).mono ?_; rintro e w' ⟨rfl, rfl⟩) | (go_at_call 164; refine (M _).mono ?_; rintro e w' ⟨rfl, rfl⟩))
    rw [← hh.out]
    clear hh
    go_wp2_with (first | (go_at_call 138; refine (N _).mono ?_; rintro e w' ⟨rfl, rfl⟩) | (go_at_call 165; refine (Q _).mono ?_; rintro e w' ⟨rfl, rfl⟩) | (go_at_call 166; first | ((with_reducible refine (D _).mono ?_); rintro e w1 ⟨rfl, hb1⟩) | ((with_reducible refine (K _).mono ?_); rintro e w2 ⟨rfl, hb2⟩)))
    go_ret
    exact ⟨rfl, hb1.trans (hb2.mono hb1.size)⟩
  · have hs' : s = ⟨#[45]⟩ := hs
    have hh := Lib.hid hs'
    clear hs hs'
    go_upto_region 4 with (first | (go_at_call 138; refine (N _).mono ?_; rintro e w' ⟨rfl, rfl⟩) | (go_at_call 164; refine (M _).mono ?_; rintro e w' ⟨rfl, rfl⟩))
    rw [← hh.out]
    clear hh
    go_wp2_with (first | (go_at_call 138; refine (N _).mono ?_; rintro e w' ⟨rfl, rfl⟩) | (go_at_call 165; refine (Q _).mono ?_; rintro e w' ⟨rfl, rfl⟩) | (go_at_call 166; first | ((with_reducible refine (D _).mono ?_); rintro e w1 ⟨rfl, hb1⟩) | ((with_reducible refine (K _).mono ?_); rintro e w2 ⟨rfl, hb2⟩)))
    go_ret
    exact ⟨rfl, hb1.trans (hb2.mono hb1.size)⟩

theorem Text_high {b n k : Nat} {s DS KS : ByteArray} {ms : Bool} (N : ∀ w, Calls Tryz.prog 138 #[.float .f64 b] w fun e w' => e = .returned (.bool false) ∧ w = w') (M : ∀ w, Calls Tryz.prog 164 #[.float .f64 b] w fun e w' => e = .returned (.bool ms) ∧ w = w') (hs : s = if ms then ⟨#[45]⟩ else ⟨#[]⟩)
    (I : (IntKind.u64.wrap ((b : Int) * 2) == (18437736874454810624 : Int)) = false) (Q : ∀ w, Calls Tryz.prog 165 #[.float .f64 b] w fun e w' => e = .returned (.tuple #[.int .u64 (n : Nat), .int .i64 ((k : Int))]) ∧ w = w')
    (D : ∀ w, Calls Tryz.prog 166 #[.int .u64 n] w fun e w' => e = .returned (.string DS) ∧ Below w.heap.size w w') (K : ∀ w, Calls Tryz.prog 166 #[.int .u64 k] w fun e w' => e = .returned (.string KS) ∧ Below w.heap.size w w') (zD : DS.size ≤ 20) (zK : KS.size ≤ 20) (hk : k < 9223372036854775808) (w : World) :
    Calls Tryz.prog 139 #[.float .f64 b] w fun e w' => e = .returned (.string (s ++ DS ++ ⟨#[112]⟩ ++ KS)) ∧ Below w.heap.size w w' := by
  have H := bits_run
  have zs : s.size ≤ 1 := by rw [hs]; cases ms <;> decide
  have F2 : ¬ 9223372036854775807 < s.size + DS.size := by omega
  have F3 : ¬ 9223372036854775807 < (s ++ DS).size + ByteArray.size ⟨#[112]⟩ := by
    have : ByteArray.size ⟨#[112]⟩ = 1 := rfl
    rw [ByteArray.size_append]; omega
  have F6 : ¬ 9223372036854775807 < (s ++ DS ++ ⟨#[112]⟩).size + KS.size := by
    have : ByteArray.size ⟨#[112]⟩ = 1 := rfl
    simp only [ByteArray.size_append]; omega
  clear zs zD zK
  go_enter Tryz.func139, Tryz.ntmps139
  cases ms
  · have hs' : s = ⟨#[]⟩ := hs
    have hh := Lib.hid hs'
    clear hs hs'
    go_upto_region 4 with (first | (go_at_call 138; refine (N _).mono ?_; rintro e w' ⟨rfl, rfl⟩) | (go_at_call 164; refine (M _).mono ?_; rintro e w' ⟨rfl, rfl⟩))
    rw [← hh.out]
    clear hh
    go_wp2_with (first | (go_at_call 138; refine (N _).mono ?_; rintro e w' ⟨rfl, rfl⟩) | (go_at_call 165; refine (Q _).mono ?_; rintro e w' ⟨rfl, rfl⟩) | (go_at_call 166; first | ((with_reducible refine (D _).mono ?_); rintro e w1 ⟨rfl, hb1⟩) | ((with_reducible refine (K _).mono ?_); rintro e w2 ⟨rfl, hb2⟩)))
    go_ret
    exact ⟨rfl, hb1.trans (hb2.mono hb1.size)⟩
  · have hs' : s = ⟨#[45]⟩ := hs
    have hh := Lib.hid hs'
    clear hs hs'
    go_upto_region 4 with (first | (go_at_call 138; refine (N _).mono ?_; rintro e w' ⟨rfl, rfl⟩) | (go_at_call 164; refine (M _).mono ?_; rintro e w' ⟨rfl, rfl⟩))
    rw [← hh.out]
    clear hh
    go_wp2_with (first | (go_at_call 138; refine (N _).mono ?_; rintro e w' ⟨rfl, rfl⟩) | (go_at_call 165; refine (Q _).mono ?_; rintro e w' ⟨rfl, rfl⟩) | (go_at_call 166; first | ((with_reducible refine (D _).mono ?_); rintro e w1 ⟨rfl, hb1⟩) | ((with_reducible refine (K _).mono ?_); rintro e w2 ⟨rfl, hb2⟩)))
    go_ret
    exact ⟨rfl, hb1.trans (hb2.mono hb1.size)⟩
theorem Text_any {b : Nat} (hb : okW b) (w : World) : Calls Tryz.prog 139 #[.float .f64 b] w fun e w' => e = .returned (.string (textB b)) ∧ Below w.heap.size w w' := by
  unfold textB
  by_cases hn : nanB b = true
  · rw [if_pos hn]
    exact (Text_nan hb hn w).mono fun e w' h => ⟨h.1, h.2 ▸ Below.refl _ _⟩
  · rw [if_neg hn]
    have N := NaN_any b
    rw [show nanB b = false by simpa using hn] at N
    have I := infB_shl b
    by_cases hi : rung b = 9218868437227405312
    · rw [if_pos hi]
      rw [decide_eq_true hi] at I
      exact (Text_inf (s := signS b) (ms := sgn b) N (minus_any hb) rfl I w).mono fun e w' h => ⟨h.1, h.2 ▸ Below.refl _ _⟩
    · rw [if_neg hi]
      rw [decide_eq_false hi] at I
      have Q := @parts_any b
      rw [partsV_eq] at Q
      have ho := oddW_lt b
      have he := expW_in b
      generalize oddW b = n at *
      generalize expW b = E at *
      by_cases hneg : E < 0
      · obtain ⟨k, rfl, hk⟩ : ∃ k : Nat, E = -(k : Int) ∧ 1 ≤ k ∧ k < 9223372036854775808 := ⟨(-E).toNat, by omega, by omega, by omega⟩
        have e2 : expS (-(k : Int)) = ⟨#[45]⟩ ++ strL (digL k) := by unfold expS; rw [if_pos hneg]; simp
        rw [e2, ← ByteArray.append_assoc]
        exact Text_low (s := signS b) (ms := sgn b) N (minus_any hb) rfl I Q (Digits_any (by omega)) (Digits_any (by omega)) (digits_size (by omega)) (digits_size (by omega)) hk w
      · obtain ⟨k, rfl⟩ : ∃ k : Nat, E = (k : Int) := ⟨E.toNat, by omega⟩
        have e2 : expS (k : Int) = strL (digL k) := by unfold expS; rw [if_neg hneg]; simp
        rw [e2]
        exact Text_high (s := signS b) (ms := sgn b) N (minus_any hb) rfl I Q (Digits_any (by omega)) (Digits_any (by omega)) (digits_size (by omega)) (digits_size (by omega)) (by omega) w
end Go.Proofs.YtcmohggnehkjeaaGreat
