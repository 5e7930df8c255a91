/-
  For any two numbers the law CodecLong answers true: a number has as many bytes as it has groups of seven bits, one at least, and a greater one never fewer. No condition.
-/
import Derived.Test.YteclpehbpicpaaaRows
import Derived.Test.YteclpehbpicpaaaM38
import Derived.ProofKit
import Derived.OpenShut
namespace Go.Proofs.Yteclpehbpicpaaa.codecLong
open Go.ChangeShapes Go.WideShapes Go.ChangeAt Go.RowKit

theorem own : ownKnob Try.prog.godebug = none := by kernel_rfl
theorem nat_u64 {a : Int} (h : (Lit.int .u64 a).wf = true) : ∃ n : Nat, a = n ∧ n < 18446744073709551616 := by
  have h' := bounds_u64 h
  exact ⟨a.toNat, by omega, by omega⟩
/-- How many groups are left. -/
def grp (m : Nat) : Nat := if m = 0 then 0 else (uintL m).length
theorem grp_0 : grp 0 = 0 := rfl
theorem grp_step {m : Nat} (h : 0 < m) : grp m = grp (m / 128) + 1 := by
  unfold grp
  rw [if_neg (by omega)]
  by_cases h1 : m < 128
  · rw [uintL_last h1, if_pos (by omega)]; rfl
  · rw [uintL_more h1, if_neg (by omega)]; rfl
theorem len_grp (n : Nat) : (uintL n).length = 1 + grp (n / 128) := by
  by_cases h1 : n < 128
  · rw [uintL_last h1]
    have e : n / 128 = 0 := by omega
    rw [e, grp_0]; rfl
  · rw [uintL_more h1]
    unfold grp
    rw [if_neg (by omega), List.length_cons]; omega
theorem len_mono : ∀ (k a b : Nat), a ≤ k → a ≤ b → (uintL a).length ≤ (uintL b).length := by
  intro k
  induction k with
  | zero =>
    intro a b ha _
    obtain rfl : a = 0 := by omega
    rw [uintL_last (by omega)]
    exact uintL_pos b
  | succ k ih =>
    intro a b ha hab
    by_cases h1 : a < 128
    · rw [uintL_last h1]; exact uintL_pos b
    · rw [uintL_more h1, uintL_more (show ¬ b < 128 by omega), List.length_cons, List.length_cons]
      have := ih (a / 128) (b / 128) (by omega) (by omega)
      omega
set_option maxRecDepth 100000 in
set_option maxHeartbeats 2000000 in
theorem walk (a b : Nat) (ha : a < 18446744073709551616) (hb : b < 18446744073709551616) (w : World) :
    Calls Try.prog 8 #[.int .u64 a, .int .u64 b] w fun e w' => e = .returned (.bool true) ∧ Below w.heap.size w w' := by
  have UA := Uint_f ha
  have UB := Uint_f hb
  have HUA := Lib.hid UA
  have HUB := Lib.hid UB
  have HAW := Lib.hid awake_any
  have HL := Lib.hid (len_grp a)
  have HM := Lib.hid (len_mono a a b (Nat.le_refl _))
  have HA := Lib.hid ha
  have hal : (uintL a).length ≤ 10 := uintL_len10 ha
  have HA10 := Lib.hid hal
  have HB10 := Lib.hid (uintL_len10 hb)
  clear UA UB ha hb hal
  go_enter Try.func8, Try.ntmps8
  go_wp2_with fail
  go_loop [5, 6] (fun nv xv => ∃ n m : Nat, nv = .int .i64 n ∧ xv = .int .u64 m ∧ Hid (n + grp m = (uintL a).length) ∧ m < 18446744073709551616 ∧ n ≤ 10) (fun _ xv => (intOf xv).toNat)
  case atStart => exact ⟨1, a / 128, rfl, by go_num, Lib.hid HL.out.symm, by have := HA.out; omega, by omega⟩
  case round =>
    obtain ⟨n, m, rfl, rfl, hg, hm, hn⟩ := hrel
    by_cases h0 : 0 < m
    · have hg' := hg.out
      rw [grp_step h0] at hg'
      have HG := Lib.hid (show (n + 1) + grp (m / 128) = (uintL a).length by omega)
      have hn1 : n + 1 ≤ 10 := by have := HA10.out; omega
      have HN := Lib.hid hm
      have t0 : decide ((0 : Int) < (m : Int)) = true := by simpa using h0
      clear hg hg' hm
      go_wp2_with fail
      go_round
      case rel => exact ⟨n + 1, m / 128, by go_num, by go_num, HG, by have := HN.out; omega, by omega⟩
      case measure => simp [intOf]; omega
    · obtain rfl : m = 0 := by omega
      have hlen : n = (uintL a).length := by have := hg.out; rw [grp_0] at this; omega
      have HN := Lib.hid hlen
      have sA : (strL (uintL a)).size = n := by rw [strL_size]; exact hlen.symm
      have sB : (strL (uintL b)).size = (uintL b).length := strL_size _
      have hAB : a ≤ b → n ≤ (uintL b).length := fun h => by rw [hlen]; exact HM.out h
      generalize strL (uintL a) = x at *
      generalize strL (uintL b) = y at *
      generalize (uintL b).length = nb at *
      clear hlen hg
      by_cases hgt : b < a
      · have t1 : decide ((b : Int) < (a : Int)) = true := by simpa using hgt
        go_wp2_with (first | (go_at_call 9; refine (HAW.out _).mono ?_; rintro e w1 ⟨rfl, hb1⟩) | (go_at_call 18; refine (HUA.out _).mono ?_; rintro e w2 ⟨rfl, hb2⟩))
        go_ret
        exact ⟨rfl, hb1.trans (hb2.mono hb1.size)⟩
      · have t1 : decide ((b : Int) < (a : Int)) = false := by simpa using hgt
        have hle := hAB (by omega)
        clear hAB
        go_wp2_with (first | (go_at_call 9; refine (HAW.out _).mono ?_; rintro e w1 ⟨rfl, hb⟩; have HC := Lib.hid hb; clear hb) | (go_at_call 18; first | ((with_reducible refine (HUA.out _).mono ?_); rintro e w2 ⟨rfl, hb⟩; replace HC := Lib.hid (HC.out.trans (hb.mono HC.out.size)); clear hb) | ((with_reducible refine (HUB.out _).mono ?_); rintro e w3 ⟨rfl, hb⟩; replace HC := Lib.hid (HC.out.trans (hb.mono HC.out.size)); clear hb)))
        go_ret
        exact ⟨rfl, HC.out⟩

set_option maxRecDepth 100000 in
theorem lifted (os : Os) (started : os.Started) (H : Type) (enc : TypeId × Value → H) :
    ReturnsInHanded {} Try.checked os 8 .any (Rows.codecLongSpec.pre6 enc Try.prog Try.f8 Rows.codecLongRow.domain false) (Rows.codecLongSpec.post enc Try.prog Try.f8 false true false false) := by
  refine returnsInHanded_of_change (C := Try.checked) own started (by kernel_rfl) Try.func8
    (ChangeSpec.witness6 (enc := enc) (C := Try.checked) false ⟨#[], #[.int .u64 0, .int .u64 0], []⟩ 8 (by kernel_rfl) (by kernel_rfl) (by kernel_rfl) (by kernel_rfl)) ?_
  intro W base args ds gs before hval0 hW hcnd _
  have hval : ∀ (j : Nat) t v, Try.f8.params[j]? = some t → args[j]? = some v → Value.okWide Try.prog W .any base t v := hval0
  have hW' := hW
  obtain ⟨p, q, hA0, hV, rfl, hfz, hnd⟩ := hW
  have hA : DataW.TrodAll enc Try.prog W 0 (fun _ => true) true Try.f8.params.toList args.toList ds p := hA0
  rw [Try.params8] at hA hval
  obtain ⟨v0, vs0, d0, ds0, p0, q0, hargs, rfl, rfl, h0, r0⟩ := trodAll_cons hA
  obtain ⟨v1, vs1, d1, ds1, p1, q1, rfl, rfl, rfl, h1, r1⟩ := trodAll_cons r0
  obtain ⟨rfl, rfl, rfl⟩ := trodAll_nil r1
  obtain rfl : args = #[v0, v1] := by cases args; simp_all
  obtain ⟨rfl, rfl⟩ := trodVars_none hV
  obtain ⟨a0, rfl, rfl, rfl, w0⟩ := open_int Try.underlying22 (hval 0 22 v0 rfl rfl) h0
  obtain ⟨a1, rfl, rfl, rfl, w1⟩ := open_int Try.underlying22 (hval 1 22 v1 rfl rfl) h1
  clear hA0 hval0
  simp only [List.append_nil] at hW'
  obtain ⟨n0, rfl, l0⟩ := nat_u64 w0
  obtain ⟨n1, rfl, l1⟩ := nat_u64 w1
  refine (walk n0 n1 l0 l1 W).mono fun e W' ⟨he, hg⟩ => ?_
  subst he
  exact ⟨_, rfl, _, _, _, [], [], [], hW', trodAll_cons_mk (shut_bool Try.underlying4 _) trodAll_mk0,
    trodAll_cons_mk (shut_int Try.underlying22 w0) (trodAll_cons_mk (shut_int Try.underlying22 w1) trodAll_mk0), rfl, hg.frame _, fun h => by cases h⟩

theorem over : Rows.codecLongRow.holds Try.pinned (OpenSpec.ofChange Rows.codecLongSpec) :=
  OpenClaim.holds_of_wide 8 Try.f8 rfl rfl rfl rfl rfl rfl rfl ⟨rfl, rfl, rfl, rfl, rfl⟩ rfl rfl rfl rfl rfl (by kernel_rfl) Try.func8 (by kernel_rfl)
    (of_decide_eq_true (by kernel_rfl)) (by unfold Func.isWrapper; first | (rw [if_pos (by decide +kernel)]; kernel_rfl) | (rw [if_neg (by decide +kernel)]; exact ⟨rfl, rfl⟩))
    (fun os started H enc _ => lifted os started H enc)

theorem proved : Rows.CodecLongSaid := over
end Go.Proofs.Yteclpehbpicpaaa.codecLong
