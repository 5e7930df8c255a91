/-
  For any bytes, any place and any most the law CodecNumbers answers true: they are the number, or the string, that the document says, or none. No condition.
-/
import Derived.Test.YteclpehbpicpaaaRows
import Derived.Test.YteclpehbpicpaaaLNumBm
import Derived.ProofKit
import Derived.OpenShut
namespace Go.Proofs.Yteclpehbpicpaaa.codecNumbers
open Go.ChangeShapes Go.WideShapes Go.ChangeAt Go.RowKit
open Go.ChangeMaps (open_string shut_string)

set_option maxRecDepth 100000 in
theorem walk {s : ByteArray} {i m : Int} (hm : -9223372036854775808 ≤ m ∧ m ≤ 9223372036854775807) (w : World) : Calls Try.prog 4 #[.string s, .int .i64 i, .int .i64 m] w (Yes w) := by
  by_cases hs : s.size ≤ 1000
  · have R := reads_any (i := i) hs hm
    by_cases h : i < 0 ∨ (s.size : Int) < i
    · unfold rdU rdI rdS at R
      rw [if_pos h, if_pos h, if_pos h] at R
      exact walk_range hs R (begins_bad w h)
    · have B := begins_ok w h
      unfold rdU rdI rdS at R
      rw [if_neg h, if_neg h, if_neg h] at R
      obtain ⟨a, rfl⟩ : ∃ a : Nat, i = a := ⟨i.toNat, by omega⟩
      have ea : ((a : Int)).toNat = a := by omega
      rw [ea] at R
      have ha : a ≤ s.size := by omega
      cases hu : uP 0 0 (left s a) with
      | error c =>
        rw [hu, iP_err hu, sP_err hu] at R
        exact walk_bad (c := c) hs (by have := uP_err _ _ _ _ hu; omega) R B (uint_fails ha hs hu) (int_fails ha hs (iP_err hu)) (str_fails ha hs hm (sP_err hu))
      | ok z =>
        obtain ⟨n, l⟩ := z
        rw [hu, iP_ok hu] at R
        cases hp : sP m (left s a) with
        | error c =>
          rw [hp] at R
          exact walk_half (c := c) hs (by have := sP_ne hp; omega) R B (uint_goes ha hs hu) (int_goes ha hs (iP_ok hu)) (str_fails ha hs hm hp)
        | ok y =>
          obtain ⟨t, r⟩ := y
          rw [hp] at R
          exact walk_ok hs R B (uint_goes ha hs hu) (int_goes ha hs (iP_ok hu)) (str_goes ha hs hm hp)
  · have t0 : decide (1000 < (s.size : Int)) = true := by simp; omega
    have HAW := Lib.hid awake_any
    clear hs
    go_enter Try.func4, Try.ntmps4
    go_wp2_with (go_at_call 9; first | (refine (HAW.out w).mono ?_; rintro e w1 ⟨rfl, hb1⟩) | (refine (HAW.out _).mono ?_; rintro e w2 ⟨rfl, hb2⟩))
    go_ret
    exact ⟨rfl, hb1.trans (hb2.mono hb1.size)⟩
theorem own : ownKnob Try.prog.godebug = none := by kernel_rfl
set_option maxRecDepth 100000 in
theorem lifted (os : Os) (started : os.Started) (H : Type) (enc : TypeId × Value → H) :
    ReturnsInHanded {} Try.checked os 4 .any (Rows.codecNumbersSpec.pre6 enc Try.prog Try.f4 Rows.codecNumbersRow.domain false) (Rows.codecNumbersSpec.post enc Try.prog Try.f4 false true false false) := by
  refine returnsInHanded_of_change (C := Try.checked) own started (by kernel_rfl) Try.func4
    (ChangeSpec.witness6 (enc := enc) (C := Try.checked) false ⟨#[], #[.string ⟨#[]⟩, .int .i64 0, .int .i64 0], []⟩ 8 (by kernel_rfl) (by kernel_rfl) (by kernel_rfl) (by kernel_rfl)) ?_
  intro W base args ds gs before hval0 hW hcnd _
  have hval : ∀ (j : Nat) t v, Try.f4.params[j]? = some t → args[j]? = some v → Value.okWide Try.prog W .any base t v := hval0
  have hW' := hW
  obtain ⟨p, q, hA0, hV, rfl, hfz, hnd⟩ := hW
  have hA : DataW.TrodAll enc Try.prog W 0 (fun _ => true) true Try.f4.params.toList args.toList ds p := hA0
  rw [Try.params4] at hA hval
  obtain ⟨v0, vs0, d0, ds0, p0, q0, hargs, rfl, rfl, h0, r0⟩ := trodAll_cons hA
  obtain ⟨v1, vs1, d1, ds1, p1, q1, rfl, rfl, rfl, h1, r1⟩ := trodAll_cons r0
  obtain ⟨v2, vs2, d2, ds2, p2, q2, rfl, rfl, rfl, h2, r2⟩ := trodAll_cons r1
  obtain ⟨rfl, rfl, rfl⟩ := trodAll_nil r2
  obtain rfl : args = #[v0, v1, v2] := by cases args; simp_all
  obtain ⟨rfl, rfl⟩ := trodVars_none hV
  obtain ⟨s, rfl, rfl, rfl, hs⟩ := open_string Try.underlying9 (hval 0 9 v0 rfl rfl) h0
  obtain ⟨i, rfl, rfl, rfl, w1⟩ := open_int Try.underlying3 (hval 1 3 v1 rfl rfl) h1
  obtain ⟨m, rfl, rfl, rfl, w2⟩ := open_int Try.underlying3 (hval 2 3 v2 rfl rfl) h2
  clear hA0 hval0
  simp only [List.append_nil] at hW'
  have hb2 := bounds_i64 w2
  refine (walk (by omega) W).mono fun e W' ⟨he, hg⟩ => ?_
  subst he
  exact ⟨_, rfl, _, _, _, [], [], [], hW', trodAll_cons_mk (shut_bool Try.underlying4 _) trodAll_mk0,
    trodAll_cons_mk (shut_string Try.underlying9 hs) (trodAll_cons_mk (shut_int Try.underlying3 w1) (trodAll_cons_mk (shut_int Try.underlying3 w2) trodAll_mk0)), rfl, hg.frame _, fun h => by cases h⟩
theorem over : Rows.codecNumbersRow.holds Try.pinned (OpenSpec.ofChange Rows.codecNumbersSpec) :=
  OpenClaim.holds_of_wide 4 Try.f4 rfl rfl rfl rfl rfl rfl rfl ⟨rfl, rfl, rfl, rfl, rfl⟩ rfl rfl rfl rfl rfl (by kernel_rfl) Try.func4 (by kernel_rfl)
    (of_decide_eq_true (by kernel_rfl)) (by unfold Func.isWrapper; first | (rw [if_pos (by decide +kernel)]; kernel_rfl) | (rw [if_neg (by decide +kernel)]; exact ⟨rfl, rfl⟩))
    (fun os started H enc _ => lifted os started H enc)
theorem proved : Rows.CodecNumbersSaid := over
end Go.Proofs.Yteclpehbpicpaaa.codecNumbers
