/-
  For all whole numbers a and b of 32 bits the law FloatSmall answers true and leaves its input as it was. No condition but the row's own: the three listed tables of the library hold what the program's text lays in them.
-/
import Derived.Test.YthplhgbclbeodaaDoorFr
import Derived.Test.YthplhgbclbeodaaDoorFm
namespace Go.Proofs.YthplhgbclbeodaaDoor
open Go.ChangeShapes Go.WideShapes Go.ChangeAt Go.RowKit Ieee

namespace lawSmall

theorem prod_in {a b : Int} (ha : -2147483648 ≤ a ∧ a ≤ 2147483647) (hb : -2147483648 ≤ b ∧ b ≤ 2147483647) : -4611686018427387904 ≤ a * b ∧ a * b ≤ 4611686018427387904 := by
  have h : (a * b).natAbs ≤ 2147483648 * 2147483648 := by
    rw [Int.natAbs_mul]
    exact Nat.mul_le_mul (by omega) (by omega)
  omega
set_option maxHeartbeats 1000000 in
theorem walk {a b : Int} (ha : -2147483648 ≤ a ∧ a ≤ 2147483647) (hb : -2147483648 ≤ b ∧ b ≤ 2147483647) {w : World} (ht : Tabs w) :
    Calls Tryd.prog 8 #[.int .i32 a, .int .i32 b] w fun e w' => e = .returned (.bool true) ∧ Below w.heap.size w w' := by
  have F1 : Says 27 #[.int .i64 a] (.float .f64 (ib a)) := FromInt_f a
  have F2 : Says 27 #[.int .i64 b] (.float .f64 (ib b)) := FromInt_f b
  have P := Add_b (ib a) (ib b)
  rw [add_ib (by omega) (by omega) (by omega)] at P
  have Q := Sub_b (ib a) (ib b)
  rw [sub_ib (by omega) (by omega) (by omega)] at Q
  have M := Mul_b (ib a) (ib b)
  have T1 := ToInt_f (ib (a + b))
  rw [int_ib (by omega)] at T1
  have T2 := ToInt_f (ib (a - b))
  rw [int_ib (by omega)] at T2
  have hp := prod_in ha hb
  obtain ⟨n, hn⟩ : ∃ n, n = a * b := ⟨_, rfl⟩
  have W : wrap64 (a * b) = n := by rw [← hn]; rw [← hn] at hp; unfold wrap64; omega
  have T3 := ToInt_f (opW (double.mul (ib a) (ib b)))
  have hm := mul_ib (a := a) (b := b) (by omega) (by omega)
  rw [← hn] at hp hm
  generalize opW (double.mul (ib a) (ib b)) = m at *
  generalize ib (a + b) = p at *
  generalize ib (a - b) = q at *
  generalize ib a = x at *
  generalize ib b = y at *
  clear hn
  by_cases h1 : n > 9007199254740992
  · obtain ⟨u, v, hV⟩ := toInt_pair m
    rw [hV] at T3
    clear hm hV
    go_enter Tryd.func8, Tryd.ntmps8
    go_wp2_with (first | (go_at_call 27; first | ((with_reducible refine Says.go F1 ?_); rintro e w' ⟨rfl, rfl⟩) | ((with_reducible refine Says.go F2 ?_); rintro e w' ⟨rfl, rfl⟩)) | (go_at_call 30; refine (P _).mono ?_; rintro e w1 ⟨rfl, hb1⟩) | (go_at_call 32; refine (Q _).mono ?_; rintro e w2 ⟨rfl, hb2⟩) | (go_at_call 11; refine (awake_any ((ht.below hb1).below hb2)).mono ?_; rintro e w3 ⟨rfl, hb3⟩) | (go_at_call 31; refine (M _).mono ?_; rintro e w4 ⟨rfl, hb4⟩) | (go_at_call 25; first | ((with_reducible refine Says.go T1 ?_); rintro e w' ⟨rfl, rfl⟩) | ((with_reducible refine Says.go T2 ?_); rintro e w' ⟨rfl, rfl⟩) | ((with_reducible refine Says.go T3 ?_); rintro e w' ⟨rfl, rfl⟩)))
    go_ret
    exact ⟨rfl, ((hb1.trans (hb2.mono hb1.size)).trans (hb3.mono (hb1.trans (hb2.mono hb1.size)).size)).trans (hb4.mono ((hb1.trans (hb2.mono hb1.size)).trans (hb3.mono (hb1.trans (hb2.mono hb1.size)).size)).size)⟩
  · by_cases h2 : n < -9007199254740992
    · obtain ⟨u, v, hV⟩ := toInt_pair m
      rw [hV] at T3
      clear hm hV
      go_enter Tryd.func8, Tryd.ntmps8
      go_wp2_with (first | (go_at_call 27; first | ((with_reducible refine Says.go F1 ?_); rintro e w' ⟨rfl, rfl⟩) | ((with_reducible refine Says.go F2 ?_); rintro e w' ⟨rfl, rfl⟩)) | (go_at_call 30; refine (P _).mono ?_; rintro e w1 ⟨rfl, hb1⟩) | (go_at_call 32; refine (Q _).mono ?_; rintro e w2 ⟨rfl, hb2⟩) | (go_at_call 11; refine (awake_any ((ht.below hb1).below hb2)).mono ?_; rintro e w3 ⟨rfl, hb3⟩) | (go_at_call 31; refine (M _).mono ?_; rintro e w4 ⟨rfl, hb4⟩) | (go_at_call 25; first | ((with_reducible refine Says.go T1 ?_); rintro e w' ⟨rfl, rfl⟩) | ((with_reducible refine Says.go T2 ?_); rintro e w' ⟨rfl, rfl⟩) | ((with_reducible refine Says.go T3 ?_); rintro e w' ⟨rfl, rfl⟩)))
      go_ret
      exact ⟨rfl, ((hb1.trans (hb2.mono hb1.size)).trans (hb3.mono (hb1.trans (hb2.mono hb1.size)).size)).trans (hb4.mono ((hb1.trans (hb2.mono hb1.size)).trans (hb3.mono (hb1.trans (hb2.mono hb1.size)).size)).size)⟩
    · rw [hm (by omega) (by omega)] at T3
      clear hm
      go_enter Tryd.func8, Tryd.ntmps8
      go_wp2_with (first | (go_at_call 27; first | ((with_reducible refine Says.go F1 ?_); rintro e w' ⟨rfl, rfl⟩) | ((with_reducible refine Says.go F2 ?_); rintro e w' ⟨rfl, rfl⟩)) | (go_at_call 30; refine (P _).mono ?_; rintro e w1 ⟨rfl, hb1⟩) | (go_at_call 32; refine (Q _).mono ?_; rintro e w2 ⟨rfl, hb2⟩) | (go_at_call 11; refine (awake_any ((ht.below hb1).below hb2)).mono ?_; rintro e w3 ⟨rfl, hb3⟩) | (go_at_call 31; refine (M _).mono ?_; rintro e w4 ⟨rfl, hb4⟩) | (go_at_call 25; first | ((with_reducible refine Says.go T1 ?_); rintro e w' ⟨rfl, rfl⟩) | ((with_reducible refine Says.go T2 ?_); rintro e w' ⟨rfl, rfl⟩) | ((with_reducible refine Says.go T3 ?_); rintro e w' ⟨rfl, rfl⟩)))
      go_ret
      exact ⟨rfl, ((hb1.trans (hb2.mono hb1.size)).trans (hb3.mono (hb1.trans (hb2.mono hb1.size)).size)).trans (hb4.mono ((hb1.trans (hb2.mono hb1.size)).trans (hb3.mono (hb1.trans (hb2.mono hb1.size)).size)).size)⟩

set_option maxRecDepth 100000 in
theorem lifted (os : Os) (started : os.Started) (H : Type) (enc : TypeId × Value → H) :
    ReturnsInHanded {} Tryd.checked os 8 .any (fun w args => (Rows.floatSmallSpec.pre enc Tryd.prog Tryd.f8 [] false w args ∧ laidMetH Tryd.prog laid3 w) ∧ sizedMet enc Tryd.prog Tryd.f8 (OpenSpec.ofChange Rows.floatSmallSpec) false w args)
      (Rows.floatSmallSpec.post enc Tryd.prog Tryd.f8 false true false false) := by
  refine returnsInHanded_of_change_and (C := Tryd.checked) (X := fun w _ => laidMetH Tryd.prog laid3 w) (fun _ _ _ hh h => h.of_heap hh) own started (by kernel_rfl) Tryd.func8
    (ChangeSpec.witness_shaped (enc := enc) (C := Tryd.checked) (os := os) (X := fun w _ => laidMetH Tryd.prog laid3 w) false (World.doorLaid Tryd.prog 24 os) #[.int .i32 0, .int .i32 0] 8 rfl (World.shaped_of_RefB (by kernel_rfl) (by kernel_rfl)) (by kernel_rfl) (by kernel_rfl) (by kernel_rfl) (door_met os _)) ?_
  intro W base args ds gs before hval0 hW _ _ hL _
  have hval : ∀ (j : Nat) t v, Tryd.f8.params[j]? = some t → args[j]? = some v → Value.okWide Tryd.prog W .any base t v := hval0
  have hW' := hW
  obtain ⟨p, q, hA0, hV, rfl, hfz, hnd⟩ := hW
  have hA : DataW.TrodAll enc Tryd.prog W 0 (fun _ => true) true Tryd.f8.params.toList args.toList ds p := hA0
  rw [Tryd.params8] at hA hval
  obtain ⟨v0, vs0, d0, ds0, p0, q0, hargs, rfl, rfl, h0, r0⟩ := trodAll_cons hA
  obtain ⟨v1, vs1, d1, ds1, p1, q1, rfl, rfl, rfl, h1, r1⟩ := trodAll_cons r0
  obtain ⟨rfl, rfl, rfl⟩ := trodAll_nil r1
  obtain rfl : args = #[v0, v1] := by cases args; simp_all
  obtain ⟨rfl, rfl⟩ := trodVars_none hV
  obtain ⟨a0, rfl, rfl, rfl, w0⟩ := open_int Tryd.underlying21 (hval 0 21 v0 rfl rfl) h0
  obtain ⟨a1, rfl, rfl, rfl, w1⟩ := open_int Tryd.underlying21 (hval 1 21 v1 rfl rfl) h1
  clear hA0 hval0
  simp only [List.append_nil] at hW'
  have ht := of_laid hL
  have k0 : -2147483648 ≤ a0 ∧ a0 ≤ 2147483647 := by simpa [Lit.wf, IntKind.min, IntKind.max, IntKind.signed, IntKind.bits] using w0
  have k1 : -2147483648 ≤ a1 ∧ a1 ≤ 2147483647 := by simpa [Lit.wf, IntKind.min, IntKind.max, IntKind.signed, IntKind.bits] using w1
  refine (walk k0 k1 ht).mono fun e W' ⟨he, hg⟩ => ?_
  subst he
  exact ⟨_, rfl, _, _, _, [], _, [], hW', trodAll_cons_mk (shut_bool Tryd.underlying4 _) trodAll_mk0, trodAll_cons_mk (shut_int Tryd.underlying21 w0) (trodAll_cons_mk (shut_int Tryd.underlying21 w1) trodAll_mk0), rfl, hg.frame _, fun h => by cases h⟩

theorem over : Rows.FloatSmallSaid :=
  OpenClaim.holds_of_wide 8 Tryd.f8 rfl rfl rfl rfl rfl rfl rfl ⟨rfl, rfl, rfl, rfl, rfl⟩ rfl rfl rfl rfl rfl (by kernel_rfl) Tryd.func8 (by kernel_rfl)
    (of_decide_eq_true (by kernel_rfl)) (by unfold Func.isWrapper; first | (rw [if_pos (by decide +kernel)]; kernel_rfl) | (rw [if_neg (by decide +kernel)]; exact ⟨rfl, rfl⟩))
    (fun os started H enc _ => lifted os started H enc)

/-- The tied card. -/
theorem proved : Rows.FloatSmallCardSaid :=
  Claim7.holds_tied_plain_at .later [] [.data, .data, .data] true (true, "1442d56c9863a55ab90957bf369d3ff3558bfda6f5c7d5e057752a3dfde75035") false
    over (fun _ h => by cases h) (by kernel_rfl) (fun _ h => by cases h) floatSmall_row_tie rfl ⟨rfl, rfl⟩ (by kernel_rfl) rfl
    (fun f fn hf hfn => by
      obtain rfl : f = 8 := Option.some.inj ((show Tryd.prog.funcNamed "bascule/basculelaw03.FloatSmall" = some 8 by kernel_rfl).symm.trans hf) |>.symm
      obtain rfl : fn = Tryd.f8 := (Option.some.inj (Tryd.func8.symm.trans hfn)).symm
      exact ⟨by kernel_rfl, fun j t ht => by
        rw [Tryd.params8] at ht
        have hm : t ∈ [21, 21] := by simpa using Array.mem_of_getElem? ht
        have hall : ([21, 21].all fun u => !Tryd.prog.wantsStandIn u) = true := by kernel_rfl
        exact (show Tryd.prog.wantsStandIn t = false by simpa using List.all_eq_true.1 hall t hm)⟩)
    (by kernel_rfl)
end lawSmall
end Go.Proofs.YthplhgbclbeodaaDoor
