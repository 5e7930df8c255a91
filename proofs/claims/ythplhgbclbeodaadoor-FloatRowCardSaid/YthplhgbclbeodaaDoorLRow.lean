/-
  For all floats a, b and c the law FloatRow answers true and leaves its input as it was. No condition but the row's own: the three listed tables of the library hold what the program's text lays in them.
-/
import Derived.Test.YthplhgbclbeodaaDoorFr
import Derived.Test.YthplhgbclbeodaaDoorFm
namespace Go.Proofs.YthplhgbclbeodaaDoor
open Go.ChangeShapes Go.WideShapes Go.ChangeAt Go.RowKit Ieee

namespace lawRow

set_option maxHeartbeats 1000000 in
theorem walk {a b c : Nat} (ha : okW a) (hb : okW b) (hc : okW c) {w : World} (ht : Tabs w) :
    Calls Tryd.prog 9 #[.float .f64 a, .float .f64 b, .float .f64 c] w fun e w' => e = .returned (.bool true) ∧ Below w.heap.size w w' := by
  have A := awake_any ht
  have O1 := Order_f ha hb
  have O2 := Order_f hb ha
  have O3 := Order_f hb hc
  have O4 := Order_f ha hc
  have L := Less_f a b
  rw [order_less ha hb] at L
  have Sm := Same_any a b
  have e1 : decide (canonW a = canonW b) = (ordI (keyI a) (keyI b) == 0) := by
    rw [Bool.eq_iff_iff, decide_eq_true_eq, beq_iff_eq, ord_zero]; exact (same_key ha hb).symm
  rw [e1] at Sm
  have e2 := ord_swap (keyI a) (keyI b)
  rw [e2] at O2
  have h1 := ord_in (keyI a) (keyI b)
  have h2 : ordI (keyI a) (keyI b) ≤ 0 → ordI (keyI b) (keyI c) ≤ 0 → ordI (keyI a) (keyI c) ≤ 0 := by
    rw [ord_le, ord_le, ord_le]; omega
  have h3 : lessB a b = true → ordI (keyI a) (keyI b) < 0 := by
    unfold lessB; simp only [Bool.and_eq_true, decide_eq_true_eq]; exact fun h => h.2
  generalize ordI (keyI a) (keyI b) = p at *
  generalize ordI (keyI b) (keyI c) = r at *
  generalize ordI (keyI a) (keyI c) = s at *
  generalize lessB a b = lt at *
  clear ha hb hc ht e1 e2
  by_cases hp : p ≤ 0
  · by_cases hr : r ≤ 0
    · have hs := h2 hp hr
      clear h2
      cases lt with
      | false =>
        clear h3
        go_enter Tryd.func9, Tryd.ntmps9
        go_wp2_with (first | (go_at_call 11; refine A.mono ?_; rintro e w1 ⟨rfl, hb1⟩) | (go_at_call 12; first | ((with_reducible refine Says.go O1 ?_); rintro e w' ⟨rfl, rfl⟩) | ((with_reducible refine Says.go O2 ?_); rintro e w' ⟨rfl, rfl⟩) | ((with_reducible refine Says.go O3 ?_); rintro e w' ⟨rfl, rfl⟩) | ((with_reducible refine Says.go O4 ?_); rintro e w' ⟨rfl, rfl⟩)) | (go_at_call 36; (with_reducible refine Says.go Sm ?_); rintro e w' ⟨rfl, rfl⟩) | (go_at_call 16; (with_reducible refine Says.go L ?_); rintro e w' ⟨rfl, rfl⟩))
        go_ret
        exact ⟨rfl, hb1⟩
      | true =>
        have hq := h3 rfl
        clear h3
        go_enter Tryd.func9, Tryd.ntmps9
        go_wp2_with (first | (go_at_call 11; refine A.mono ?_; rintro e w1 ⟨rfl, hb1⟩) | (go_at_call 12; first | ((with_reducible refine Says.go O1 ?_); rintro e w' ⟨rfl, rfl⟩) | ((with_reducible refine Says.go O2 ?_); rintro e w' ⟨rfl, rfl⟩) | ((with_reducible refine Says.go O3 ?_); rintro e w' ⟨rfl, rfl⟩) | ((with_reducible refine Says.go O4 ?_); rintro e w' ⟨rfl, rfl⟩)) | (go_at_call 36; (with_reducible refine Says.go Sm ?_); rintro e w' ⟨rfl, rfl⟩) | (go_at_call 16; (with_reducible refine Says.go L ?_); rintro e w' ⟨rfl, rfl⟩))
        go_ret
        exact ⟨rfl, hb1⟩
    · clear h2
      cases lt with
      | false =>
        clear h3
        go_enter Tryd.func9, Tryd.ntmps9
        go_wp2_with (first | (go_at_call 11; refine A.mono ?_; rintro e w1 ⟨rfl, hb1⟩) | (go_at_call 12; first | ((with_reducible refine Says.go O1 ?_); rintro e w' ⟨rfl, rfl⟩) | ((with_reducible refine Says.go O2 ?_); rintro e w' ⟨rfl, rfl⟩) | ((with_reducible refine Says.go O3 ?_); rintro e w' ⟨rfl, rfl⟩) | ((with_reducible refine Says.go O4 ?_); rintro e w' ⟨rfl, rfl⟩)) | (go_at_call 36; (with_reducible refine Says.go Sm ?_); rintro e w' ⟨rfl, rfl⟩) | (go_at_call 16; (with_reducible refine Says.go L ?_); rintro e w' ⟨rfl, rfl⟩))
        go_ret
        exact ⟨rfl, hb1⟩
      | true =>
        have hq := h3 rfl
        clear h3
        go_enter Tryd.func9, Tryd.ntmps9
        go_wp2_with (first | (go_at_call 11; refine A.mono ?_; rintro e w1 ⟨rfl, hb1⟩) | (go_at_call 12; first | ((with_reducible refine Says.go O1 ?_); rintro e w' ⟨rfl, rfl⟩) | ((with_reducible refine Says.go O2 ?_); rintro e w' ⟨rfl, rfl⟩) | ((with_reducible refine Says.go O3 ?_); rintro e w' ⟨rfl, rfl⟩) | ((with_reducible refine Says.go O4 ?_); rintro e w' ⟨rfl, rfl⟩)) | (go_at_call 36; (with_reducible refine Says.go Sm ?_); rintro e w' ⟨rfl, rfl⟩) | (go_at_call 16; (with_reducible refine Says.go L ?_); rintro e w' ⟨rfl, rfl⟩))
        go_ret
        exact ⟨rfl, hb1⟩
  · clear h2
    cases lt with
    | false =>
      clear h3
      go_enter Tryd.func9, Tryd.ntmps9
      go_wp2_with (first | (go_at_call 11; refine A.mono ?_; rintro e w1 ⟨rfl, hb1⟩) | (go_at_call 12; first | ((with_reducible refine Says.go O1 ?_); rintro e w' ⟨rfl, rfl⟩) | ((with_reducible refine Says.go O2 ?_); rintro e w' ⟨rfl, rfl⟩) | ((with_reducible refine Says.go O3 ?_); rintro e w' ⟨rfl, rfl⟩) | ((with_reducible refine Says.go O4 ?_); rintro e w' ⟨rfl, rfl⟩)) | (go_at_call 36; (with_reducible refine Says.go Sm ?_); rintro e w' ⟨rfl, rfl⟩) | (go_at_call 16; (with_reducible refine Says.go L ?_); rintro e w' ⟨rfl, rfl⟩))
      go_ret
      exact ⟨rfl, hb1⟩
    | true =>
      have hq := h3 rfl
      omega

set_option maxRecDepth 100000 in
theorem lifted (os : Os) (started : os.Started) (H : Type) (enc : TypeId × Value → H) :
    ReturnsInHanded {} Tryd.checked os 9 .any (fun w args => (Rows.floatRowSpec.pre enc Tryd.prog Tryd.f9 [] false w args ∧ laidMetH Tryd.prog laid3 w) ∧ sizedMet enc Tryd.prog Tryd.f9 (OpenSpec.ofChange Rows.floatRowSpec) false w args)
      (Rows.floatRowSpec.post enc Tryd.prog Tryd.f9 false true false false) := by
  refine returnsInHanded_of_change_and (C := Tryd.checked) (X := fun w _ => laidMetH Tryd.prog laid3 w) (fun _ _ _ hh h => h.of_heap hh) own started (by kernel_rfl) Tryd.func9
    (ChangeSpec.witness_shaped (enc := enc) (C := Tryd.checked) (os := os) (X := fun w _ => laidMetH Tryd.prog laid3 w) false (World.doorLaid Tryd.prog 24 os) #[.float .f64 0, .float .f64 0, .float .f64 0] 8 rfl (World.shaped_of_RefB (by kernel_rfl) (by kernel_rfl)) (by kernel_rfl) (by kernel_rfl) (by kernel_rfl) (door_met os _)) ?_
  intro W base args ds gs before hval0 hW _ _ hL _
  have hval : ∀ (j : Nat) t v, Tryd.f9.params[j]? = some t → args[j]? = some v → Value.okWide Tryd.prog W .any base t v := hval0
  have hW' := hW
  obtain ⟨p, q, hA0, hV, rfl, hfz, hnd⟩ := hW
  have hA : DataW.TrodAll enc Tryd.prog W 0 (fun _ => true) true Tryd.f9.params.toList args.toList ds p := hA0
  rw [Tryd.params9] at hA hval
  obtain ⟨v0, vs0, d0, ds0, p0, q0, hargs, rfl, rfl, h0, r0⟩ := trodAll_cons hA
  obtain ⟨v1, vs1, d1, ds1, p1, q1, rfl, rfl, rfl, h1, r1⟩ := trodAll_cons r0
  obtain ⟨v2, vs2, d2, ds2, p2, q2, rfl, rfl, rfl, h2, r2⟩ := trodAll_cons r1
  obtain ⟨rfl, rfl, rfl⟩ := trodAll_nil r2
  obtain rfl : args = #[v0, v1, v2] := by cases args; simp_all
  obtain ⟨rfl, rfl⟩ := trodVars_none hV
  obtain ⟨a0, rfl, rfl, rfl, w0⟩ := open_float Tryd.underlying22 (hval 0 22 v0 rfl rfl) h0
  obtain ⟨a1, rfl, rfl, rfl, w1⟩ := open_float Tryd.underlying22 (hval 1 22 v1 rfl rfl) h1
  obtain ⟨a2, rfl, rfl, rfl, w2⟩ := open_float Tryd.underlying22 (hval 2 22 v2 rfl rfl) h2
  clear hA0 hval0
  simp only [List.append_nil] at hW'
  have ht := of_laid hL
  have k0 : okW a0 := by simpa [Lit.wf, okW] using w0
  have k1 : okW a1 := by simpa [Lit.wf, okW] using w1
  have k2 : okW a2 := by simpa [Lit.wf, okW] using w2
  refine (walk k0 k1 k2 ht).mono fun e W' ⟨he, hg⟩ => ?_
  subst he
  exact ⟨_, rfl, _, _, _, [], _, [], hW', trodAll_cons_mk (shut_bool Tryd.underlying4 _) trodAll_mk0, trodAll_cons_mk (shut_float Tryd.underlying22 w0) (trodAll_cons_mk (shut_float Tryd.underlying22 w1) (trodAll_cons_mk (shut_float Tryd.underlying22 w2) trodAll_mk0)), rfl, hg.frame _, fun h => by cases h⟩

theorem over : Rows.FloatRowSaid :=
  OpenClaim.holds_of_wide 9 Tryd.f9 rfl rfl rfl rfl rfl rfl rfl ⟨rfl, rfl, rfl, rfl, rfl⟩ rfl rfl rfl rfl rfl (by kernel_rfl) Tryd.func9 (by kernel_rfl)
    (of_decide_eq_true (by kernel_rfl)) (by unfold Func.isWrapper; first | (rw [if_pos (by decide +kernel)]; kernel_rfl) | (rw [if_neg (by decide +kernel)]; exact ⟨rfl, rfl⟩))
    (fun os started H enc _ => lifted os started H enc)

/-- The tied card. -/
theorem proved : Rows.FloatRowCardSaid :=
  Claim7.holds_tied_plain_at .later [] [.data, .data, .data] true (true, "1442d56c9863a55ab90957bf369d3ff3558bfda6f5c7d5e057752a3dfde75035") false
    over (fun _ h => by cases h) (by kernel_rfl) (fun _ h => by cases h) floatRow_row_tie rfl ⟨rfl, rfl⟩ (by kernel_rfl) rfl
    (fun f fn hf hfn => by
      obtain rfl : f = 9 := Option.some.inj ((show Tryd.prog.funcNamed "bascule/basculelaw03.FloatRow" = some 9 by kernel_rfl).symm.trans hf) |>.symm
      obtain rfl : fn = Tryd.f9 := (Option.some.inj (Tryd.func9.symm.trans hfn)).symm
      exact ⟨by kernel_rfl, fun j t ht => by
        rw [Tryd.params9] at ht
        have hm : t ∈ [22, 22, 22] := by simpa using Array.mem_of_getElem? ht
        have hall : ([22, 22, 22].all fun u => !Tryd.prog.wantsStandIn u) = true := by kernel_rfl
        exact (show Tryd.prog.wantsStandIn t = false by simpa using List.all_eq_true.1 hall t hm)⟩)
    (by kernel_rfl)
end lawRow
end Go.Proofs.YthplhgbclbeodaaDoor
