/-
  For all floats a and b the law FloatOrder answers true and leaves its input as it was. No condition but the row's own: the three listed tables of the library hold what the program's text lays in them.
-/
import Derived.Test.YthplhgbclbeodaaDoorFr
import Derived.Test.YthplhgbclbeodaaDoorFm
namespace Go.Proofs.YthplhgbclbeodaaDoor
open Go.ChangeShapes Go.WideShapes Go.ChangeAt Go.RowKit Ieee

namespace lawOrder

set_option maxHeartbeats 1000000 in
theorem walk {a b : Nat} (ha : okW a) (hb : okW b) {w : World} (ht : Tabs w) :
    Calls Tryd.prog 3 #[.float .f64 a, .float .f64 b] w fun e w' => e = .returned (.bool true) ∧ Below w.heap.size w w' := by
  have A := awake_any ht
  have O1 := Order_f ha hb
  have O2 := Order_any ha hb
  have E1 := Equal_f a b
  rw [order_equal ha hb] at E1
  have E2 := Equal_any ha hb
  have L1 := Less_f a b
  rw [order_less ha hb] at L1
  have L2 := Less_any ha hb
  have C1 := Canon_f a
  have C2 : Says 20 #[.float .f64 a] (.float .f64 (canonW a)) := Canon_any a
  have H := bits_run
  clear ha hb ht
  go_enter Tryd.func3, Tryd.ntmps3
  go_wp2_with (first | (go_at_call 11; refine A.mono ?_; rintro e w1 ⟨rfl, hb1⟩) | (go_at_call 12; (with_reducible refine Says.go O1 ?_); rintro e w' ⟨rfl, rfl⟩) | (go_at_call 13; (with_reducible refine Says.go O2 ?_); rintro e w' ⟨rfl, rfl⟩) | (go_at_call 14; (with_reducible refine Says.go E1 ?_); rintro e w' ⟨rfl, rfl⟩) | (go_at_call 15; (with_reducible refine Says.go E2 ?_); rintro e w' ⟨rfl, rfl⟩) | (go_at_call 16; (with_reducible refine Says.go L1 ?_); rintro e w' ⟨rfl, rfl⟩) | (go_at_call 17; (with_reducible refine Says.go L2 ?_); rintro e w' ⟨rfl, rfl⟩) | (go_at_call 19; (with_reducible refine Says.go C1 ?_); rintro e w' ⟨rfl, rfl⟩) | (go_at_call 20; (with_reducible refine Says.go C2 ?_); rintro e w' ⟨rfl, rfl⟩))
  go_ret
  exact ⟨rfl, hb1⟩

set_option maxRecDepth 100000 in
theorem lifted (os : Os) (started : os.Started) (H : Type) (enc : TypeId × Value → H) :
    ReturnsInHanded {} Tryd.checked os 3 .any (fun w args => (Rows.floatOrderSpec.pre enc Tryd.prog Tryd.f3 [] false w args ∧ laidMetH Tryd.prog laid3 w) ∧ sizedMet enc Tryd.prog Tryd.f3 (OpenSpec.ofChange Rows.floatOrderSpec) false w args)
      (Rows.floatOrderSpec.post enc Tryd.prog Tryd.f3 false true false false) := by
  refine returnsInHanded_of_change_and (C := Tryd.checked) (X := fun w _ => laidMetH Tryd.prog laid3 w) (fun _ _ _ hh h => h.of_heap hh) own started (by kernel_rfl) Tryd.func3
    (ChangeSpec.witness_shaped (enc := enc) (C := Tryd.checked) (os := os) (X := fun w _ => laidMetH Tryd.prog laid3 w) false (World.doorLaid Tryd.prog 24 os) #[.float .f64 0, .float .f64 0] 8 rfl (World.shaped_of_RefB (by kernel_rfl) (by kernel_rfl)) (by kernel_rfl) (by kernel_rfl) (by kernel_rfl) (door_met os _)) ?_
  intro W base args ds gs before hval0 hW _ _ hL _
  have hval : ∀ (j : Nat) t v, Tryd.f3.params[j]? = some t → args[j]? = some v → Value.okWide Tryd.prog W .any base t v := hval0
  have hW' := hW
  obtain ⟨p, q, hA0, hV, rfl, hfz, hnd⟩ := hW
  have hA : DataW.TrodAll enc Tryd.prog W 0 (fun _ => true) true Tryd.f3.params.toList args.toList ds p := hA0
  rw [Tryd.params3] at hA hval
  obtain ⟨v0, vs0, d0, ds0, p0, q0, hargs, rfl, rfl, h0, r0⟩ := trodAll_cons hA
  obtain ⟨v1, vs1, d1, ds1, p1, q1, rfl, rfl, rfl, h1, r1⟩ := trodAll_cons r0
  obtain ⟨rfl, rfl, rfl⟩ := trodAll_nil r1
  obtain rfl : args = #[v0, v1] := by cases args; simp_all
  obtain ⟨rfl, rfl⟩ := trodVars_none hV
  obtain ⟨a0, rfl, rfl, rfl, w0⟩ := open_float Tryd.underlying22 (hval 0 22 v0 rfl rfl) h0
  obtain ⟨a1, rfl, rfl, rfl, w1⟩ := open_float Tryd.underlying22 (hval 1 22 v1 rfl rfl) h1
  clear hA0 hval0
  simp only [List.append_nil] at hW'
  have ht := of_laid hL
  have k0 : okW a0 := by simpa [Lit.wf, okW] using w0
  have k1 : okW a1 := by simpa [Lit.wf, okW] using w1
  refine (walk k0 k1 ht).mono fun e W' ⟨he, hg⟩ => ?_
  subst he
  exact ⟨_, rfl, _, _, _, [], _, [], hW', trodAll_cons_mk (shut_bool Tryd.underlying4 _) trodAll_mk0, trodAll_cons_mk (shut_float Tryd.underlying22 w0) (trodAll_cons_mk (shut_float Tryd.underlying22 w1) trodAll_mk0), rfl, hg.frame _, fun h => by cases h⟩

theorem over : Rows.FloatOrderSaid :=
  OpenClaim.holds_of_wide 3 Tryd.f3 rfl rfl rfl rfl rfl rfl rfl ⟨rfl, rfl, rfl, rfl, rfl⟩ rfl rfl rfl rfl rfl (by kernel_rfl) Tryd.func3 (by kernel_rfl)
    (of_decide_eq_true (by kernel_rfl)) (by unfold Func.isWrapper; first | (rw [if_pos (by decide +kernel)]; kernel_rfl) | (rw [if_neg (by decide +kernel)]; exact ⟨rfl, rfl⟩))
    (fun os started H enc _ => lifted os started H enc)

/-- The tied card. -/
theorem proved : Rows.FloatOrderCardSaid :=
  Claim7.holds_tied_plain_at .later [] [.data, .data, .data] true (true, "1442d56c9863a55ab90957bf369d3ff3558bfda6f5c7d5e057752a3dfde75035") false
    over (fun _ h => by cases h) (by kernel_rfl) (fun _ h => by cases h) floatOrder_row_tie rfl ⟨rfl, rfl⟩ (by kernel_rfl) rfl
    (fun f fn hf hfn => by
      obtain rfl : f = 3 := Option.some.inj ((show Tryd.prog.funcNamed "bascule/basculelaw03.FloatOrder" = some 3 by kernel_rfl).symm.trans hf) |>.symm
      obtain rfl : fn = Tryd.f3 := (Option.some.inj (Tryd.func3.symm.trans hfn)).symm
      exact ⟨by kernel_rfl, fun j t ht => by
        rw [Tryd.params3] at ht
        have hm : t ∈ [22, 22] := by simpa using Array.mem_of_getElem? ht
        have hall : ([22, 22].all fun u => !Tryd.prog.wantsStandIn u) = true := by kernel_rfl
        exact (show Tryd.prog.wantsStandIn t = false by simpa using List.all_eq_true.1 hall t hm)⟩)
    (by kernel_rfl)
end lawOrder
end Go.Proofs.YthplhgbclbeodaaDoor
