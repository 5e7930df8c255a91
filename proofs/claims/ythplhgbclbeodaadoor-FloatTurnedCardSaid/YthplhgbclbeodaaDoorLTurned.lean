/-
  For all floats a and b the law FloatTurned answers true and leaves its input as it was. No condition but the row's own: the three listed tables of the library hold what the program's text lays in them.
-/
import Derived.Test.YthplhgbclbeodaaDoorFr
import Derived.Test.YthplhgbclbeodaaDoorFm
namespace Go.Proofs.YthplhgbclbeodaaDoor
open Go.ChangeShapes Go.WideShapes Go.ChangeAt Go.RowKit Ieee

namespace lawTurned

set_option maxHeartbeats 1000000 in
theorem walk {a b : Nat} (ha : okW a) (hb : okW b) {w : World} (ht : Tabs w) :
    Calls Tryd.prog 10 #[.float .f64 a, .float .f64 b] w fun e w' => e = .returned (.bool true) ∧ Below w.heap.size w w' := by
  have M := Mul_b a 4602678819172646912
  have D := Div_b a 4611686018427387904
  rw [half] at M
  have A := awake_any ht
  have N1 : Says 35 #[.float .f64 a] (.bool (nanB a)) := NaN_any a
  have N2 : Says 35 #[.float .f64 b] (.bool (nanB b)) := NaN_any b
  have H := bits_run
  generalize opW (double.div a 4611686018427387904) = r at *
  by_cases hn : nanB a = true ∨ nanB b = true
  · cases hna : nanB a with
    | true =>
      rw [hna] at N1
      clear N2 ha hb ht hn hna
      go_enter Tryd.func10, Tryd.ntmps10
      go_wp2_with (first | (go_at_call 11; refine A.mono ?_; rintro e w1 ⟨rfl, hb1⟩) | (go_at_call 31; refine (M _).mono ?_; rintro e w2 ⟨rfl, hb2⟩) | (go_at_call 34; refine (D _).mono ?_; rintro e w3 ⟨rfl, hb3⟩) | (go_at_call 35; (with_reducible refine Says.go N1 ?_); rintro e w' ⟨rfl, rfl⟩))
      go_ret
      have g2 := hb1.trans (hb2.mono hb1.size)
      exact ⟨rfl, g2.trans (hb3.mono g2.size)⟩
    | false =>
      have hnb : nanB b = true := by rw [hna] at hn; simpa using hn
      rw [hna] at N1
      rw [hnb] at N2
      clear ha hb ht hn hna hnb
      go_enter Tryd.func10, Tryd.ntmps10
      go_wp2_with (first | (go_at_call 11; refine A.mono ?_; rintro e w1 ⟨rfl, hb1⟩) | (go_at_call 31; refine (M _).mono ?_; rintro e w2 ⟨rfl, hb2⟩) | (go_at_call 34; refine (D _).mono ?_; rintro e w3 ⟨rfl, hb3⟩) | (go_at_call 35; first | ((with_reducible refine Says.go N1 ?_); rintro e w' ⟨rfl, rfl⟩) | ((with_reducible refine Says.go N2 ?_); rintro e w' ⟨rfl, rfl⟩)))
      go_ret
      have g2 := hb1.trans (hb2.mono hb1.size)
      exact ⟨rfl, g2.trans (hb3.mono g2.size)⟩
  · have hna : nanB a = false := by cases h : nanB a <;> simp_all
    have hnb : nanB b = false := by cases h : nanB b <;> simp_all
    rw [hna] at N1
    rw [hnb] at N2
    have G1 := Neg_any a
    have G2 := Neg_any b
    rw [canon_num (by rw [negW_nan ha]; exact hna)] at G1
    rw [canon_num (by rw [negW_nan hb]; exact hnb)] at G2
    have O1 := Order_f (neg_ok ha) (neg_ok hb)
    rw [key_neg ha hna, key_neg hb hnb, ord_neg] at O1
    have O2 := Order_f ha hb
    have L1 := Less_f a b
    have L2 := Less_f (negW b) (negW a)
    rw [order_neg ha hb hna hnb] at L2
    have h1 := ord_in (keyI a) (keyI b)
    generalize ordI (keyI a) (keyI b) = p at *
    generalize (double.order a b == some .lt) = lt at *
    generalize negW a = x at *
    generalize negW b = y at *
    clear ha hb ht hn hna hnb
    go_enter Tryd.func10, Tryd.ntmps10
    go_wp2_with (first | (go_at_call 11; refine A.mono ?_; rintro e w1 ⟨rfl, hb1⟩) | (go_at_call 31; refine (M _).mono ?_; rintro e w2 ⟨rfl, hb2⟩) | (go_at_call 34; refine (D _).mono ?_; rintro e w3 ⟨rfl, hb3⟩) | (go_at_call 35; first | ((with_reducible refine Says.go N1 ?_); rintro e w' ⟨rfl, rfl⟩) | ((with_reducible refine Says.go N2 ?_); rintro e w' ⟨rfl, rfl⟩)) | (go_at_call 33; first | ((with_reducible refine Says.go G1 ?_); rintro e w' ⟨rfl, rfl⟩) | ((with_reducible refine Says.go G2 ?_); rintro e w' ⟨rfl, rfl⟩)) | (go_at_call 12; first | ((with_reducible refine Says.go O1 ?_); rintro e w' ⟨rfl, rfl⟩) | ((with_reducible refine Says.go O2 ?_); rintro e w' ⟨rfl, rfl⟩)) | (go_at_call 16; first | ((with_reducible refine Says.go L1 ?_); rintro e w' ⟨rfl, rfl⟩) | ((with_reducible refine Says.go L2 ?_); rintro e w' ⟨rfl, rfl⟩)))
    go_ret
    have g2 := hb1.trans (hb2.mono hb1.size)
    exact ⟨rfl, g2.trans (hb3.mono g2.size)⟩

set_option maxRecDepth 100000 in
theorem lifted (os : Os) (started : os.Started) (H : Type) (enc : TypeId × Value → H) :
    ReturnsInHanded {} Tryd.checked os 10 .any (fun w args => (Rows.floatTurnedSpec.pre enc Tryd.prog Tryd.f10 [] false w args ∧ laidMetH Tryd.prog laid3 w) ∧ sizedMet enc Tryd.prog Tryd.f10 (OpenSpec.ofChange Rows.floatTurnedSpec) false w args)
      (Rows.floatTurnedSpec.post enc Tryd.prog Tryd.f10 false true false false) := by
  refine returnsInHanded_of_change_and (C := Tryd.checked) (X := fun w _ => laidMetH Tryd.prog laid3 w) (fun _ _ _ hh h => h.of_heap hh) own started (by kernel_rfl) Tryd.func10
    (ChangeSpec.witness_shaped (enc := enc) (C := Tryd.checked) (os := os) (X := fun w _ => laidMetH Tryd.prog laid3 w) false (World.doorLaid Tryd.prog 24 os) #[.float .f64 0, .float .f64 0] 8 rfl (World.shaped_of_RefB (by kernel_rfl) (by kernel_rfl)) (by kernel_rfl) (by kernel_rfl) (by kernel_rfl) (door_met os _)) ?_
  intro W base args ds gs before hval0 hW _ _ hL _
  have hval : ∀ (j : Nat) t v, Tryd.f10.params[j]? = some t → args[j]? = some v → Value.okWide Tryd.prog W .any base t v := hval0
  have hW' := hW
  obtain ⟨p, q, hA0, hV, rfl, hfz, hnd⟩ := hW
  have hA : DataW.TrodAll enc Tryd.prog W 0 (fun _ => true) true Tryd.f10.params.toList args.toList ds p := hA0
  rw [Tryd.params10] at hA hval
  obtain ⟨v0, vs0, d0, ds0, p0, q0, hargs, rfl, rfl, h0, r0⟩ := trodAll_cons hA
  obtain ⟨v1, vs1, d1, ds1, p1, q1, rfl, rfl, rfl, h1, r1⟩ := trodAll_cons r0
  obtain ⟨rfl, rfl, rfl⟩ := trodAll_nil r1
  obtain rfl : args = #[v0, v1] := by cases args; simp_all
  obtain ⟨rfl, rfl⟩ := trodVars_none hV
  obtain ⟨a0, rfl, rfl, rfl, w0⟩ := open_float Tryd.underlying22 (hval 0 22 v0 rfl rfl) h0
  obtain ⟨a1, rfl, rfl, rfl, w1⟩ := open_float Tryd.underlying22 (hval 1 22 v1 rfl rfl) h1
  clear hA0 hval0
  simp only [List.append_nil] at hW'
  have ht := of_laid hL
  have k0 : okW a0 := by simpa [Lit.wf, okW] using w0
  have k1 : okW a1 := by simpa [Lit.wf, okW] using w1
  refine (walk k0 k1 ht).mono fun e W' ⟨he, hg⟩ => ?_
  subst he
  exact ⟨_, rfl, _, _, _, [], _, [], hW', trodAll_cons_mk (shut_bool Tryd.underlying4 _) trodAll_mk0, trodAll_cons_mk (shut_float Tryd.underlying22 w0) (trodAll_cons_mk (shut_float Tryd.underlying22 w1) trodAll_mk0), rfl, hg.frame _, fun h => by cases h⟩

theorem over : Rows.FloatTurnedSaid :=
  OpenClaim.holds_of_wide 10 Tryd.f10 rfl rfl rfl rfl rfl rfl rfl ⟨rfl, rfl, rfl, rfl, rfl⟩ rfl rfl rfl rfl rfl (by kernel_rfl) Tryd.func10 (by kernel_rfl)
    (of_decide_eq_true (by kernel_rfl)) (by unfold Func.isWrapper; first | (rw [if_pos (by decide +kernel)]; kernel_rfl) | (rw [if_neg (by decide +kernel)]; exact ⟨rfl, rfl⟩))
    (fun os started H enc _ => lifted os started H enc)

/-- The tied card. -/
theorem proved : Rows.FloatTurnedCardSaid :=
  Claim7.holds_tied_plain_at .later [] [.data, .data, .data] true (true, "1442d56c9863a55ab90957bf369d3ff3558bfda6f5c7d5e057752a3dfde75035") false
    over (fun _ h => by cases h) (by kernel_rfl) (fun _ h => by cases h) floatTurned_row_tie rfl ⟨rfl, rfl⟩ (by kernel_rfl) rfl
    (fun f fn hf hfn => by
      obtain rfl : f = 10 := Option.some.inj ((show Tryd.prog.funcNamed "bascule/basculelaw03.FloatTurned" = some 10 by kernel_rfl).symm.trans hf) |>.symm
      obtain rfl : fn = Tryd.f10 := (Option.some.inj (Tryd.func10.symm.trans hfn)).symm
      exact ⟨by kernel_rfl, fun j t ht => by
        rw [Tryd.params10] at ht
        have hm : t ∈ [22, 22] := by simpa using Array.mem_of_getElem? ht
        have hall : ([22, 22].all fun u => !Tryd.prog.wantsStandIn u) = true := by kernel_rfl
        exact (show Tryd.prog.wantsStandIn t = false by simpa using List.all_eq_true.1 hall t hm)⟩)
    (by kernel_rfl)
end lawTurned
end Go.Proofs.YthplhgbclbeodaaDoor
