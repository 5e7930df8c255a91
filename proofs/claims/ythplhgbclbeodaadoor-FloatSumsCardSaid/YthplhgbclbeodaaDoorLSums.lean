/-
  For all floats a and b the law FloatSums answers true and leaves its input as it was. No condition but the row's own: the three listed tables of the library hold what the program's text lays in them.
-/
import Derived.Test.YthplhgbclbeodaaDoorFr
import Derived.Test.YthplhgbclbeodaaDoorFm
namespace Go.Proofs.YthplhgbclbeodaaDoor
open Go.ChangeShapes Go.WideShapes Go.ChangeAt Go.RowKit Ieee

namespace lawSums

theorem bits29 (b : Nat) : Says 29 #[.float .f64 b] (.int .u64 (b : Int)) := by
  intro w
  have H := bits_run
  go_enter Tryd.func29, Tryd.ntmps29
  go_wp2
  go_ret
  exact ⟨rfl, rfl⟩
set_option maxRecDepth 100000 in
set_option maxHeartbeats 2000000 in
theorem walk {a b : Nat} (ha : okW a) (hb : okW b) {w : World} (ht : Tabs w) :
    Calls Tryd.prog 7 #[.float .f64 a, .float .f64 b] w fun e w' => e = .returned (.bool true) ∧ Below w.heap.size w w' := by
  have A1 := Add_b a b
  have A2 := Add_b b a
  rw [← add_comm a b] at A2
  have M1 := Mul_b a b
  have M2 := Mul_b b a
  rw [← mul_comm a b] at M2
  have S1 := Sub_b a b
  rw [sub_add hb] at S1
  have A3 := Add_b a (canonW (negW b))
  have D1 := Div_b a b
  have B29 := bits29
  have G1 := Neg_any a
  have G2 := Neg_any b
  have G3 := Neg_any (canonW (negW a))
  rw [neg_neg_op ha] at G3
  have K1 : Says 20 #[.float .f64 (opW (double.add a b))] (.float .f64 (canonW (opW (double.add a b)))) := Canon_any _
  have K2 : Says 20 #[.float .f64 (opW (double.mul a b))] (.float .f64 (canonW (opW (double.mul a b)))) := Canon_any _
  have K3 : Says 20 #[.float .f64 (opW (double.div a b))] (.float .f64 (canonW (opW (double.div a b)))) := Canon_any _
  have K4 : Says 20 #[.float .f64 (canonW (negW a))] (.float .f64 (canonW (canonW (negW a)))) := Canon_any _
  rw [canon_op] at K1 K2 K3
  rw [canon_canon] at K4
  have K5 : Says 20 #[.float .f64 a] (.float .f64 (canonW a)) := Canon_any _
  have M3 := Mul_b a 4607182418800017408
  rw [mul_one_op ha] at M3
  have D2 := Div_b b a
  have N1 : Says 35 #[.float .f64 a] (.bool (nanB a)) := NaN_any _
  have N2 : Says 35 #[.float .f64 (opW (double.add a b))] (.bool (nanB (opW (double.add a b)))) := NaN_any _
  have N3 : Says 35 #[.float .f64 (opW (double.div b a))] (.bool (nanB (opW (double.div b a)))) := NaN_any _
  have E1 := Equal_f a a
  have hN : nanB a = true → nanB (opW (double.add a b)) = true ∧ nanB (opW (double.div b a)) = true ∧ (double.order a a == some .eq) = false := fun h => by
    rw [add_nan (.inl h), div_nan (.inr h), order_self]
    exact ⟨by decide, by decide, decide_eq_false (by have := rung_nan h; omega)⟩
  generalize nanB (opW (double.add a b)) = nr at *
  generalize nanB (opW (double.div b a)) = nd at *
  generalize (double.order a a == some .eq) = ea at *
  generalize nanB a = na at *
  generalize opW (double.div b a) = rd at *
  have A0 := awake_any ht
  have g0 : Below w.heap.size w w := Below.refl _ _
  generalize opW (double.add a b) = r1 at *
  generalize opW (double.mul a b) = r2 at *
  generalize opW (double.div a b) = r3 at *
  generalize opW (double.add a (canonW (negW b))) = r5 at *
  generalize canonW (negW a) = r4 at *
  generalize canonW (negW b) = n2 at *
  generalize canonW a = c at *
  clear ha hb ht
  go_enter Tryd.func7, Tryd.ntmps7
  go_wp2_with fail
  refine (A0).mono ?_
  rintro e w1 ⟨rfl, hb1⟩
  have g1 := g0.trans (hb1.mono g0.size)
  go_wp2_with (first | (go_at_call 29; (with_reducible refine Says.go (B29 _) ?_); rintro e w' ⟨rfl, rfl⟩) | (go_at_call 33; first | ((with_reducible refine Says.go G1 ?_); rintro e w' ⟨rfl, rfl⟩) | ((with_reducible refine Says.go G2 ?_); rintro e w' ⟨rfl, rfl⟩) | ((with_reducible refine Says.go G3 ?_); rintro e w' ⟨rfl, rfl⟩)))
  refine (A1 _).mono ?_
  rintro e w2 ⟨rfl, hb2⟩
  have g2 := g1.trans (hb2.mono g1.size)
  go_wp2_with (first | (go_at_call 29; (with_reducible refine Says.go (B29 _) ?_); rintro e w' ⟨rfl, rfl⟩) | (go_at_call 33; first | ((with_reducible refine Says.go G1 ?_); rintro e w' ⟨rfl, rfl⟩) | ((with_reducible refine Says.go G2 ?_); rintro e w' ⟨rfl, rfl⟩) | ((with_reducible refine Says.go G3 ?_); rintro e w' ⟨rfl, rfl⟩)))
  refine (A2 _).mono ?_
  rintro e w3 ⟨rfl, hb3⟩
  have g3 := g2.trans (hb3.mono g2.size)
  go_wp2_with (first | (go_at_call 29; (with_reducible refine Says.go (B29 _) ?_); rintro e w' ⟨rfl, rfl⟩) | (go_at_call 33; first | ((with_reducible refine Says.go G1 ?_); rintro e w' ⟨rfl, rfl⟩) | ((with_reducible refine Says.go G2 ?_); rintro e w' ⟨rfl, rfl⟩) | ((with_reducible refine Says.go G3 ?_); rintro e w' ⟨rfl, rfl⟩)))
  refine (M1 _).mono ?_
  rintro e w4 ⟨rfl, hb4⟩
  have g4 := g3.trans (hb4.mono g3.size)
  go_wp2_with (first | (go_at_call 29; (with_reducible refine Says.go (B29 _) ?_); rintro e w' ⟨rfl, rfl⟩) | (go_at_call 33; first | ((with_reducible refine Says.go G1 ?_); rintro e w' ⟨rfl, rfl⟩) | ((with_reducible refine Says.go G2 ?_); rintro e w' ⟨rfl, rfl⟩) | ((with_reducible refine Says.go G3 ?_); rintro e w' ⟨rfl, rfl⟩)))
  refine (M2 _).mono ?_
  rintro e w5 ⟨rfl, hb5⟩
  have g5 := g4.trans (hb5.mono g4.size)
  go_wp2_with (first | (go_at_call 29; (with_reducible refine Says.go (B29 _) ?_); rintro e w' ⟨rfl, rfl⟩) | (go_at_call 33; first | ((with_reducible refine Says.go G1 ?_); rintro e w' ⟨rfl, rfl⟩) | ((with_reducible refine Says.go G2 ?_); rintro e w' ⟨rfl, rfl⟩) | ((with_reducible refine Says.go G3 ?_); rintro e w' ⟨rfl, rfl⟩)))
  refine (S1 _).mono ?_
  rintro e w6 ⟨rfl, hb6⟩
  have g6 := g5.trans (hb6.mono g5.size)
  go_wp2_with (first | (go_at_call 29; (with_reducible refine Says.go (B29 _) ?_); rintro e w' ⟨rfl, rfl⟩) | (go_at_call 33; first | ((with_reducible refine Says.go G1 ?_); rintro e w' ⟨rfl, rfl⟩) | ((with_reducible refine Says.go G2 ?_); rintro e w' ⟨rfl, rfl⟩) | ((with_reducible refine Says.go G3 ?_); rintro e w' ⟨rfl, rfl⟩)))
  refine (A3 _).mono ?_
  rintro e w7 ⟨rfl, hb7⟩
  have g7 := g6.trans (hb7.mono g6.size)
  go_wp2_with (first | (go_at_call 29; (with_reducible refine Says.go (B29 _) ?_); rintro e w' ⟨rfl, rfl⟩) | (go_at_call 33; first | ((with_reducible refine Says.go G1 ?_); rintro e w' ⟨rfl, rfl⟩) | ((with_reducible refine Says.go G2 ?_); rintro e w' ⟨rfl, rfl⟩) | ((with_reducible refine Says.go G3 ?_); rintro e w' ⟨rfl, rfl⟩)))
  refine (A1 _).mono ?_
  rintro e w8 ⟨rfl, hb8⟩
  have g8 := g7.trans (hb8.mono g7.size)
  go_wp2_with (first | (go_at_call 29; (with_reducible refine Says.go (B29 _) ?_); rintro e w' ⟨rfl, rfl⟩) | (go_at_call 33; first | ((with_reducible refine Says.go G1 ?_); rintro e w' ⟨rfl, rfl⟩) | ((with_reducible refine Says.go G2 ?_); rintro e w' ⟨rfl, rfl⟩) | ((with_reducible refine Says.go G3 ?_); rintro e w' ⟨rfl, rfl⟩)))
  refine (M1 _).mono ?_
  rintro e w9 ⟨rfl, hb9⟩
  have g9 := g8.trans (hb9.mono g8.size)
  go_wp2_with (first | (go_at_call 29; (with_reducible refine Says.go (B29 _) ?_); rintro e w' ⟨rfl, rfl⟩) | (go_at_call 33; first | ((with_reducible refine Says.go G1 ?_); rintro e w' ⟨rfl, rfl⟩) | ((with_reducible refine Says.go G2 ?_); rintro e w' ⟨rfl, rfl⟩) | ((with_reducible refine Says.go G3 ?_); rintro e w' ⟨rfl, rfl⟩)))
  refine (D1 _).mono ?_
  rintro e w10 ⟨rfl, hb10⟩
  have g10 := g9.trans (hb10.mono g9.size)
  go_wp2_with (first | (go_at_call 29; (with_reducible refine Says.go (B29 _) ?_); rintro e w' ⟨rfl, rfl⟩) | (go_at_call 33; first | ((with_reducible refine Says.go G1 ?_); rintro e w' ⟨rfl, rfl⟩) | ((with_reducible refine Says.go G2 ?_); rintro e w' ⟨rfl, rfl⟩) | ((with_reducible refine Says.go G3 ?_); rintro e w' ⟨rfl, rfl⟩)))
  go_loop [7, 63] (fun _ i => ∃ z : Int, (z = 0 ∨ z = 1 ∨ z = 2 ∨ z = 3 ∨ z = 4) ∧ i = .int .i64 z) (fun _ i => (4 - intOf i).toNat)
  case atStart => exact ⟨0, .inl rfl, rfl⟩
  case round =>
    obtain ⟨z, hz, rfl⟩ := hrel
    rcases hz with rfl | rfl | rfl | rfl | rfl
    · go_wp2_with (first | (go_at_call 29; (with_reducible refine Says.go (B29 _) ?_); rintro e w' ⟨rfl, rfl⟩) | (go_at_call 20; first | ((with_reducible refine Says.go K1 ?_); rintro e w' ⟨rfl, rfl⟩) | ((with_reducible refine Says.go K2 ?_); rintro e w' ⟨rfl, rfl⟩) | ((with_reducible refine Says.go K3 ?_); rintro e w' ⟨rfl, rfl⟩) | ((with_reducible refine Says.go K4 ?_); rintro e w' ⟨rfl, rfl⟩) | ((with_reducible refine Says.go K5 ?_); rintro e w' ⟨rfl, rfl⟩)))
      go_round
      case rel => exact ⟨1, by omega, rfl⟩
      case measure => simp [intOf]
    · go_wp2_with (first | (go_at_call 29; (with_reducible refine Says.go (B29 _) ?_); rintro e w' ⟨rfl, rfl⟩) | (go_at_call 20; first | ((with_reducible refine Says.go K1 ?_); rintro e w' ⟨rfl, rfl⟩) | ((with_reducible refine Says.go K2 ?_); rintro e w' ⟨rfl, rfl⟩) | ((with_reducible refine Says.go K3 ?_); rintro e w' ⟨rfl, rfl⟩) | ((with_reducible refine Says.go K4 ?_); rintro e w' ⟨rfl, rfl⟩) | ((with_reducible refine Says.go K5 ?_); rintro e w' ⟨rfl, rfl⟩)))
      go_round
      case rel => exact ⟨2, by omega, rfl⟩
      case measure => simp [intOf]
    · go_wp2_with (first | (go_at_call 29; (with_reducible refine Says.go (B29 _) ?_); rintro e w' ⟨rfl, rfl⟩) | (go_at_call 20; first | ((with_reducible refine Says.go K1 ?_); rintro e w' ⟨rfl, rfl⟩) | ((with_reducible refine Says.go K2 ?_); rintro e w' ⟨rfl, rfl⟩) | ((with_reducible refine Says.go K3 ?_); rintro e w' ⟨rfl, rfl⟩) | ((with_reducible refine Says.go K4 ?_); rintro e w' ⟨rfl, rfl⟩) | ((with_reducible refine Says.go K5 ?_); rintro e w' ⟨rfl, rfl⟩)))
      go_round
      case rel => exact ⟨3, by omega, rfl⟩
      case measure => simp [intOf]
    · go_wp2_with (first | (go_at_call 29; (with_reducible refine Says.go (B29 _) ?_); rintro e w' ⟨rfl, rfl⟩) | (go_at_call 20; first | ((with_reducible refine Says.go K1 ?_); rintro e w' ⟨rfl, rfl⟩) | ((with_reducible refine Says.go K2 ?_); rintro e w' ⟨rfl, rfl⟩) | ((with_reducible refine Says.go K3 ?_); rintro e w' ⟨rfl, rfl⟩) | ((with_reducible refine Says.go K4 ?_); rintro e w' ⟨rfl, rfl⟩) | ((with_reducible refine Says.go K5 ?_); rintro e w' ⟨rfl, rfl⟩)))
      go_round
      case rel => exact ⟨4, by omega, rfl⟩
      case measure => simp [intOf]
    · have ga := g10.alloc (by have := g10.size; omega) (.cells #[.float .f64 r1, .float .f64 r2, .float .f64 r3, .float .f64 r4] 22)
      have hh := Lib.hid ga
      clear ga
      cases na with
      | false =>
        clear hN
        go_wp2_with (first | (go_at_call 29; (with_reducible refine Says.go (B29 _) ?_); rintro e w' ⟨rfl, rfl⟩) | (go_at_call 20; (with_reducible refine Says.go K5 ?_); rintro e w' ⟨rfl, rfl⟩) | (go_at_call 33; first | ((with_reducible refine Says.go G1 ?_); rintro e w' ⟨rfl, rfl⟩) | ((with_reducible refine Says.go G3 ?_); rintro e w' ⟨rfl, rfl⟩)) | (go_at_call 35; first | ((with_reducible refine Says.go N1 ?_); rintro e w' ⟨rfl, rfl⟩) | ((with_reducible refine Says.go N2 ?_); rintro e w' ⟨rfl, rfl⟩) | ((with_reducible refine Says.go N3 ?_); rintro e w' ⟨rfl, rfl⟩)) | (go_at_call 14; (with_reducible refine Says.go E1 ?_); rintro e w' ⟨rfl, rfl⟩))
        refine (M3 _).mono ?_
        rintro e w11 ⟨rfl, hb11⟩
        go_wp2_with (first | (go_at_call 29; (with_reducible refine Says.go (B29 _) ?_); rintro e w' ⟨rfl, rfl⟩) | (go_at_call 20; (with_reducible refine Says.go K5 ?_); rintro e w' ⟨rfl, rfl⟩) | (go_at_call 33; first | ((with_reducible refine Says.go G1 ?_); rintro e w' ⟨rfl, rfl⟩) | ((with_reducible refine Says.go G3 ?_); rintro e w' ⟨rfl, rfl⟩)) | (go_at_call 35; first | ((with_reducible refine Says.go N1 ?_); rintro e w' ⟨rfl, rfl⟩) | ((with_reducible refine Says.go N2 ?_); rintro e w' ⟨rfl, rfl⟩) | ((with_reducible refine Says.go N3 ?_); rintro e w' ⟨rfl, rfl⟩)) | (go_at_call 14; (with_reducible refine Says.go E1 ?_); rintro e w' ⟨rfl, rfl⟩))
        go_ret
        exact ⟨rfl, hh.out.trans (hb11.mono hh.out.size)⟩
      | true =>
        obtain ⟨rfl, rfl, rfl⟩ := hN rfl
        clear hN
        go_wp2_with (first | (go_at_call 29; (with_reducible refine Says.go (B29 _) ?_); rintro e w' ⟨rfl, rfl⟩) | (go_at_call 20; (with_reducible refine Says.go K5 ?_); rintro e w' ⟨rfl, rfl⟩) | (go_at_call 33; first | ((with_reducible refine Says.go G1 ?_); rintro e w' ⟨rfl, rfl⟩) | ((with_reducible refine Says.go G3 ?_); rintro e w' ⟨rfl, rfl⟩)) | (go_at_call 35; first | ((with_reducible refine Says.go N1 ?_); rintro e w' ⟨rfl, rfl⟩) | ((with_reducible refine Says.go N2 ?_); rintro e w' ⟨rfl, rfl⟩) | ((with_reducible refine Says.go N3 ?_); rintro e w' ⟨rfl, rfl⟩)) | (go_at_call 14; (with_reducible refine Says.go E1 ?_); rintro e w' ⟨rfl, rfl⟩))
        refine (A1 _).mono ?_
        rintro e w11 ⟨rfl, hb11⟩
        have g11 := Lib.hid (hh.out.trans (hb11.mono hh.out.size))
        go_wp2_with (first | (go_at_call 29; (with_reducible refine Says.go (B29 _) ?_); rintro e w' ⟨rfl, rfl⟩) | (go_at_call 20; (with_reducible refine Says.go K5 ?_); rintro e w' ⟨rfl, rfl⟩) | (go_at_call 33; first | ((with_reducible refine Says.go G1 ?_); rintro e w' ⟨rfl, rfl⟩) | ((with_reducible refine Says.go G3 ?_); rintro e w' ⟨rfl, rfl⟩)) | (go_at_call 35; first | ((with_reducible refine Says.go N1 ?_); rintro e w' ⟨rfl, rfl⟩) | ((with_reducible refine Says.go N2 ?_); rintro e w' ⟨rfl, rfl⟩) | ((with_reducible refine Says.go N3 ?_); rintro e w' ⟨rfl, rfl⟩)) | (go_at_call 14; (with_reducible refine Says.go E1 ?_); rintro e w' ⟨rfl, rfl⟩))
        refine (D2 _).mono ?_
        rintro e w12 ⟨rfl, hb12⟩
        have g12 := Lib.hid (g11.out.trans (hb12.mono g11.out.size))
        go_wp2_with (first | (go_at_call 29; (with_reducible refine Says.go (B29 _) ?_); rintro e w' ⟨rfl, rfl⟩) | (go_at_call 20; (with_reducible refine Says.go K5 ?_); rintro e w' ⟨rfl, rfl⟩) | (go_at_call 33; first | ((with_reducible refine Says.go G1 ?_); rintro e w' ⟨rfl, rfl⟩) | ((with_reducible refine Says.go G3 ?_); rintro e w' ⟨rfl, rfl⟩)) | (go_at_call 35; first | ((with_reducible refine Says.go N1 ?_); rintro e w' ⟨rfl, rfl⟩) | ((with_reducible refine Says.go N2 ?_); rintro e w' ⟨rfl, rfl⟩) | ((with_reducible refine Says.go N3 ?_); rintro e w' ⟨rfl, rfl⟩)) | (go_at_call 14; (with_reducible refine Says.go E1 ?_); rintro e w' ⟨rfl, rfl⟩))
        refine (M3 _).mono ?_
        rintro e w13 ⟨rfl, hb13⟩
        go_wp2_with (first | (go_at_call 29; (with_reducible refine Says.go (B29 _) ?_); rintro e w' ⟨rfl, rfl⟩) | (go_at_call 20; (with_reducible refine Says.go K5 ?_); rintro e w' ⟨rfl, rfl⟩) | (go_at_call 33; first | ((with_reducible refine Says.go G1 ?_); rintro e w' ⟨rfl, rfl⟩) | ((with_reducible refine Says.go G3 ?_); rintro e w' ⟨rfl, rfl⟩)) | (go_at_call 35; first | ((with_reducible refine Says.go N1 ?_); rintro e w' ⟨rfl, rfl⟩) | ((with_reducible refine Says.go N2 ?_); rintro e w' ⟨rfl, rfl⟩) | ((with_reducible refine Says.go N3 ?_); rintro e w' ⟨rfl, rfl⟩)) | (go_at_call 14; (with_reducible refine Says.go E1 ?_); rintro e w' ⟨rfl, rfl⟩))
        go_ret
        exact ⟨rfl, g12.out.trans (hb13.mono g12.out.size)⟩

set_option maxRecDepth 100000 in
theorem lifted (os : Os) (started : os.Started) (H : Type) (enc : TypeId × Value → H) :
    ReturnsInHanded {} Tryd.checked os 7 .any (fun w args => (Rows.floatSumsSpec.pre enc Tryd.prog Tryd.f7 [] false w args ∧ laidMetH Tryd.prog laid3 w) ∧ sizedMet enc Tryd.prog Tryd.f7 (OpenSpec.ofChange Rows.floatSumsSpec) false w args)
      (Rows.floatSumsSpec.post enc Tryd.prog Tryd.f7 false true false false) := by
  refine returnsInHanded_of_change_and (C := Tryd.checked) (X := fun w _ => laidMetH Tryd.prog laid3 w) (fun _ _ _ hh h => h.of_heap hh) own started (by kernel_rfl) Tryd.func7
    (ChangeSpec.witness_shaped (enc := enc) (C := Tryd.checked) (os := os) (X := fun w _ => laidMetH Tryd.prog laid3 w) false (World.doorLaid Tryd.prog 24 os) #[.float .f64 0, .float .f64 0] 8 rfl (World.shaped_of_RefB (by kernel_rfl) (by kernel_rfl)) (by kernel_rfl) (by kernel_rfl) (by kernel_rfl) (door_met os _)) ?_
  intro W base args ds gs before hval0 hW _ _ hL _
  have hval : ∀ (j : Nat) t v, Tryd.f7.params[j]? = some t → args[j]? = some v → Value.okWide Tryd.prog W .any base t v := hval0
  have hW' := hW
  obtain ⟨p, q, hA0, hV, rfl, hfz, hnd⟩ := hW
  have hA : DataW.TrodAll enc Tryd.prog W 0 (fun _ => true) true Tryd.f7.params.toList args.toList ds p := hA0
  rw [Tryd.params7] at hA hval
  obtain ⟨v0, vs0, d0, ds0, p0, q0, hargs, rfl, rfl, h0, r0⟩ := trodAll_cons hA
  obtain ⟨v1, vs1, d1, ds1, p1, q1, rfl, rfl, rfl, h1, r1⟩ := trodAll_cons r0
  obtain ⟨rfl, rfl, rfl⟩ := trodAll_nil r1
  obtain rfl : args = #[v0, v1] := by cases args; simp_all
  obtain ⟨rfl, rfl⟩ := trodVars_none hV
  obtain ⟨a0, rfl, rfl, rfl, w0⟩ := open_float Tryd.underlying22 (hval 0 22 v0 rfl rfl) h0
  obtain ⟨a1, rfl, rfl, rfl, w1⟩ := open_float Tryd.underlying22 (hval 1 22 v1 rfl rfl) h1
  clear hA0 hval0
  simp only [List.append_nil] at hW'
  have ht := of_laid hL
  have k0 : okW a0 := by simpa [Lit.wf, okW] using w0
  have k1 : okW a1 := by simpa [Lit.wf, okW] using w1
  refine (walk k0 k1 ht).mono fun e W' ⟨he, hg⟩ => ?_
  subst he
  exact ⟨_, rfl, _, _, _, [], _, [], hW', trodAll_cons_mk (shut_bool Tryd.underlying4 _) trodAll_mk0, trodAll_cons_mk (shut_float Tryd.underlying22 w0) (trodAll_cons_mk (shut_float Tryd.underlying22 w1) trodAll_mk0), rfl, hg.frame _, fun h => by cases h⟩

theorem over : Rows.FloatSumsSaid :=
  OpenClaim.holds_of_wide 7 Tryd.f7 rfl rfl rfl rfl rfl rfl rfl ⟨rfl, rfl, rfl, rfl, rfl⟩ rfl rfl rfl rfl rfl (by kernel_rfl) Tryd.func7 (by kernel_rfl)
    (of_decide_eq_true (by kernel_rfl)) (by unfold Func.isWrapper; first | (rw [if_pos (by decide +kernel)]; kernel_rfl) | (rw [if_neg (by decide +kernel)]; exact ⟨rfl, rfl⟩))
    (fun os started H enc _ => lifted os started H enc)

/-- The tied card. -/
theorem proved : Rows.FloatSumsCardSaid :=
  Claim7.holds_tied_plain_at .later [] [.data, .data, .data] true (true, "1442d56c9863a55ab90957bf369d3ff3558bfda6f5c7d5e057752a3dfde75035") false
    over (fun _ h => by cases h) (by kernel_rfl) (fun _ h => by cases h) floatSums_row_tie rfl ⟨rfl, rfl⟩ (by kernel_rfl) rfl
    (fun f fn hf hfn => by
      obtain rfl : f = 7 := Option.some.inj ((show Tryd.prog.funcNamed "bascule/basculelaw03.FloatSums" = some 7 by kernel_rfl).symm.trans hf) |>.symm
      obtain rfl : fn = Tryd.f7 := (Option.some.inj (Tryd.func7.symm.trans hfn)).symm
      exact ⟨by kernel_rfl, fun j t ht => by
        rw [Tryd.params7] at ht
        have hm : t ∈ [22, 22] := by simpa using Array.mem_of_getElem? ht
        have hall : ([22, 22].all fun u => !Tryd.prog.wantsStandIn u) = true := by kernel_rfl
        exact (show Tryd.prog.wantsStandIn t = false by simpa using List.all_eq_true.1 hall t hm)⟩)
    (by kernel_rfl)
end lawSums
end Go.Proofs.YthplhgbclbeodaaDoor
