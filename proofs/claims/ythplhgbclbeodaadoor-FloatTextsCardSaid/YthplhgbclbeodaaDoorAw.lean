/-
  Contract of law 3's awake: it answers true.
-/
import Derived.Test.YthplhgbclbeodaaDoorRefPb
namespace Go.Proofs.YthplhgbclbeodaaDoor
open Go.RowKit Ieee

theorem below_drew {w : World} (n : Nat) : Below w.heap.size w (w.drewN n) := ⟨rfl, rfl, rfl, Nat.le_refl _, fun _ _ => rfl⟩
theorem below_some {w w' : World} (h : ∃ n, w' = w.drewN n) : Below w.heap.size w w' := by obtain ⟨n, rfl⟩ := h; exact below_drew n
theorem Parse_b {l : List UInt8} (hl : l.length ≤ 1000) {w : World} (ht : Tabs w) : Calls Tryd.prog 22 #[.string (strL l)] w fun e w' => e = .returned (parseV l) ∧ Below w.heap.size w w' :=
  (Parse_f hl ht).mono fun _ _ h => ⟨h.1, below_some h.2⟩
theorem Add_b (a b : Nat) (w : World) : Calls Tryd.prog 30 #[.float .f64 a, .float .f64 b] w fun e w' => e = .returned (.float .f64 (opW (double.add a b))) ∧ Below w.heap.size w w' := (Add_any a b w).mono fun _ _ h => ⟨h.1, below_some h.2⟩
theorem Sub_b (a b : Nat) (w : World) : Calls Tryd.prog 32 #[.float .f64 a, .float .f64 b] w fun e w' => e = .returned (.float .f64 (opW (double.sub a b))) ∧ Below w.heap.size w w' := (Sub_any a b w).mono fun _ _ h => ⟨h.1, below_some h.2⟩
theorem Mul_b (a b : Nat) (w : World) : Calls Tryd.prog 31 #[.float .f64 a, .float .f64 b] w fun e w' => e = .returned (.float .f64 (opW (double.mul a b))) ∧ Below w.heap.size w w' := (Mul_any a b w).mono fun _ _ h => ⟨h.1, below_some h.2⟩
theorem Div_b (a b : Nat) (w : World) : Calls Tryd.prog 34 #[.float .f64 a, .float .f64 b] w fun e w' => e = .returned (.float .f64 (opW (double.div a b))) ∧ Below w.heap.size w w' := (Div_any a b w).mono fun _ _ h => ⟨h.1, below_some h.2⟩

theorem sign_any : Says 37 #[.float .f64 0, .float .f64 13830554455654793216] (.float .f64 9223372036854775808) := by
  intro w
  have H := bits_run
  have G := float_run
  go_enter Tryd.func37, Tryd.ntmps37
  go_wp2
  go_ret
  exact ⟨rfl, rfl⟩

theorem twos3 : oddOf 3 = 3 ∧ twos 3 = 0 := ⟨oddOf_odd (by decide), twos_odd (by decide)⟩
theorem parse_3p2 : parseV [51, 112, 50] = .tuple #[.float .f64 4622945017495814144, .int .i64 0] := by
  have e : parseV [51, 112, 50] = madeT false 3 2 := rfl
  rw [e]
  unfold madeT
  rw [if_neg (by decide), if_neg (by decide), twos3.1, twos3.2]
  rfl
theorem parse_x : parseV [120] = .tuple #[.float .f64 0, .int .i64 5] := rfl
theorem dig1 {n : Nat} (h : n < 10) : digL n = [dc n] := by rw [digL, if_pos h]
theorem text_12 : textB 4622945017495814144 = strL [51, 112, 50] := by
  have hm : mantW 4622945017495814144 = 2 ^ 51 * (2 * 1 + 1) := by decide
  have hp : placeW 4622945017495814144 = -49 := by decide
  have ho : oddW 4622945017495814144 = 3 := by unfold oddW; rw [hm, if_neg (by decide), (twos_pow 1 51).2]
  have he : expW 4622945017495814144 = 2 := by unfold expW; rw [hm, if_neg (by decide), (twos_pow 1 51).1, hp]; rfl
  unfold textB
  rw [if_neg (by decide), if_neg (by decide), ho, he]
  unfold expS
  rw [if_neg (by decide), dig1 (show 3 < 10 by decide), dig1 (show (2 : Int).toNat < 10 by decide)]
  rfl
theorem text_25 : textB 13836183955189006336 = strL [45, 53, 112, 45, 49] := by
  have hm : mantW 13836183955189006336 = 2 ^ 50 * (2 * 2 + 1) := by decide
  have hp : placeW 13836183955189006336 = -51 := by decide
  have ho : oddW 13836183955189006336 = 5 := by unfold oddW; rw [hm, if_neg (by decide), (twos_pow 2 50).2]
  have he : expW 13836183955189006336 = -1 := by unfold expW; rw [hm, if_neg (by decide), (twos_pow 2 50).1, hp]; rfl
  unfold textB
  rw [if_neg (by decide), if_neg (by decide), ho, he]
  unfold expS
  rw [if_pos (by decide), dig1 (show 5 < 10 by decide), dig1 (show (- -1 : Int).toNat < 10 by decide)]
  rfl
theorem int_25 : toIntV 13836183955189006336 = .tuple #[.int .i64 (-2), .int .i64 0] := by
  have hm : mantW 13836183955189006336 = 2 ^ 50 * (2 * 2 + 1) := by decide
  have hp : placeW 13836183955189006336 = -51 := by decide
  have ho : oddW 13836183955189006336 = 5 := by unfold oddW; rw [hm, if_neg (by decide), (twos_pow 2 50).2]
  have he : expW 13836183955189006336 = -1 := by unfold expW; rw [hm, if_neg (by decide), (twos_pow 2 50).1, hp]; rfl
  unfold toIntV
  rw [if_neg (by decide), ho, he]
  rfl
theorem text_nan : textB 9221120237041090560 = strL [110, 97, 110] := by unfold textB; rw [if_pos (by decide)]; rfl
theorem div_ninf : opW (double.div 4607182418800017408 9223372036854775808) = 18442240474082181120 := by decide
theorem div_none : opW (double.div 0 0) = 9221120237041090560 := by decide
theorem add_53 : opW (double.add 4845873199050653696 4607182418800017408) = 4845873199050653696 := by decide

theorem c_parse1 {w : World} (ht : Tabs w) : Calls Tryd.prog 22 #[.string ⟨#[51, 112, 50]⟩] w fun e w' => e = .returned (.tuple #[.float .f64 4622945017495814144, .int .i64 0]) ∧ Below w.heap.size w w' := by
  have h := Parse_b (l := [51, 112, 50]) (by decide) ht
  rw [parse_3p2] at h; exact h
theorem c_parse2 {w : World} (ht : Tabs w) : Calls Tryd.prog 22 #[.string ⟨#[120]⟩] w fun e w' => e = .returned (.tuple #[.float .f64 0, .int .i64 5]) ∧ Below w.heap.size w w' := by
  have h := Parse_b (l := [120]) (by decide) ht
  rw [parse_x] at h; exact h
theorem c_int (w : World) : Calls Tryd.prog 25 #[.float .f64 13836183955189006336] w fun e w' => e = .returned (.tuple #[.int .i64 (-2), .int .i64 0]) ∧ w = w' := by
  have h := ToInt_f 13836183955189006336 w
  rw [int_25] at h; exact h
theorem c_text1 {w : World} (ht : Tabs w) : Calls Tryd.prog 21 #[.float .f64 4622945017495814144] w fun e w' => e = .returned (.string ⟨#[51, 112, 50]⟩) ∧ Below w.heap.size w w' := by
  have h := Text_f (b := 4622945017495814144) (by unfold okW; omega) ht
  rw [text_12] at h; exact h
theorem c_text2 {w : World} (ht : Tabs w) : Calls Tryd.prog 21 #[.float .f64 13836183955189006336] w fun e w' => e = .returned (.string ⟨#[45, 53, 112, 45, 49]⟩) ∧ Below w.heap.size w w' := by
  have h := Text_f (b := 13836183955189006336) (by unfold okW; omega) ht
  rw [text_25] at h; exact h
theorem c_text3 {w : World} (ht : Tabs w) : Calls Tryd.prog 21 #[.float .f64 9221120237041090560] w fun e w' => e = .returned (.string ⟨#[110, 97, 110]⟩) ∧ Below w.heap.size w w' := by
  have h := Text_f (b := 9221120237041090560) (by unfold okW; omega) ht
  rw [text_nan] at h; exact h
theorem c_div1 (w : World) : Calls Tryd.prog 34 #[.float .f64 4607182418800017408, .float .f64 9223372036854775808] w fun e w' => e = .returned (.float .f64 18442240474082181120) ∧ Below w.heap.size w w' := by
  have h := Div_b 4607182418800017408 9223372036854775808 w
  rw [div_ninf] at h; exact h
theorem c_div2 (w : World) : Calls Tryd.prog 34 #[.float .f64 0, .float .f64 0] w fun e w' => e = .returned (.float .f64 9221120237041090560) ∧ Below w.heap.size w w' := by
  have h := Div_b 0 0 w
  rw [div_none] at h; exact h
theorem c_add (w : World) : Calls Tryd.prog 30 #[.float .f64 4845873199050653696, .float .f64 4607182418800017408] w fun e w' => e = .returned (.float .f64 4845873199050653696) ∧ Below w.heap.size w w' := by
  have h := Add_b 4845873199050653696 4607182418800017408 w
  rw [add_53] at h; exact h
theorem c_equal : Says 14 #[.float .f64 0, .float .f64 9223372036854775808] (.bool true) := by
  have h := Equal_f 0 9223372036854775808
  have e : (double.order 0 9223372036854775808 == some .eq) = true := by decide
  rw [e] at h; exact h
theorem c_order : Says 12 #[.float .f64 9223372036854775808, .float .f64 0] (.int .i64 (-1)) := by
  have h := Order_f (a := 9223372036854775808) (b := 0) (by unfold okW; omega) (by unfold okW; omega)
  have e : ordI (keyI 9223372036854775808) (keyI 0) = -1 := by decide
  rw [e] at h; exact h

set_option maxRecDepth 100000 in
set_option maxHeartbeats 1000000 in
theorem awake_any {w : World} (ht : Tabs w) : Calls Tryd.prog 11 #[] w fun e w' => e = .returned (.bool true) ∧ Below w.heap.size w w' := by
  have F1 : ((FloatKind.format .f64).order 4622945017495814144 4622945017495814144 == some Ordering.eq) = true := by decide
  have F2 : ((FloatKind.format .f64).order 18442240474082181120 0 == some Ordering.lt) = true := by decide
  have F3 : ((FloatKind.format .f64).order 4845873199050653696 4845873199050653696 == some Ordering.eq) = true := by decide
  have S := sign_any
  go_enter Tryd.func11, Tryd.ntmps11
  go_wp2_with (go_at_call 37; (with_reducible refine Says.go S ?_); rintro e w' ⟨rfl, rfl⟩)
  refine (c_parse1 ht).mono ?_
  rintro e w1 ⟨rfl, hb1⟩
  have ht1 := ht.below hb1
  go_wp2_with fail
  refine (c_int _).mono ?_
  rintro e w' ⟨rfl, rfl⟩
  go_wp2_with fail
  refine (c_parse2 ht1).mono ?_
  rintro e w2 ⟨rfl, hb2⟩
  have ht2 := ht1.below hb2
  go_wp2_with fail
  refine (c_text1 ht2).mono ?_
  rintro e w3 ⟨rfl, hb3⟩
  have ht3 := ht2.below hb3
  go_wp2_with fail
  refine (c_text2 ht3).mono ?_
  rintro e w4 ⟨rfl, hb4⟩
  have ht4 := ht3.below hb4
  go_wp2_with fail
  refine (c_div1 _).mono ?_
  rintro e w5 ⟨rfl, hb5⟩
  have ht5 := ht4.below hb5
  go_wp2_with fail
  refine (c_div2 _).mono ?_
  rintro e w6 ⟨rfl, hb6⟩
  have ht6 := ht5.below hb6
  go_wp2_with fail
  refine (c_text3 ht6).mono ?_
  rintro e w7 ⟨rfl, hb7⟩
  go_wp2_with fail
  refine (c_equal _).mono ?_
  rintro e w' ⟨rfl, rfl⟩
  go_wp2_with fail
  refine (c_order _).mono ?_
  rintro e w' ⟨rfl, rfl⟩
  go_wp2_with fail
  refine (c_add _).mono ?_
  rintro e w8 ⟨rfl, hb8⟩
  go_wp2_with fail
  go_ret
  have g2 := hb1.trans (hb2.mono hb1.size)
  have g3 := g2.trans (hb3.mono g2.size)
  have g4 := g3.trans (hb4.mono g3.size)
  have g5 := g4.trans (hb5.mono g4.size)
  have g6 := g5.trans (hb6.mono g5.size)
  have g7 := g6.trans (hb7.mono g6.size)
  exact ⟨rfl, g7.trans (hb8.mono g7.size)⟩
end Go.Proofs.YthplhgbclbeodaaDoor
