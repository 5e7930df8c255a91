/-
  The walk of CodecBack.
-/
import Derived.Test.YteclpehbpicpaaaLBackBm
namespace Go.Proofs.Yteclpehbpicpaaa.codecBack
open Go.RowKit

/-- Where the bytes are cut. -/
theorem cut_place {c : Int} {n : Nat} (hn : 0 < n) (hm : n ≤ 130000) : ∃ j : Nat, j < n ∧ wrap64 ((IntKind.u64.wrap c).tmod (n : Int)) = (j : Int) := by
  have hw : 0 ≤ IntKind.u64.wrap c := by rw [IntKind.wrap_u64]; omega
  generalize IntKind.u64.wrap c = z at *
  rw [Int.tmod_eq_emod_of_nonneg hw]
  have h1 := Int.emod_lt_of_pos z (show (0 : Int) < n by omega)
  have h0 := Int.emod_nonneg z (show (n : Int) ≠ 0 by omega)
  refine ⟨(z % (n : Int)).toNat, by omega, ?_⟩
  generalize z % (n : Int) = y at *
  unfold wrap64
  omega
set_option maxRecDepth 100000 in
set_option maxHeartbeats 4000000 in
theorem walk_ee {t : VT} {v : Array Value} {u : TT} {x : Array Value} {w : World} {A B : ByteArray} {c : Int} (hv : Val w w.heap.size v t) (hx : TVal w w.heap.size x u) (hsm : smallV t = true) (htm : tsmallV u = true) (hA : A.size ≤ 200) (hB : B.size ≤ 200) (hok : okV t = false) (htk : tokV u = false) :
    Calls Try.prog 6 #[.agg v, .agg x, .string A, .string B, .int .i64 c] w (Yes w) := by
  obtain ⟨W0, hW0⟩ : ∃ W0, W0 = (w.alloc (.cells v 27)).alloc (.cells x 30) := ⟨_, rfl⟩
  have hb0 : Below w.heap.size w W0 := by rw [hW0]; exact ((Below.refl _ _).alloc (Nat.le_refl _) _).alloc (by simp) _
  have hvW : ∀ W, Below W0.heap.size W0 W → Val W W.heap.size v t := fun W h => ((hv.stay hb0).mono hb0.size |>.stay h).mono h.size
  have hxW : ∀ W, Below W0.heap.size W0 W → TVal W W.heap.size x u := fun W h => ((hx.stay hb0).mono hb0.size |>.stay h).mono h.size
  have HS := Lib.hid fun W h => small_any (hvW W h)
  have HT := Lib.hid fun W h => tsmall_any (hxW W h)
  have HAW := Lib.hid awake_any
  have HB0 := Lib.hid hb0
  have SF := float_store
  have HV := Lib.hid fun W h => Value_f (hvW W h)
  have HT' := Lib.hid fun W h => Type_f (hxW W h)
  unfold wrV at HV
  unfold twrV at HT'
  rw [hsm] at HS
  rw [htm] at HT
  rw [hok] at HV
  rw [htk] at HT'
  have tA : decide ((200 : Int) < (A.size : Int)) = false := by simp; omega
  have tB : decide ((200 : Int) < (B.size : Int)) = false := by simp; omega
  rw [if_neg Bool.false_ne_true] at HV
  rw [if_neg Bool.false_ne_true] at HT'
  obtain ⟨a0, a1, a2, a3, a4, a5, rfl⟩ := hv.six
  obtain ⟨b0, b1, b2, rfl⟩ := hx.three
  have CE := two_boxes (w := w) (a0 := a0) (a1 := a1) (a2 := a2) (a3 := a3) (a4 := a4) (a5 := a5) (b0 := b0) (b1 := b1) (b2 := b2)
  rw [← hW0] at CE
  have HW0 := Lib.hid hW0
  clear hb0 hW0 hv hx hvW hxW hsm htm hok htk
  go_enter Try.func6, Try.ntmps6
  go_wp2_with (first
    | (go_at_call 9; refine (HAW.out _).mono ?_; rintro e w1 ⟨rfl, hb⟩; have HC := Lib.hid (show Below W0.heap.size W0 w1 by rw [HW0.out]; exact hb); clear hb; obtain ⟨⟨c0, c1, c2, c3, c4, c5⟩, d0, d1, d2⟩ := CE.out _ HC.out)
    | (go_at_call 10; refine (HS.out _ HC.out).mono ?_; rintro e w10 ⟨rfl, hb⟩; replace HC := Lib.hid (HC.out.trans (hb.mono HC.out.size)); clear hb; clear c0 c1 c2 c3 c4 c5 d0 d1 d2; obtain ⟨⟨c0, c1, c2, c3, c4, c5⟩, d0, d1, d2⟩ := CE.out _ HC.out)
    | (go_at_call 11; refine (HT.out _ HC.out).mono ?_; rintro e w11 ⟨rfl, hb⟩; replace HC := Lib.hid (HC.out.trans (hb.mono HC.out.size)); clear hb; clear c0 c1 c2 c3 c4 c5 d0 d1 d2; obtain ⟨⟨c0, c1, c2, c3, c4, c5⟩, d0, d1, d2⟩ := CE.out _ HC.out)
    | (go_at_call 12; refine (HV.out _ HC.out).mono ?_; rintro e w12 ⟨rfl, hb⟩; replace HC := Lib.hid (HC.out.trans (hb.mono HC.out.size)); clear hb; clear c0 c1 c2 c3 c4 c5 d0 d1 d2; obtain ⟨⟨c0, c1, c2, c3, c4, c5⟩, d0, d1, d2⟩ := CE.out _ HC.out)
    | (go_at_call 13; refine (HT'.out _ HC.out).mono ?_; rintro e w13 ⟨rfl, hb⟩; replace HC := Lib.hid (HC.out.trans (hb.mono HC.out.size)); clear hb; clear c0 c1 c2 c3 c4 c5 d0 d1 d2; obtain ⟨⟨c0, c1, c2, c3, c4, c5⟩, d0, d1, d2⟩ := CE.out _ HC.out))
  go_ret
  exact ⟨rfl, HB0.out.trans (HC.out.mono HB0.out.size)⟩
set_option maxRecDepth 100000 in
set_option maxHeartbeats 4000000 in
theorem walk_ek {t : VT} {v : Array Value} {u : TT} {x : Array Value} {w : World} {A B : ByteArray} {c : Int} (hv : Val w w.heap.size v t) (hx : TVal w w.heap.size x u) (hsm : smallV t = true) (htm : tsmallV u = true) (hA : A.size ≤ 200) (hB : B.size ≤ 200) (hok : okV t = false) (htk : tokV u = true) :
    Calls Try.prog 6 #[.agg v, .agg x, .string A, .string B, .int .i64 c] w (Yes w) := by
  obtain ⟨W0, hW0⟩ : ∃ W0, W0 = (w.alloc (.cells v 27)).alloc (.cells x 30) := ⟨_, rfl⟩
  have hb0 : Below w.heap.size w W0 := by rw [hW0]; exact ((Below.refl _ _).alloc (Nat.le_refl _) _).alloc (by simp) _
  have hvW : ∀ W, Below W0.heap.size W0 W → Val W W.heap.size v t := fun W h => ((hv.stay hb0).mono hb0.size |>.stay h).mono h.size
  have hxW : ∀ W, Below W0.heap.size W0 W → TVal W W.heap.size x u := fun W h => ((hx.stay hb0).mono hb0.size |>.stay h).mono h.size
  have HS := Lib.hid fun W h => small_any (hvW W h)
  have HT := Lib.hid fun W h => tsmall_any (hxW W h)
  have HAW := Lib.hid awake_any
  have HB0 := Lib.hid hb0
  have SF := float_store
  have HV := Lib.hid fun W h => Value_f (hvW W h)
  have HT' := Lib.hid fun W h => Type_f (hxW W h)
  unfold wrV at HV
  unfold twrV at HT'
  rw [hsm] at HS
  rw [htm] at HT
  rw [hok] at HV
  rw [htk] at HT'
  have tA : decide ((200 : Int) < (A.size : Int)) = false := by simp; omega
  have tB : decide ((200 : Int) < (B.size : Int)) = false := by simp; omega
  rw [if_neg Bool.false_ne_true] at HV
  rw [if_pos rfl] at HT'
  have htb : (typeB u).size ≤ 130000 := by have := typL_few hx ⟨12, (tok_ttot hx htk).2⟩ (tok_ttot hx htk).1; unfold typL at this; rw [lst_len] at this; exact this
  have htp : 0 < (typeB u).size := by have := typL_pos u ⟨12, (tok_ttot hx htk).2⟩; unfold typL at this; rw [lst_len] at this; exact this
  obtain ⟨j2, hj2, ej2⟩ := cut_place (c := c) htp htb
  have CT1 := Lib.hid fun W h => call_amid_t hxW htk htb hA hB W h
  have CT2 := Lib.hid fun W => call_cut_t htk htb hj2 W
  generalize typeB u = Y at *
  obtain ⟨a0, a1, a2, a3, a4, a5, rfl⟩ := hv.six
  obtain ⟨b0, b1, b2, rfl⟩ := hx.three
  have CE := two_boxes (w := w) (a0 := a0) (a1 := a1) (a2 := a2) (a3 := a3) (a4 := a4) (a5 := a5) (b0 := b0) (b1 := b1) (b2 := b2)
  rw [← hW0] at CE
  have HW0 := Lib.hid hW0
  clear hb0 hW0 hv hx hvW hxW hsm htm hok htk
  go_enter Try.func6, Try.ntmps6
  go_wp2_with (first
    | (go_at_call 9; refine (HAW.out _).mono ?_; rintro e w1 ⟨rfl, hb⟩; have HC := Lib.hid (show Below W0.heap.size W0 w1 by rw [HW0.out]; exact hb); clear hb; obtain ⟨⟨c0, c1, c2, c3, c4, c5⟩, d0, d1, d2⟩ := CE.out _ HC.out)
    | (go_at_call 10; refine (HS.out _ HC.out).mono ?_; rintro e w10 ⟨rfl, hb⟩; replace HC := Lib.hid (HC.out.trans (hb.mono HC.out.size)); clear hb; clear c0 c1 c2 c3 c4 c5 d0 d1 d2; obtain ⟨⟨c0, c1, c2, c3, c4, c5⟩, d0, d1, d2⟩ := CE.out _ HC.out)
    | (go_at_call 11; refine (HT.out _ HC.out).mono ?_; rintro e w11 ⟨rfl, hb⟩; replace HC := Lib.hid (HC.out.trans (hb.mono HC.out.size)); clear hb; clear c0 c1 c2 c3 c4 c5 d0 d1 d2; obtain ⟨⟨c0, c1, c2, c3, c4, c5⟩, d0, d1, d2⟩ := CE.out _ HC.out)
    | (go_at_call 12; refine (HV.out _ HC.out).mono ?_; rintro e w12 ⟨rfl, hb⟩; replace HC := Lib.hid (HC.out.trans (hb.mono HC.out.size)); clear hb; clear c0 c1 c2 c3 c4 c5 d0 d1 d2; obtain ⟨⟨c0, c1, c2, c3, c4, c5⟩, d0, d1, d2⟩ := CE.out _ HC.out)
    | (go_at_call 13; refine (HT'.out _ HC.out).mono ?_; rintro e w13 ⟨rfl, hb⟩; replace HC := Lib.hid (HC.out.trans (hb.mono HC.out.size)); clear hb; clear c0 c1 c2 c3 c4 c5 d0 d1 d2; obtain ⟨⟨c0, c1, c2, c3, c4, c5⟩, d0, d1, d2⟩ := CE.out _ HC.out)
    | (go_at_call 33; refine (CT1.out _ (by exact HC.out)).mono ?_; rintro e w33 ⟨y0, y1, y2, y3, y4, y5, y6, rfl, hb, hs36⟩; have HS36 := Lib.hid hs36; clear hs36; replace HC := Lib.hid (HC.out.trans (hb.mono HC.out.size)); clear hb; clear CT1; clear c0 c1 c2 c3 c4 c5 d0 d1 d2; obtain ⟨⟨c0, c1, c2, c3, c4, c5⟩, d0, d1, d2⟩ := CE.out _ (HC.out.alloc HC.out.size (.cells #[.int .i64 y0, .slice y1 y2 y3, .slice y4 y5 y6] 30)))
    | (go_at_call 33; refine (CT2.out _).mono ?_; rintro e w34 ⟨rfl, hb⟩; clear CT2; have HZ := Lib.hid (((Below.refl _ _).alloc (Nat.le_refl _) _).trans (hb.mono (by simp))); obtain ⟨e0, e1, e2⟩ := box3_stays.out _ (hb.alloc hb.size (.cells #[.int .i64 0, .slice none 0 0, .slice none 0 0] 30)); replace HC := Lib.hid ((HC.out.alloc HC.out.size _).trans (hb.mono (Nat.le_trans HC.out.size (by simp)))); clear hb; clear c0 c1 c2 c3 c4 c5 d0 d1 d2; obtain ⟨⟨c0, c1, c2, c3, c4, c5⟩, d0, d1, d2⟩ := CE.out _ (HC.out.alloc HC.out.size (.cells #[.int .i64 0, .slice none 0 0, .slice none 0 0] 30)))
    | (go_at_call 36; refine (HS36.out _ (by exact HZ.out.alloc HZ.out.size _)).mono ?_; rintro e w36 ⟨rfl, hb⟩; replace HC := Lib.hid ((HC.out.alloc HC.out.size _).trans (hb.mono (Nat.le_trans HC.out.size (by simp)))); clear hb))
  go_ret
  exact ⟨rfl, HB0.out.trans (HC.out.mono HB0.out.size)⟩
set_option maxRecDepth 100000 in
set_option maxHeartbeats 4000000 in
theorem walk_ke {t : VT} {v : Array Value} {u : TT} {x : Array Value} {w : World} {A B : ByteArray} {c : Int} (hv : Val w w.heap.size v t) (hx : TVal w w.heap.size x u) (hsm : smallV t = true) (htm : tsmallV u = true) (hA : A.size ≤ 200) (hB : B.size ≤ 200) (hok : okV t = true) (htk : tokV u = false) :
    Calls Try.prog 6 #[.agg v, .agg x, .string A, .string B, .int .i64 c] w (Yes w) := by
  obtain ⟨W0, hW0⟩ : ∃ W0, W0 = (w.alloc (.cells v 27)).alloc (.cells x 30) := ⟨_, rfl⟩
  have hb0 : Below w.heap.size w W0 := by rw [hW0]; exact ((Below.refl _ _).alloc (Nat.le_refl _) _).alloc (by simp) _
  have hvW : ∀ W, Below W0.heap.size W0 W → Val W W.heap.size v t := fun W h => ((hv.stay hb0).mono hb0.size |>.stay h).mono h.size
  have hxW : ∀ W, Below W0.heap.size W0 W → TVal W W.heap.size x u := fun W h => ((hx.stay hb0).mono hb0.size |>.stay h).mono h.size
  have HS := Lib.hid fun W h => small_any (hvW W h)
  have HT := Lib.hid fun W h => tsmall_any (hxW W h)
  have HAW := Lib.hid awake_any
  have HB0 := Lib.hid hb0
  have SF := float_store
  have HV := Lib.hid fun W h => Value_f (hvW W h)
  have HT' := Lib.hid fun W h => Type_f (hxW W h)
  unfold wrV at HV
  unfold twrV at HT'
  rw [hsm] at HS
  rw [htm] at HT
  rw [hok] at HV
  rw [htk] at HT'
  have tA : decide ((200 : Int) < (A.size : Int)) = false := by simp; omega
  have tB : decide ((200 : Int) < (B.size : Int)) = false := by simp; omega
  rw [if_pos rfl] at HV
  have hvb : (valB t).size ≤ 130000 := by have := valL_few hv ⟨12, (ok_tot hv hok).2⟩ (ok_tot hv hok).1; unfold valL at this; rw [lst_len] at this; exact this
  have hvp : 0 < (valB t).size := by have := valL_pos t ⟨12, (ok_tot hv hok).2⟩; unfold valL at this; rw [lst_len] at this; exact this
  obtain ⟨j, hj, ej⟩ := cut_place (c := c) hvp hvb
  have CV1 := Lib.hid fun W h => call_amid_v hvW hok hvb hv.fin hA hB W h
  have CV2 := Lib.hid fun W => call_cut_v hok hvb hv.fin hj W
  generalize valB t = X at *
  rw [if_neg Bool.false_ne_true] at HT'
  obtain ⟨a0, a1, a2, a3, a4, a5, rfl⟩ := hv.six
  obtain ⟨b0, b1, b2, rfl⟩ := hx.three
  have CE := two_boxes (w := w) (a0 := a0) (a1 := a1) (a2 := a2) (a3 := a3) (a4 := a4) (a5 := a5) (b0 := b0) (b1 := b1) (b2 := b2)
  rw [← hW0] at CE
  have HW0 := Lib.hid hW0
  clear hb0 hW0 hv hx hvW hxW hsm htm hok htk
  go_enter Try.func6, Try.ntmps6
  go_wp2_with (first
    | (go_at_call 9; refine (HAW.out _).mono ?_; rintro e w1 ⟨rfl, hb⟩; have HC := Lib.hid (show Below W0.heap.size W0 w1 by rw [HW0.out]; exact hb); clear hb; obtain ⟨⟨c0, c1, c2, c3, c4, c5⟩, d0, d1, d2⟩ := CE.out _ HC.out)
    | (go_at_call 10; refine (HS.out _ HC.out).mono ?_; rintro e w10 ⟨rfl, hb⟩; replace HC := Lib.hid (HC.out.trans (hb.mono HC.out.size)); clear hb; clear c0 c1 c2 c3 c4 c5 d0 d1 d2; obtain ⟨⟨c0, c1, c2, c3, c4, c5⟩, d0, d1, d2⟩ := CE.out _ HC.out)
    | (go_at_call 11; refine (HT.out _ HC.out).mono ?_; rintro e w11 ⟨rfl, hb⟩; replace HC := Lib.hid (HC.out.trans (hb.mono HC.out.size)); clear hb; clear c0 c1 c2 c3 c4 c5 d0 d1 d2; obtain ⟨⟨c0, c1, c2, c3, c4, c5⟩, d0, d1, d2⟩ := CE.out _ HC.out)
    | (go_at_call 12; refine (HV.out _ HC.out).mono ?_; rintro e w12 ⟨rfl, hb⟩; replace HC := Lib.hid (HC.out.trans (hb.mono HC.out.size)); clear hb; clear c0 c1 c2 c3 c4 c5 d0 d1 d2; obtain ⟨⟨c0, c1, c2, c3, c4, c5⟩, d0, d1, d2⟩ := CE.out _ HC.out)
    | (go_at_call 31; refine (CV1.out _ (by exact HC.out)).mono ?_; rintro e w31 ⟨x0, x1, x2, x3, x4, x5, x6, x7, x8, x9, rfl, hb, hs35⟩; have HS35 := Lib.hid hs35; clear hs35; have HQ := HC; replace HC := Lib.hid (HC.out.trans (hb.mono HC.out.size)); clear hb; clear CV1; clear c0 c1 c2 c3 c4 c5 d0 d1 d2; obtain ⟨⟨c0, c1, c2, c3, c4, c5⟩, d0, d1, d2⟩ := CE.out _ (HC.out.alloc HC.out.size (.cells #[.int .i64 x0, .int .i64 x1, .float .f64 x2, .string x3, .slice x4 x5 x6, .slice x7 x8 x9] 27)))
    | (go_at_call 35; refine HS35.out.mono ?_; rintro e w35 ⟨rfl, hb⟩; replace HC := Lib.hid (HQ.out.trans (hb.mono HQ.out.size)); clear hb; clear HS35 HQ; clear c0 c1 c2 c3 c4 c5 d0 d1 d2; obtain ⟨⟨c0, c1, c2, c3, c4, c5⟩, d0, d1, d2⟩ := CE.out _ HC.out)
    | (go_at_call 31; refine (CV2.out _).mono ?_; rintro e w32 ⟨rfl, hb⟩; replace HC := Lib.hid (HC.out.trans (hb.mono HC.out.size)); clear hb; clear CV2; clear c0 c1 c2 c3 c4 c5 d0 d1 d2; obtain ⟨⟨c0, c1, c2, c3, c4, c5⟩, d0, d1, d2⟩ := CE.out _ (HC.out.alloc HC.out.size (.cells #[.int .i64 0, .int .i64 0, .float .f64 0, .string ⟨#[]⟩, .slice none 0 0, .slice none 0 0] 27)))
    | (go_at_call 13; refine (HT'.out _ (by exact HC.out.alloc HC.out.size _)).mono ?_; rintro e w13 ⟨rfl, hb⟩; replace HC := Lib.hid ((HC.out.alloc HC.out.size _).trans (hb.mono (Nat.le_trans HC.out.size (by simp)))); clear hb; clear c0 c1 c2 c3 c4 c5 d0 d1 d2; obtain ⟨⟨c0, c1, c2, c3, c4, c5⟩, d0, d1, d2⟩ := CE.out _ HC.out))
  go_ret
  exact ⟨rfl, HB0.out.trans (HC.out.mono HB0.out.size)⟩
set_option maxRecDepth 100000 in
set_option maxHeartbeats 4000000 in
theorem walk_kk {t : VT} {v : Array Value} {u : TT} {x : Array Value} {w : World} {A B : ByteArray} {c : Int} (hv : Val w w.heap.size v t) (hx : TVal w w.heap.size x u) (hsm : smallV t = true) (htm : tsmallV u = true) (hA : A.size ≤ 200) (hB : B.size ≤ 200) (hok : okV t = true) (htk : tokV u = true) :
    Calls Try.prog 6 #[.agg v, .agg x, .string A, .string B, .int .i64 c] w (Yes w) := by
  obtain ⟨W0, hW0⟩ : ∃ W0, W0 = (w.alloc (.cells v 27)).alloc (.cells x 30) := ⟨_, rfl⟩
  have hb0 : Below w.heap.size w W0 := by rw [hW0]; exact ((Below.refl _ _).alloc (Nat.le_refl _) _).alloc (by simp) _
  have hvW : ∀ W, Below W0.heap.size W0 W → Val W W.heap.size v t := fun W h => ((hv.stay hb0).mono hb0.size |>.stay h).mono h.size
  have hxW : ∀ W, Below W0.heap.size W0 W → TVal W W.heap.size x u := fun W h => ((hx.stay hb0).mono hb0.size |>.stay h).mono h.size
  have HS := Lib.hid fun W h => small_any (hvW W h)
  have HT := Lib.hid fun W h => tsmall_any (hxW W h)
  have HAW := Lib.hid awake_any
  have HB0 := Lib.hid hb0
  have SF := float_store
  have HV := Lib.hid fun W h => Value_f (hvW W h)
  have HT' := Lib.hid fun W h => Type_f (hxW W h)
  unfold wrV at HV
  unfold twrV at HT'
  rw [hsm] at HS
  rw [htm] at HT
  rw [hok] at HV
  rw [htk] at HT'
  have tA : decide ((200 : Int) < (A.size : Int)) = false := by simp; omega
  have tB : decide ((200 : Int) < (B.size : Int)) = false := by simp; omega
  rw [if_pos rfl] at HV
  have hvb : (valB t).size ≤ 130000 := by have := valL_few hv ⟨12, (ok_tot hv hok).2⟩ (ok_tot hv hok).1; unfold valL at this; rw [lst_len] at this; exact this
  have hvp : 0 < (valB t).size := by have := valL_pos t ⟨12, (ok_tot hv hok).2⟩; unfold valL at this; rw [lst_len] at this; exact this
  obtain ⟨j, hj, ej⟩ := cut_place (c := c) hvp hvb
  have CV1 := Lib.hid fun W h => call_amid_v hvW hok hvb hv.fin hA hB W h
  have CV2 := Lib.hid fun W => call_cut_v hok hvb hv.fin hj W
  generalize valB t = X at *
  rw [if_pos rfl] at HT'
  have htb : (typeB u).size ≤ 130000 := by have := typL_few hx ⟨12, (tok_ttot hx htk).2⟩ (tok_ttot hx htk).1; unfold typL at this; rw [lst_len] at this; exact this
  have htp : 0 < (typeB u).size := by have := typL_pos u ⟨12, (tok_ttot hx htk).2⟩; unfold typL at this; rw [lst_len] at this; exact this
  obtain ⟨j2, hj2, ej2⟩ := cut_place (c := c) htp htb
  have CT1 := Lib.hid fun W h => call_amid_t hxW htk htb hA hB W h
  have CT2 := Lib.hid fun W => call_cut_t htk htb hj2 W
  generalize typeB u = Y at *
  obtain ⟨a0, a1, a2, a3, a4, a5, rfl⟩ := hv.six
  obtain ⟨b0, b1, b2, rfl⟩ := hx.three
  have CE := two_boxes (w := w) (a0 := a0) (a1 := a1) (a2 := a2) (a3 := a3) (a4 := a4) (a5 := a5) (b0 := b0) (b1 := b1) (b2 := b2)
  rw [← hW0] at CE
  have HW0 := Lib.hid hW0
  clear hb0 hW0 hv hx hvW hxW hsm htm hok htk
  go_enter Try.func6, Try.ntmps6
  go_wp2_with (first
    | (go_at_call 9; refine (HAW.out _).mono ?_; rintro e w1 ⟨rfl, hb⟩; have HC := Lib.hid (show Below W0.heap.size W0 w1 by rw [HW0.out]; exact hb); clear hb; obtain ⟨⟨c0, c1, c2, c3, c4, c5⟩, d0, d1, d2⟩ := CE.out _ HC.out)
    | (go_at_call 10; refine (HS.out _ HC.out).mono ?_; rintro e w10 ⟨rfl, hb⟩; replace HC := Lib.hid (HC.out.trans (hb.mono HC.out.size)); clear hb; clear c0 c1 c2 c3 c4 c5 d0 d1 d2; obtain ⟨⟨c0, c1, c2, c3, c4, c5⟩, d0, d1, d2⟩ := CE.out _ HC.out)
    | (go_at_call 11; refine (HT.out _ HC.out).mono ?_; rintro e w11 ⟨rfl, hb⟩; replace HC := Lib.hid (HC.out.trans (hb.mono HC.out.size)); clear hb; clear c0 c1 c2 c3 c4 c5 d0 d1 d2; obtain ⟨⟨c0, c1, c2, c3, c4, c5⟩, d0, d1, d2⟩ := CE.out _ HC.out)
    | (go_at_call 12; refine (HV.out _ HC.out).mono ?_; rintro e w12 ⟨rfl, hb⟩; replace HC := Lib.hid (HC.out.trans (hb.mono HC.out.size)); clear hb; clear c0 c1 c2 c3 c4 c5 d0 d1 d2; obtain ⟨⟨c0, c1, c2, c3, c4, c5⟩, d0, d1, d2⟩ := CE.out _ HC.out)
    | (go_at_call 31; refine (CV1.out _ (by exact HC.out)).mono ?_; rintro e w31 ⟨x0, x1, x2, x3, x4, x5, x6, x7, x8, x9, rfl, hb, hs35⟩; have HS35 := Lib.hid hs35; clear hs35; have HQ := HC; replace HC := Lib.hid (HC.out.trans (hb.mono HC.out.size)); clear hb; clear CV1; clear c0 c1 c2 c3 c4 c5 d0 d1 d2; obtain ⟨⟨c0, c1, c2, c3, c4, c5⟩, d0, d1, d2⟩ := CE.out _ (HC.out.alloc HC.out.size (.cells #[.int .i64 x0, .int .i64 x1, .float .f64 x2, .string x3, .slice x4 x5 x6, .slice x7 x8 x9] 27)))
    | (go_at_call 35; refine HS35.out.mono ?_; rintro e w35 ⟨rfl, hb⟩; replace HC := Lib.hid (HQ.out.trans (hb.mono HQ.out.size)); clear hb; clear HS35 HQ; clear c0 c1 c2 c3 c4 c5 d0 d1 d2; obtain ⟨⟨c0, c1, c2, c3, c4, c5⟩, d0, d1, d2⟩ := CE.out _ HC.out)
    | (go_at_call 31; refine (CV2.out _).mono ?_; rintro e w32 ⟨rfl, hb⟩; replace HC := Lib.hid (HC.out.trans (hb.mono HC.out.size)); clear hb; clear CV2; clear c0 c1 c2 c3 c4 c5 d0 d1 d2; obtain ⟨⟨c0, c1, c2, c3, c4, c5⟩, d0, d1, d2⟩ := CE.out _ (HC.out.alloc HC.out.size (.cells #[.int .i64 0, .int .i64 0, .float .f64 0, .string ⟨#[]⟩, .slice none 0 0, .slice none 0 0] 27)))
    | (go_at_call 13; refine (HT'.out _ (by exact HC.out.alloc HC.out.size _)).mono ?_; rintro e w13 ⟨rfl, hb⟩; replace HC := Lib.hid ((HC.out.alloc HC.out.size _).trans (hb.mono (Nat.le_trans HC.out.size (by simp)))); clear hb; clear c0 c1 c2 c3 c4 c5 d0 d1 d2; obtain ⟨⟨c0, c1, c2, c3, c4, c5⟩, d0, d1, d2⟩ := CE.out _ HC.out)
    | (go_at_call 33; refine (CT1.out _ (by exact HC.out)).mono ?_; rintro e w33 ⟨y0, y1, y2, y3, y4, y5, y6, rfl, hb, hs36⟩; have HS36 := Lib.hid hs36; clear hs36; replace HC := Lib.hid (HC.out.trans (hb.mono HC.out.size)); clear hb; clear CT1; clear c0 c1 c2 c3 c4 c5 d0 d1 d2; obtain ⟨⟨c0, c1, c2, c3, c4, c5⟩, d0, d1, d2⟩ := CE.out _ (HC.out.alloc HC.out.size (.cells #[.int .i64 y0, .slice y1 y2 y3, .slice y4 y5 y6] 30)))
    | (go_at_call 33; refine (CT2.out _).mono ?_; rintro e w34 ⟨rfl, hb⟩; clear CT2; have HZ := Lib.hid (((Below.refl _ _).alloc (Nat.le_refl _) _).trans (hb.mono (by simp))); obtain ⟨e0, e1, e2⟩ := box3_stays.out _ (hb.alloc hb.size (.cells #[.int .i64 0, .slice none 0 0, .slice none 0 0] 30)); replace HC := Lib.hid ((HC.out.alloc HC.out.size _).trans (hb.mono (Nat.le_trans HC.out.size (by simp)))); clear hb; clear c0 c1 c2 c3 c4 c5 d0 d1 d2; obtain ⟨⟨c0, c1, c2, c3, c4, c5⟩, d0, d1, d2⟩ := CE.out _ (HC.out.alloc HC.out.size (.cells #[.int .i64 0, .slice none 0 0, .slice none 0 0] 30)))
    | (go_at_call 36; refine (HS36.out _ (by exact HZ.out.alloc HZ.out.size _)).mono ?_; rintro e w36 ⟨rfl, hb⟩; replace HC := Lib.hid ((HC.out.alloc HC.out.size _).trans (hb.mono (Nat.le_trans HC.out.size (by simp)))); clear hb))
  go_ret
  exact ⟨rfl, HB0.out.trans (HC.out.mono HB0.out.size)⟩
def Big (t : VT) (u : TT) (A B : ByteArray) : Prop := smallV t = false ∨ (smallV t = true ∧ tsmallV u = false) ∨ (smallV t = true ∧ tsmallV u = true ∧ 200 < A.size) ∨ (smallV t = true ∧ tsmallV u = true ∧ A.size ≤ 200 ∧ 200 < B.size)
set_option maxRecDepth 100000 in
set_option maxHeartbeats 4000000 in
theorem walk_big {t : VT} {v : Array Value} {u : TT} {x : Array Value} {w : World} {A B : ByteArray} {c : Int} (hv : Val w w.heap.size v t) (hx : TVal w w.heap.size x u) (hbig : Big t u A B) :
    Calls Try.prog 6 #[.agg v, .agg x, .string A, .string B, .int .i64 c] w (Yes w) := by
  obtain ⟨W0, hW0⟩ : ∃ W0, W0 = (w.alloc (.cells v 27)).alloc (.cells x 30) := ⟨_, rfl⟩
  have hb0 : Below w.heap.size w W0 := by rw [hW0]; exact ((Below.refl _ _).alloc (Nat.le_refl _) _).alloc (by simp) _
  have hvW : ∀ W, Below W0.heap.size W0 W → Val W W.heap.size v t := fun W h => ((hv.stay hb0).mono hb0.size |>.stay h).mono h.size
  have hxW : ∀ W, Below W0.heap.size W0 W → TVal W W.heap.size x u := fun W h => ((hx.stay hb0).mono hb0.size |>.stay h).mono h.size
  have HS := Lib.hid fun W h => small_any (hvW W h)
  have HT := Lib.hid fun W h => tsmall_any (hxW W h)
  have HAW := Lib.hid awake_any
  have HB0 := Lib.hid hb0
  obtain ⟨a0, a1, a2, a3, a4, a5, rfl⟩ := hv.six
  obtain ⟨b0, b1, b2, rfl⟩ := hx.three
  have CE := two_boxes (w := w) (a0 := a0) (a1 := a1) (a2 := a2) (a3 := a3) (a4 := a4) (a5 := a5) (b0 := b0) (b1 := b1) (b2 := b2)
  rw [← hW0] at CE
  have HW0 := Lib.hid hW0
  clear hb0 hW0 hv hx hvW hxW
  rcases hbig with h1 | ⟨h1, h2⟩ | ⟨h1, h2, h3⟩ | ⟨h1, h2, h3, h4⟩
  · rw [h1] at HS
    clear HT h1
    go_enter Try.func6, Try.ntmps6
    go_wp2_with (first
      | (go_at_call 9; refine (HAW.out _).mono ?_; rintro e w1 ⟨rfl, hb⟩; have HC := Lib.hid (show Below W0.heap.size W0 w1 by rw [HW0.out]; exact hb); clear hb; obtain ⟨⟨c0, c1, c2, c3, c4, c5⟩, d0, d1, d2⟩ := CE.out _ HC.out; clear HW0)
      | (go_at_call 10; refine (HS.out _ HC.out).mono ?_; rintro e w10 ⟨rfl, hb⟩; replace HC := Lib.hid (HC.out.trans (hb.mono HC.out.size)); clear hb; clear c0 c1 c2 c3 c4 c5 d0 d1 d2; obtain ⟨⟨c0, c1, c2, c3, c4, c5⟩, d0, d1, d2⟩ := CE.out _ HC.out)
      | (go_at_call 11; refine (HT.out _ HC.out).mono ?_; rintro e w11 ⟨rfl, hb⟩; replace HC := Lib.hid (HC.out.trans (hb.mono HC.out.size)); clear hb; clear c0 c1 c2 c3 c4 c5 d0 d1 d2; obtain ⟨⟨c0, c1, c2, c3, c4, c5⟩, d0, d1, d2⟩ := CE.out _ HC.out)
      | (go_at_call 9; refine (HAW.out _).mono ?_; rintro e w9 ⟨rfl, hb⟩; replace HC := Lib.hid (HC.out.trans (hb.mono HC.out.size)); clear hb))
    go_ret
    exact ⟨rfl, HB0.out.trans (HC.out.mono HB0.out.size)⟩
  · rw [h1] at HS
    rw [h2] at HT
    clear h1 h2
    go_enter Try.func6, Try.ntmps6
    go_wp2_with (first
      | (go_at_call 9; refine (HAW.out _).mono ?_; rintro e w1 ⟨rfl, hb⟩; have HC := Lib.hid (show Below W0.heap.size W0 w1 by rw [HW0.out]; exact hb); clear hb; obtain ⟨⟨c0, c1, c2, c3, c4, c5⟩, d0, d1, d2⟩ := CE.out _ HC.out; clear HW0)
      | (go_at_call 10; refine (HS.out _ HC.out).mono ?_; rintro e w10 ⟨rfl, hb⟩; replace HC := Lib.hid (HC.out.trans (hb.mono HC.out.size)); clear hb; clear c0 c1 c2 c3 c4 c5 d0 d1 d2; obtain ⟨⟨c0, c1, c2, c3, c4, c5⟩, d0, d1, d2⟩ := CE.out _ HC.out)
      | (go_at_call 11; refine (HT.out _ HC.out).mono ?_; rintro e w11 ⟨rfl, hb⟩; replace HC := Lib.hid (HC.out.trans (hb.mono HC.out.size)); clear hb; clear c0 c1 c2 c3 c4 c5 d0 d1 d2; obtain ⟨⟨c0, c1, c2, c3, c4, c5⟩, d0, d1, d2⟩ := CE.out _ HC.out)
      | (go_at_call 9; refine (HAW.out _).mono ?_; rintro e w9 ⟨rfl, hb⟩; replace HC := Lib.hid (HC.out.trans (hb.mono HC.out.size)); clear hb))
    go_ret
    exact ⟨rfl, HB0.out.trans (HC.out.mono HB0.out.size)⟩
  · rw [h1] at HS
    rw [h2] at HT
    have tA : decide ((200 : Int) < (A.size : Int)) = true := by simp; omega
    clear h1 h2 h3
    go_enter Try.func6, Try.ntmps6
    go_wp2_with (first
      | (go_at_call 9; refine (HAW.out _).mono ?_; rintro e w1 ⟨rfl, hb⟩; have HC := Lib.hid (show Below W0.heap.size W0 w1 by rw [HW0.out]; exact hb); clear hb; obtain ⟨⟨c0, c1, c2, c3, c4, c5⟩, d0, d1, d2⟩ := CE.out _ HC.out; clear HW0)
      | (go_at_call 10; refine (HS.out _ HC.out).mono ?_; rintro e w10 ⟨rfl, hb⟩; replace HC := Lib.hid (HC.out.trans (hb.mono HC.out.size)); clear hb; clear c0 c1 c2 c3 c4 c5 d0 d1 d2; obtain ⟨⟨c0, c1, c2, c3, c4, c5⟩, d0, d1, d2⟩ := CE.out _ HC.out)
      | (go_at_call 11; refine (HT.out _ HC.out).mono ?_; rintro e w11 ⟨rfl, hb⟩; replace HC := Lib.hid (HC.out.trans (hb.mono HC.out.size)); clear hb; clear c0 c1 c2 c3 c4 c5 d0 d1 d2; obtain ⟨⟨c0, c1, c2, c3, c4, c5⟩, d0, d1, d2⟩ := CE.out _ HC.out)
      | (go_at_call 9; refine (HAW.out _).mono ?_; rintro e w9 ⟨rfl, hb⟩; replace HC := Lib.hid (HC.out.trans (hb.mono HC.out.size)); clear hb))
    go_ret
    exact ⟨rfl, HB0.out.trans (HC.out.mono HB0.out.size)⟩
  · rw [h1] at HS
    rw [h2] at HT
    have tA : decide ((200 : Int) < (A.size : Int)) = false := by simp; omega
    have tB : decide ((200 : Int) < (B.size : Int)) = true := by simp; omega
    clear h1 h2 h3 h4
    go_enter Try.func6, Try.ntmps6
    go_wp2_with (first
      | (go_at_call 9; refine (HAW.out _).mono ?_; rintro e w1 ⟨rfl, hb⟩; have HC := Lib.hid (show Below W0.heap.size W0 w1 by rw [HW0.out]; exact hb); clear hb; obtain ⟨⟨c0, c1, c2, c3, c4, c5⟩, d0, d1, d2⟩ := CE.out _ HC.out; clear HW0)
      | (go_at_call 10; refine (HS.out _ HC.out).mono ?_; rintro e w10 ⟨rfl, hb⟩; replace HC := Lib.hid (HC.out.trans (hb.mono HC.out.size)); clear hb; clear c0 c1 c2 c3 c4 c5 d0 d1 d2; obtain ⟨⟨c0, c1, c2, c3, c4, c5⟩, d0, d1, d2⟩ := CE.out _ HC.out)
      | (go_at_call 11; refine (HT.out _ HC.out).mono ?_; rintro e w11 ⟨rfl, hb⟩; replace HC := Lib.hid (HC.out.trans (hb.mono HC.out.size)); clear hb; clear c0 c1 c2 c3 c4 c5 d0 d1 d2; obtain ⟨⟨c0, c1, c2, c3, c4, c5⟩, d0, d1, d2⟩ := CE.out _ HC.out)
      | (go_at_call 9; refine (HAW.out _).mono ?_; rintro e w9 ⟨rfl, hb⟩; replace HC := Lib.hid (HC.out.trans (hb.mono HC.out.size)); clear hb))
    go_ret
    exact ⟨rfl, HB0.out.trans (HC.out.mono HB0.out.size)⟩
end Go.Proofs.Yteclpehbpicpaaa.codecBack
