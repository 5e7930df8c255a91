/-
  The walk of the law CodecWrites.
-/
import Derived.Test.YteclpehbpicpaaaM38
namespace Go.Proofs.Yteclpehbpicpaaa.codecWrites
open Go.RowKit

theorem two_boxes {w : World} {a0 a1 a2 a3 a4 a5 b0 b1 b2 : Value} : Hid (∀ W, Below ((w.alloc (.cells #[a0, a1, a2, a3, a4, a5] 27)).alloc (.cells #[b0, b1, b2] 30)).heap.size ((w.alloc (.cells #[a0, a1, a2, a3, a4, a5] 27)).alloc (.cells #[b0, b1, b2] 30)) W →
    (W.cell? ⟨w.heap.size, 0, none⟩ = some a0 ∧ W.cell? ⟨w.heap.size, 1, none⟩ = some a1 ∧ W.cell? ⟨w.heap.size, 2, none⟩ = some a2 ∧ W.cell? ⟨w.heap.size, 3, none⟩ = some a3 ∧ W.cell? ⟨w.heap.size, 4, none⟩ = some a4 ∧ W.cell? ⟨w.heap.size, 5, none⟩ = some a5) ∧
    W.cell? ⟨w.heap.size + 1, 0, none⟩ = some b0 ∧ W.cell? ⟨w.heap.size + 1, 1, none⟩ = some b1 ∧ W.cell? ⟨w.heap.size + 1, 2, none⟩ = some b2) := Lib.hid fun W hb => by
  have h1 := box_stays (w := w) (a0 := a0) (a1 := a1) (a2 := a2) (a3 := a3) (a4 := a4) (a5 := a5) (t := 27)
  have h2 := box3_stays (w := w.alloc (.cells #[a0, a1, a2, a3, a4, a5] 27)) (a0 := b0) (a1 := b1) (a2 := b2) (t := 30)
  have hs : (w.alloc (.cells #[a0, a1, a2, a3, a4, a5] 27)).heap.size = w.heap.size + 1 := World.size_alloc _ _
  refine ⟨h1.out W (((Below.refl _ _).alloc (Nat.le_refl _) _).trans (hb.mono (by simp))), ?_⟩
  have := h2.out W hb
  rw [hs] at this
  exact this
def Yes (w : World) (e : Ending) (w' : World) : Prop := e = .returned (.bool true) ∧ Below w.heap.size w w'
set_option maxRecDepth 100000 in
set_option maxHeartbeats 4000000 in
theorem walk {n : Nat} (hn : n < 18446744073709551616) {s : ByteArray} {t : VT} {v : Array Value} {u : TT} {x : Array Value} {w : World} (hv : Val w w.heap.size v t) (hx : TVal w w.heap.size x u) (hsz : s.size ≤ maxLen) :
    Calls Try.prog 3 #[.int .u64 n, .string s, .agg v, .agg x] w (Yes w) := by
  obtain ⟨W0, hW0⟩ : ∃ W0, W0 = (w.alloc (.cells v 27)).alloc (.cells x 30) := ⟨_, rfl⟩
  have hb0 : Below w.heap.size w W0 := by rw [hW0]; exact ((Below.refl _ _).alloc (Nat.le_refl _) _).alloc (by simp) _
  have hvW : ∀ W, Below W0.heap.size W0 W → Val W W.heap.size v t := fun W h => ((hv.stay hb0).mono hb0.size |>.stay h).mono h.size
  have hxW : ∀ W, Below W0.heap.size W0 W → TVal W W.heap.size x u := fun W h => ((hx.stay hb0).mono hb0.size |>.stay h).mono h.size
  have HS := Lib.hid fun W h => small_any (hvW W h)
  have HT := Lib.hid fun W h => tsmall_any (hxW W h)
  have HAW := Lib.hid awake_any
  have hm : s.size ≤ 9223372036854775807 := by unfold maxLen at hsz; exact hsz
  have HB0 := Lib.hid hb0
  obtain ⟨a0, a1, a2, a3, a4, a5, rfl⟩ := hv.six
  obtain ⟨b0, b1, b2, rfl⟩ := hx.three
  have CE := two_boxes (w := w) (a0 := a0) (a1 := a1) (a2 := a2) (a3 := a3) (a4 := a4) (a5 := a5) (b0 := b0) (b1 := b1) (b2 := b2)
  rw [← hW0] at CE
  have HW0 := Lib.hid hW0
  clear hb0 hsz hW0
  by_cases h500 : 500 < s.size
  · have t5 : decide ((500 : Int) < (s.size : Int)) = true := by simp; omega
    rw [HW0.out] at HB0
    clear HS HT CE hv hx hvW hxW
    go_enter Try.func3, Try.ntmps3
    go_wp2_with (go_at_call 9; refine (HAW.out _).mono ?_; rintro e w1 ⟨rfl, hb⟩; replace HB0 := Lib.hid (HB0.out.trans (hb.mono HB0.out.size)); clear hb)
    go_ret
    exact ⟨rfl, HB0.out⟩
  have t5 : decide ((500 : Int) < (s.size : Int)) = false := by simp; omega
  cases hsm : smallV t with
  | false =>
    rw [hsm] at HS
    clear HT hv hx hvW hxW hsm
    go_enter Try.func3, Try.ntmps3
    go_wp2_with (first
      | (go_at_call 9; refine (HAW.out _).mono ?_; rintro e w1 ⟨rfl, hb⟩; have HC := Lib.hid (show Below W0.heap.size W0 w1 by rw [HW0.out]; exact hb); clear hb; obtain ⟨⟨c0, c1, c2, c3, c4, c5⟩, d0, d1, d2⟩ := CE.out _ HC.out; clear CE)
      | (go_at_call 10; refine (HS.out _ HC.out).mono ?_; rintro e w2 ⟨rfl, hb⟩; replace HC := Lib.hid (HC.out.trans (hb.mono HC.out.size)); clear hb)
      | (go_at_call 9; refine (HAW.out _).mono ?_; rintro e w3 ⟨rfl, hb⟩; replace HC := Lib.hid (HC.out.trans (hb.mono HC.out.size)); clear hb))
    go_ret
    exact ⟨rfl, HB0.out.trans (HC.out.mono HB0.out.size)⟩
  | true =>
  rw [hsm] at HS
  clear hsm
  cases htm : tsmallV u with
  | false =>
    rw [htm] at HT
    clear hv hx hvW hxW htm
    go_enter Try.func3, Try.ntmps3
    go_wp2_with (first
      | (go_at_call 9; refine (HAW.out _).mono ?_; rintro e w1 ⟨rfl, hb⟩; have HC := Lib.hid (show Below W0.heap.size W0 w1 by rw [HW0.out]; exact hb); clear hb; obtain ⟨⟨c0, c1, c2, c3, c4, c5⟩, d0, d1, d2⟩ := CE.out _ HC.out)
      | (go_at_call 10; refine (HS.out _ HC.out).mono ?_; rintro e w2 ⟨rfl, hb⟩; replace HC := Lib.hid (HC.out.trans (hb.mono HC.out.size)); clear hb; clear c0 c1 c2 c3 c4 c5 d0 d1 d2; obtain ⟨⟨c0, c1, c2, c3, c4, c5⟩, d0, d1, d2⟩ := CE.out _ HC.out)
      | (go_at_call 11; refine (HT.out _ HC.out).mono ?_; rintro e w3 ⟨rfl, hb⟩; replace HC := Lib.hid (HC.out.trans (hb.mono HC.out.size)); clear hb; clear c0 c1 c2 c3 c4 c5 d0 d1 d2; obtain ⟨⟨c0, c1, c2, c3, c4, c5⟩, d0, d1, d2⟩ := CE.out _ HC.out)
      | (go_at_call 9; refine (HAW.out _).mono ?_; rintro e w4 ⟨rfl, hb⟩; replace HC := Lib.hid (HC.out.trans (hb.mono HC.out.size)); clear hb))
    go_ret
    exact ⟨rfl, HB0.out.trans (HC.out.mono HB0.out.size)⟩
  | true =>
  rw [htm] at HT
  clear htm
  have hs5 : s.size ≤ 500 := by omega
  obtain ⟨z, hz, hzb⟩ : ∃ z : Int, wrap64 (n : Int) = z ∧ (-9223372036854775808 ≤ z ∧ z ≤ 9223372036854775807) := ⟨_, rfl, by unfold wrap64; omega⟩
  have HU := Lib.hid fun (W : World) (_ : Below W0.heap.size W0 W) => Uint_f hn W
  have HUr := Lib.hid fun (W : World) (_ : Below W0.heap.size W0 W) => Uint_any hn W
  have HI := Lib.hid fun (W : World) (_ : Below W0.heap.size W0 W) => Int_f hzb W
  have HIr := Lib.hid fun (W : World) (_ : Below W0.heap.size W0 W) => Int_any hzb W
  have HSt := Lib.hid fun (W : World) (_ : Below W0.heap.size W0 W) => Str_f (t := s) (by omega) W
  have HStr := Lib.hid fun (W : World) (_ : Below W0.heap.size W0 W) => Str_any (t := s) (by omega) W
  have HV := Lib.hid fun W h => Value_f (hvW W h)
  have HT' := Lib.hid fun W h => Type_f (hxW W h)
  have HR := Lib.hid fun W h => Right_any (hvW W h)
  have HTR := Lib.hid fun W h => TypeRight_any (hxW W h)
  have HVr := Lib.hid fun (ho : okV t = true) W h => bytes_ref t _ W (hvW W h) ⟨12, (ok_tot hv ho).2⟩ (by have := wt_right t 12 (ok_tot hv ho).2; have := (ok_tot hv ho).1; omega)
  have HTr := Lib.hid fun (ho : tokV u = true) W h => tbytes_ref u _ W (hxW W h) ⟨12, (tok_ttot hx ho).2⟩ (by have := twt_right u 12 (tok_ttot hx ho).2; have := (tok_ttot hx ho).1; omega)
  unfold wrV at HV
  unfold twrV at HT'
  generalize valB t = bs at *
  generalize typeB u = ts at *
  generalize strL (uintL n) = xu at *
  generalize strL (uintL (zig z)) = xi at *
  generalize strB s = xs at *
  clear hv hx hvW hxW hn hzb hs5 hm h500
  cases hok : okV t with
  | false =>
    rw [hok] at HR HV
    rw [if_neg Bool.false_ne_true] at HV
    clear HVr hok
    cases htk : tokV u with
    | false =>
      rw [htk] at HTR HT'
      rw [if_neg Bool.false_ne_true] at HT'
      clear HTr htk
      go_enter Try.func3, Try.ntmps3
      go_wp2_with (first
        | (go_at_call 9; refine (HAW.out _).mono ?_; rintro e w1 ⟨rfl, hb⟩; have HC := Lib.hid (show Below W0.heap.size W0 w1 by rw [HW0.out]; exact hb); clear hb; obtain ⟨⟨c0, c1, c2, c3, c4, c5⟩, d0, d1, d2⟩ := CE.out _ HC.out)
        | (go_at_call 10; refine (HS.out _ HC.out).mono ?_; rintro e w9 ⟨rfl, hb⟩; replace HC := Lib.hid (HC.out.trans (hb.mono HC.out.size)); clear hb; clear c0 c1 c2 c3 c4 c5 d0 d1 d2; obtain ⟨⟨c0, c1, c2, c3, c4, c5⟩, d0, d1, d2⟩ := CE.out _ HC.out)
        | (go_at_call 11; refine (HT.out _ HC.out).mono ?_; rintro e w10 ⟨rfl, hb⟩; replace HC := Lib.hid (HC.out.trans (hb.mono HC.out.size)); clear hb; clear c0 c1 c2 c3 c4 c5 d0 d1 d2; obtain ⟨⟨c0, c1, c2, c3, c4, c5⟩, d0, d1, d2⟩ := CE.out _ HC.out)
        | (go_at_call 12; refine (HV.out _ HC.out).mono ?_; rintro e w11 ⟨rfl, hb⟩; replace HC := Lib.hid (HC.out.trans (hb.mono HC.out.size)); clear hb; clear c0 c1 c2 c3 c4 c5 d0 d1 d2; obtain ⟨⟨c0, c1, c2, c3, c4, c5⟩, d0, d1, d2⟩ := CE.out _ HC.out)
        | (go_at_call 13; refine (HT'.out _ HC.out).mono ?_; rintro e w12 ⟨rfl, hb⟩; replace HC := Lib.hid (HC.out.trans (hb.mono HC.out.size)); clear hb; clear c0 c1 c2 c3 c4 c5 d0 d1 d2; obtain ⟨⟨c0, c1, c2, c3, c4, c5⟩, d0, d1, d2⟩ := CE.out _ HC.out)
        | (go_at_call 14; refine (HR.out _ HC.out).mono ?_; rintro e w13 ⟨rfl, hb⟩; replace HC := Lib.hid (HC.out.trans (hb.mono HC.out.size)); clear hb; clear c0 c1 c2 c3 c4 c5 d0 d1 d2; obtain ⟨⟨c0, c1, c2, c3, c4, c5⟩, d0, d1, d2⟩ := CE.out _ HC.out)
        | (go_at_call 15; refine (HTR.out _ HC.out).mono ?_; rintro e w14 ⟨rfl, hb⟩; replace HC := Lib.hid (HC.out.trans (hb.mono HC.out.size)); clear hb; clear c0 c1 c2 c3 c4 c5 d0 d1 d2; obtain ⟨⟨c0, c1, c2, c3, c4, c5⟩, d0, d1, d2⟩ := CE.out _ HC.out)
        | (go_at_call 18; refine (HU.out _ HC.out).mono ?_; rintro e w17 ⟨rfl, hb⟩; replace HC := Lib.hid (HC.out.trans (hb.mono HC.out.size)); clear hb; clear c0 c1 c2 c3 c4 c5 d0 d1 d2; obtain ⟨⟨c0, c1, c2, c3, c4, c5⟩, d0, d1, d2⟩ := CE.out _ HC.out)
        | (go_at_call 19; refine (HUr.out _ HC.out).mono ?_; rintro e w18 ⟨rfl, hb⟩; replace HC := Lib.hid (HC.out.trans (hb.mono HC.out.size)); clear hb; clear c0 c1 c2 c3 c4 c5 d0 d1 d2; obtain ⟨⟨c0, c1, c2, c3, c4, c5⟩, d0, d1, d2⟩ := CE.out _ HC.out)
        | (go_at_call 20; refine (HI.out _ HC.out).mono ?_; rintro e w19 ⟨rfl, hb⟩; replace HC := Lib.hid (HC.out.trans (hb.mono HC.out.size)); clear hb; clear c0 c1 c2 c3 c4 c5 d0 d1 d2; obtain ⟨⟨c0, c1, c2, c3, c4, c5⟩, d0, d1, d2⟩ := CE.out _ HC.out)
        | (go_at_call 21; refine (HIr.out _ HC.out).mono ?_; rintro e w20 ⟨rfl, hb⟩; replace HC := Lib.hid (HC.out.trans (hb.mono HC.out.size)); clear hb; clear c0 c1 c2 c3 c4 c5 d0 d1 d2; obtain ⟨⟨c0, c1, c2, c3, c4, c5⟩, d0, d1, d2⟩ := CE.out _ HC.out)
        | (go_at_call 22; refine (HSt.out _ HC.out).mono ?_; rintro e w21 ⟨rfl, hb⟩; replace HC := Lib.hid (HC.out.trans (hb.mono HC.out.size)); clear hb; clear c0 c1 c2 c3 c4 c5 d0 d1 d2; obtain ⟨⟨c0, c1, c2, c3, c4, c5⟩, d0, d1, d2⟩ := CE.out _ HC.out)
        | (go_at_call 23; refine (HStr.out _ HC.out).mono ?_; rintro e w22 ⟨rfl, hb⟩; replace HC := Lib.hid (HC.out.trans (hb.mono HC.out.size)); clear hb; clear c0 c1 c2 c3 c4 c5 d0 d1 d2; obtain ⟨⟨c0, c1, c2, c3, c4, c5⟩, d0, d1, d2⟩ := CE.out _ HC.out))
      go_ret
      exact ⟨rfl, HB0.out.trans (HC.out.mono HB0.out.size)⟩
    | true =>
      rw [htk] at HTR HT'
      rw [if_pos rfl] at HT'
      have HTr1 := Lib.hid (HTr.out htk)
      clear HTr htk
      go_enter Try.func3, Try.ntmps3
      go_wp2_with (first
        | (go_at_call 9; refine (HAW.out _).mono ?_; rintro e w1 ⟨rfl, hb⟩; have HC := Lib.hid (show Below W0.heap.size W0 w1 by rw [HW0.out]; exact hb); clear hb; obtain ⟨⟨c0, c1, c2, c3, c4, c5⟩, d0, d1, d2⟩ := CE.out _ HC.out)
        | (go_at_call 10; refine (HS.out _ HC.out).mono ?_; rintro e w9 ⟨rfl, hb⟩; replace HC := Lib.hid (HC.out.trans (hb.mono HC.out.size)); clear hb; clear c0 c1 c2 c3 c4 c5 d0 d1 d2; obtain ⟨⟨c0, c1, c2, c3, c4, c5⟩, d0, d1, d2⟩ := CE.out _ HC.out)
        | (go_at_call 11; refine (HT.out _ HC.out).mono ?_; rintro e w10 ⟨rfl, hb⟩; replace HC := Lib.hid (HC.out.trans (hb.mono HC.out.size)); clear hb; clear c0 c1 c2 c3 c4 c5 d0 d1 d2; obtain ⟨⟨c0, c1, c2, c3, c4, c5⟩, d0, d1, d2⟩ := CE.out _ HC.out)
        | (go_at_call 12; refine (HV.out _ HC.out).mono ?_; rintro e w11 ⟨rfl, hb⟩; replace HC := Lib.hid (HC.out.trans (hb.mono HC.out.size)); clear hb; clear c0 c1 c2 c3 c4 c5 d0 d1 d2; obtain ⟨⟨c0, c1, c2, c3, c4, c5⟩, d0, d1, d2⟩ := CE.out _ HC.out)
        | (go_at_call 13; refine (HT'.out _ HC.out).mono ?_; rintro e w12 ⟨rfl, hb⟩; replace HC := Lib.hid (HC.out.trans (hb.mono HC.out.size)); clear hb; clear c0 c1 c2 c3 c4 c5 d0 d1 d2; obtain ⟨⟨c0, c1, c2, c3, c4, c5⟩, d0, d1, d2⟩ := CE.out _ HC.out)
        | (go_at_call 14; refine (HR.out _ HC.out).mono ?_; rintro e w13 ⟨rfl, hb⟩; replace HC := Lib.hid (HC.out.trans (hb.mono HC.out.size)); clear hb; clear c0 c1 c2 c3 c4 c5 d0 d1 d2; obtain ⟨⟨c0, c1, c2, c3, c4, c5⟩, d0, d1, d2⟩ := CE.out _ HC.out)
        | (go_at_call 15; refine (HTR.out _ HC.out).mono ?_; rintro e w14 ⟨rfl, hb⟩; replace HC := Lib.hid (HC.out.trans (hb.mono HC.out.size)); clear hb; clear c0 c1 c2 c3 c4 c5 d0 d1 d2; obtain ⟨⟨c0, c1, c2, c3, c4, c5⟩, d0, d1, d2⟩ := CE.out _ HC.out)
        | (go_at_call 17; refine (HTr1.out _ HC.out).mono ?_; rintro e w16 ⟨rfl, hb⟩; replace HC := Lib.hid (HC.out.trans (hb.mono HC.out.size)); clear hb; clear c0 c1 c2 c3 c4 c5 d0 d1 d2; obtain ⟨⟨c0, c1, c2, c3, c4, c5⟩, d0, d1, d2⟩ := CE.out _ HC.out)
        | (go_at_call 18; refine (HU.out _ HC.out).mono ?_; rintro e w17 ⟨rfl, hb⟩; replace HC := Lib.hid (HC.out.trans (hb.mono HC.out.size)); clear hb; clear c0 c1 c2 c3 c4 c5 d0 d1 d2; obtain ⟨⟨c0, c1, c2, c3, c4, c5⟩, d0, d1, d2⟩ := CE.out _ HC.out)
        | (go_at_call 19; refine (HUr.out _ HC.out).mono ?_; rintro e w18 ⟨rfl, hb⟩; replace HC := Lib.hid (HC.out.trans (hb.mono HC.out.size)); clear hb; clear c0 c1 c2 c3 c4 c5 d0 d1 d2; obtain ⟨⟨c0, c1, c2, c3, c4, c5⟩, d0, d1, d2⟩ := CE.out _ HC.out)
        | (go_at_call 20; refine (HI.out _ HC.out).mono ?_; rintro e w19 ⟨rfl, hb⟩; replace HC := Lib.hid (HC.out.trans (hb.mono HC.out.size)); clear hb; clear c0 c1 c2 c3 c4 c5 d0 d1 d2; obtain ⟨⟨c0, c1, c2, c3, c4, c5⟩, d0, d1, d2⟩ := CE.out _ HC.out)
        | (go_at_call 21; refine (HIr.out _ HC.out).mono ?_; rintro e w20 ⟨rfl, hb⟩; replace HC := Lib.hid (HC.out.trans (hb.mono HC.out.size)); clear hb; clear c0 c1 c2 c3 c4 c5 d0 d1 d2; obtain ⟨⟨c0, c1, c2, c3, c4, c5⟩, d0, d1, d2⟩ := CE.out _ HC.out)
        | (go_at_call 22; refine (HSt.out _ HC.out).mono ?_; rintro e w21 ⟨rfl, hb⟩; replace HC := Lib.hid (HC.out.trans (hb.mono HC.out.size)); clear hb; clear c0 c1 c2 c3 c4 c5 d0 d1 d2; obtain ⟨⟨c0, c1, c2, c3, c4, c5⟩, d0, d1, d2⟩ := CE.out _ HC.out)
        | (go_at_call 23; refine (HStr.out _ HC.out).mono ?_; rintro e w22 ⟨rfl, hb⟩; replace HC := Lib.hid (HC.out.trans (hb.mono HC.out.size)); clear hb; clear c0 c1 c2 c3 c4 c5 d0 d1 d2; obtain ⟨⟨c0, c1, c2, c3, c4, c5⟩, d0, d1, d2⟩ := CE.out _ HC.out))
      go_ret
      exact ⟨rfl, HB0.out.trans (HC.out.mono HB0.out.size)⟩
  | true =>
    rw [hok] at HR HV
    rw [if_pos rfl] at HV
    have HVr1 := Lib.hid (HVr.out hok)
    clear HVr hok
    cases htk : tokV u with
    | false =>
      rw [htk] at HTR HT'
      rw [if_neg Bool.false_ne_true] at HT'
      clear HTr htk
      go_enter Try.func3, Try.ntmps3
      go_wp2_with (first
        | (go_at_call 9; refine (HAW.out _).mono ?_; rintro e w1 ⟨rfl, hb⟩; have HC := Lib.hid (show Below W0.heap.size W0 w1 by rw [HW0.out]; exact hb); clear hb; obtain ⟨⟨c0, c1, c2, c3, c4, c5⟩, d0, d1, d2⟩ := CE.out _ HC.out)
        | (go_at_call 10; refine (HS.out _ HC.out).mono ?_; rintro e w9 ⟨rfl, hb⟩; replace HC := Lib.hid (HC.out.trans (hb.mono HC.out.size)); clear hb; clear c0 c1 c2 c3 c4 c5 d0 d1 d2; obtain ⟨⟨c0, c1, c2, c3, c4, c5⟩, d0, d1, d2⟩ := CE.out _ HC.out)
        | (go_at_call 11; refine (HT.out _ HC.out).mono ?_; rintro e w10 ⟨rfl, hb⟩; replace HC := Lib.hid (HC.out.trans (hb.mono HC.out.size)); clear hb; clear c0 c1 c2 c3 c4 c5 d0 d1 d2; obtain ⟨⟨c0, c1, c2, c3, c4, c5⟩, d0, d1, d2⟩ := CE.out _ HC.out)
        | (go_at_call 12; refine (HV.out _ HC.out).mono ?_; rintro e w11 ⟨rfl, hb⟩; replace HC := Lib.hid (HC.out.trans (hb.mono HC.out.size)); clear hb; clear c0 c1 c2 c3 c4 c5 d0 d1 d2; obtain ⟨⟨c0, c1, c2, c3, c4, c5⟩, d0, d1, d2⟩ := CE.out _ HC.out)
        | (go_at_call 13; refine (HT'.out _ HC.out).mono ?_; rintro e w12 ⟨rfl, hb⟩; replace HC := Lib.hid (HC.out.trans (hb.mono HC.out.size)); clear hb; clear c0 c1 c2 c3 c4 c5 d0 d1 d2; obtain ⟨⟨c0, c1, c2, c3, c4, c5⟩, d0, d1, d2⟩ := CE.out _ HC.out)
        | (go_at_call 14; refine (HR.out _ HC.out).mono ?_; rintro e w13 ⟨rfl, hb⟩; replace HC := Lib.hid (HC.out.trans (hb.mono HC.out.size)); clear hb; clear c0 c1 c2 c3 c4 c5 d0 d1 d2; obtain ⟨⟨c0, c1, c2, c3, c4, c5⟩, d0, d1, d2⟩ := CE.out _ HC.out)
        | (go_at_call 15; refine (HTR.out _ HC.out).mono ?_; rintro e w14 ⟨rfl, hb⟩; replace HC := Lib.hid (HC.out.trans (hb.mono HC.out.size)); clear hb; clear c0 c1 c2 c3 c4 c5 d0 d1 d2; obtain ⟨⟨c0, c1, c2, c3, c4, c5⟩, d0, d1, d2⟩ := CE.out _ HC.out)
        | (go_at_call 16; refine (HVr1.out _ HC.out).mono ?_; rintro e w15 ⟨rfl, hb⟩; replace HC := Lib.hid (HC.out.trans (hb.mono HC.out.size)); clear hb; clear c0 c1 c2 c3 c4 c5 d0 d1 d2; obtain ⟨⟨c0, c1, c2, c3, c4, c5⟩, d0, d1, d2⟩ := CE.out _ HC.out)
        | (go_at_call 18; refine (HU.out _ HC.out).mono ?_; rintro e w17 ⟨rfl, hb⟩; replace HC := Lib.hid (HC.out.trans (hb.mono HC.out.size)); clear hb; clear c0 c1 c2 c3 c4 c5 d0 d1 d2; obtain ⟨⟨c0, c1, c2, c3, c4, c5⟩, d0, d1, d2⟩ := CE.out _ HC.out)
        | (go_at_call 19; refine (HUr.out _ HC.out).mono ?_; rintro e w18 ⟨rfl, hb⟩; replace HC := Lib.hid (HC.out.trans (hb.mono HC.out.size)); clear hb; clear c0 c1 c2 c3 c4 c5 d0 d1 d2; obtain ⟨⟨c0, c1, c2, c3, c4, c5⟩, d0, d1, d2⟩ := CE.out _ HC.out)
        | (go_at_call 20; refine (HI.out _ HC.out).mono ?_; rintro e w19 ⟨rfl, hb⟩; replace HC := Lib.hid (HC.out.trans (hb.mono HC.out.size)); clear hb; clear c0 c1 c2 c3 c4 c5 d0 d1 d2; obtain ⟨⟨c0, c1, c2, c3, c4, c5⟩, d0, d1, d2⟩ := CE.out _ HC.out)
        | (go_at_call 21; refine (HIr.out _ HC.out).mono ?_; rintro e w20 ⟨rfl, hb⟩; replace HC := Lib.hid (HC.out.trans (hb.mono HC.out.size)); clear hb; clear c0 c1 c2 c3 c4 c5 d0 d1 d2; obtain ⟨⟨c0, c1, c2, c3, c4, c5⟩, d0, d1, d2⟩ := CE.out _ HC.out)
        | (go_at_call 22; refine (HSt.out _ HC.out).mono ?_; rintro e w21 ⟨rfl, hb⟩; replace HC := Lib.hid (HC.out.trans (hb.mono HC.out.size)); clear hb; clear c0 c1 c2 c3 c4 c5 d0 d1 d2; obtain ⟨⟨c0, c1, c2, c3, c4, c5⟩, d0, d1, d2⟩ := CE.out _ HC.out)
        | (go_at_call 23; refine (HStr.out _ HC.out).mono ?_; rintro e w22 ⟨rfl, hb⟩; replace HC := Lib.hid (HC.out.trans (hb.mono HC.out.size)); clear hb; clear c0 c1 c2 c3 c4 c5 d0 d1 d2; obtain ⟨⟨c0, c1, c2, c3, c4, c5⟩, d0, d1, d2⟩ := CE.out _ HC.out))
      go_ret
      exact ⟨rfl, HB0.out.trans (HC.out.mono HB0.out.size)⟩
    | true =>
      rw [htk] at HTR HT'
      rw [if_pos rfl] at HT'
      have HTr1 := Lib.hid (HTr.out htk)
      clear HTr htk
      go_enter Try.func3, Try.ntmps3
      go_wp2_with (first
        | (go_at_call 9; refine (HAW.out _).mono ?_; rintro e w1 ⟨rfl, hb⟩; have HC := Lib.hid (show Below W0.heap.size W0 w1 by rw [HW0.out]; exact hb); clear hb; obtain ⟨⟨c0, c1, c2, c3, c4, c5⟩, d0, d1, d2⟩ := CE.out _ HC.out)
        | (go_at_call 10; refine (HS.out _ HC.out).mono ?_; rintro e w9 ⟨rfl, hb⟩; replace HC := Lib.hid (HC.out.trans (hb.mono HC.out.size)); clear hb; clear c0 c1 c2 c3 c4 c5 d0 d1 d2; obtain ⟨⟨c0, c1, c2, c3, c4, c5⟩, d0, d1, d2⟩ := CE.out _ HC.out)
        | (go_at_call 11; refine (HT.out _ HC.out).mono ?_; rintro e w10 ⟨rfl, hb⟩; replace HC := Lib.hid (HC.out.trans (hb.mono HC.out.size)); clear hb; clear c0 c1 c2 c3 c4 c5 d0 d1 d2; obtain ⟨⟨c0, c1, c2, c3, c4, c5⟩, d0, d1, d2⟩ := CE.out _ HC.out)
        | (go_at_call 12; refine (HV.out _ HC.out).mono ?_; rintro e w11 ⟨rfl, hb⟩; replace HC := Lib.hid (HC.out.trans (hb.mono HC.out.size)); clear hb; clear c0 c1 c2 c3 c4 c5 d0 d1 d2; obtain ⟨⟨c0, c1, c2, c3, c4, c5⟩, d0, d1, d2⟩ := CE.out _ HC.out)
        | (go_at_call 13; refine (HT'.out _ HC.out).mono ?_; rintro e w12 ⟨rfl, hb⟩; replace HC := Lib.hid (HC.out.trans (hb.mono HC.out.size)); clear hb; clear c0 c1 c2 c3 c4 c5 d0 d1 d2; obtain ⟨⟨c0, c1, c2, c3, c4, c5⟩, d0, d1, d2⟩ := CE.out _ HC.out)
        | (go_at_call 14; refine (HR.out _ HC.out).mono ?_; rintro e w13 ⟨rfl, hb⟩; replace HC := Lib.hid (HC.out.trans (hb.mono HC.out.size)); clear hb; clear c0 c1 c2 c3 c4 c5 d0 d1 d2; obtain ⟨⟨c0, c1, c2, c3, c4, c5⟩, d0, d1, d2⟩ := CE.out _ HC.out)
        | (go_at_call 15; refine (HTR.out _ HC.out).mono ?_; rintro e w14 ⟨rfl, hb⟩; replace HC := Lib.hid (HC.out.trans (hb.mono HC.out.size)); clear hb; clear c0 c1 c2 c3 c4 c5 d0 d1 d2; obtain ⟨⟨c0, c1, c2, c3, c4, c5⟩, d0, d1, d2⟩ := CE.out _ HC.out)
        | (go_at_call 16; refine (HVr1.out _ HC.out).mono ?_; rintro e w15 ⟨rfl, hb⟩; replace HC := Lib.hid (HC.out.trans (hb.mono HC.out.size)); clear hb; clear c0 c1 c2 c3 c4 c5 d0 d1 d2; obtain ⟨⟨c0, c1, c2, c3, c4, c5⟩, d0, d1, d2⟩ := CE.out _ HC.out)
        | (go_at_call 17; refine (HTr1.out _ HC.out).mono ?_; rintro e w16 ⟨rfl, hb⟩; replace HC := Lib.hid (HC.out.trans (hb.mono HC.out.size)); clear hb; clear c0 c1 c2 c3 c4 c5 d0 d1 d2; obtain ⟨⟨c0, c1, c2, c3, c4, c5⟩, d0, d1, d2⟩ := CE.out _ HC.out)
        | (go_at_call 18; refine (HU.out _ HC.out).mono ?_; rintro e w17 ⟨rfl, hb⟩; replace HC := Lib.hid (HC.out.trans (hb.mono HC.out.size)); clear hb; clear c0 c1 c2 c3 c4 c5 d0 d1 d2; obtain ⟨⟨c0, c1, c2, c3, c4, c5⟩, d0, d1, d2⟩ := CE.out _ HC.out)
        | (go_at_call 19; refine (HUr.out _ HC.out).mono ?_; rintro e w18 ⟨rfl, hb⟩; replace HC := Lib.hid (HC.out.trans (hb.mono HC.out.size)); clear hb; clear c0 c1 c2 c3 c4 c5 d0 d1 d2; obtain ⟨⟨c0, c1, c2, c3, c4, c5⟩, d0, d1, d2⟩ := CE.out _ HC.out)
        | (go_at_call 20; refine (HI.out _ HC.out).mono ?_; rintro e w19 ⟨rfl, hb⟩; replace HC := Lib.hid (HC.out.trans (hb.mono HC.out.size)); clear hb; clear c0 c1 c2 c3 c4 c5 d0 d1 d2; obtain ⟨⟨c0, c1, c2, c3, c4, c5⟩, d0, d1, d2⟩ := CE.out _ HC.out)
        | (go_at_call 21; refine (HIr.out _ HC.out).mono ?_; rintro e w20 ⟨rfl, hb⟩; replace HC := Lib.hid (HC.out.trans (hb.mono HC.out.size)); clear hb; clear c0 c1 c2 c3 c4 c5 d0 d1 d2; obtain ⟨⟨c0, c1, c2, c3, c4, c5⟩, d0, d1, d2⟩ := CE.out _ HC.out)
        | (go_at_call 22; refine (HSt.out _ HC.out).mono ?_; rintro e w21 ⟨rfl, hb⟩; replace HC := Lib.hid (HC.out.trans (hb.mono HC.out.size)); clear hb; clear c0 c1 c2 c3 c4 c5 d0 d1 d2; obtain ⟨⟨c0, c1, c2, c3, c4, c5⟩, d0, d1, d2⟩ := CE.out _ HC.out)
        | (go_at_call 23; refine (HStr.out _ HC.out).mono ?_; rintro e w22 ⟨rfl, hb⟩; replace HC := Lib.hid (HC.out.trans (hb.mono HC.out.size)); clear hb; clear c0 c1 c2 c3 c4 c5 d0 d1 d2; obtain ⟨⟨c0, c1, c2, c3, c4, c5⟩, d0, d1, d2⟩ := CE.out _ HC.out))
      go_ret
      exact ⟨rfl, HB0.out.trans (HC.out.mono HB0.out.size)⟩
end Go.Proofs.Yteclpehbpicpaaa.codecWrites
