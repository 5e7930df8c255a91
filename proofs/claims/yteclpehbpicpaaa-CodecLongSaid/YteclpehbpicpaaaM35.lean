/-
  Contract of basculeref05's Type.
-/
import Derived.Test.YteclpehbpicpaaaM13
import Derived.Test.YteclpehbpicpaaaM34
namespace Go.Proofs.Yteclpehbpicpaaa
open Go.RowKit

def typeB : TT → ByteArray
  | .bad => ByteArray.empty
  | .mk k _ ns m xs => joinC (if k = 6 then byteB k.toNat ++ strL (uintL m) else byteB k.toNat) k (nz k ns) (fun i => typeB (xs i)) m
/-- What bytes a type may take. -/
def twtC : TT → Nat
  | .bad => 0
  | .mk k _ ns m xs => 100 + sumTo (fun i => twtC (xs i) + (nz k ns i).size + 20) m
set_option maxRecDepth 20000 in
set_option maxHeartbeats 4000000 in
theorem type_no6 {k : Int} {A : Option Addr} {c ca : Nat} {B : Option Addr} {m cb : Nat} {w : World} {ns : Nat → ByteArray} {vs : Nat → Array Value} {xs : Nat → TT} {G : Nat → ByteArray} {W : Nat → Nat}
    (hk : 1 ≤ k ∧ k ≤ 7) (h6 : k ≠ 6) (hmx : m ≤ 1000000000) (hnm : ∀ i, i < m → (ns i).size ≤ 1000000000)
    (hW : ∀ i, i < m → (G i).size ≤ W i) (hT : 100 + sumTo (fun i => W i + (ns i).size + 20) m ≤ 1000000000)
    (hB : 0 < m → ∃ g o, B = some ⟨g, o, none⟩ ∧ g < w.heap.size ∧ ∀ i, i < m → ThreeAt w g (o + i * 3) (vs i)) (hxs : ∀ i, i < m → TVal w w.heap.size (vs i) (xs i))
    (ih : ∀ (i : Nat), i < m → ∀ (v : Array Value) (w : World), TVal w w.heap.size v (xs i) → Calls Try.prog 17 #[.agg v] w fun e w' => e = .returned (.string (G i)) ∧ Below w.heap.size w w') :
    Calls Try.prog 17 #[.agg (tfields k A c ca B m cb)] w fun e w' => e = .returned (.string (joinC (byteB k.toNat) k ns G m)) ∧ Below w.heap.size w w' := by
  obtain ⟨S0, hS0⟩ : ∃ S0, S0 = byteB k.toNat := ⟨_, rfl⟩
  have hS0s : S0.size ≤ 11 := by
    have h1 : ∀ n, (byteB n).size = 1 := fun _ => rfl
    rw [hS0, h1]; omega
  rw [← hS0]
  have hj0 : Hid (joinC S0 k ns G 0 = S0) := Lib.hid rfl
  have hjs : Hid (∀ i, i ≤ m → (joinC S0 k ns G i).size ≤ S0.size + sumTo (fun i => W i + (ns i).size + 20) i) := Lib.hid (joinC_size S0 k ns G W m hW hnm)
  have hmono : Hid (∀ i, i < m → (joinC S0 k ns G i).size + W i + (ns i).size + 20 ≤ 1000000000) := Lib.hid fun i hi => by
    have h1 := hjs.out i (by omega)
    have h2 := sumTo_mono (fun i => W i + (ns i).size + 20) (show i + 1 ≤ m by omega)
    have h3 : sumTo (fun i => W i + (ns i).size + 20) (i + 1) = sumTo (fun i => W i + (ns i).size + 20) i + (W i + (ns i).size + 20) := rfl
    omega
  have HWt := Lib.hid hW
  have HNm := Lib.hid hnm
  have HS0 := Lib.hid hS0
  clear hW hT hjs hS0s hnm
  obtain ⟨W1, hW1⟩ : ∃ W1, W1 = ((w.alloc (.cells (tfields k A c ca B m cb) 30)).alloc (.cells #[.int .u8 k] 5)) := ⟨_, rfl⟩
  have hbW : Below w.heap.size w W1 := by rw [hW1]; exact ((Below.refl _ _).alloc (Nat.le_refl _) _).alloc (by simp) _
  have C1 := fun w => byte_conv w (z := k) (n := k.toNat) (by omega) (by omega)
  have E2 : IntKind.u8.wrap k = k := by rw [IntKind.wrap_u8]; omega
  have t6 : (k == 6) = false := by simpa using h6
  have HKK := Lib.hid (And.intro hk h6)
  clear hk h6
  unfold tfields at *
  have HK1 : Hid (∀ w', Below W1.heap.size W1 w' → w'.cell? ⟨w.heap.size, 0, none⟩ = some (.int .i64 k) ∧ w'.cell? ⟨w.heap.size, 1, none⟩ = some (.slice A c ca) ∧ w'.cell? ⟨w.heap.size, 2, none⟩ = some (.slice B m cb)) := Lib.hid fun w' h => by
    have K := fun o => (h.cell (p := ⟨w.heap.size, o, none⟩) (by rw [hW1]; simp; omega))
    refine ⟨?_, ?_, ?_⟩ <;> (rw [K, hW1]; simp)
  have HBW := Lib.hid hbW
  have HW1 := Lib.hid hW1
  clear hbW
  go_enter Try.func17, Try.ntmps17
  go_wp2_with fail
  rw [← HS0.out, ← HW1.out]
  clear hW1 C1 hS0 E2
  go_loopw [3, 4] (fun sv iv wr => ∃ (i : Nat) (S : ByteArray), i ≤ m ∧ iv = .int .i64 i ∧ sv = .string S ∧ Hid (S = joinC S0 k ns G i) ∧ Below W1.heap.size W1 wr) (fun _ iv _ => m - (intOf iv).toNat)
  case atStart => exact ⟨0, _, Nat.zero_le _, rfl, rfl, Lib.hid hj0.out.symm, Below.refl _ _⟩
  case round =>
    obtain ⟨i, S, hi, rfl, rfl, hS, hb⟩ := hrel
    obtain ⟨q0, q4, q5⟩ := HK1.out wr hb
    have hfin : Below w.heap.size w wr := HBW.out.trans (hb.mono HBW.out.size)
    by_cases hlt : i < m
    · obtain ⟨g, o, rfl, hg, hx⟩ := hB (by omega)
      have hvr := ((hxs i hlt).stay hfin).mono hfin.size
      have hcall := fun (V : World) (hV : Below wr.heap.size wr V) => ih i hlt (vs i) V ((hvr.stay hV).mono hV.size)
      have hsix := (hx i hlt).keep (w' := wr) fun o => hfin.cell (p := ⟨g, o, none⟩) hg
      have hgr : g < wr.heap.size := by have := hfin.size; omega
      obtain ⟨a0, a1, a2, hv0⟩ := (hxs i hlt).three
      rw [hv0] at hsix hcall
      obtain ⟨e0, e1, e2⟩ := hsix.cells
      have hb1 := hmono.out i hlt
      have hb2 := HWt.out i hlt
      rw [← hS.out] at hb1
      have hnext := Lib.hid (show joinC S0 k ns G (i + 1) = S ++ G i by
        rw [hS.out]; conv => lhs; unfold joinC
        rw [if_neg HKK.out.2])
      generalize G i = gi at *
      generalize W i = wi at *
      have HB1 := Lib.hid hb1
      have HB2 := Lib.hid hb2
      have z4 : ¬ 9223372036854775807 < (S : ByteArray).size + gi.size := by omega
      clear hv0 hsix hvr hx hB ih hxs hS hb1 hb2
      go_wp2_with (first | (go_at_call 17; refine (hcall wr (Below.refl _ _)).mono ?_; rintro e w3 ⟨rfl, hb3⟩))
      go_roundw
      case rel => exact ⟨i + 1, _, by omega, by go_num, rfl, Lib.hid hnext.out.symm, hb.trans (hb3.mono hb.size)⟩
      case measure => simp [intOf]; omega
    · have R : Hid (joinC S0 k ns G m = S) := Lib.hid (by rw [hS.out, show i = m by omega])
      clear hS hB ih hxs
      go_wp2_with fail
      go_ret
      exact ⟨by rw [R.out]; rfl, hfin⟩
set_option maxRecDepth 20000 in
set_option maxHeartbeats 4000000 in
theorem type_6 {A : Option Addr} {c ca : Nat} {B : Option Addr} {m cb : Nat} {w : World} {ns : Nat → ByteArray} {vs : Nat → Array Value} {xs : Nat → TT} {G : Nat → ByteArray} {W : Nat → Nat}
    (hmx : m ≤ 1000000000) (hns : Strs w w.heap.size A c ns) (hcm : m ≤ c) (hcx : c ≤ 9223372036854775807) (hnm : ∀ i, i < m → (ns i).size ≤ 1000000000)
    (hW : ∀ i, i < m → (G i).size ≤ W i) (hT : 100 + sumTo (fun i => W i + (ns i).size + 20) m ≤ 1000000000)
    (hB : 0 < m → ∃ g o, B = some ⟨g, o, none⟩ ∧ g < w.heap.size ∧ ∀ i, i < m → ThreeAt w g (o + i * 3) (vs i)) (hxs : ∀ i, i < m → TVal w w.heap.size (vs i) (xs i))
    (ih : ∀ (i : Nat), i < m → ∀ (v : Array Value) (w : World), TVal w w.heap.size v (xs i) → Calls Try.prog 17 #[.agg v] w fun e w' => e = .returned (.string (G i)) ∧ Below w.heap.size w w') :
    Calls Try.prog 17 #[.agg (tfields 6 A c ca B m cb)] w fun e w' => e = .returned (.string (joinC (byteB 6 ++ strL (uintL m)) 6 ns G m)) ∧ Below w.heap.size w w' := by
  obtain ⟨S0, hS0⟩ : ∃ S0, S0 = byteB 6 ++ strL (uintL m) := ⟨_, rfl⟩
  have hS0s : S0.size ≤ 11 := by
    have h1 : ∀ n, (byteB n).size = 1 := fun _ => rfl
    rw [hS0, size_cat, strL_size]
    have := uintL_len10 (n := m) (by omega)
    rw [h1]; omega
  have hz0 : ¬ 9223372036854775807 < (byteB 6).size + (strL (uintL m)).size := by
    rw [hS0, size_cat] at hS0s; omega
  rw [← hS0]
  have U := Uint_any (n := m) (by omega)
  have hj0 : Hid (joinC S0 6 ns G 0 = S0) := Lib.hid rfl
  have hjs : Hid (∀ i, i ≤ m → (joinC S0 6 ns G i).size ≤ S0.size + sumTo (fun i => W i + (ns i).size + 20) i) := Lib.hid (joinC_size S0 6 ns G W m hW hnm)
  have hmono : Hid (∀ i, i < m → (joinC S0 6 ns G i).size + W i + (ns i).size + 20 ≤ 1000000000) := Lib.hid fun i hi => by
    have h1 := hjs.out i (by omega)
    have h2 := sumTo_mono (fun i => W i + (ns i).size + 20) (show i + 1 ≤ m by omega)
    have h3 : sumTo (fun i => W i + (ns i).size + 20) (i + 1) = sumTo (fun i => W i + (ns i).size + 20) i + (W i + (ns i).size + 20) := rfl
    omega
  have HWt := Lib.hid hW
  have HNm := Lib.hid hnm
  have HS0 := Lib.hid hS0
  clear hW hT hjs hS0s hnm
  obtain ⟨W1, hW1⟩ : ∃ W1, W1 = ((w.alloc (.cells (tfields 6 A c ca B m cb) 30)).alloc (.cells #[.int .u8 6] 5)) := ⟨_, rfl⟩
  have hbW : Below w.heap.size w W1 := by rw [hW1]; exact ((Below.refl _ _).alloc (Nat.le_refl _) _).alloc (by simp) _
  have C1 := fun w => byte_conv w (z := 6) (n := 6) (by omega) (by omega)
  unfold tfields at *
  have HK1 : Hid (∀ w', Below W1.heap.size W1 w' → w'.cell? ⟨w.heap.size, 0, none⟩ = some (.int .i64 6) ∧ w'.cell? ⟨w.heap.size, 1, none⟩ = some (.slice A c ca) ∧ w'.cell? ⟨w.heap.size, 2, none⟩ = some (.slice B m cb)) := Lib.hid fun w' h => by
    have K := fun o => (h.cell (p := ⟨w.heap.size, o, none⟩) (by rw [hW1]; simp; omega))
    refine ⟨?_, ?_, ?_⟩ <;> (rw [K, hW1]; simp)
  have HBW := Lib.hid hbW
  have HW1 := Lib.hid hW1
  clear hbW
  go_enter Try.func17, Try.ntmps17
  go_wp2_with (go_at_call 19; rw [← hW1]; refine (U _).mono ?_; rintro e w1 ⟨rfl, hb1⟩)
  rw [← HS0.out]
  clear hW1 C1 hS0 U hz0
  go_loopw [3, 4] (fun sv iv wr => ∃ (i : Nat) (S : ByteArray), i ≤ m ∧ iv = .int .i64 i ∧ sv = .string S ∧ Hid (S = joinC S0 6 ns G i) ∧ Below W1.heap.size W1 wr) (fun _ iv _ => m - (intOf iv).toNat)
  case atStart => exact ⟨0, _, Nat.zero_le _, rfl, rfl, Lib.hid hj0.out.symm, hb1⟩
  case round =>
    obtain ⟨i, S, hi, rfl, rfl, hS, hb⟩ := hrel
    obtain ⟨q0, q4, q5⟩ := HK1.out wr hb
    have hfin : Below w.heap.size w wr := HBW.out.trans (hb.mono HBW.out.size)
    by_cases hlt : i < m
    · obtain ⟨g, o, rfl, hg, hx⟩ := hB (by omega)
      have hvr := ((hxs i hlt).stay hfin).mono hfin.size
      have hcall := fun (V : World) (hV : Below wr.heap.size wr V) => ih i hlt (vs i) V ((hvr.stay hV).mono hV.size)
      have hsix := (hx i hlt).keep (w' := wr) fun o => hfin.cell (p := ⟨g, o, none⟩) hg
      have hgr : g < wr.heap.size := by have := hfin.size; omega
      obtain ⟨a0, a1, a2, hv0⟩ := (hxs i hlt).three
      rw [hv0] at hsix hcall
      obtain ⟨e0, e1, e2⟩ := hsix.cells
      have hb1 := hmono.out i hlt
      have hb2 := HWt.out i hlt
      rw [← hS.out] at hb1
      have hnext := Lib.hid (show joinC S0 6 ns G (i + 1) = (S ++ strB (ns i)) ++ G i by
        rw [hS.out]; conv => lhs; unfold joinC
        rw [if_pos rfl])
      obtain ⟨gn, on, rfl, hgn, hxn⟩ := hns (by omega)
      have hnm : wr.cell? ⟨gn, on + i, none⟩ = some (.string (ns i)) := (hfin.cell (p := ⟨gn, on + i, none⟩) hgn).trans (hxn i (by omega)).1
      have hsb := strB_size (HNm.out i hlt)
      have hstr := Str_any (HNm.out i hlt)
      generalize ns i = nm at *
      generalize strB nm = sb at *
      generalize G i = gi at *
      generalize W i = wi at *
      have HB1 := Lib.hid hb1
      have HB2 := Lib.hid hb2
      have z3 : ¬ 9223372036854775807 < S.size + sb.size := by omega
      have z4 : ¬ 9223372036854775807 < (S ++ sb : ByteArray).size + gi.size := by simp only [size_cat]; omega
      have HSB := Lib.hid hsb
      have stay : ∀ w2, Below wr.heap.size wr w2 → w2.cell? ⟨w.heap.size, 2, none⟩ = some (.slice (some ⟨g, o, none⟩) m cb) ∧ w2.cell? ⟨g, o + i * 3, none⟩ = some a0 ∧ w2.cell? ⟨g, o + i * 3 + 1, none⟩ = some a1 ∧ w2.cell? ⟨g, o + i * 3 + 2, none⟩ = some a2 := fun w2 h2 => by
        have K := fun o => h2.cell (p := ⟨g, o, none⟩) hgr
        exact ⟨(HK1.out w2 (hb.trans (h2.mono hb.size))).2.2, (K _).trans e0, (K _).trans e1, (K _).trans e2⟩
      have HST := Lib.hid stay
      clear hv0 hsix hvr hx hB ih hxs hS hb1 hb2 hns hgn hxn hsb stay
      go_wp2_with (first | (go_at_call 23; refine (hstr _).mono ?_; rintro e w2 ⟨rfl, hb2⟩; obtain ⟨p5, f0, f1, f2⟩ := HST.out w2 hb2) | (go_at_call 17; refine (hcall w2 hb2).mono ?_; rintro e w3 ⟨rfl, hb3⟩))
      go_roundw
      case rel => exact ⟨i + 1, _, by omega, by go_num, rfl, Lib.hid hnext.out.symm, hb.trans ((hb2.trans (hb3.mono hb2.size)).mono hb.size)⟩
      case measure => simp [intOf]; omega
    · have R : Hid (joinC S0 6 ns G m = S) := Lib.hid (by rw [hS.out, show i = m by omega])
      clear hS hB ih hxs hns
      go_wp2_with fail
      go_ret
      exact ⟨by rw [R.out]; rfl, hfin⟩
theorem typeB_size : ∀ (t : TT) (v : Array Value) (w : World) (lim : Nat), TVal w lim v t → twtC t ≤ 1000000000 → (typeB t).size ≤ twtC t := by
  intro t
  induction t with
  | bad => intro v w lim hv; cases hv
  | mk k c ns m xs ih =>
    intro v w lim hv hw
    cases hv with
    | mk _ A _ ca B _ cb _ _ vs hk hc hm hns hB hxs =>
      have b1 : ∀ n, (byteB n).size = 1 := fun _ => rfl
      rw [twtC] at hw
      rw [typeB, twtC]
      have hW : ∀ i, i < m → (typeB (xs i)).size ≤ twtC (xs i) := fun i hi => by
        have h := wt_item (g := fun i => twtC (xs i) + (nz k ns i).size + 20) hi
        exact ih i (vs i) w lim (hxs i hi) (by omega)
      have hN : ∀ i, i < m → (nz k ns i).size ≤ 1000000000 := fun i hi => by
        have h := wt_item (g := fun i => twtC (xs i) + (nz k ns i).size + 20) hi
        omega
      have hm9 : 20 * m ≤ sumTo (fun i => twtC (xs i) + (nz k ns i).size + 20) m := wt_many (g := fun i => twtC (xs i) + (nz k ns i).size) m
      have h := joinC_size (if k = 6 then byteB k.toNat ++ strL (uintL m) else byteB k.toNat) k (nz k ns) (fun i => typeB (xs i)) (fun i => twtC (xs i)) m hW hN m (Nat.le_refl _)
      have hl := uintL_len10 (n := m) (by omega)
      have h0 : (if k = 6 then byteB k.toNat ++ strL (uintL m) else byteB k.toNat).size ≤ 11 := by
        split
        · rw [size_cat, b1, strL_size]; omega
        · rw [b1]; omega
      omega
theorem tbytes_ref : ∀ (t : TT) (v : Array Value) (w : World), TVal w w.heap.size v t → (∃ a, trightV t a = true) → twtC t ≤ 1000000000 →
    Calls Try.prog 17 #[.agg v] w fun e w' => e = .returned (.string (typeB t)) ∧ Below w.heap.size w w' := by
  intro t
  induction t with
  | bad => intro v w hv; cases hv
  | mk k c ns m xs ih =>
    intro v w hv hr hw
    obtain ⟨a, hr⟩ := hr
    have h1 : 1 ≤ a := by
      rw [trightV, Bool.and_eq_true] at hr
      simpa using hr.1
    rw [tright_mk _ _ _ _ _ h1, Bool.and_eq_true] at hr
    obtain ⟨hh, hall⟩ := hr
    rw [twtC] at hw
    cases hv with
    | mk _ A _ ca B _ cb _ _ vs hk hc hm hns hB hxs =>
      have hcx : c ≤ 9223372036854775807 := by have := hc; unfold maxLen at this; omega
      have hW : ∀ i, i < m → (typeB (xs i)).size ≤ twtC (xs i) := fun i hi => by
        have h := wt_item (g := fun i => twtC (xs i) + (nz k ns i).size + 20) hi
        exact typeB_size (xs i) (vs i) w _ (hxs i hi) (by omega)
      have hN : ∀ i, i < m → (nz k ns i).size ≤ 1000000000 := fun i hi => by
        have h := wt_item (g := fun i => twtC (xs i) + (nz k ns i).size + 20) hi
        omega
      have hm9 : 20 * m ≤ sumTo (fun i => twtC (xs i) + (nz k ns i).size + 20) m := wt_many (g := fun i => twtC (xs i) + (nz k ns i).size) m
      have hitem : ∀ i, i < m → trightV (xs i) (a - 1) = true := fun i hi => List.all_eq_true.1 hall i (List.mem_range.2 hi)
      have ih' : ∀ (i : Nat), i < m → ∀ (v : Array Value) (w : World), TVal w w.heap.size v (xs i) → Calls Try.prog 17 #[.agg v] w fun e w' => e = .returned (.string (typeB (xs i))) ∧ Below w.heap.size w w' := fun i hi v w hv => by
        have h := wt_item (g := fun i => twtC (xs i) + (nz k ns i).size + 20) hi
        exact ih i v w hv ⟨_, hitem i hi⟩ (by omega)
      rw [typeB]
      unfold taloneB at hh
      by_cases h6 : k = 6
      · subst h6
        rw [if_pos rfl]
        rw [if_neg (by omega), if_neg (by omega), if_pos rfl, Bool.and_eq_true] at hh
        have hcm : (c : Int) = m := by simpa using hh.1
        simp only [nz_6] at hN hw hm9 ⊢
        exact type_6 (by omega) hns (by omega) hcx hN hW (by omega) hB hxs ih'
      · rw [if_neg h6]
        have hk7 : 1 ≤ k ∧ k ≤ 7 := by
          split at hh
          · omega
          · split at hh
            · omega
            · exact absurd hh (by decide)
        exact type_no6 hk7 h6 (by omega) hN hW (by omega) hB hxs ih'
theorem twt_right : ∀ (t : TT) (a : Int), trightV t a = true → twtC t + 50 ≤ 650 * ttot t := by
  intro t
  induction t with
  | bad => intro a h; simp [trightV] at h
  | mk k c ns m xs ih =>
    intro a hr
    have h1 : 1 ≤ a := by
      rw [trightV, Bool.and_eq_true] at hr
      simpa using hr.1
    rw [tright_mk _ _ _ _ _ h1, Bool.and_eq_true] at hr
    obtain ⟨hh, hall⟩ := hr
    rw [twtC, ttot]
    have hitem : ∀ i, i < m → twtC (xs i) + 50 ≤ 650 * ttot (xs i) := fun i hi => ih i _ (List.all_eq_true.1 hall i (List.mem_range.2 hi))
    have hnm : ∀ i, i < m → (nz k ns i).size ≤ 30 := fun i hi => by
      unfold nz
      split
      · rename_i k6
        subst k6
        unfold taloneB at hh
        rw [if_neg (by omega), if_neg (by omega), if_pos rfl, Bool.and_eq_true] at hh
        have hc : (c : Int) = m := by simpa using hh.1
        have h5 := List.all_eq_true.1 hh.2 i (List.mem_range.2 (by omega))
        unfold riseAt nameB at h5
        simp at h5
        omega
      · exact Nat.zero_le _
    have hsum : ∀ j, j ≤ m → sumTo (fun i => twtC (xs i) + (nz k ns i).size + 20) j ≤ 650 * sumN (fun i => ttot (xs i)) j := by
      intro j
      induction j with
      | zero => intro _; exact Nat.zero_le _
      | succ j ihj =>
        intro hj
        have h1 := ihj (by omega)
        have h2 := hitem j (by omega)
        have h3 := hnm j (by omega)
        have e1 : sumTo (fun i => twtC (xs i) + (nz k ns i).size + 20) (j + 1) = sumTo (fun i => twtC (xs i) + (nz k ns i).size + 20) j + (twtC (xs j) + (nz k ns j).size + 20) := rfl
        have e2 : sumN (fun i => ttot (xs i)) (j + 1) = sumN (fun i => ttot (xs i)) j + ttot (xs j) := rfl
        rw [e1, e2]
        omega
    have := hsum m (Nat.le_refl _)
    omega
end Go.Proofs.Yteclpehbpicpaaa
