/-
  Contract of basculeref05's Value.
-/
import Derived.Test.YtdmbfajhcihfgaaCv
namespace Go.Proofs.Ytdmbfajhcihfgaa
open Go.RowKit

/-- Items' bytes behind S, each with its name ahead in a record. -/
def joinC (S : ByteArray) (k : Int) (ns : Nat → ByteArray) (G : Nat → ByteArray) : Nat → ByteArray
  | 0 => S
  | i + 1 => (if k = 6 then joinC S k ns G i ++ strB (ns i) else joinC S k ns G i) ++ G i
/-- The names that count. -/
def nz (k : Int) (ns : Nat → ByteArray) (i : Nat) : ByteArray := if k = 6 then ns i else ByteArray.empty
theorem nz_6 (ns : Nat → ByteArray) : nz 6 ns = ns := by funext i; unfold nz; rw [if_pos rfl]
def valB : VT → ByteArray
  | .bad => ByteArray.empty
  | .mk k n f s _ ns m xs =>
    if k = 1 ∨ k = 2 ∨ k = 3 ∨ k = 4 then byteB k.toNat ++ plainC k n f s else joinC (byteB k.toNat ++ strL (uintL m)) k (nz k ns) (fun i => valB (xs i)) m
def sumTo (g : Nat → Nat) : Nat → Nat
  | 0 => 0
  | i + 1 => sumTo g i + g i
theorem sumTo_mono (g : Nat → Nat) {i m : Nat} (h : i ≤ m) : sumTo g i ≤ sumTo g m := by
  induction m with
  | zero => obtain rfl : i = 0 := by omega
            exact Nat.le_refl _
  | succ m ih =>
    by_cases e : i = m + 1
    · subst e; exact Nat.le_refl _
    · have := ih (by omega)
      show _ ≤ sumTo g m + g m
      omega
/-- What bytes a value may take. -/
def wtC : VT → Nat
  | .bad => 0
  | .mk k _ _ s _ ns m xs => 100 + s.size + sumTo (fun i => wtC (xs i) + (nz k ns i).size + 20) m
theorem strL_size (l : List UInt8) : (strL l).size = l.length := rfl
theorem strB_size {t : ByteArray} (h : t.size ≤ 1000000000) : (strB t).size ≤ t.size + 10 := by
  unfold strB
  rw [size_cat, strL_size]
  have := uintL_len10 (n := t.size) (by omega)
  omega
theorem joinC_size (S : ByteArray) (k : Int) (ns G : Nat → ByteArray) (W : Nat → Nat) (m : Nat) (h : ∀ i, i < m → (G i).size ≤ W i) (hn : ∀ i, i < m → (ns i).size ≤ 1000000000) :
    ∀ i, i ≤ m → (joinC S k ns G i).size ≤ S.size + sumTo (fun i => W i + (ns i).size + 20) i := by
  intro i
  induction i with
  | zero => intro _; exact Nat.le_refl _
  | succ i ih =>
    intro hi
    have ih := ih (by omega)
    unfold joinC sumTo
    have h2 := h i (by omega)
    have h3 := strB_size (hn i (by omega))
    split <;> simp only [size_cat] <;> omega
set_option maxRecDepth 20000 in
set_option maxHeartbeats 4000000 in
theorem value_5 {n : Int} {f : Nat} {s : ByteArray} {A : Option Addr} {c ca : Nat} {B : Option Addr} {m cb : Nat} {w : World} {ns : Nat → ByteArray} {vs : Nat → Array Value} {xs : Nat → VT} {G : Nat → ByteArray} {W : Nat → Nat}
    (hmx : m ≤ 1000000000) (hnm : ∀ i, i < m → (ns i).size ≤ 1000000000)
    (hW : ∀ i, i < m → (G i).size ≤ W i) (hT : 100 + sumTo (fun i => W i + (ns i).size + 20) m ≤ 1000000000)
    (hB : 0 < m → ∃ g o, B = some ⟨g, o, none⟩ ∧ g < w.heap.size ∧ ∀ i, i < m → SixAt w g (o + i * 6) (vs i)) (hxs : ∀ i, i < m → Val w w.heap.size (vs i) (xs i))
    (ih : ∀ (i : Nat), i < m → ∀ (v : Array Value) (w : World), Val w w.heap.size v (xs i) → Calls Try.prog 15 #[.agg v] w fun e w' => e = .returned (.string (G i)) ∧ Below w.heap.size w w') :
    Calls Try.prog 15 #[.agg (fields 5 n f s A c ca B m cb)] w fun e w' => e = .returned (.string (joinC (byteB 5 ++ strL (uintL m)) 5 ns G m)) ∧ Below w.heap.size w w' := by
  obtain ⟨S0, hS0⟩ : ∃ S0, S0 = byteB 5 ++ strL (uintL m) := ⟨_, rfl⟩
  have hS0s : S0.size ≤ 11 := by
    rw [hS0, size_cat, strL_size]
    have h1 : ∀ n, (byteB n).size = 1 := fun _ => rfl
    have := uintL_len10 (n := m) (by omega)
    rw [h1]; omega
  have hz0 : ¬ 9223372036854775807 < (byteB 5).size + (strL (uintL m)).size := by
    rw [hS0, size_cat] at hS0s; omega
  rw [← hS0]
  have U := Uint_any (n := m) (by omega)
  have hj0 : Hid (joinC S0 5 ns G 0 = S0) := Lib.hid rfl
  have hjs : Hid (∀ i, i ≤ m → (joinC S0 5 ns G i).size ≤ S0.size + sumTo (fun i => W i + (ns i).size + 20) i) := Lib.hid (joinC_size S0 5 ns G W m hW hnm)
  have hmono : Hid (∀ i, i < m → (joinC S0 5 ns G i).size + W i + (ns i).size + 20 ≤ 1000000000) := Lib.hid fun i hi => by
    have h1 := hjs.out i (by omega)
    have h2 := sumTo_mono (fun i => W i + (ns i).size + 20) (show i + 1 ≤ m by omega)
    have h3 : sumTo (fun i => W i + (ns i).size + 20) (i + 1) = sumTo (fun i => W i + (ns i).size + 20) i + (W i + (ns i).size + 20) := rfl
    omega
  have HWt := Lib.hid hW
  have HNm := Lib.hid hnm
  have HS0 := Lib.hid hS0
  clear hW hT hjs hS0s hnm
  obtain ⟨W1, hW1⟩ : ∃ W1, W1 = ((w.alloc (.cells (fields 5 n f s A c ca B m cb) 27)).alloc (.cells #[.int .u8 5] 5)) := ⟨_, rfl⟩
  have hbW : Below w.heap.size w W1 := by rw [hW1]; exact ((Below.refl _ _).alloc (Nat.le_refl _) _).alloc (by simp) _
  have C1 := fun w => byte_conv w (z := 5) (n := 5) (by omega) (by omega)
  unfold fields at *
  have HK1 : Hid (∀ w', Below W1.heap.size W1 w' → w'.cell? ⟨w.heap.size, 0, none⟩ = some (.int .i64 5) ∧ w'.cell? ⟨w.heap.size, 4, none⟩ = some (.slice A c ca) ∧ w'.cell? ⟨w.heap.size, 5, none⟩ = some (.slice B m cb)) := Lib.hid fun w' h => by
    have K := fun o => (h.cell (p := ⟨w.heap.size, o, none⟩) (by rw [hW1]; simp; omega))
    refine ⟨?_, ?_, ?_⟩ <;> (rw [K, hW1]; simp)
  have HBW := Lib.hid hbW
  clear hbW
  go_enter Try.func15, Try.ntmps15
  go_wp2_with (go_at_call 18; rw [← hW1]; refine (U _).mono ?_; rintro e w1 ⟨rfl, hb1⟩)
  rw [← HS0.out]
  clear hW1 U C1 hz0 hS0
  go_loopw [3, 7] (fun sv iv wr => ∃ (i : Nat) (S : ByteArray), i ≤ m ∧ iv = .int .i64 i ∧ sv = .string S ∧ Hid (S = joinC S0 5 ns G i) ∧ Below W1.heap.size W1 wr) (fun _ iv _ => m - (intOf iv).toNat)
  case atStart => exact ⟨0, _, Nat.zero_le _, rfl, rfl, Lib.hid hj0.out.symm, hb1⟩
  case round =>
    obtain ⟨i, S, hi, rfl, rfl, hS, hb⟩ := hrel
    obtain ⟨q0, q4, q5⟩ := HK1.out wr hb
    have hfin : Below w.heap.size w wr := HBW.out.trans (hb.mono HBW.out.size)
    by_cases hlt : i < m
    · obtain ⟨g, o, rfl, hg, hx⟩ := hB (by omega)
      have hvr := ((hxs i hlt).stay hfin).mono hfin.size
      have hcall := fun (V : World) (hV : Below wr.heap.size wr V) => ih i hlt (vs i) V ((hvr.stay hV).mono hV.size)
      have hsix := (hx i hlt).keep (w' := wr) fun o => hfin.cell (p := ⟨g, o, none⟩) hg
      have hgr : g < wr.heap.size := by have := hfin.size; omega
      obtain ⟨a0, a1, a2, a3, a4, a5, hv0⟩ := (hxs i hlt).six
      rw [hv0] at hsix hcall
      obtain ⟨e0, e1, e2, e3, e4, e5⟩ := hsix.cells
      have hb1 := hmono.out i hlt
      have hb2 := HWt.out i hlt
      rw [← hS.out] at hb1
      have hnext := Lib.hid (show joinC S0 5 ns G (i + 1) = S ++ G i by
        rw [hS.out]; conv => lhs; unfold joinC
        rw [if_neg (by decide)])
      generalize G i = gi at *
      generalize W i = wi at *
      have HB1 := Lib.hid hb1
      have HB2 := Lib.hid hb2
      have z4 : ¬ 9223372036854775807 < (S : ByteArray).size + gi.size := by omega
      clear hv0 hsix hvr hx hB ih hxs hS hb1 hb2
      go_wp2_with (first | (go_at_call 15; refine (hcall wr (Below.refl _ _)).mono ?_; rintro e w3 ⟨rfl, hb3⟩))
      go_roundw
      case rel => exact ⟨i + 1, _, by omega, by go_num, rfl, Lib.hid hnext.out.symm, hb.trans (hb3.mono hb.size)⟩
      case measure => simp [intOf]; omega
    · have R : Hid (joinC S0 5 ns G m = S) := Lib.hid (by rw [hS.out, show i = m by omega])
      clear hS hB ih hxs
      go_wp2_with fail
      go_ret
      exact ⟨by rw [R.out]; rfl, hfin⟩
set_option maxRecDepth 20000 in
set_option maxHeartbeats 4000000 in
theorem value_6 {n : Int} {f : Nat} {s : ByteArray} {A : Option Addr} {c ca : Nat} {B : Option Addr} {m cb : Nat} {w : World} {ns : Nat → ByteArray} {vs : Nat → Array Value} {xs : Nat → VT} {G : Nat → ByteArray} {W : Nat → Nat}
    (hmx : m ≤ 1000000000) (hns : Strs w w.heap.size A c ns) (hcm : m ≤ c) (hcx : c ≤ 9223372036854775807) (hnm : ∀ i, i < m → (ns i).size ≤ 1000000000)
    (hW : ∀ i, i < m → (G i).size ≤ W i) (hT : 100 + sumTo (fun i => W i + (ns i).size + 20) m ≤ 1000000000)
    (hB : 0 < m → ∃ g o, B = some ⟨g, o, none⟩ ∧ g < w.heap.size ∧ ∀ i, i < m → SixAt w g (o + i * 6) (vs i)) (hxs : ∀ i, i < m → Val w w.heap.size (vs i) (xs i))
    (ih : ∀ (i : Nat), i < m → ∀ (v : Array Value) (w : World), Val w w.heap.size v (xs i) → Calls Try.prog 15 #[.agg v] w fun e w' => e = .returned (.string (G i)) ∧ Below w.heap.size w w') :
    Calls Try.prog 15 #[.agg (fields 6 n f s A c ca B m cb)] w fun e w' => e = .returned (.string (joinC (byteB 6 ++ strL (uintL m)) 6 ns G m)) ∧ Below w.heap.size w w' := by
  obtain ⟨S0, hS0⟩ : ∃ S0, S0 = byteB 6 ++ strL (uintL m) := ⟨_, rfl⟩
  have hS0s : S0.size ≤ 11 := by
    rw [hS0, size_cat, strL_size]
    have h1 : ∀ n, (byteB n).size = 1 := fun _ => rfl
    have := uintL_len10 (n := m) (by omega)
    rw [h1]; omega
  have hz0 : ¬ 9223372036854775807 < (byteB 6).size + (strL (uintL m)).size := by
    rw [hS0, size_cat] at hS0s; omega
  rw [← hS0]
  have U := Uint_any (n := m) (by omega)
  have hj0 : Hid (joinC S0 6 ns G 0 = S0) := Lib.hid rfl
  have hjs : Hid (∀ i, i ≤ m → (joinC S0 6 ns G i).size ≤ S0.size + sumTo (fun i => W i + (ns i).size + 20) i) := Lib.hid (joinC_size S0 6 ns G W m hW hnm)
  have hmono : Hid (∀ i, i < m → (joinC S0 6 ns G i).size + W i + (ns i).size + 20 ≤ 1000000000) := Lib.hid fun i hi => by
    have h1 := hjs.out i (by omega)
    have h2 := sumTo_mono (fun i => W i + (ns i).size + 20) (show i + 1 ≤ m by omega)
    have h3 : sumTo (fun i => W i + (ns i).size + 20) (i + 1) = sumTo (fun i => W i + (ns i).size + 20) i + (W i + (ns i).size + 20) := rfl
    omega
  have HWt := Lib.hid hW
  have HNm := Lib.hid hnm
  have HS0 := Lib.hid hS0
  clear hW hT hjs hS0s hnm
  obtain ⟨W1, hW1⟩ : ∃ W1, W1 = ((w.alloc (.cells (fields 6 n f s A c ca B m cb) 27)).alloc (.cells #[.int .u8 6] 5)) := ⟨_, rfl⟩
  have hbW : Below w.heap.size w W1 := by rw [hW1]; exact ((Below.refl _ _).alloc (Nat.le_refl _) _).alloc (by simp) _
  have C1 := fun w => byte_conv w (z := 6) (n := 6) (by omega) (by omega)
  unfold fields at *
  have HK1 : Hid (∀ w', Below W1.heap.size W1 w' → w'.cell? ⟨w.heap.size, 0, none⟩ = some (.int .i64 6) ∧ w'.cell? ⟨w.heap.size, 4, none⟩ = some (.slice A c ca) ∧ w'.cell? ⟨w.heap.size, 5, none⟩ = some (.slice B m cb)) := Lib.hid fun w' h => by
    have K := fun o => (h.cell (p := ⟨w.heap.size, o, none⟩) (by rw [hW1]; simp; omega))
    refine ⟨?_, ?_, ?_⟩ <;> (rw [K, hW1]; simp)
  have HBW := Lib.hid hbW
  clear hbW
  go_enter Try.func15, Try.ntmps15
  go_wp2_with (go_at_call 18; rw [← hW1]; refine (U _).mono ?_; rintro e w1 ⟨rfl, hb1⟩)
  rw [← HS0.out]
  clear hW1 U C1 hz0 hS0
  go_loopw [3, 7] (fun sv iv wr => ∃ (i : Nat) (S : ByteArray), i ≤ m ∧ iv = .int .i64 i ∧ sv = .string S ∧ Hid (S = joinC S0 6 ns G i) ∧ Below W1.heap.size W1 wr) (fun _ iv _ => m - (intOf iv).toNat)
  case atStart => exact ⟨0, _, Nat.zero_le _, rfl, rfl, Lib.hid hj0.out.symm, hb1⟩
  case round =>
    obtain ⟨i, S, hi, rfl, rfl, hS, hb⟩ := hrel
    obtain ⟨q0, q4, q5⟩ := HK1.out wr hb
    have hfin : Below w.heap.size w wr := HBW.out.trans (hb.mono HBW.out.size)
    by_cases hlt : i < m
    · obtain ⟨g, o, rfl, hg, hx⟩ := hB (by omega)
      have hvr := ((hxs i hlt).stay hfin).mono hfin.size
      have hcall := fun (V : World) (hV : Below wr.heap.size wr V) => ih i hlt (vs i) V ((hvr.stay hV).mono hV.size)
      have hsix := (hx i hlt).keep (w' := wr) fun o => hfin.cell (p := ⟨g, o, none⟩) hg
      have hgr : g < wr.heap.size := by have := hfin.size; omega
      obtain ⟨a0, a1, a2, a3, a4, a5, hv0⟩ := (hxs i hlt).six
      rw [hv0] at hsix hcall
      obtain ⟨e0, e1, e2, e3, e4, e5⟩ := hsix.cells
      have hb1 := hmono.out i hlt
      have hb2 := HWt.out i hlt
      rw [← hS.out] at hb1
      have hnext := Lib.hid (show joinC S0 6 ns G (i + 1) = (S ++ strB (ns i)) ++ G i by
        rw [hS.out]; conv => lhs; unfold joinC
        rw [if_pos rfl])
      obtain ⟨gn, on, rfl, hgn, hxn⟩ := hns (by omega)
      have hnm : wr.cell? ⟨gn, on + i, none⟩ = some (.string (ns i)) := (hfin.cell (p := ⟨gn, on + i, none⟩) hgn).trans (hxn i (by omega)).1
      have hsb := strB_size (HNm.out i hlt)
      have hstr := Str_any (HNm.out i hlt)
      generalize ns i = nm at *
      generalize strB nm = sb at *
      generalize G i = gi at *
      generalize W i = wi at *
      have HB1 := Lib.hid hb1
      have HB2 := Lib.hid hb2
      have z3 : ¬ 9223372036854775807 < S.size + sb.size := by omega
      have z4 : ¬ 9223372036854775807 < (S ++ sb : ByteArray).size + gi.size := by simp only [size_cat]; omega
      have HSB := Lib.hid hsb
      have stay : ∀ w2, Below wr.heap.size wr w2 → w2.cell? ⟨w.heap.size, 5, none⟩ = some (.slice (some ⟨g, o, none⟩) m cb) ∧ w2.cell? ⟨g, o + i * 6, none⟩ = some a0 ∧ w2.cell? ⟨g, o + i * 6 + 1, none⟩ = some a1 ∧ w2.cell? ⟨g, o + i * 6 + 2, none⟩ = some a2 ∧ w2.cell? ⟨g, o + i * 6 + 3, none⟩ = some a3 ∧ w2.cell? ⟨g, o + i * 6 + 4, none⟩ = some a4 ∧ w2.cell? ⟨g, o + i * 6 + 5, none⟩ = some a5 := fun w2 h2 => by
        have K := fun o => h2.cell (p := ⟨g, o, none⟩) hgr
        exact ⟨(HK1.out w2 (hb.trans (h2.mono hb.size))).2.2, (K _).trans e0, (K _).trans e1, (K _).trans e2, (K _).trans e3, (K _).trans e4, (K _).trans e5⟩
      have HST := Lib.hid stay
      clear hv0 hsix hvr hx hB ih hxs hS hb1 hb2 hns hgn hxn hsb stay
      go_wp2_with (first | (go_at_call 22; refine (hstr _).mono ?_; rintro e w2 ⟨rfl, hb2⟩; obtain ⟨p5, f0, f1, f2, f3, f4, f5⟩ := HST.out w2 hb2) | (go_at_call 15; refine (hcall w2 hb2).mono ?_; rintro e w3 ⟨rfl, hb3⟩))
      go_roundw
      case rel => exact ⟨i + 1, _, by omega, by go_num, rfl, Lib.hid hnext.out.symm, hb.trans ((hb2.trans (hb3.mono hb2.size)).mono hb.size)⟩
      case measure => simp [intOf]; omega
    · have R : Hid (joinC S0 6 ns G m = S) := Lib.hid (by rw [hS.out, show i = m by omega])
      clear hS hB ih hxs hns
      go_wp2_with fail
      go_ret
      exact ⟨by rw [R.out]; rfl, hfin⟩
end Go.Proofs.Ytdmbfajhcihfgaa
