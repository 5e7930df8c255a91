/-
  Contract of the program's appendItems, of values.
-/
import Derived.Test.YtdmbfajhcihfgaaKd
namespace Go.Proofs.Ytdmbfajhcihfgaa
open Go.RowKit

/-- Items' bytes, each behind its name's, if they have names. -/
def itL (nm : Bool) (ns : Nat → ByteArray) (G : Nat → List UInt8) : Nat → List UInt8
  | 0 => []
  | i + 1 => (itL nm ns G i ++ (if nm = true then strBL (ns i) else [])) ++ G i
theorem itL_mono {nm : Bool} {ns : Nat → ByteArray} {G : Nat → List UInt8} {i m : Nat} (h : i ≤ m) : (itL nm ns G i).length ≤ (itL nm ns G m).length := by
  induction m with
  | zero => obtain rfl : i = 0 := by omega
            exact Nat.le_refl _
  | succ m ih =>
    by_cases e : i = m + 1
    · subst e; exact Nat.le_refl _
    · have := ih (by omega)
      rw [itL, List.length_append, List.length_append]; omega
theorem lst_cat (a b : ByteArray) : (a ++ b).data.toList = a.data.toList ++ b.data.toList := by simp
theorem lst_str (l : List UInt8) : (strL l).data.toList = l := by unfold strL; simp
theorem str_lst (b : ByteArray) : strL b.data.toList = b := by unfold strL; cases b; simp
theorem lst_strB (t : ByteArray) : (strB t).data.toList = strBL t := by rw [← strBL_eq, lst_str]
theorem joinC_lst (S : ByteArray) (k : Int) (ns G : Nat → ByteArray) : ∀ m, (joinC S k ns G m).data.toList = S.data.toList ++ itL (decide (k = 6)) ns (fun i => (G i).data.toList) m := by
  intro m
  induction m with
  | zero => simp [joinC, itL]
  | succ m ih =>
    rw [joinC, itL, lst_cat]
    by_cases h : k = 6
    · rw [if_pos h, lst_cat, ih, lst_strB, if_pos (by simpa using h)]; simp
    · rw [if_neg h, ih, if_neg (by simpa using h)]; simp
theorem strBL_len (t : ByteArray) : t.size ≤ (strBL t).length := by
  have e : t.data.toList.length = t.size := by rw [Array.length_toList]; rfl
  unfold strBL
  rw [List.length_append]
  omega
set_option maxRecDepth 20000 in
set_option maxHeartbeats 2000000 in
theorem items_un {A : Option Addr} {ca : Nat} {B : Option Addr} {m cb : Nat} {w : World} {lim : Nat} {v : Value} {L0 : List UInt8} {ns : Nat → ByteArray} {vs : Nat → Array Value} {xs : Nat → VT} {G : Nat → List UInt8}
    (hB : 0 < m → ∃ g o, B = some ⟨g, o, none⟩ ∧ g < lim ∧ ∀ i, i < m → SixAt w g (o + i * 6) (vs i)) (hxs : ∀ i, i < m → Val w lim (vs i) (xs i)) (hmx : m ≤ 9223372036854775807)
    (hitem : ∀ i, i < m → ∀ (W : World) (v : Value) (L : List UInt8), Val W lim (vs i) (xs i) → Row5 W lim v L → lim ≤ W.heap.size → (L ++ G i).length ≤ 900000000 → Calls Try.prog 36 #[v, .agg (vs i)] W (AddsTo W lim (L ++ G i)))
    (hv : Row5 w lim v L0) (hl : lim ≤ w.heap.size) (hL : (L0 ++ itL false ns G m).length ≤ 900000000) :
    Calls Try.prog 65 #[v, .slice A 0 ca, .slice B m cb, .func (.func 36) #[] #[]] w (AddsTo w lim (L0 ++ itL false ns G m)) := by
  have SF := float_store
  have HV := Lib.hid hv
  clear hv
  go_enter Try.func65, Try.ntmps65
  go_wp2_with fail
  go_loopw [0, 13] (fun v iv wr => ∃ (i : Nat) (A' : Option Addr) (cap : Nat) (L : List UInt8), i ≤ m ∧ iv = .int .i64 i ∧ v = .slice A' L.length cap ∧ Hid (L = L0 ++ itL false ns G i) ∧ Hid (Row5 wr lim (.slice A' L.length cap) L) ∧ Hid (Keeps lim w wr)) (fun _ iv _ => m - (intOf iv).toNat)
  case atStart =>
    obtain ⟨A', cap, rfl⟩ := HV.out.slice
    exact ⟨0, A', cap, L0, Nat.zero_le _, rfl, rfl, Lib.hid (by simp [itL]), HV, Lib.hid (Keeps.refl _ _)⟩
  case round =>
    obtain ⟨i, A', cap, L, hi, rfl, rfl, hLe, hown, hk⟩ := hrel
    by_cases hlt : i < m
    · obtain ⟨g, o, rfl, hg, hx⟩ := hB (by omega)
      have hbW : Below lim w wr := hk.out.below hl
      have hsz := hk.out.size
      have hsix := (hx i hlt).keep (w' := wr) fun o => hbW.cell (p := ⟨g, o, none⟩) hg
      have hN : Hid (L ++ G i = L0 ++ itL false ns G (i + 1)) := Lib.hid (by rw [hLe.out, itL]; simp)
      have hlen : (L ++ G i).length ≤ 900000000 := by
        rw [hN.out]
        have := itL_mono (nm := false) (ns := ns) (G := G) (show i + 1 ≤ m by omega)
        rw [List.length_append] at hL ⊢
        omega
      have hcall := Lib.hid fun (x : Obj) => hitem i hlt (wr.alloc x) _ L ((hxs i hlt).stay (hbW.alloc (by omega) x)) (hown.out.alloc x) (by simp; omega) hlen
      obtain ⟨b0, b1, b2, b3, b4, b5, b6, b7, b8, b9, hv0⟩ := (hxs i hlt).eight
      rw [hv0] at hsix hcall
      obtain ⟨e0, e1, e2, e3, e4, e5⟩ := hsix.cells
      clear hv0 hsix hx hB hxs hitem hL hlen hbW hLe
      go_wp2_with (go_at_call 36; refine (hcall.out _).mono ?_; rintro e w3 ⟨v3, rfl, hr3, hk3⟩; have HR3 := Lib.hid hr3; have HK3 := Lib.hid hk3; clear hr3 hk3)
      obtain ⟨A3, cap3, rfl⟩ := HR3.out.slice
      go_roundw
      case rel => exact ⟨i + 1, A3, cap3, _, by omega, by go_num, rfl, hN, HR3, Lib.hid (hk.out.trans (((Keeps.refl _ _).alloc _).trans HK3.out))⟩
      case measure => simp [intOf]; omega
    · obtain rfl : i = m := by omega
      clear hB hxs hitem
      go_wp2_with fail
      go_ret
      exact ⟨_, rfl, by rw [← hLe.out]; exact hown.out, hk.out⟩
set_option maxRecDepth 20000 in
set_option maxHeartbeats 2000000 in
theorem items_named {A : Option Addr} {c ca : Nat} {B : Option Addr} {m cb : Nat} {w : World} {lim : Nat} {v : Value} {L0 : List UInt8} {ns : Nat → ByteArray} {vs : Nat → Array Value} {xs : Nat → VT} {G : Nat → List UInt8}
    (hns : Strs w lim A c ns) (hcm : m ≤ c) (hcx : c ≤ 9223372036854775807) (hc0 : 0 < c)
    (hB : 0 < m → ∃ g o, B = some ⟨g, o, none⟩ ∧ g < lim ∧ ∀ i, i < m → SixAt w g (o + i * 6) (vs i)) (hxs : ∀ i, i < m → Val w lim (vs i) (xs i))
    (hitem : ∀ i, i < m → ∀ (W : World) (v : Value) (L : List UInt8), Val W lim (vs i) (xs i) → Row5 W lim v L → lim ≤ W.heap.size → (L ++ G i).length ≤ 900000000 → Calls Try.prog 36 #[v, .agg (vs i)] W (AddsTo W lim (L ++ G i)))
    (hv : Row5 w lim v L0) (hl : lim ≤ w.heap.size) (hL : (L0 ++ itL true ns G m).length ≤ 900000000) :
    Calls Try.prog 65 #[v, .slice A c ca, .slice B m cb, .func (.func 36) #[] #[]] w (AddsTo w lim (L0 ++ itL true ns G m)) := by
  have SF := float_store
  have HV := Lib.hid hv
  obtain ⟨gn, on, rfl, hgn, hnx⟩ := hns hc0
  clear hv hns
  go_enter Try.func65, Try.ntmps65
  go_wp2_with fail
  go_loopw [0, 13] (fun v iv wr => ∃ (i : Nat) (A' : Option Addr) (cap : Nat) (L : List UInt8), i ≤ m ∧ iv = .int .i64 i ∧ v = .slice A' L.length cap ∧ Hid (L = L0 ++ itL true ns G i) ∧ Hid (Row5 wr lim (.slice A' L.length cap) L) ∧ Hid (Keeps lim w wr)) (fun _ iv _ => m - (intOf iv).toNat)
  case atStart =>
    obtain ⟨A', cap, rfl⟩ := HV.out.slice
    exact ⟨0, A', cap, L0, Nat.zero_le _, rfl, rfl, Lib.hid (by simp [itL]), HV, Lib.hid (Keeps.refl _ _)⟩
  case round =>
    obtain ⟨i, A', cap, L, hi, rfl, rfl, hLe, hown, hk⟩ := hrel
    by_cases hlt : i < m
    · obtain ⟨g, o, rfl, hg, hx⟩ := hB (by omega)
      have hbW : Below lim w wr := hk.out.below hl
      have hsz := hk.out.size
      have hsix := (hx i hlt).keep (w' := wr) fun o => hbW.cell (p := ⟨g, o, none⟩) hg
      have hnm : ∀ x, (wr.alloc x).cell? ⟨gn, on + i, none⟩ = some (.string (ns i)) := fun x => ((hbW.alloc (by omega) x).cell (p := ⟨gn, on + i, none⟩) hgn).trans (hnx i (by omega)).1
      have hN : Hid ((L ++ strBL (ns i)) ++ G i = L0 ++ itL true ns G (i + 1)) := Lib.hid (by rw [hLe.out, itL, if_pos rfl]; simp)
      have hlen : ((L ++ strBL (ns i)) ++ G i).length ≤ 900000000 := by
        rw [hN.out]
        have := itL_mono (nm := true) (ns := ns) (G := G) (show i + 1 ≤ m by omega)
        rw [List.length_append] at hL ⊢
        omega
      have hlen1 : L.length ≤ 900000000 ∧ (ns i).size ≤ 900000000 := by
        have := strBL_len (ns i)
        rw [List.length_append, List.length_append] at hlen
        omega
      obtain ⟨b0, b1, b2, b3, b4, b5, b6, b7, b8, b9, hv0⟩ := (hxs i hlt).eight
      have hstr := Lib.hid fun (x : Obj) => addStr_any (t := ns i) (by omega) (hown.out.alloc x) (show lim ≤ (wr.alloc x).heap.size by simp; omega) (show L.length ≤ 1000000000 by omega)
      have hcall := Lib.hid fun (W : World) (hW : Keeps lim wr W) (v : Value) (h : Row5 W lim v (L ++ strBL (ns i))) => hitem i hlt W v (L ++ strBL (ns i)) ((hxs i hlt).stay (hbW.trans (hW.below (by omega)))) h (by have := hW.size; omega) hlen
      rw [hv0] at hsix hcall
      obtain ⟨e0, e1, e2, e3, e4, e5⟩ := hsix.cells
      have HK := box_keeps (w := wr) (a0 := .int .i64 b0) (a1 := .int .i64 b1) (a2 := .float .f64 b2) (a3 := .string b3) (a4 := .slice b4 b5 b6) (a5 := .slice b7 b8 b9) (B := lim)
      have HNM := Lib.hid hnm
      have hnm1 := hnm (.cells #[.int .i64 b0, .int .i64 b1, .float .f64 b2, .string b3, .slice b4 b5 b6, .slice b7 b8 b9] 27)
      generalize hM : L ++ strBL (ns i) = M at *

      clear hv0 hsix hx hB hxs hitem hL hlen hbW hLe hlen1 hM hnm
      go_wp2_with (first | (go_at_call 64; refine (hstr.out _).mono ?_; rintro e w2 ⟨v2, rfl, hr2, hk2⟩; have HR2 := Lib.hid hr2; have HK2 := Lib.hid hk2; clear hr2 hk2; obtain ⟨q0, q1, q2, q3, q4, q5⟩ := HK.out _ HK2.out; refine Hid.out ?_) )
      refine Lib.hid ?_
      obtain ⟨A2, cap2, rfl⟩ := HR2.out.slice
      have HC := Lib.hid (hcall.out _ (((Keeps.refl _ _).alloc _).trans HK2.out) _ HR2.out)
      go_wp2_with (go_at_call 36; refine HC.out.mono ?_; rintro e w3 ⟨v3, rfl, hr3, hk3⟩; have HR3 := Lib.hid hr3; have HK3 := Lib.hid hk3; clear hr3 hk3)
      obtain ⟨A3, cap3, rfl⟩ := HR3.out.slice
      go_roundw
      case rel => exact ⟨i + 1, A3, cap3, _, by omega, by go_num, rfl, hN, HR3, Lib.hid (hk.out.trans ((((Keeps.refl _ _).alloc _).trans HK2.out).trans HK3.out))⟩
      case measure => simp [intOf]; omega
    · obtain rfl : i = m := by omega
      clear hB hxs hitem
      go_wp2_with fail
      go_ret
      exact ⟨_, rfl, by rw [← hLe.out]; exact hown.out, hk.out⟩
end Go.Proofs.Ytdmbfajhcihfgaa
