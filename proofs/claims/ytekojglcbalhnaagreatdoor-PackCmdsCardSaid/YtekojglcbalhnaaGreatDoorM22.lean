/-
  Contracts of basculeref04's Order and Same.
-/
import Derived.Test.YtekojglcbalhnaaGreatDoorM01
import Derived.Test.YtekojglcbalhnaaGreatDoorM04
import Derived.StillTailTactics
namespace Go.Proofs.YtekojglcbalhnaaGreatDoor
open Go.RowKit

/-- What the plain fields tell of two values of one kind. -/
def plainI (k n : Int) (s : ByteArray) (c : Nat) (ns : Nat → ByteArray) (n' : Int) (s' : ByteArray) (c' : Nat) (ns' : Nat → ByteArray) : Int :=
  if k = 5 then 0 else if k = 6 then rowI c ns c' ns' else if signI n n' ≠ 0 then signI n n' else if textI s s' ≠ 0 then textI s s' else rowI c ns c' ns'
def ordV : VT → VT → Int
  | .bad, .bad => 0
  | .bad, .mk _ _ _ _ _ _ _ _ => -1
  | .mk _ _ _ _ _ _ _ _, .bad => 1
  | .mk k n f s c ns m xs, .mk k' n' f' s' c' ns' m' xs' =>
    if k ≠ k' then signI k k' else if k = 1 ∨ k = 2 then signI n n' else if k = 3 then ordI (keyI f) (keyI f') else if k = 4 then textI s s'
    else if plainI k n s c ns n' s' c' ns' ≠ 0 then plainI k n s c ns n' s' c' ns' else firstGo (fun i => ordV (xs i) (xs' i)) (min m m') 0 (signI m m')

/-- The six cells of a value that is boxed anew. -/
theorem boxed {w : World} {a0 a1 a2 a3 a4 a5 : Value} {t : TypeId} (o : Nat) : (w.alloc (.cells #[a0, a1, a2, a3, a4, a5] t)).cell? ⟨w.heap.size, o, none⟩ = #[a0, a1, a2, a3, a4, a5][o]? := World.cell?_alloc_new _ _ _ _

set_option maxHeartbeats 1000000 in
theorem order_kinds {k n : Int} {f : Nat} {s : ByteArray} {A : Option Addr} {c ca : Nat} {B : Option Addr} {m cb : Nat} {k' n' : Int} {f' : Nat} {s' : ByteArray} {A' : Option Addr} {c' ca' : Nat} {B' : Option Addr} {m' cb' : Nat} {w : World}
    (h : k ≠ k' ∨ (k = k' ∧ (k = 1 ∨ k = 2 ∨ k = 3 ∨ k = 4))) (hf : f < 18446744073709551616) (hf' : f' < 18446744073709551616) :
    Calls Tryz.prog 46 #[.agg (fields k n f s A c ca B m cb), .agg (fields k' n' f' s' A' c' ca' B' m' cb')] w fun e w' => e = .returned (.int .i64 (if k ≠ k' then signI k k' else if k = 1 ∨ k = 2 then signI n n' else if k = 3 then ordI (keyI f) (keyI f') else textI s s')) ∧ Below w.heap.size w w' := by
  have hb : Below w.heap.size w ((w.alloc (.cells #[.int .i64 k, .int .i64 n, .float .f64 f, .string s, .slice A c ca, .slice B m cb] 28)).alloc (.cells #[.int .i64 k', .int .i64 n', .float .f64 f', .string s', .slice A' c' ca', .slice B' m' cb'] 28)) :=
    ((Below.refl _ _).alloc (Nat.le_refl _) _).alloc (by simp) _
  have Sg := sign_any
  have Tx := text_any
  have Or := @Order_any f f' hf hf'
  unfold fields
  rcases h with h | ⟨rfl, rfl | rfl | rfl | rfl⟩
  · rw [if_pos h]
    have T1 : (k != k') = true := by simpa using h
    clear h
    go_enter Tryz.func46, Tryz.ntmps46
    go_wp2_with (go_at_call 80; refine (Sg _ _ _).mono ?_; rintro e w' ⟨rfl, rfl⟩)
    go_ret
    exact ⟨rfl, hb⟩
  · go_enter Tryz.func46, Tryz.ntmps46
    go_wp2_with (go_at_call 80; refine (Sg _ _ _).mono ?_; rintro e w' ⟨rfl, rfl⟩)
    go_ret
    exact ⟨rfl, hb⟩
  · go_enter Tryz.func46, Tryz.ntmps46
    go_wp2_with (go_at_call 80; refine (Sg _ _ _).mono ?_; rintro e w' ⟨rfl, rfl⟩)
    go_ret
    exact ⟨rfl, hb⟩
  · go_enter Tryz.func46, Tryz.ntmps46
    go_wp2_with (go_at_call 81; refine (Or _).mono ?_; rintro e w' ⟨rfl, rfl⟩)
    go_ret
    exact ⟨rfl, hb⟩
  · go_enter Tryz.func46, Tryz.ntmps46
    go_wp2_with (go_at_call 82; refine (Tx _ _ _).mono ?_; rintro e w' ⟨rfl, rfl⟩)
    go_ret
    exact ⟨rfl, hb⟩
theorem Strs.keep {w w' : World} {lim : Nat} {A : Option Addr} {c : Nat} {ns : Nat → ByteArray} (h : Strs w lim A c ns) (hw : ∀ g o, g < lim → w'.cell? ⟨g, o, none⟩ = w.cell? ⟨g, o, none⟩) : Strs w' lim A c ns := fun h0 => by
  obtain ⟨g, o, e, hg, hx⟩ := h h0
  exact ⟨g, o, e, hg, fun i hi => ⟨(hw _ _ hg).trans (hx i hi).1, (hx i hi).2⟩⟩
set_option maxRecDepth 10000 in
set_option maxHeartbeats 2000000 in
theorem order_list {k n n' : Int} {f f' : Nat} {s s' : ByteArray} {A A' : Option Addr} {c ca c' ca' : Nat} {B B' : Option Addr} {m cb m' cb' : Nat} {w : World} {vs vs' : Nat → Array Value} {xs xs' : Nat → VT} {G : Nat → Int} {T : Int}
    (hk : k = 5) (hm : m ≤ maxLen) (hm' : m' ≤ maxLen) (hG : Hid (∀ i, G i = ordV (xs i) (xs' i))) (hT : Hid (T = if 0 = 0 then firstGo G (min m m' - 0) 0 (signI m m') else 0))
    (hB : 0 < m → ∃ g o, B = some ⟨g, o, none⟩ ∧ g < w.heap.size ∧ ∀ i, i < m → SixAt w g (o + i * 6) (vs i)) (hxs : ∀ i, i < m → Val w w.heap.size (vs i) (xs i))
    (hB' : 0 < m' → ∃ g o, B' = some ⟨g, o, none⟩ ∧ g < w.heap.size ∧ ∀ i, i < m' → SixAt w g (o + i * 6) (vs' i)) (hxs' : ∀ i, i < m' → Val w w.heap.size (vs' i) (xs' i))
    (ih : ∀ (i : Nat) (v v' : Array Value) (t' : VT) (w : World), Val w w.heap.size v (xs i) → Val w w.heap.size v' t' → Calls Tryz.prog 46 #[.agg v, .agg v'] w fun e w' => e = .returned (.int .i64 (ordV (xs i) t')) ∧ Below w.heap.size w w') :
    Calls Tryz.prog 46 #[.agg (fields k n f s A c ca B m cb), .agg (fields k n' f' s' A' c' ca' B' m' cb')] w fun e w' => e = .returned (.int .i64 T) ∧ Below w.heap.size w w' := by
  have hmx : m ≤ 9223372036854775807 := by unfold maxLen at hm; exact hm
  have hmx' : m' ≤ 9223372036854775807 := by unfold maxLen at hm'; exact hm'
  clear hm hm'
  unfold fields
  subst hk
  go_enter Tryz.func46, Tryz.ntmps46
  go_wp2_with fail
  obtain ⟨W2, hW2⟩ : ∃ W2, W2 = ((w.alloc (.cells #[.int .i64 5, .int .i64 n, .float .f64 f, .string s, .slice A c ca, .slice B m cb] 28)).alloc (.cells #[.int .i64 5, .int .i64 n', .float .f64 f', .string s', .slice A' c' ca', .slice B' m' cb'] 28)) := ⟨_, rfl⟩
  have hbW : Below w.heap.size w W2 := by rw [hW2]; exact ((Below.refl _ _).alloc (Nat.le_refl _) _).alloc (by simp) _
  have hsz : W2.heap.size = w.heap.size + 1 + 1 := by rw [hW2]; simp
  have h50 : W2.cell? ⟨w.heap.size, 5, none⟩ = some (.slice B m cb) := by
    rw [hW2]
    exact (((Below.refl _ _).alloc (Nat.le_refl _) _).cell (p := ⟨w.heap.size, 5, none⟩) (by simp)).trans (World.cell?_alloc_new _ _ _ _)
  have h51 : W2.cell? ⟨w.heap.size + 1, 5, none⟩ = some (.slice B' m' cb') := by rw [hW2]; simp
  rw [← hW2]
  have HW := Lib.hid (show w.heap.size < W2.heap.size ∧ w.heap.size + 1 < W2.heap.size ∧ w.heap.size ≤ W2.heap.size by omega)
  have H5 := Lib.hid (And.intro h50 h51)
  clear hW2 hsz h50 h51
  go_loopw [5, 6] (fun cv iv wr => ∃ (i : Nat) (q : Int), i ≤ m ∧ i ≤ m' ∧ iv = .int .i64 i ∧ cv = .int .i64 q ∧ Hid (T = if q = 0 then firstGo G (min m m' - i) i (signI m m') else q) ∧ Below W2.heap.size W2 wr) (fun _ iv _ => m - (intOf iv).toNat)
  case atStart => exact ⟨0, 0, Nat.zero_le _, Nat.zero_le _, rfl, rfl, hT, Below.refl _ _⟩
  case round =>
    obtain ⟨i, q, hi, hi', rfl, rfl, hh, hb⟩ := hrel
    have h5r : wr.cell? ⟨w.heap.size, 5, none⟩ = some (.slice B m cb) := (hb.cell (p := ⟨w.heap.size, 5, none⟩) HW.out.1).trans H5.out.1
    have h5r' : wr.cell? ⟨w.heap.size + 1, 5, none⟩ = some (.slice B' m' cb') := (hb.cell (p := ⟨w.heap.size + 1, 5, none⟩) HW.out.2.1).trans H5.out.2
    have hfin : Below w.heap.size w wr := hbW.trans (hb.mono HW.out.2.2)
    by_cases hq : q = 0
    · subst hq
      by_cases hlt : i < m
      · by_cases hlt' : i < m'
        · obtain ⟨g, o, rfl, hg, hx⟩ := hB (by omega)
          obtain ⟨g', o', rfl, hg', hx'⟩ := hB' (by omega)
          have hvr := ((hxs i hlt).stay hfin).mono hfin.size
          have hvr' := ((hxs' i hlt').stay hfin).mono hfin.size
          have hcall := fun (W : World) (hW : Below wr.heap.size wr W) => ih i (vs i) (vs' i) (xs' i) W ((hvr.stay hW).mono hW.size) ((hvr'.stay hW).mono hW.size)
          have hsix := (hx i hlt).keep (w' := wr) fun o => hfin.cell (p := ⟨g, o, none⟩) hg
          have hsix' := (hx' i hlt').keep (w' := wr) fun o => hfin.cell (p := ⟨g', o, none⟩) hg'
          have hstep : Hid (T = if G i = 0 then firstGo G (min m m' - (i + 1)) (i + 1) (signI m m') else G i) := Lib.hid (by
            rw [hh.out, if_pos rfl, show min m m' - i = (min m m' - (i + 1)) + 1 by omega]
            rfl)
          have hGi : ordV (xs i) (xs' i) = G i := (hG.out i).symm
          rw [hGi] at hcall
          obtain ⟨a0, a1, a2, a3, a4, a5, hv0⟩ := (hxs i hlt).six
          obtain ⟨d0, d1, d2, d3, d4, d5, hv1⟩ := (hxs' i hlt').six
          rw [hv0] at hsix hcall
          rw [hv1] at hsix' hcall
          obtain ⟨e0, e1, e2, e3, e4, e5⟩ := hsix.cells
          obtain ⟨f0, f1, f2, f3, f4, f5⟩ := hsix'.cells
          clear hv0 hv1 hsix hsix' hvr hvr' hx hx' hB hB' ih hxs hxs' hh hGi
          generalize G i = z at *
          go_wp2_with fail
          go_still_tail 10, (by kernel_rfl)
          change wpList _ _ _ _ _ wr.drew
          have hd : Below wr.heap.size wr wr.drew := (Below.refl _ _).drew
          generalize wr.drew = w2 at hd ⊢
          go_wp2_with (go_at_call 46; refine (hcall w2 hd).mono ?_; rintro e w3 ⟨rfl, hb3⟩)
          go_roundw
          case rel => exact ⟨i + 1, z, by omega, by omega, by go_num, rfl, hstep, hb.trans ((hd.trans (hb3.mono hd.size)).mono hb.size)⟩
          case measure => simp [intOf]; omega
        · have R : Hid (T = signI m m') := Lib.hid (by rw [hh.out, if_pos rfl, show min m m' - i = 0 by omega]; rfl)
          clear hh hB hB' hxs hxs' ih hT
          go_wp2_with (go_at_call 80; refine (sign_any _ _ _).mono ?_; rintro e w' ⟨rfl, rfl⟩)
          go_ret
          exact ⟨by rw [R.out]; rfl, hfin⟩
      · have R : Hid (T = signI m m') := Lib.hid (by rw [hh.out, if_pos rfl, show min m m' - i = 0 by omega]; rfl)
        clear hh hB hB' hxs hxs' ih hT
        go_wp2_with (go_at_call 80; refine (sign_any _ _ _).mono ?_; rintro e w' ⟨rfl, rfl⟩)
        go_ret
        exact ⟨by rw [R.out]; rfl, hfin⟩
    · have R : Hid (T = q) := Lib.hid (by rw [hh.out, if_neg hq])
      have hq1 : (q == 0) = false := by simpa using hq
      clear hh hB hB' hxs hxs' ih hT hq
      by_cases hlt : i < m
      · by_cases hlt' : i < m'
        · go_wp2_with fail
          go_ret
          exact ⟨by rw [R.out]; rfl, hfin⟩
        · go_wp2_with fail
          go_ret
          exact ⟨by rw [R.out]; rfl, hfin⟩
      · go_wp2_with fail
        go_ret
        exact ⟨by rw [R.out]; rfl, hfin⟩
set_option maxRecDepth 10000 in
set_option maxHeartbeats 2000000 in
theorem order_other1 {k n n' : Int} {f f' : Nat} {s s' : ByteArray} {A A' : Option Addr} {c ca c' ca' : Nat} {B B' : Option Addr} {m cb m' cb' : Nat} {w : World} {vs vs' : Nat → Array Value} {xs xs' : Nat → VT} {G : Nat → Int} {T : Int}
    (hk : k ≠ 1 ∧ k ≠ 2 ∧ k ≠ 3 ∧ k ≠ 4 ∧ k ≠ 5 ∧ k ≠ 6) (hm : m ≤ maxLen) (hm' : m' ≤ maxLen) (hG : Hid (∀ i, G i = ordV (xs i) (xs' i))) (hT : Hid (T = if signI n n' = 0 then firstGo G (min m m' - 0) 0 (signI m m') else signI n n'))
    (h1 : signI n n' ≠ 0)
    (hB : 0 < m → ∃ g o, B = some ⟨g, o, none⟩ ∧ g < w.heap.size ∧ ∀ i, i < m → SixAt w g (o + i * 6) (vs i)) (hxs : ∀ i, i < m → Val w w.heap.size (vs i) (xs i))
    (hB' : 0 < m' → ∃ g o, B' = some ⟨g, o, none⟩ ∧ g < w.heap.size ∧ ∀ i, i < m' → SixAt w g (o + i * 6) (vs' i)) (hxs' : ∀ i, i < m' → Val w w.heap.size (vs' i) (xs' i))
    (ih : ∀ (i : Nat) (v v' : Array Value) (t' : VT) (w : World), Val w w.heap.size v (xs i) → Val w w.heap.size v' t' → Calls Tryz.prog 46 #[.agg v, .agg v'] w fun e w' => e = .returned (.int .i64 (ordV (xs i) t')) ∧ Below w.heap.size w w') :
    Calls Tryz.prog 46 #[.agg (fields k n f s A c ca B m cb), .agg (fields k n' f' s' A' c' ca' B' m' cb')] w fun e w' => e = .returned (.int .i64 T) ∧ Below w.heap.size w w' := by
  have hmx : m ≤ 9223372036854775807 := by unfold maxLen at hm; exact hm
  have hmx' : m' ≤ 9223372036854775807 := by unfold maxLen at hm'; exact hm'
  clear hm hm'
  unfold fields
  have t1 : (k == 1) = false := by simpa using hk.1
  have t2 : (k == 2) = false := by simpa using hk.2.1
  have t3 : (k == 3) = false := by simpa using hk.2.2.1
  have t4 : (k == 4) = false := by simpa using hk.2.2.2.1
  have t5 : (k != 5) = true := by simpa using hk.2.2.2.2.1
  have t6 : (k != 6) = true := by simpa using hk.2.2.2.2.2
  clear hk
  have p0 : (signI n n' == 0) = false := by simpa using h1
  have Sg := sign_any n n'
  generalize signI n n' = P at *
  clear h1
  go_enter Tryz.func46, Tryz.ntmps46
  go_wp2_with (go_at_call 80; refine (Sg _).mono ?_; rintro e w' ⟨rfl, rfl⟩)
  obtain ⟨W2, hW2⟩ : ∃ W2, W2 = ((w.alloc (.cells #[.int .i64 k, .int .i64 n, .float .f64 f, .string s, .slice A c ca, .slice B m cb] 28)).alloc (.cells #[.int .i64 k, .int .i64 n', .float .f64 f', .string s', .slice A' c' ca', .slice B' m' cb'] 28)) := ⟨_, rfl⟩
  have hbW : Below w.heap.size w W2 := by rw [hW2]; exact ((Below.refl _ _).alloc (Nat.le_refl _) _).alloc (by simp) _
  have hsz : W2.heap.size = w.heap.size + 1 + 1 := by rw [hW2]; simp
  have h50 : W2.cell? ⟨w.heap.size, 5, none⟩ = some (.slice B m cb) := by
    rw [hW2]
    exact (((Below.refl _ _).alloc (Nat.le_refl _) _).cell (p := ⟨w.heap.size, 5, none⟩) (by simp)).trans (World.cell?_alloc_new _ _ _ _)
  have h51 : W2.cell? ⟨w.heap.size + 1, 5, none⟩ = some (.slice B' m' cb') := by rw [hW2]; simp
  rw [← hW2]
  have HW := Lib.hid (show w.heap.size < W2.heap.size ∧ w.heap.size + 1 < W2.heap.size ∧ w.heap.size ≤ W2.heap.size by omega)
  have H5 := Lib.hid (And.intro h50 h51)
  clear hW2 hsz h50 h51
  go_loopw [5, 6] (fun cv iv wr => ∃ (i : Nat) (q : Int), i ≤ m ∧ i ≤ m' ∧ iv = .int .i64 i ∧ cv = .int .i64 q ∧ Hid (T = if q = 0 then firstGo G (min m m' - i) i (signI m m') else q) ∧ Below W2.heap.size W2 wr) (fun _ iv _ => m - (intOf iv).toNat)
  case atStart => exact ⟨0, P, Nat.zero_le _, Nat.zero_le _, rfl, rfl, hT, Below.refl _ _⟩
  case round =>
    obtain ⟨i, q, hi, hi', rfl, rfl, hh, hb⟩ := hrel
    have h5r : wr.cell? ⟨w.heap.size, 5, none⟩ = some (.slice B m cb) := (hb.cell (p := ⟨w.heap.size, 5, none⟩) HW.out.1).trans H5.out.1
    have h5r' : wr.cell? ⟨w.heap.size + 1, 5, none⟩ = some (.slice B' m' cb') := (hb.cell (p := ⟨w.heap.size + 1, 5, none⟩) HW.out.2.1).trans H5.out.2
    have hfin : Below w.heap.size w wr := hbW.trans (hb.mono HW.out.2.2)
    by_cases hq : q = 0
    · subst hq
      by_cases hlt : i < m
      · by_cases hlt' : i < m'
        · obtain ⟨g, o, rfl, hg, hx⟩ := hB (by omega)
          obtain ⟨g', o', rfl, hg', hx'⟩ := hB' (by omega)
          have hvr := ((hxs i hlt).stay hfin).mono hfin.size
          have hvr' := ((hxs' i hlt').stay hfin).mono hfin.size
          have hcall := fun (W : World) (hW : Below wr.heap.size wr W) => ih i (vs i) (vs' i) (xs' i) W ((hvr.stay hW).mono hW.size) ((hvr'.stay hW).mono hW.size)
          have hsix := (hx i hlt).keep (w' := wr) fun o => hfin.cell (p := ⟨g, o, none⟩) hg
          have hsix' := (hx' i hlt').keep (w' := wr) fun o => hfin.cell (p := ⟨g', o, none⟩) hg'
          have hstep : Hid (T = if G i = 0 then firstGo G (min m m' - (i + 1)) (i + 1) (signI m m') else G i) := Lib.hid (by
            rw [hh.out, if_pos rfl, show min m m' - i = (min m m' - (i + 1)) + 1 by omega]
            rfl)
          have hGi : ordV (xs i) (xs' i) = G i := (hG.out i).symm
          rw [hGi] at hcall
          obtain ⟨a0, a1, a2, a3, a4, a5, hv0⟩ := (hxs i hlt).six
          obtain ⟨d0, d1, d2, d3, d4, d5, hv1⟩ := (hxs' i hlt').six
          rw [hv0] at hsix hcall
          rw [hv1] at hsix' hcall
          obtain ⟨e0, e1, e2, e3, e4, e5⟩ := hsix.cells
          obtain ⟨f0, f1, f2, f3, f4, f5⟩ := hsix'.cells
          clear hv0 hv1 hsix hsix' hvr hvr' hx hx' hB hB' ih hxs hxs' hh hGi
          generalize G i = z at *
          go_wp2_with fail
          go_still_tail 10, (by kernel_rfl)
          change wpList _ _ _ _ _ wr.drew
          have hd : Below wr.heap.size wr wr.drew := (Below.refl _ _).drew
          generalize wr.drew = w2 at hd ⊢
          go_wp2_with (go_at_call 46; refine (hcall w2 hd).mono ?_; rintro e w3 ⟨rfl, hb3⟩)
          go_roundw
          case rel => exact ⟨i + 1, z, by omega, by omega, by go_num, rfl, hstep, hb.trans ((hd.trans (hb3.mono hd.size)).mono hb.size)⟩
          case measure => simp [intOf]; omega
        · have R : Hid (T = signI m m') := Lib.hid (by rw [hh.out, if_pos rfl, show min m m' - i = 0 by omega]; rfl)
          clear hh hB hB' hxs hxs' ih hT
          go_wp2_with (go_at_call 80; refine (sign_any _ _ _).mono ?_; rintro e w' ⟨rfl, rfl⟩)
          go_ret
          exact ⟨by rw [R.out]; rfl, hfin⟩
      · have R : Hid (T = signI m m') := Lib.hid (by rw [hh.out, if_pos rfl, show min m m' - i = 0 by omega]; rfl)
        clear hh hB hB' hxs hxs' ih hT
        go_wp2_with (go_at_call 80; refine (sign_any _ _ _).mono ?_; rintro e w' ⟨rfl, rfl⟩)
        go_ret
        exact ⟨by rw [R.out]; rfl, hfin⟩
    · have R : Hid (T = q) := Lib.hid (by rw [hh.out, if_neg hq])
      have hq1 : (q == 0) = false := by simpa using hq
      clear hh hB hB' hxs hxs' ih hT hq
      by_cases hlt : i < m
      · by_cases hlt' : i < m'
        · go_wp2_with fail
          go_ret
          exact ⟨by rw [R.out]; rfl, hfin⟩
        · go_wp2_with fail
          go_ret
          exact ⟨by rw [R.out]; rfl, hfin⟩
      · go_wp2_with fail
        go_ret
        exact ⟨by rw [R.out]; rfl, hfin⟩
set_option maxRecDepth 10000 in
set_option maxHeartbeats 2000000 in
theorem order_other2 {k n n' : Int} {f f' : Nat} {s s' : ByteArray} {A A' : Option Addr} {c ca c' ca' : Nat} {B B' : Option Addr} {m cb m' cb' : Nat} {w : World} {vs vs' : Nat → Array Value} {xs xs' : Nat → VT} {G : Nat → Int} {T : Int}
    (hk : k ≠ 1 ∧ k ≠ 2 ∧ k ≠ 3 ∧ k ≠ 4 ∧ k ≠ 5 ∧ k ≠ 6) (hm : m ≤ maxLen) (hm' : m' ≤ maxLen) (hG : Hid (∀ i, G i = ordV (xs i) (xs' i))) (hT : Hid (T = if textI s s' = 0 then firstGo G (min m m' - 0) 0 (signI m m') else textI s s'))
    (h1 : signI n n' = 0) (h2 : textI s s' ≠ 0)
    (hB : 0 < m → ∃ g o, B = some ⟨g, o, none⟩ ∧ g < w.heap.size ∧ ∀ i, i < m → SixAt w g (o + i * 6) (vs i)) (hxs : ∀ i, i < m → Val w w.heap.size (vs i) (xs i))
    (hB' : 0 < m' → ∃ g o, B' = some ⟨g, o, none⟩ ∧ g < w.heap.size ∧ ∀ i, i < m' → SixAt w g (o + i * 6) (vs' i)) (hxs' : ∀ i, i < m' → Val w w.heap.size (vs' i) (xs' i))
    (ih : ∀ (i : Nat) (v v' : Array Value) (t' : VT) (w : World), Val w w.heap.size v (xs i) → Val w w.heap.size v' t' → Calls Tryz.prog 46 #[.agg v, .agg v'] w fun e w' => e = .returned (.int .i64 (ordV (xs i) t')) ∧ Below w.heap.size w w') :
    Calls Tryz.prog 46 #[.agg (fields k n f s A c ca B m cb), .agg (fields k n' f' s' A' c' ca' B' m' cb')] w fun e w' => e = .returned (.int .i64 T) ∧ Below w.heap.size w w' := by
  have hmx : m ≤ 9223372036854775807 := by unfold maxLen at hm; exact hm
  have hmx' : m' ≤ 9223372036854775807 := by unfold maxLen at hm'; exact hm'
  clear hm hm'
  unfold fields
  have t1 : (k == 1) = false := by simpa using hk.1
  have t2 : (k == 2) = false := by simpa using hk.2.1
  have t3 : (k == 3) = false := by simpa using hk.2.2.1
  have t4 : (k == 4) = false := by simpa using hk.2.2.2.1
  have t5 : (k != 5) = true := by simpa using hk.2.2.2.2.1
  have t6 : (k != 6) = true := by simpa using hk.2.2.2.2.2
  clear hk
  have p0 : (textI s s' == 0) = false := by simpa using h2
  have Sg := sign_any n n'
  rw [h1] at Sg
  have Tx := text_any s s'
  generalize textI s s' = P at *
  clear h1 h2
  go_enter Tryz.func46, Tryz.ntmps46
  go_wp2_with (first | (go_at_call 80; refine (Sg _).mono ?_; rintro e w' ⟨rfl, rfl⟩) | (go_at_call 82; refine (Tx _).mono ?_; rintro e w' ⟨rfl, rfl⟩))
  obtain ⟨W2, hW2⟩ : ∃ W2, W2 = ((w.alloc (.cells #[.int .i64 k, .int .i64 n, .float .f64 f, .string s, .slice A c ca, .slice B m cb] 28)).alloc (.cells #[.int .i64 k, .int .i64 n', .float .f64 f', .string s', .slice A' c' ca', .slice B' m' cb'] 28)) := ⟨_, rfl⟩
  have hbW : Below w.heap.size w W2 := by rw [hW2]; exact ((Below.refl _ _).alloc (Nat.le_refl _) _).alloc (by simp) _
  have hsz : W2.heap.size = w.heap.size + 1 + 1 := by rw [hW2]; simp
  have h50 : W2.cell? ⟨w.heap.size, 5, none⟩ = some (.slice B m cb) := by
    rw [hW2]
    exact (((Below.refl _ _).alloc (Nat.le_refl _) _).cell (p := ⟨w.heap.size, 5, none⟩) (by simp)).trans (World.cell?_alloc_new _ _ _ _)
  have h51 : W2.cell? ⟨w.heap.size + 1, 5, none⟩ = some (.slice B' m' cb') := by rw [hW2]; simp
  rw [← hW2]
  have HW := Lib.hid (show w.heap.size < W2.heap.size ∧ w.heap.size + 1 < W2.heap.size ∧ w.heap.size ≤ W2.heap.size by omega)
  have H5 := Lib.hid (And.intro h50 h51)
  clear hW2 hsz h50 h51
  go_loopw [5, 6] (fun cv iv wr => ∃ (i : Nat) (q : Int), i ≤ m ∧ i ≤ m' ∧ iv = .int .i64 i ∧ cv = .int .i64 q ∧ Hid (T = if q = 0 then firstGo G (min m m' - i) i (signI m m') else q) ∧ Below W2.heap.size W2 wr) (fun _ iv _ => m - (intOf iv).toNat)
  case atStart => exact ⟨0, P, Nat.zero_le _, Nat.zero_le _, rfl, rfl, hT, Below.refl _ _⟩
  case round =>
    obtain ⟨i, q, hi, hi', rfl, rfl, hh, hb⟩ := hrel
    have h5r : wr.cell? ⟨w.heap.size, 5, none⟩ = some (.slice B m cb) := (hb.cell (p := ⟨w.heap.size, 5, none⟩) HW.out.1).trans H5.out.1
    have h5r' : wr.cell? ⟨w.heap.size + 1, 5, none⟩ = some (.slice B' m' cb') := (hb.cell (p := ⟨w.heap.size + 1, 5, none⟩) HW.out.2.1).trans H5.out.2
    have hfin : Below w.heap.size w wr := hbW.trans (hb.mono HW.out.2.2)
    by_cases hq : q = 0
    · subst hq
      by_cases hlt : i < m
      · by_cases hlt' : i < m'
        · obtain ⟨g, o, rfl, hg, hx⟩ := hB (by omega)
          obtain ⟨g', o', rfl, hg', hx'⟩ := hB' (by omega)
          have hvr := ((hxs i hlt).stay hfin).mono hfin.size
          have hvr' := ((hxs' i hlt').stay hfin).mono hfin.size
          have hcall := fun (W : World) (hW : Below wr.heap.size wr W) => ih i (vs i) (vs' i) (xs' i) W ((hvr.stay hW).mono hW.size) ((hvr'.stay hW).mono hW.size)
          have hsix := (hx i hlt).keep (w' := wr) fun o => hfin.cell (p := ⟨g, o, none⟩) hg
          have hsix' := (hx' i hlt').keep (w' := wr) fun o => hfin.cell (p := ⟨g', o, none⟩) hg'
          have hstep : Hid (T = if G i = 0 then firstGo G (min m m' - (i + 1)) (i + 1) (signI m m') else G i) := Lib.hid (by
            rw [hh.out, if_pos rfl, show min m m' - i = (min m m' - (i + 1)) + 1 by omega]
            rfl)
          have hGi : ordV (xs i) (xs' i) = G i := (hG.out i).symm
          rw [hGi] at hcall
          obtain ⟨a0, a1, a2, a3, a4, a5, hv0⟩ := (hxs i hlt).six
          obtain ⟨d0, d1, d2, d3, d4, d5, hv1⟩ := (hxs' i hlt').six
          rw [hv0] at hsix hcall
          rw [hv1] at hsix' hcall
          obtain ⟨e0, e1, e2, e3, e4, e5⟩ := hsix.cells
          obtain ⟨f0, f1, f2, f3, f4, f5⟩ := hsix'.cells
          clear hv0 hv1 hsix hsix' hvr hvr' hx hx' hB hB' ih hxs hxs' hh hGi
          generalize G i = z at *
          go_wp2_with fail
          go_still_tail 10, (by kernel_rfl)
          change wpList _ _ _ _ _ wr.drew
          have hd : Below wr.heap.size wr wr.drew := (Below.refl _ _).drew
          generalize wr.drew = w2 at hd ⊢
          go_wp2_with (go_at_call 46; refine (hcall w2 hd).mono ?_; rintro e w3 ⟨rfl, hb3⟩)
          go_roundw
          case rel => exact ⟨i + 1, z, by omega, by omega, by go_num, rfl, hstep, hb.trans ((hd.trans (hb3.mono hd.size)).mono hb.size)⟩
          case measure => simp [intOf]; omega
        · have R : Hid (T = signI m m') := Lib.hid (by rw [hh.out, if_pos rfl, show min m m' - i = 0 by omega]; rfl)
          clear hh hB hB' hxs hxs' ih hT
          go_wp2_with (go_at_call 80; refine (sign_any _ _ _).mono ?_; rintro e w' ⟨rfl, rfl⟩)
          go_ret
          exact ⟨by rw [R.out]; rfl, hfin⟩
      · have R : Hid (T = signI m m') := Lib.hid (by rw [hh.out, if_pos rfl, show min m m' - i = 0 by omega]; rfl)
        clear hh hB hB' hxs hxs' ih hT
        go_wp2_with (go_at_call 80; refine (sign_any _ _ _).mono ?_; rintro e w' ⟨rfl, rfl⟩)
        go_ret
        exact ⟨by rw [R.out]; rfl, hfin⟩
    · have R : Hid (T = q) := Lib.hid (by rw [hh.out, if_neg hq])
      have hq1 : (q == 0) = false := by simpa using hq
      clear hh hB hB' hxs hxs' ih hT hq
      by_cases hlt : i < m
      · by_cases hlt' : i < m'
        · go_wp2_with fail
          go_ret
          exact ⟨by rw [R.out]; rfl, hfin⟩
        · go_wp2_with fail
          go_ret
          exact ⟨by rw [R.out]; rfl, hfin⟩
      · go_wp2_with fail
        go_ret
        exact ⟨by rw [R.out]; rfl, hfin⟩
set_option maxRecDepth 10000 in
set_option maxHeartbeats 2000000 in
theorem order_rec {k n n' : Int} {f f' : Nat} {s s' : ByteArray} {A A' : Option Addr} {c ca c' ca' : Nat} {B B' : Option Addr} {m cb m' cb' : Nat} {w : World} {vs vs' : Nat → Array Value} {xs xs' : Nat → VT} {G : Nat → Int} {T : Int} {ns ns' : Nat → ByteArray}
    (hk : k = 6) (hm : m ≤ maxLen) (hm' : m' ≤ maxLen) (hG : Hid (∀ i, G i = ordV (xs i) (xs' i))) (hT : Hid (T = if rowI c ns c' ns' = 0 then firstGo G (min m m' - 0) 0 (signI m m') else rowI c ns c' ns'))
    (hs1 : Strs w w.heap.size A c ns) (hs2 : Strs w w.heap.size A' c' ns') (hcx : c ≤ 9223372036854775807) (hcx' : c' ≤ 9223372036854775807)
    (hB : 0 < m → ∃ g o, B = some ⟨g, o, none⟩ ∧ g < w.heap.size ∧ ∀ i, i < m → SixAt w g (o + i * 6) (vs i)) (hxs : ∀ i, i < m → Val w w.heap.size (vs i) (xs i))
    (hB' : 0 < m' → ∃ g o, B' = some ⟨g, o, none⟩ ∧ g < w.heap.size ∧ ∀ i, i < m' → SixAt w g (o + i * 6) (vs' i)) (hxs' : ∀ i, i < m' → Val w w.heap.size (vs' i) (xs' i))
    (ih : ∀ (i : Nat) (v v' : Array Value) (t' : VT) (w : World), Val w w.heap.size v (xs i) → Val w w.heap.size v' t' → Calls Tryz.prog 46 #[.agg v, .agg v'] w fun e w' => e = .returned (.int .i64 (ordV (xs i) t')) ∧ Below w.heap.size w w') :
    Calls Tryz.prog 46 #[.agg (fields k n f s A c ca B m cb), .agg (fields k n' f' s' A' c' ca' B' m' cb')] w fun e w' => e = .returned (.int .i64 T) ∧ Below w.heap.size w w' := by
  have hmx : m ≤ 9223372036854775807 := by unfold maxLen at hm; exact hm
  have hmx' : m' ≤ 9223372036854775807 := by unfold maxLen at hm'; exact hm'
  clear hm hm'
  unfold fields
  subst hk
  go_enter Tryz.func46, Tryz.ntmps46
  go_wp2_with fail
  obtain ⟨W1, hW1⟩ : ∃ W1, W1 = ((w.alloc (.cells #[.int .i64 6, .int .i64 n, .float .f64 f, .string s, .slice A c ca, .slice B m cb] 28)).alloc (.cells #[.int .i64 6, .int .i64 n', .float .f64 f', .string s', .slice A' c' ca', .slice B' m' cb'] 28)) := ⟨_, rfl⟩
  have hbV : Below w.heap.size w W1 := by rw [hW1]; exact ((Below.refl _ _).alloc (Nat.le_refl _) _).alloc (by simp) _
  have hsz : W1.heap.size = w.heap.size + 1 + 1 := by rw [hW1]; simp
  have h50 : W1.cell? ⟨w.heap.size, 5, none⟩ = some (.slice B m cb) := by
    rw [hW1]
    exact (((Below.refl _ _).alloc (Nat.le_refl _) _).cell (p := ⟨w.heap.size, 5, none⟩) (by simp)).trans (World.cell?_alloc_new _ _ _ _)
  have h51 : W1.cell? ⟨w.heap.size + 1, 5, none⟩ = some (.slice B' m' cb') := by rw [hW1]; simp
  rw [← hW1]
  have HV := Lib.hid (show w.heap.size < W1.heap.size ∧ w.heap.size + 1 < W1.heap.size ∧ w.heap.size ≤ W1.heap.size by omega)
  have H4 := Lib.hid (And.intro h50 h51)
  clear hW1 hsz h50 h51
  refine (rows_any (hs1.keep fun g o hg => hbV.cell (p := ⟨g, o, none⟩) hg) (hs2.keep fun g o hg => hbV.cell (p := ⟨g, o, none⟩) hg) HV.out.2.2 hcx hcx').mono ?_
  rintro e W2 ⟨rfl, hb3⟩
  have hbW : Below w.heap.size w W2 := hbV.trans (hb3.mono HV.out.2.2)
  have HW := Lib.hid (show w.heap.size < W2.heap.size ∧ w.heap.size + 1 < W2.heap.size ∧ w.heap.size ≤ W2.heap.size by have := HV.out; have := hb3.size; omega)
  have H5 := Lib.hid (show W2.cell? ⟨w.heap.size, 5, none⟩ = some (.slice B m cb) ∧ W2.cell? ⟨w.heap.size + 1, 5, none⟩ = some (.slice B' m' cb') from ⟨(hb3.cell (p := ⟨w.heap.size, 5, none⟩) HV.out.1).trans H4.out.1, (hb3.cell (p := ⟨w.heap.size + 1, 5, none⟩) HV.out.2.1).trans H4.out.2⟩)
  clear hbV HV H4 hb3 hs1 hs2
  generalize rowI c ns c' ns' = P at *
  go_wp2_with fail
  go_loopw [5, 6] (fun cv iv wr => ∃ (i : Nat) (q : Int), i ≤ m ∧ i ≤ m' ∧ iv = .int .i64 i ∧ cv = .int .i64 q ∧ Hid (T = if q = 0 then firstGo G (min m m' - i) i (signI m m') else q) ∧ Below W2.heap.size W2 wr) (fun _ iv _ => m - (intOf iv).toNat)
  case atStart => exact ⟨0, P, Nat.zero_le _, Nat.zero_le _, rfl, rfl, hT, Below.refl _ _⟩
  case round =>
    obtain ⟨i, q, hi, hi', rfl, rfl, hh, hb⟩ := hrel
    have h5r : wr.cell? ⟨w.heap.size, 5, none⟩ = some (.slice B m cb) := (hb.cell (p := ⟨w.heap.size, 5, none⟩) HW.out.1).trans H5.out.1
    have h5r' : wr.cell? ⟨w.heap.size + 1, 5, none⟩ = some (.slice B' m' cb') := (hb.cell (p := ⟨w.heap.size + 1, 5, none⟩) HW.out.2.1).trans H5.out.2
    have hfin : Below w.heap.size w wr := hbW.trans (hb.mono HW.out.2.2)
    by_cases hq : q = 0
    · subst hq
      by_cases hlt : i < m
      · by_cases hlt' : i < m'
        · obtain ⟨g, o, rfl, hg, hx⟩ := hB (by omega)
          obtain ⟨g', o', rfl, hg', hx'⟩ := hB' (by omega)
          have hvr := ((hxs i hlt).stay hfin).mono hfin.size
          have hvr' := ((hxs' i hlt').stay hfin).mono hfin.size
          have hcall := fun (W : World) (hW : Below wr.heap.size wr W) => ih i (vs i) (vs' i) (xs' i) W ((hvr.stay hW).mono hW.size) ((hvr'.stay hW).mono hW.size)
          have hsix := (hx i hlt).keep (w' := wr) fun o => hfin.cell (p := ⟨g, o, none⟩) hg
          have hsix' := (hx' i hlt').keep (w' := wr) fun o => hfin.cell (p := ⟨g', o, none⟩) hg'
          have hstep : Hid (T = if G i = 0 then firstGo G (min m m' - (i + 1)) (i + 1) (signI m m') else G i) := Lib.hid (by
            rw [hh.out, if_pos rfl, show min m m' - i = (min m m' - (i + 1)) + 1 by omega]
            rfl)
          have hGi : ordV (xs i) (xs' i) = G i := (hG.out i).symm
          rw [hGi] at hcall
          obtain ⟨a0, a1, a2, a3, a4, a5, hv0⟩ := (hxs i hlt).six
          obtain ⟨d0, d1, d2, d3, d4, d5, hv1⟩ := (hxs' i hlt').six
          rw [hv0] at hsix hcall
          rw [hv1] at hsix' hcall
          obtain ⟨e0, e1, e2, e3, e4, e5⟩ := hsix.cells
          obtain ⟨f0, f1, f2, f3, f4, f5⟩ := hsix'.cells
          clear hv0 hv1 hsix hsix' hvr hvr' hx hx' hB hB' ih hxs hxs' hh hGi
          generalize G i = z at *
          go_wp2_with fail
          go_still_tail 10, (by kernel_rfl)
          change wpList _ _ _ _ _ wr.drew
          have hd : Below wr.heap.size wr wr.drew := (Below.refl _ _).drew
          generalize wr.drew = w2 at hd ⊢
          go_wp2_with (go_at_call 46; refine (hcall w2 hd).mono ?_; rintro e w3 ⟨rfl, hb3⟩)
          go_roundw
          case rel => exact ⟨i + 1, z, by omega, by omega, by go_num, rfl, hstep, hb.trans ((hd.trans (hb3.mono hd.size)).mono hb.size)⟩
          case measure => simp [intOf]; omega
        · have R : Hid (T = signI m m') := Lib.hid (by rw [hh.out, if_pos rfl, show min m m' - i = 0 by omega]; rfl)
          clear hh hB hB' hxs hxs' ih hT
          go_wp2_with (go_at_call 80; refine (sign_any _ _ _).mono ?_; rintro e w' ⟨rfl, rfl⟩)
          go_ret
          exact ⟨by rw [R.out]; rfl, hfin⟩
      · have R : Hid (T = signI m m') := Lib.hid (by rw [hh.out, if_pos rfl, show min m m' - i = 0 by omega]; rfl)
        clear hh hB hB' hxs hxs' ih hT
        go_wp2_with (go_at_call 80; refine (sign_any _ _ _).mono ?_; rintro e w' ⟨rfl, rfl⟩)
        go_ret
        exact ⟨by rw [R.out]; rfl, hfin⟩
    · have R : Hid (T = q) := Lib.hid (by rw [hh.out, if_neg hq])
      have hq1 : (q == 0) = false := by simpa using hq
      clear hh hB hB' hxs hxs' ih hT hq
      by_cases hlt : i < m
      · by_cases hlt' : i < m'
        · go_wp2_with fail
          go_ret
          exact ⟨by rw [R.out]; rfl, hfin⟩
        · go_wp2_with fail
          go_ret
          exact ⟨by rw [R.out]; rfl, hfin⟩
      · go_wp2_with fail
        go_ret
        exact ⟨by rw [R.out]; rfl, hfin⟩
set_option maxRecDepth 10000 in
set_option maxHeartbeats 2000000 in
theorem order_other3 {k n n' : Int} {f f' : Nat} {s s' : ByteArray} {A A' : Option Addr} {c ca c' ca' : Nat} {B B' : Option Addr} {m cb m' cb' : Nat} {w : World} {vs vs' : Nat → Array Value} {xs xs' : Nat → VT} {G : Nat → Int} {T : Int} {ns ns' : Nat → ByteArray}
    (hk : k ≠ 1 ∧ k ≠ 2 ∧ k ≠ 3 ∧ k ≠ 4 ∧ k ≠ 5 ∧ k ≠ 6) (hm : m ≤ maxLen) (hm' : m' ≤ maxLen) (hG : Hid (∀ i, G i = ordV (xs i) (xs' i))) (hT : Hid (T = if rowI c ns c' ns' = 0 then firstGo G (min m m' - 0) 0 (signI m m') else rowI c ns c' ns'))
    (hs1 : Strs w w.heap.size A c ns) (hs2 : Strs w w.heap.size A' c' ns') (hcx : c ≤ 9223372036854775807) (hcx' : c' ≤ 9223372036854775807)
    (h1 : signI n n' = 0) (h2 : textI s s' = 0)
    (hB : 0 < m → ∃ g o, B = some ⟨g, o, none⟩ ∧ g < w.heap.size ∧ ∀ i, i < m → SixAt w g (o + i * 6) (vs i)) (hxs : ∀ i, i < m → Val w w.heap.size (vs i) (xs i))
    (hB' : 0 < m' → ∃ g o, B' = some ⟨g, o, none⟩ ∧ g < w.heap.size ∧ ∀ i, i < m' → SixAt w g (o + i * 6) (vs' i)) (hxs' : ∀ i, i < m' → Val w w.heap.size (vs' i) (xs' i))
    (ih : ∀ (i : Nat) (v v' : Array Value) (t' : VT) (w : World), Val w w.heap.size v (xs i) → Val w w.heap.size v' t' → Calls Tryz.prog 46 #[.agg v, .agg v'] w fun e w' => e = .returned (.int .i64 (ordV (xs i) t')) ∧ Below w.heap.size w w') :
    Calls Tryz.prog 46 #[.agg (fields k n f s A c ca B m cb), .agg (fields k n' f' s' A' c' ca' B' m' cb')] w fun e w' => e = .returned (.int .i64 T) ∧ Below w.heap.size w w' := by
  have hmx : m ≤ 9223372036854775807 := by unfold maxLen at hm; exact hm
  have hmx' : m' ≤ 9223372036854775807 := by unfold maxLen at hm'; exact hm'
  clear hm hm'
  unfold fields
  have t1 : (k == 1) = false := by simpa using hk.1
  have t2 : (k == 2) = false := by simpa using hk.2.1
  have t3 : (k == 3) = false := by simpa using hk.2.2.1
  have t4 : (k == 4) = false := by simpa using hk.2.2.2.1
  have t5 : (k != 5) = true := by simpa using hk.2.2.2.2.1
  have t6 : (k != 6) = true := by simpa using hk.2.2.2.2.2
  clear hk
  have Sg := sign_any n n'
  rw [h1] at Sg
  have Tx := text_any s s'
  rw [h2] at Tx
  clear h1 h2
  go_enter Tryz.func46, Tryz.ntmps46
  go_wp2_with (first | (go_at_call 80; refine (Sg _).mono ?_; rintro e w' ⟨rfl, rfl⟩) | (go_at_call 82; refine (Tx _).mono ?_; rintro e w' ⟨rfl, rfl⟩))
  obtain ⟨W1, hW1⟩ : ∃ W1, W1 = ((w.alloc (.cells #[.int .i64 k, .int .i64 n, .float .f64 f, .string s, .slice A c ca, .slice B m cb] 28)).alloc (.cells #[.int .i64 k, .int .i64 n', .float .f64 f', .string s', .slice A' c' ca', .slice B' m' cb'] 28)) := ⟨_, rfl⟩
  have hbV : Below w.heap.size w W1 := by rw [hW1]; exact ((Below.refl _ _).alloc (Nat.le_refl _) _).alloc (by simp) _
  have hsz : W1.heap.size = w.heap.size + 1 + 1 := by rw [hW1]; simp
  have h50 : W1.cell? ⟨w.heap.size, 5, none⟩ = some (.slice B m cb) := by
    rw [hW1]
    exact (((Below.refl _ _).alloc (Nat.le_refl _) _).cell (p := ⟨w.heap.size, 5, none⟩) (by simp)).trans (World.cell?_alloc_new _ _ _ _)
  have h51 : W1.cell? ⟨w.heap.size + 1, 5, none⟩ = some (.slice B' m' cb') := by rw [hW1]; simp
  rw [← hW1]
  have HV := Lib.hid (show w.heap.size < W1.heap.size ∧ w.heap.size + 1 < W1.heap.size ∧ w.heap.size ≤ W1.heap.size by omega)
  have H4 := Lib.hid (And.intro h50 h51)
  clear hW1 hsz h50 h51
  refine (rows_any (hs1.keep fun g o hg => hbV.cell (p := ⟨g, o, none⟩) hg) (hs2.keep fun g o hg => hbV.cell (p := ⟨g, o, none⟩) hg) HV.out.2.2 hcx hcx').mono ?_
  rintro e W2 ⟨rfl, hb3⟩
  have hbW : Below w.heap.size w W2 := hbV.trans (hb3.mono HV.out.2.2)
  have HW := Lib.hid (show w.heap.size < W2.heap.size ∧ w.heap.size + 1 < W2.heap.size ∧ w.heap.size ≤ W2.heap.size by have := HV.out; have := hb3.size; omega)
  have H5 := Lib.hid (show W2.cell? ⟨w.heap.size, 5, none⟩ = some (.slice B m cb) ∧ W2.cell? ⟨w.heap.size + 1, 5, none⟩ = some (.slice B' m' cb') from ⟨(hb3.cell (p := ⟨w.heap.size, 5, none⟩) HV.out.1).trans H4.out.1, (hb3.cell (p := ⟨w.heap.size + 1, 5, none⟩) HV.out.2.1).trans H4.out.2⟩)
  clear hbV HV H4 hb3 hs1 hs2
  generalize rowI c ns c' ns' = P at *
  go_wp2_with fail
  go_loopw [5, 6] (fun cv iv wr => ∃ (i : Nat) (q : Int), i ≤ m ∧ i ≤ m' ∧ iv = .int .i64 i ∧ cv = .int .i64 q ∧ Hid (T = if q = 0 then firstGo G (min m m' - i) i (signI m m') else q) ∧ Below W2.heap.size W2 wr) (fun _ iv _ => m - (intOf iv).toNat)
  case atStart => exact ⟨0, P, Nat.zero_le _, Nat.zero_le _, rfl, rfl, hT, Below.refl _ _⟩
  case round =>
    obtain ⟨i, q, hi, hi', rfl, rfl, hh, hb⟩ := hrel
    have h5r : wr.cell? ⟨w.heap.size, 5, none⟩ = some (.slice B m cb) := (hb.cell (p := ⟨w.heap.size, 5, none⟩) HW.out.1).trans H5.out.1
    have h5r' : wr.cell? ⟨w.heap.size + 1, 5, none⟩ = some (.slice B' m' cb') := (hb.cell (p := ⟨w.heap.size + 1, 5, none⟩) HW.out.2.1).trans H5.out.2
    have hfin : Below w.heap.size w wr := hbW.trans (hb.mono HW.out.2.2)
    by_cases hq : q = 0
    · subst hq
      by_cases hlt : i < m
      · by_cases hlt' : i < m'
        · obtain ⟨g, o, rfl, hg, hx⟩ := hB (by omega)
          obtain ⟨g', o', rfl, hg', hx'⟩ := hB' (by omega)
          have hvr := ((hxs i hlt).stay hfin).mono hfin.size
          have hvr' := ((hxs' i hlt').stay hfin).mono hfin.size
          have hcall := fun (W : World) (hW : Below wr.heap.size wr W) => ih i (vs i) (vs' i) (xs' i) W ((hvr.stay hW).mono hW.size) ((hvr'.stay hW).mono hW.size)
          have hsix := (hx i hlt).keep (w' := wr) fun o => hfin.cell (p := ⟨g, o, none⟩) hg
          have hsix' := (hx' i hlt').keep (w' := wr) fun o => hfin.cell (p := ⟨g', o, none⟩) hg'
          have hstep : Hid (T = if G i = 0 then firstGo G (min m m' - (i + 1)) (i + 1) (signI m m') else G i) := Lib.hid (by
            rw [hh.out, if_pos rfl, show min m m' - i = (min m m' - (i + 1)) + 1 by omega]
            rfl)
          have hGi : ordV (xs i) (xs' i) = G i := (hG.out i).symm
          rw [hGi] at hcall
          obtain ⟨a0, a1, a2, a3, a4, a5, hv0⟩ := (hxs i hlt).six
          obtain ⟨d0, d1, d2, d3, d4, d5, hv1⟩ := (hxs' i hlt').six
          rw [hv0] at hsix hcall
          rw [hv1] at hsix' hcall
          obtain ⟨e0, e1, e2, e3, e4, e5⟩ := hsix.cells
          obtain ⟨f0, f1, f2, f3, f4, f5⟩ := hsix'.cells
          clear hv0 hv1 hsix hsix' hvr hvr' hx hx' hB hB' ih hxs hxs' hh hGi
          generalize G i = z at *
          go_wp2_with fail
          go_still_tail 10, (by kernel_rfl)
          change wpList _ _ _ _ _ wr.drew
          have hd : Below wr.heap.size wr wr.drew := (Below.refl _ _).drew
          generalize wr.drew = w2 at hd ⊢
          go_wp2_with (go_at_call 46; refine (hcall w2 hd).mono ?_; rintro e w3 ⟨rfl, hb3⟩)
          go_roundw
          case rel => exact ⟨i + 1, z, by omega, by omega, by go_num, rfl, hstep, hb.trans ((hd.trans (hb3.mono hd.size)).mono hb.size)⟩
          case measure => simp [intOf]; omega
        · have R : Hid (T = signI m m') := Lib.hid (by rw [hh.out, if_pos rfl, show min m m' - i = 0 by omega]; rfl)
          clear hh hB hB' hxs hxs' ih hT
          go_wp2_with (go_at_call 80; refine (sign_any _ _ _).mono ?_; rintro e w' ⟨rfl, rfl⟩)
          go_ret
          exact ⟨by rw [R.out]; rfl, hfin⟩
      · have R : Hid (T = signI m m') := Lib.hid (by rw [hh.out, if_pos rfl, show min m m' - i = 0 by omega]; rfl)
        clear hh hB hB' hxs hxs' ih hT
        go_wp2_with (go_at_call 80; refine (sign_any _ _ _).mono ?_; rintro e w' ⟨rfl, rfl⟩)
        go_ret
        exact ⟨by rw [R.out]; rfl, hfin⟩
    · have R : Hid (T = q) := Lib.hid (by rw [hh.out, if_neg hq])
      have hq1 : (q == 0) = false := by simpa using hq
      clear hh hB hB' hxs hxs' ih hT hq
      by_cases hlt : i < m
      · by_cases hlt' : i < m'
        · go_wp2_with fail
          go_ret
          exact ⟨by rw [R.out]; rfl, hfin⟩
        · go_wp2_with fail
          go_ret
          exact ⟨by rw [R.out]; rfl, hfin⟩
      · go_wp2_with fail
        go_ret
        exact ⟨by rw [R.out]; rfl, hfin⟩
end Go.Proofs.YtekojglcbalhnaaGreatDoor
