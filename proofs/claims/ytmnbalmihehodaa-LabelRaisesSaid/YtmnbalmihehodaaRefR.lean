/-
  The contract of basculeref02.Raise.
-/
import Derived.Test.YtmnbalmihehodaaHeldB
import Derived.Test.YtmnbalmihehodaaUpB
import Derived.Test.YtmnbalmihehodaaMayBe
namespace Go.Proofs.Ytmnbalmihehodaa
open Go.RowKit

theorem rJoinI {cs : Array Value} {n : Nat} {A B : Nat → Nat} {L : Nat → Nat → Bool} (hG : GLat n A B L) (h : RLat cs n L) (a b : Int) (ia : isL n a = true) (ib : isL n b = true) (w : World) :
    Calls Try.prog 35 #[.agg cs, .int .i64 a, .int .i64 b] w fun e w' => e = .returned (.int .i64 (jI n A a b)) ∧ Below w.heap.size w w' := by
  have h1 := isL_iff.1 ia
  have h2 := isL_iff.1 ib
  have hJ := rJoin_any a.toNat b.toNat w h (by omega) (by omega)
  rw [hG.rJ_eq (by omega) (by omega), show ((a.toNat : Nat) : Int) = a by omega, show ((b.toNat : Nat) : Int) = b by omega] at hJ
  exact hJ

/-- What the document's Raise hands out. -/
def GivesRef (n : Nat) (A : Nat → Nat) (m : Nat) (p q : Nat → Int) (len : Nat) (f : Nat → Int) (w : World) (e : Ending) (w' : World) : Prop :=
  ((okL n f m && okK (m : Int) p q len) = true ∧ ∃ go cap', e = .returned (.tuple #[.slice (some ⟨go, 0, none⟩) m cap', .bool true]) ∧ IB w' go m (roK n A p q len f (8 * m)) ∧ Below w.heap.size w w') ∨
  ((okL n f m && okK (m : Int) p q len) = false ∧ e = .returned (.tuple #[.slice none 0 0, .bool false]) ∧ Below w.heap.size w w')

/-- The world amid it. -/
structure RR (w wr : World) (cs : Array Value) (go m : Nat) (c : Nat → Int) : Prop where
  lt : w.heap.size < go
  box : wr.heap[w.heap.size]? = some (.cells cs 28 (0, 0))
  lab : IB wr go m c
  below : Below w.heap.size w wr
section
variable {w wr w' : World} {cs : Array Value} {go m : Nat} {c : Nat → Int}
theorem RR.keep (h : RR w wr cs go m c) (hb : Below wr.heap.size wr w') : RR w w' cs go m c :=
  ⟨h.lt, (hb.block _ (Array.getElem?_eq_some_iff.1 h.box).1).trans h.box, h.lab.keep hb, h.below.trans (hb.mono h.below.size)⟩
theorem RR.drew (h : RR w wr cs go m c) : RR w wr.drew cs go m c := ⟨h.lt, h.box, h.lab, h.below.drew⟩
theorem RR.drewN (h : RR w wr cs go m c) (k : Nat) : RR w (wr.drewN k) cs go m c := ⟨h.lt, h.box, h.lab, ⟨h.below.os, h.below.tape, h.below.output, h.below.size, h.below.block⟩⟩
theorem RR.set (h : RR w wr cs go m c) (x : Nat) (z : Int) : RR w (wr.setCell ⟨go, x, none⟩ (.int .i64 z)) cs go m (updI c x z) := by
  have hl := h.lt
  exact ⟨h.lt, (Below.heap_setCell _ _ _ _ (by show w.heap.size ≠ go; omega)).trans h.box, h.lab.set x z, h.below.setCell (by show w.heap.size ≤ go; omega) _⟩
end

set_option maxRecDepth 100000 in
set_option maxHeartbeats 1000000 in
theorem rRaise_any {cs : Array Value} {n : Nat} {A B : Nat → Nat} {L : Nat → Nat → Bool} (hG : GLat n A B L) (h : RLat cs n L) (D : Option Addr) (len cap : Nat) (p q : Nat → Int) (C : Option Addr) (m capl : Nat) (f : Nat → Int) (w : World)
    (hm : m ≤ 1000) (hlen : len ≤ 1000) (hp : Prs w w.heap.size D len p q) (hC : C = none → capl = 0) (hR : Rd w w.heap.size C m f) :
    Calls Try.prog 23 #[.agg cs, .slice D len cap, .slice C m capl] w (GivesRef n A m p q len f w) := by
  have hg : (w.alloc (.cells cs 28)).heap[w.heap.size]? = some (.cells cs 28 (0, 0)) := heap_alloc_new w _
  have hbz := ((Below.refl w.heap.size w).alloc (Nat.le_refl _) (.cells cs 28)).alloc (by simp) (.cells #[] 3)
  have hz : ((w.alloc (.cells cs 28)).alloc (.cells #[] 3)).heap[w.heap.size + 1]? = some (.cells #[] 3 (0, 0)) := by
    have := heap_alloc_new (w.alloc (.cells cs 28)) (.cells #[] 3)
    simpa using this
  have hgz : ((w.alloc (.cells cs 28)).alloc (.cells #[] 3)).heap[w.heap.size]? = some (.cells cs 28 (0, 0)) := (Below.heap_alloc _ _ _ (by simp)).trans hg
  have hRz := hR.keep hbz
  have hsz := Lib.hid h.sz
  have h1m : (m : Int) ≤ 1000 := by omega
  clear hg
  go_enter Try.func23, Try.ntmps23
  go_wp2_with (first | (at_builtin; refine wp_appI rfl (.tmp 15) (.tmp 16) rfl (w.heap.size + 1) rfl hz _ _ _ _ _ rfl hRz hC hm ?_; intro go cap1 w1 hgo hI hb1) | fail)
  have hRR : RR w w1 cs go m f := ⟨by omega, (hb1.block _ (by omega)).trans hgz, hI, hbz.trans (hb1.mono (by omega))⟩
  clear hz hgz hRz hbz hgo hI hb1
  go_loopg [9] m (fun j iv wr => ∃ k : Nat, Hid (j + k = m) ∧ k ≤ m ∧ iv = .int .i64 k ∧ Hid (okL n f k = true) ∧ RR w wr cs go m f)
  case atStart => exact ⟨0, Lib.hid rfl, Nat.zero_le _, rfl, rfl, hRR⟩
  case round =>
    obtain ⟨k, HJ, hk, rfl, hok, hW⟩ := hrel
    clear hRR
    by_cases hlt : k < m
    · obtain ⟨g1, o1, rfl, hg1, hc1⟩ := hR (by omega)
      have d1 := (hW.below.cell (p := ⟨g1, o1 + k, none⟩) hg1).trans (hc1 k hlt)
      have hk0 : (0 : Int) ≤ k := by omega
      have hk1 : (k : Int) < m := by omega
      clear hR hc1 hp
      cases hx : isL n (f k)
      · have HV : Hid ((okL n f m && okK (m : Int) p q len) = false) := Lib.hid (by
          rw [okL_mono (k := k + 1) (by rw [okL_succ, hok.out, hx]; rfl) (by omega)]; rfl)
        have Hx := Lib.hid hx
        clear hx
        go_wp2_with fail
        refine wp_region_still_tail 5 (by kernel_rfl) (by kernel_rfl) ?_
        simp only [List.take_succ_cons, List.take_zero, List.drop_succ_cons, List.drop_zero]
        refine still_ld31 rfl (.tmp 3) rfl w.heap.size rfl cs hW.box hsz.out ?_
        repeat still_step
        refine wpStill_nil ?_
        change wpList _ _ _ _ _ wr.drew
        go_wp2_with fail
        refine (Is_any (f k) _ h).mono ?_
        rintro e w2 ⟨rfl, hb2⟩
        rw [Hx.out]
        have hW2 := hW.drew.keep hb2
        clear hb2 hW
        go_wp2_with fail
        go_ret2
        exact .inr ⟨HV.out, rfl, hW2.below⟩
      · have HO : Hid (okL n f (k + 1) = true) := Lib.hid (by rw [okL_succ, hok.out, hx]; rfl)
        have Hx := Lib.hid hx
        clear hx
        go_wp2_with fail
        refine wp_region_still_tail 5 (by kernel_rfl) (by kernel_rfl) ?_
        simp only [List.take_succ_cons, List.take_zero, List.drop_succ_cons, List.drop_zero]
        refine still_ld31 rfl (.tmp 3) rfl w.heap.size rfl cs hW.box hsz.out ?_
        repeat still_step
        refine wpStill_nil ?_
        change wpList _ _ _ _ _ wr.drew
        go_wp2_with fail
        refine (Is_any (f k) _ h).mono ?_
        rintro e w2 ⟨rfl, hb2⟩
        rw [Hx.out]
        have hW2 := hW.drew.keep hb2
        clear hb2 hW
        go_wp2_with fail
        go_roundg (m - (k + 1))
        case rel => exact ⟨k + 1, Lib.hid (by omega), by omega, by go_num, HO, hW2⟩
        case measure => have := HJ.out; omega
    · obtain rfl : k = m := by omega
      have HF : Hid (∀ x, x < k → isL n (f x) = true) := Lib.hid (okL_iff.1 hok.out)
      clear hlt hk HJ
      go_wp2_with fail
      go_loop [10] (fun iv => ∃ t : Nat, t ≤ len ∧ iv = .int .i64 t ∧ Hid (okK (k : Int) p q t = true)) (fun iv => len - (intOf iv).toNat)
      case atStart => exact ⟨0, Nat.zero_le _, rfl, rfl⟩
      case round =>
        obtain ⟨t, ht, rfl, hoK⟩ := hrel
        by_cases hlt : t < len
        · obtain ⟨g1, o1, rfl, hg1, hc1⟩ := hp (by omega)
          have d0 := (hW.below.cell (p := ⟨g1, o1 + t * 2, none⟩) hg1).trans (hc1 t hlt).1
          have d1 := (hW.below.cell (p := ⟨g1, o1 + t * 2 + 1, none⟩) hg1).trans (hc1 t hlt).2
          have ht0 : (0 : Int) ≤ t := by omega
          have ht1 : (t : Int) < len := by omega
          clear hc1 hR hp
          have hno : (isL k (p t) && isL k (q t)) = false → Hid ((okL n f k && okK (k : Int) p q len) = false) := fun hh => Lib.hid (by
            rw [okK_mono (k := t + 1) (by rw [okK_isL, hoK.out, hh]; rfl) (by omega), Bool.and_false])
          by_cases h1 : p t < 0
          · have HV := hno (by simp [isL]; omega)
            clear hno
            go_wp2_with fail
            go_ret2
            exact .inr ⟨HV.out, rfl, hW.below⟩
          have h1' : 0 ≤ p t := by omega
          by_cases h2 : (k : Int) ≤ p t
          · have HV := hno (by simp [isL]; omega)
            clear hno
            go_wp2_with fail
            go_ret2
            exact .inr ⟨HV.out, rfl, hW.below⟩
          have h2' : p t < (k : Int) := by omega
          by_cases h3 : q t < 0
          · have HV := hno (by simp [isL]; omega)
            clear hno
            go_wp2_with fail
            go_ret2
            exact .inr ⟨HV.out, rfl, hW.below⟩
          have h3' : 0 ≤ q t := by omega
          by_cases h4 : (k : Int) ≤ q t
          · have HV := hno (by simp [isL]; omega)
            clear hno
            go_wp2_with fail
            go_ret2
            exact .inr ⟨HV.out, rfl, hW.below⟩
          have h4' : q t < (k : Int) := by omega
          have HO : Hid (okK (k : Int) p q (t + 1) = true) := Lib.hid (by rw [okK_isL, hoK.out]; simp [isL, h1', h2', h3', h4'])
          clear hno h1 h2 h3 h4
          go_wp2_with fail
          go_round
          case rel => exact ⟨t + 1, by omega, by go_num, HO⟩
          case measure => simp [intOf]; omega
        · obtain rfl : t = len := by omega
          have HV : Hid ((okL n f k && okK (k : Int) p q t) = true) := Lib.hid (by rw [hok.out, hoK.out]; rfl)
          have HT : Hid (Things k p q t) := Lib.hid (fun i hi => by have := okK_at hoK.out hi; omega)
          clear hlt ht
          obtain ⟨w2, rfl⟩ : ∃ w2 : World, w2 = wr := ⟨_, rfl⟩
          go_wp2_with fail
          go_loopg [11] (8 * k) (fun j iv wr => ∃ r : Nat, Hid (j + r = 8 * k) ∧ r ≤ 8 * k ∧ iv = .int .i64 r ∧ RR w wr cs go k (roK n A p q t f r))
          case atStart => exact ⟨0, Lib.hid (by omega), Nat.zero_le _, rfl, hW⟩
          case round =>
            obtain ⟨r, HJr, hr, rfl, hWr⟩ := hrel
            clear hW
            by_cases hltr : r < 8 * k
            · have hr1 : (r : Int) < 8 * (k : Int) := by omega
              obtain ⟨w3, rfl⟩ : ∃ w3 : World, w3 = wr := ⟨_, rfl⟩
              go_wp2_with fail
              go_loopg [12] t (fun j iv wr => ∃ i : Nat, Hid (j + i = t) ∧ i ≤ t ∧ iv = .int .i64 i ∧ RR w wr cs go k (edK n A p q (roK n A p q t f r) i))
              case atStart => exact ⟨0, Lib.hid rfl, Nat.zero_le _, rfl, hWr⟩
              case round =>
                obtain ⟨i, HJi, hi, rfl, hWi⟩ := hrel
                clear hWr
                by_cases hlt : i < t
                · obtain ⟨g1, o1, rfl, hg1, hc1⟩ := hp (by omega)
                  have hki := okK_at hoK.out hlt
                  obtain ⟨x, hx⟩ : ∃ x : Nat, p i = (x : Int) := ⟨(p i).toNat, by omega⟩
                  obtain ⟨y, hy⟩ : ∃ y : Nat, q i = (y : Int) := ⟨(q i).toNat, by omega⟩
                  have HX : Hid ((p i).toNat = x) := Lib.hid (by omega)
                  have HY : Hid ((q i).toNat = y) := Lib.hid (by omega)
                  have hxm : x < k := by omega
                  have hym : y < k := by omega
                  have d0 := (hWi.below.cell (p := ⟨g1, o1 + i * 2, none⟩) hg1).trans (hc1 i hlt).1
                  have d1 := (hWi.below.cell (p := ⟨g1, o1 + i * 2 + 1, none⟩) hg1).trans (hc1 i hlt).2
                  rw [hx] at d0
                  rw [hy] at d1
                  have hi0 : (0 : Int) ≤ i := by omega
                  have hi1 : (i : Int) < t := by omega
                  have hu := (ui_rounds hG HT.out HF.out r).edges hG HT.out i (by omega)
                  have IX := Lib.hid (hu.isL hxm)
                  have IY := Lib.hid (hu.isL hym)
                  have HN : Hid (edK n A p q (roK n A p q t f r) (i + 1) = updI (edK n A p q (roK n A p q t f r) i) y (jI n A (edK n A p q (roK n A p q t f r) i x) (edK n A p q (roK n A p q t f r) i y))) := Lib.hid (by
                    rw [edK, edStep, HX.out, HY.out])
                  clear hx hy hki hc1 hu hR hp
                  generalize edK n A p q (roK n A p q t f r) i = c at *
                  go_wp2_with fail
                  go_quiet (fail)
                  go_wp2_with fail
                  have hW4 := (hWi.drewN nq).drew
                  clear hWi d0 d1
                  generalize wr.drewN nq = w4 at *
                  have l5 := hW4.box
                  have cx := hW4.lab.cell hxm
                  have cy := hW4.lab.cell hym
                  refine wp_region_held_drew (S := fun W => W.heap[w.heap.size]? = some (.cells cs 28 (0, 0))) (by kernel_rfl) l5 (fun _ => ?_)
                  refine takeH (i := 0) (some 94) (.slice (some ⟨go, 0, none⟩) k cap1) rfl rfl (by kernel_rfl) (by kernel_rfl) (by kernel_rfl) (fun _ _ _ h => h) l5 (by kernel_rfl) (fun _ _ => by kernel_rfl) ?_
                  refine takeH (i := 1) (some 95) (.int .i64 (y : Int)) rfl rfl (by kernel_rfl) (by kernel_rfl) (by kernel_rfl) (fun _ _ _ h => h) l5 (by kernel_rfl) (fun _ _ => by kernel_rfl) ?_
                  refine loadH (i := 2) (.tmp 3) (some 96) w.heap.size cs rfl rfl (by kernel_rfl) (by kernel_rfl) (by kernel_rfl) (fun _ _ _ h => h) l5 (by kernel_rfl) rfl (by kernel_rfl) hsz.out (fun _ h => h) ?_
                  refine takeH (i := 3) (some 97) (.slice (some ⟨go, 0, none⟩) k cap1) rfl rfl (by kernel_rfl) (by kernel_rfl) (by kernel_rfl) (fun _ _ _ h => h) l5 (by kernel_rfl) (fun _ _ => by kernel_rfl) ?_
                  refine takeH (i := 4) (some 98) (.int .i64 (x : Int)) rfl rfl (by kernel_rfl) (by kernel_rfl) (by kernel_rfl) (fun _ _ _ h => h) l5 (by kernel_rfl) (fun _ _ => by kernel_rfl) ?_
                  refine takeH (i := 5) (some 99) (.pointer (some ⟨go, x, none⟩)) rfl rfl (by kernel_rfl) (by kernel_rfl) (by kernel_rfl) (fun _ _ _ h => h) l5 (by kernel_rfl) (fun W _ => run_idx (.tmp 97) (.tmp 98) rfl go k cap1 x (by kernel_rfl) (by kernel_rfl) hxm) ?_
                  refine takeH (i := 7) (some 101) (.slice (some ⟨go, 0, none⟩) k cap1) rfl rfl (by kernel_rfl) (by kernel_rfl) (by kernel_rfl) (fun _ _ _ h => h) l5 (by kernel_rfl) (fun _ _ => by kernel_rfl) ?_
                  refine takeH (i := 8) (some 102) (.int .i64 (y : Int)) rfl rfl (by kernel_rfl) (by kernel_rfl) (by kernel_rfl) (fun _ _ _ h => h) l5 (by kernel_rfl) (fun _ _ => by kernel_rfl) ?_
                  refine takeH (i := 9) (some 103) (.pointer (some ⟨go, y, none⟩)) rfl rfl (by kernel_rfl) (by kernel_rfl) (by kernel_rfl) (fun _ _ _ h => h) l5 (by kernel_rfl) (fun W _ => run_idx (.tmp 101) (.tmp 102) rfl go k cap1 y (by kernel_rfl) (by kernel_rfl) hym) ?_
                  refine pairH (i := 6) (j := 10) 100 104 (by decide) (.int .i64 (c x)) (.int .i64 (c y)) rfl rfl rfl rfl (by kernel_rfl) (by kernel_rfl) (by kernel_rfl) (by kernel_rfl) l5 (by kernel_rfl) (run_ld3 (.tmp 99) rfl ⟨go, x, none⟩ (by kernel_rfl) (c x) cx) (by kernel_rfl) (run_ld3 (.tmp 103) rfl ⟨go, y, none⟩ (by kernel_rfl) (c y) cy) (by kernel_rfl) (run_ld3 (.tmp 99) rfl ⟨go, x, none⟩ (by kernel_rfl) (c x) cx) (by kernel_rfl) (run_ld3 (.tmp 103) rfl ⟨go, y, none⟩ (by kernel_rfl) (c y) cy) ?_
                  refine callH (i := 11) 35 #[.agg cs, .int .i64 (c x), .int .i64 (c y)] (some 105) rfl (by kernel_rfl) rfl (by kernel_rfl) (by kernel_rfl) ?_
                  refine (rJoinI hG h (c x) (c y) IX.out IY.out _).mono ?_
                  rintro e w6 ⟨rfl, hb6⟩
                  have hW6 := hW4.keep hb6
                  have l6 := hW6.box
                  refine ⟨_, rfl, l6, ?_⟩
                  clear hW4 hb6 cx cy l5
                  generalize jI n A (c x) (c y) = z at *
                  have hW7 := hW6.set y z
                  refine takeH (i := 12) (some 106) (.pointer (some ⟨go, y, none⟩)) rfl rfl (by kernel_rfl) (by kernel_rfl) (by kernel_rfl) (fun _ _ _ h => h) l6 (by kernel_rfl) (fun W _ => run_idx (.tmp 94) (.tmp 95) rfl go k cap1 y (by kernel_rfl) (by kernel_rfl) hym) ?_
                  have hxx := hW6.lab.cell hym
                  have hff := hW6.lab.free y
                  refine storeH (i := 13) (.tmp 106) (.tmp 105) none rfl (by kernel_rfl) rfl (by kernel_rfl) rfl ⟨go, y, none⟩ z (c y) (by kernel_rfl) (by kernel_rfl) hxx hff hW7.box ?_
                  clear hxx hff
                  refine wpAnyH_done (by kernel_rfl) ?_ _
                  go_simp
                  clear hW6 l6
                  generalize w6.setCell ⟨go, y, none⟩ (.int .i64 z) = w7 at *
                  go_wp2_with fail
                  go_roundg (t - (i + 1))
                  case rel => exact ⟨i + 1, Lib.hid (by omega), by omega, by go_num, by rw [HN.out]; exact hW7⟩
                  case measure => have := HJi.out; omega
                · obtain rfl : i = t := by omega
                  go_wp2_with fail
                  go_roundg (8 * k - (r + 1))
                  case rel => exact ⟨r + 1, Lib.hid (by omega), by omega, by go_num, hWi⟩
                  case measure => have := HJr.out; omega
            · obtain rfl : r = 8 * k := by omega
              go_wp2_with fail
              go_ret2
              exact .inl ⟨HV.out, go, cap1, rfl, hWr.lab, hWr.below⟩
end Go.Proofs.Ytmnbalmihehodaa
