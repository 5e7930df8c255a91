/-
  Contracts of basculeref02: All, Visible, High.
-/
import Derived.Test.YtmnbalmihehodaaSee
import Derived.Test.YtmnbalmihehodaaReady
import Derived.Deep.LoopGhost
namespace Go.Proofs.Ytmnbalmihehodaa
open Go.RowKit

/-- The document's join, or meet, of a list; -1: one is no label. -/
def allV (n : Nat) (op : Nat → Nat → Nat) (s : Nat) (f : Nat → Int) (len : Nat) : Int := if okL n f len then (fo op s f len : Nat) else -1

set_option maxHeartbeats 1000000 in
theorem rAll_join {cs : Array Value} {n : Nat} {A B : Nat → Nat} {L : Nat → Nat → Bool} (hG : GLat n A B L) (h : RLat cs n L) (C : Option Addr) (m capl : Nat) (f : Nat → Int) (w : World) (hm : m ≤ 1000) (hR : Rd w w.heap.size C m f) :
    Calls Try.prog 13 #[.agg cs, .slice C m capl, .bool false] w fun e w' => e = .returned (.int .i64 (allV n (jn n A) (botK n A n) f m)) ∧ Below w.heap.size w w' := by
  have hg : (w.alloc (.cells cs 28)).heap[w.heap.size]? = some (.cells cs 28 (0, 0)) := heap_alloc_new w _
  have hb : Below w.heap.size w (w.alloc (.cells cs 28)) := (Below.refl _ _).alloc (Nat.le_refl _) _
  have n8 := h.n8
  have hsz := Lib.hid h.sz
  have hs1 : w.heap.size < (w.alloc (.cells cs 28)).heap.size := by simp
  go_enter Try.func13, Try.ntmps13
  go_wp2_with (first | (refine ld31 rfl _ rfl _ rfl _ hg hsz.out ?_) | fail)
  refine (rBottom_any _ h hG.pos hG.lat.dual.join).mono ?_
  rintro e w1 ⟨rfl, hb1⟩
  rw [← botK_eq hG.up hG.lat hG.pos]
  have hbw := hb.trans (hb1.mono hb.size)
  have hgw : Hid (w1.heap[w.heap.size]? = some (.cells cs 28 (0, 0))) := Lib.hid ((hb1.block _ hs1).trans hg)
  clear hb hb1 hg hs1
  go_wp2_with fail
  go_loopg [7, 8] m (fun j xv iv wr => ∃ k : Nat, Hid (j + k = m) ∧ k ≤ m ∧ iv = .int .i64 k ∧ xv = .int .i64 (fo (jn n A) (botK n A n) f k : Nat) ∧ Hid (okL n f k = true) ∧ Below w.heap.size w wr ∧ Hid (wr.heap[w.heap.size]? = some (.cells cs 28 (0, 0))))
  case atStart => exact ⟨0, Lib.hid rfl, Nat.zero_le _, rfl, rfl, rfl, hbw, hgw⟩
  case round =>
    obtain ⟨k, HJ, hk, rfl, rfl, hok, hbr, hgr⟩ := hrel
    clear hbw hgw
    by_cases hlt : k < m
    · obtain ⟨g1, o1, rfl, hg1, hc1⟩ := hR (by omega)
      have d1 := (hbr.cell (p := ⟨g1, o1 + k, none⟩) hg1).trans (hc1 k hlt)
      have hk0 : (0 : Int) ≤ k := by omega
      have hk1 : (k : Int) < m := by omega
      have hlt2 := (Array.getElem?_eq_some_iff.1 hgr.out).1
      clear hR hc1
      have Hx0 := Lib.hid (fo_lt hG.jn_lt hG.bot_lt k hok.out)
      cases hx : isL n (f k)
      · have HV : Hid (allV n (jn n A) (botK n A n) f m = -1) := Lib.hid (by
          have : okL n f m = false := okL_mono (k := k + 1) (by rw [okL_succ, hok.out, hx]; rfl) (by omega)
          rw [allV, this]; rfl)
        have Hx := Lib.hid hx
        clear hx
        go_wp2_with fail
        refine wp_region_still_tail 5 (by kernel_rfl) (by kernel_rfl) ?_
        simp only [List.take_succ_cons, List.take_zero, List.drop_succ_cons, List.drop_zero]
        refine still_ld31 rfl (.tmp 3) rfl w.heap.size rfl cs hgr.out hsz.out ?_
        repeat still_step
        refine wpStill_nil ?_
        change wpList _ _ _ _ _ wr.drew
        go_wp2_with fail
        refine (Is_any (f k) _ h).mono ?_
        rintro e w2 ⟨rfl, hb2⟩
        rw [Hx.out]
        have hb3 := hbr.drew.trans (hb2.mono hbr.size)
        clear hb2 hbr hgr
        go_wp2_with fail
        go_ret
        exact ⟨by rw [HV.out]; rfl, hb3⟩
      · have HO : Hid (okL n f (k + 1) = true) := Lib.hid (by rw [okL_succ, hok.out, hx]; rfl)
        obtain ⟨x0, x1⟩ := isL_iff.1 hx
        obtain ⟨y, hy⟩ : ∃ y : Nat, f k = (y : Int) := ⟨(f k).toNat, by omega⟩
        have hyn : y < n := by omega
        rw [hy] at d1 hx
        have HF : Hid (fo (jn n A) (botK n A n) f (k + 1) = jn n A (fo (jn n A) (botK n A n) f k) y) := Lib.hid (by rw [fo, hy, Int.toNat_natCast])
        have HJn : Hid (rV (rJ n L (fo (jn n A) (botK n A n) f k) y) = (jn n A (fo (jn n A) (botK n A n) f k) y : Nat)) := Lib.hid (by rw [hG.rJ_eq Hx0.out hyn]; rfl)
        have Hx := Lib.hid hx
        clear hx hy x0 x1
        generalize fo (jn n A) (botK n A n) f k = z at *
        go_wp2_with fail
        refine wp_region_still_tail 5 (by kernel_rfl) (by kernel_rfl) ?_
        simp only [List.take_succ_cons, List.take_zero, List.drop_succ_cons, List.drop_zero]
        refine still_ld31 rfl (.tmp 3) rfl w.heap.size rfl cs hgr.out hsz.out ?_
        repeat still_step
        refine wpStill_nil ?_
        change wpList _ _ _ _ _ wr.drew
        go_wp2_with fail
        refine (Is_any (y : Int) _ h).mono ?_
        rintro e w2 ⟨rfl, hb2⟩
        rw [Hx.out]
        have hb3 := hbr.drew.trans (hb2.mono hbr.size)
        have hg3 := (hb2.block _ hlt2).trans hgr.out
        have hlt3 := (Array.getElem?_eq_some_iff.1 hg3).1
        have d3 := (hb2.cell (p := ⟨g1, o1 + k, none⟩) (Nat.lt_of_lt_of_le hg1 hbr.size)).trans d1
        clear hb2 hbr hgr d1 hlt2
        go_wp2_with fail
        refine wp_region_still_tail 6 (by kernel_rfl) (by kernel_rfl) ?_
        simp only [List.take_succ_cons, List.take_zero, List.drop_succ_cons, List.drop_zero]
        refine still_ld31 rfl (.tmp 3) rfl w.heap.size rfl cs hg3 hsz.out ?_
        repeat still_step
        refine wpStill_nil ?_
        change wpList _ _ _ _ _ w2.drew
        go_wp2_with fail
        refine (rJoin_any z y _ h Hx0.out hyn).mono ?_
        rintro e w4 ⟨rfl, hb4⟩
        rw [HJn.out]
        have hb5 := hb3.drew.trans (hb4.mono hb3.size)
        have hg5 : Hid (w4.heap[w.heap.size]? = some (.cells cs 28 (0, 0))) := Lib.hid ((hb4.block _ hlt3).trans hg3)
        clear hb4 hb3 hg3 d3
        go_wp2_with fail
        go_roundg (m - (k + 1))
        case rel => exact ⟨k + 1, Lib.hid (by omega), by omega, by go_num, by rw [HF.out], HO, hb5, hg5⟩
        case measure => have := HJ.out; omega
    · obtain rfl : k = m := by omega
      have HV : Hid (allV n (jn n A) (botK n A n) f k = (fo (jn n A) (botK n A n) f k : Nat)) := Lib.hid (by rw [allV, hok.out]; rfl)
      go_wp2_with fail
      go_ret
      exact ⟨by rw [HV.out]; rfl, hbr⟩

set_option maxHeartbeats 1000000 in
theorem rAll_meet {cs : Array Value} {n : Nat} {A B : Nat → Nat} {L : Nat → Nat → Bool} (hG : GLat n A B L) (h : RLat cs n L) (C : Option Addr) (m capl : Nat) (f : Nat → Int) (w : World) (hm : m ≤ 1000) (hR : Rd w w.heap.size C m f) :
    Calls Try.prog 13 #[.agg cs, .slice C m capl, .bool true] w fun e w' => e = .returned (.int .i64 (allV n (jn n B) (topK n A n) f m)) ∧ Below w.heap.size w w' := by
  have hg : (w.alloc (.cells cs 28)).heap[w.heap.size]? = some (.cells cs 28 (0, 0)) := heap_alloc_new w _
  have hb : Below w.heap.size w (w.alloc (.cells cs 28)) := (Below.refl _ _).alloc (Nat.le_refl _) _
  have n8 := h.n8
  have hsz := Lib.hid h.sz
  have hs1 : w.heap.size < (w.alloc (.cells cs 28)).heap.size := by simp
  go_enter Try.func13, Try.ntmps13
  go_wp2_with (first | (refine ld31 rfl _ rfl _ rfl _ hg hsz.out ?_) | fail)
  refine (rBottom_any _ h hG.pos hG.lat.dual.join).mono ?_
  rintro e w1 ⟨rfl, hb1⟩
  have hb2 := hb.trans (hb1.mono hb.size)
  have hg2 := (hb1.block _ hs1).trans hg
  have hs2 := (Array.getElem?_eq_some_iff.1 hg2).1
  clear hb hb1 hg hs1
  go_wp2_with (first | (refine ld31 rfl _ rfl _ rfl _ hg2 hsz.out ?_) | fail)
  refine (rTop_any _ h hG.pos hG.lat.join).mono ?_
  rintro e w3 ⟨rfl, hb3⟩
  rw [← topK_eq hG.up hG.lat hG.pos]
  have hbw := hb2.trans (hb3.mono hb2.size)
  have hgw : Hid (w3.heap[w.heap.size]? = some (.cells cs 28 (0, 0))) := Lib.hid ((hb3.block _ hs2).trans hg2)
  clear hb2 hb3 hg2 hs2
  go_wp2_with fail
  go_loopg [7, 8] m (fun j xv iv wr => ∃ k : Nat, Hid (j + k = m) ∧ k ≤ m ∧ iv = .int .i64 k ∧ xv = .int .i64 (fo (jn n B) (topK n A n) f k : Nat) ∧ Hid (okL n f k = true) ∧ Below w.heap.size w wr ∧ Hid (wr.heap[w.heap.size]? = some (.cells cs 28 (0, 0))))
  case atStart => exact ⟨0, Lib.hid rfl, Nat.zero_le _, rfl, rfl, rfl, hbw, hgw⟩
  case round =>
    obtain ⟨k, HJ, hk, rfl, rfl, hok, hbr, hgr⟩ := hrel
    clear hbw hgw
    by_cases hlt : k < m
    · obtain ⟨g1, o1, rfl, hg1, hc1⟩ := hR (by omega)
      have d1 := (hbr.cell (p := ⟨g1, o1 + k, none⟩) hg1).trans (hc1 k hlt)
      have hk0 : (0 : Int) ≤ k := by omega
      have hk1 : (k : Int) < m := by omega
      have hlt2 := (Array.getElem?_eq_some_iff.1 hgr.out).1
      clear hR hc1
      have Hx0 := Lib.hid (fo_lt hG.mt_lt hG.top_lt k hok.out)
      cases hx : isL n (f k)
      · have HV : Hid (allV n (jn n B) (topK n A n) f m = -1) := Lib.hid (by
          have : okL n f m = false := okL_mono (k := k + 1) (by rw [okL_succ, hok.out, hx]; rfl) (by omega)
          rw [allV, this]; rfl)
        have Hx := Lib.hid hx
        clear hx
        go_wp2_with fail
        refine wp_region_still_tail 5 (by kernel_rfl) (by kernel_rfl) ?_
        simp only [List.take_succ_cons, List.take_zero, List.drop_succ_cons, List.drop_zero]
        refine still_ld31 rfl (.tmp 3) rfl w.heap.size rfl cs hgr.out hsz.out ?_
        repeat still_step
        refine wpStill_nil ?_
        change wpList _ _ _ _ _ wr.drew
        go_wp2_with fail
        refine (Is_any (f k) _ h).mono ?_
        rintro e w2 ⟨rfl, hb2⟩
        rw [Hx.out]
        have hb3 := hbr.drew.trans (hb2.mono hbr.size)
        clear hb2 hbr hgr
        go_wp2_with fail
        go_ret
        exact ⟨by rw [HV.out]; rfl, hb3⟩
      · have HO : Hid (okL n f (k + 1) = true) := Lib.hid (by rw [okL_succ, hok.out, hx]; rfl)
        obtain ⟨x0, x1⟩ := isL_iff.1 hx
        obtain ⟨y, hy⟩ : ∃ y : Nat, f k = (y : Int) := ⟨(f k).toNat, by omega⟩
        have hyn : y < n := by omega
        rw [hy] at d1 hx
        have HF : Hid (fo (jn n B) (topK n A n) f (k + 1) = jn n B (fo (jn n B) (topK n A n) f k) y) := Lib.hid (by rw [fo, hy, Int.toNat_natCast])
        have HJn : Hid (rV (rJ n (flip L) (fo (jn n B) (topK n A n) f k) y) = (jn n B (fo (jn n B) (topK n A n) f k) y : Nat)) := Lib.hid (by rw [hG.rM_eq Hx0.out hyn]; rfl)
        have Hx := Lib.hid hx
        clear hx hy x0 x1
        generalize fo (jn n B) (topK n A n) f k = z at *
        go_wp2_with fail
        refine wp_region_still_tail 5 (by kernel_rfl) (by kernel_rfl) ?_
        simp only [List.take_succ_cons, List.take_zero, List.drop_succ_cons, List.drop_zero]
        refine still_ld31 rfl (.tmp 3) rfl w.heap.size rfl cs hgr.out hsz.out ?_
        repeat still_step
        refine wpStill_nil ?_
        change wpList _ _ _ _ _ wr.drew
        go_wp2_with fail
        refine (Is_any (y : Int) _ h).mono ?_
        rintro e w2 ⟨rfl, hb2⟩
        rw [Hx.out]
        have hb3 := hbr.drew.trans (hb2.mono hbr.size)
        have hg3 := (hb2.block _ hlt2).trans hgr.out
        have hlt3 := (Array.getElem?_eq_some_iff.1 hg3).1
        have d3 := (hb2.cell (p := ⟨g1, o1 + k, none⟩) (Nat.lt_of_lt_of_le hg1 hbr.size)).trans d1
        clear hb2 hbr hgr d1 hlt2
        go_wp2_with fail
        refine wp_region_still_tail 6 (by kernel_rfl) (by kernel_rfl) ?_
        simp only [List.take_succ_cons, List.take_zero, List.drop_succ_cons, List.drop_zero]
        refine still_ld31 rfl (.tmp 3) rfl w.heap.size rfl cs hg3 hsz.out ?_
        repeat still_step
        refine wpStill_nil ?_
        change wpList _ _ _ _ _ w2.drew
        go_wp2_with fail
        refine (rMeet_any z y _ h Hx0.out hyn).mono ?_
        rintro e w4 ⟨rfl, hb4⟩
        rw [HJn.out]
        have hb5 := hb3.drew.trans (hb4.mono hb3.size)
        have hg5 : Hid (w4.heap[w.heap.size]? = some (.cells cs 28 (0, 0))) := Lib.hid ((hb4.block _ hlt3).trans hg3)
        clear hb4 hb3 hg3 d3
        go_wp2_with fail
        go_roundg (m - (k + 1))
        case rel => exact ⟨k + 1, Lib.hid (by omega), by omega, by go_num, by rw [HF.out], HO, hb5, hg5⟩
        case measure => have := HJ.out; omega
    · obtain rfl : k = m := by omega
      have HV : Hid (allV n (jn n B) (topK n A n) f k = (fo (jn n B) (topK n A n) f k : Nat)) := Lib.hid (by rw [allV, hok.out]; rfl)
      go_wp2_with fail
      go_ret
      exact ⟨by rw [HV.out]; rfl, hbr⟩

theorem rLeqB_any {cs : Array Value} {n : Nat} {A B : Nat → Nat} {L : Nat → Nat → Bool} (hG : GLat n A B L) (a b : Int) (w : World) (h : RLat cs n L) :
    Calls Try.prog 36 #[.agg cs, .int .i64 a, .int .i64 b] w fun e w' => e = .returned (.bool (leqB n A a b)) ∧ Below w.heap.size w w' := by
  rw [hG.up.leq_eq]
  exact rLeq_any a b w h

theorem app_hit1 {K K' : List Nat} {k : Nat} {w wr w1 : World} {u v' : Value} {o : Obj} (hK : K' = K ++ [k]) (hB : w.heap.size + 1 ≤ wr.heap.size)
    (hown : wr.ownsRow (w.heap.size + 1) 3 1 u K.length (intsOf K)) (hnx : Below w.heap.size w wr)
    (hown' : w1.ownsRow (w.heap.size + 1) 3 1 v' (K.length + 1) (intsOf K ++ [.int .i64 (k : Int)])) (hgrow : (wr.alloc o).grownBy w1 u.ownBlock) :
    w1.ownsRow (w.heap.size + 1) 3 1 v' K'.length (intsOf K') ∧ Below w.heap.size w w1 ∧ Below (w.heap.size + 1) wr w1 := row_hit hK hB hown hnx hown' hgrow

set_option maxHeartbeats 1000000 in
theorem rVis_any {cs : Array Value} {n : Nat} {A B : Nat → Nat} {L : Nat → Nat → Bool} (hG : GLat n A B L) (h : RLat cs n L) (lev : Int) (C : Option Addr) (m capl : Nat) (f : Nat → Int) (w : World) (hm : m ≤ 1000) (hR : Rd w w.heap.size C m f) :
    Calls Try.prog 16 #[.agg cs, .int .i64 lev, .slice C m capl] w (GivesRow1 (pick (fun i => leqB n A (f i) lev) m) w) := by
  obtain ⟨i0, hi, hz0, hz1, hz2⟩ := info_parts Try.info3
  have hg : (w.alloc (.cells cs 28)).heap[w.heap.size]? = some (.cells cs 28 (0, 0)) := heap_alloc_new w _
  have hb : Below w.heap.size w (w.alloc (.cells cs 28)) := (Below.refl _ _).alloc (Nat.le_refl _) _
  have hsz := Lib.hid h.sz
  go_enter Try.func16, Try.ntmps16
  go_wp2_with fail
  go_loopg [7, 8] m (fun j v iv wr => ∃ k : Nat, Hid (j + k = m) ∧ k ≤ m ∧ iv = .int .i64 k ∧ wr.ownsRow (w.heap.size + 1) 3 1 v (pick (fun i => leqB n A (f i) lev) k).length (intsOf (pick (fun i => leqB n A (f i) lev) k)) ∧ Below w.heap.size w wr ∧ Hid (wr.heap[w.heap.size]? = some (.cells cs 28 (0, 0))))
  case atStart => exact ⟨0, Lib.hid rfl, Nat.zero_le _, rfl, ⟨rfl, .inl ⟨rfl, rfl⟩⟩, hb, hg⟩
  case round =>
    obtain ⟨k, HJ, hk, rfl, hown, hbr, hgr⟩ := hrel
    clear hb hg
    by_cases hlt : k < m
    · obtain ⟨g1, o1, rfl, hg1, hc1⟩ := hR (by omega)
      have d1 := (hbr.cell (p := ⟨g1, o1 + k, none⟩) hg1).trans (hc1 k hlt)
      have hl := pick_le (fun i => leqB n A (f i) lev) k
      have hk0 : (0 : Int) ≤ k := by omega
      have hk1 : (k : Int) < m := by omega
      have hlt2 := (Array.getElem?_eq_some_iff.1 hgr.out).1
      clear hR hc1
      cases hc : leqB n A (f k) lev
      · have Hn := Lib.hid (pick_miss (P := fun i => leqB n A (f i) lev) (k := k) hc)
        have Hc := Lib.hid hc
        clear hc
        go_wp2_with fail
        refine wp_region_still_tail 6 (by kernel_rfl) (by kernel_rfl) ?_
        simp only [List.take_succ_cons, List.take_zero, List.drop_succ_cons, List.drop_zero]
        refine still_ld31 rfl (.tmp 3) rfl w.heap.size rfl cs hgr.out hsz.out ?_
        repeat still_step
        refine wpStill_nil ?_
        change wpList _ _ _ _ _ wr.drew
        go_wp2_with fail
        refine (rLeqB_any hG (f k) lev _ h).mono ?_
        rintro e w2 ⟨rfl, hb2⟩
        rw [Hc.out]
        have hb3 := hbr.drew.trans (hb2.mono hbr.size)
        have hg3 : Hid (w2.heap[w.heap.size]? = some (.cells cs 28 (0, 0))) := Lib.hid ((hb2.block _ hlt2).trans hgr.out)
        have hown3 := own_below (w := wr.drew) hown hb2
        clear hb2 hbr hgr hown
        go_wp2_with fail
        go_roundg (m - (k + 1))
        case rel => exact ⟨k + 1, Lib.hid (by omega), by omega, by go_num, by rw [Hn.out]; exact hown3, hb3, hg3⟩
        case measure => have := HJ.out; omega
      · have Hn := Lib.hid (pick_hit (P := fun i => leqB n A (f i) lev) (k := k) hc)
        have Hc := Lib.hid hc
        clear hc
        generalize pick (fun i => leqB n A (f i) lev) k = K at *
        go_wp2_with fail
        refine wp_region_still_tail 6 (by kernel_rfl) (by kernel_rfl) ?_
        simp only [List.take_succ_cons, List.take_zero, List.drop_succ_cons, List.drop_zero]
        refine still_ld31 rfl (.tmp 3) rfl w.heap.size rfl cs hgr.out hsz.out ?_
        repeat still_step
        refine wpStill_nil ?_
        change wpList _ _ _ _ _ wr.drew
        go_wp2_with fail
        refine (rLeqB_any hG (f k) lev _ h).mono ?_
        rintro e w2 ⟨rfl, hb2⟩
        rw [Hc.out]
        have hb3 := hbr.drew.trans (hb2.mono hbr.size)
        have hg3 := (hb2.block _ hlt2).trans hgr.out
        have hG3 := Lib.hid hg3
        have hown3 := own_below (w := wr.drew) hown hb2
        have hlt3 := (Array.getElem?_eq_some_iff.1 hg3).1
        clear hb2 hbr hgr hown hg3
        go_wp2_with (at_builtin; refine wpList_append_own _ rfl _ _ 23 rfl (w.heap.size + 1) 3 i0 (.int .i64 0) 1 8 Try.underlying23 hi hz0 hz1 hz2 rfl (by decide) _ _ _ rfl (hown3.alloc _) ⟨_, 0, none⟩ 1 1 [.int .i64 (k : Int)] rfl rfl ?c1 ?c2 ?c3 ?c4 ?c5 ?_)
        case c1 => intro j u hu; match j, hu with | 0, hu => (cases hu; show (w2.alloc _).cell? ⟨w2.heap.size, 0, none⟩ = _; rw [World.cell?_alloc_at _ _ _ _ rfl]; rfl)
        case c2 => simp [Value.oneCell']
        case c3 => unfold maxLen; omega
        case c4 => omega
        case c5 => simp; omega
        intro v' w4 hown4 hgrow _
        obtain ⟨g1', g2', g3'⟩ := app_hit1 Hn.out (by omega) hown3 hb3 hown4 hgrow
        have hg4 : Hid (w4.heap[w.heap.size]? = some (.cells cs 28 (0, 0))) := Lib.hid ((g3'.block _ (by omega)).trans hG3.out)
        clear hown4 hgrow hown3 hb3 g3'
        go_wp2_with fail
        go_roundg (m - (k + 1))
        case rel => exact ⟨k + 1, Lib.hid (by omega), by omega, by go_num, g1', g2', hg4⟩
        case measure => have := HJ.out; omega
    · obtain rfl : k = m := by omega
      go_wp2_with fail
      go_ret
      exact ⟨_, rfl, hown, hbr⟩

set_option maxHeartbeats 1000000 in
theorem rHigh_any {cs : Array Value} {n : Nat} {A B : Nat → Nat} {L : Nat → Nat → Bool} (hG : GLat n A B L) (h : RLat cs n L) (lev : Int) (w : World) :
    Calls Try.prog 18 #[.agg cs, .int .i64 lev] w (GivesRow1 (pick (fun a => !leqB n A (a : Int) lev) n) w) := by
  obtain ⟨i0, hi, hz0, hz1, hz2⟩ := info_parts Try.info3
  have hg : (w.alloc (.cells cs 28)).heap[w.heap.size]? = some (.cells cs 28 (0, 0)) := heap_alloc_new w _
  have hb : Below w.heap.size w (w.alloc (.cells cs 28)) := (Below.refl _ _).alloc (Nat.le_refl _) _
  have n8 := h.n8
  have hsz := Lib.hid h.sz
  go_enter Try.func18, Try.ntmps18
  go_wp2_with fail
  go_loopw [5, 6] (fun v i wr => ∃ k : Nat, k ≤ n ∧ i = .int .i64 k ∧ wr.ownsRow (w.heap.size + 1) 3 1 v (pick (fun a => !leqB n A (a : Int) lev) k).length (intsOf (pick (fun a => !leqB n A (a : Int) lev) k)) ∧ Below w.heap.size w wr ∧ Hid (wr.heap[w.heap.size]? = some (.cells cs 28 (0, 0)))) (fun _ i _ => n - (intOf i).toNat)
  case atStart => exact ⟨0, Nat.zero_le _, rfl, ⟨rfl, .inl ⟨rfl, rfl⟩⟩, hb, hg⟩
  case round =>
    obtain ⟨k, hk, rfl, hown, hnx, hgr⟩ := hrel
    have hnum := (cell_of_heap hgr.out 0).trans h.num
    have hlt := (Array.getElem?_eq_some_iff.1 hgr.out).1
    by_cases hlk : k < n
    · have hl := pick_le (fun a => !leqB n A (a : Int) lev) k
      cases hc : leqB n A (k : Int) lev
      · have Hn := Lib.hid (pick_hit (P := fun a => !leqB n A (a : Int) lev) (k := k) (by simp [hc]))
        have Hc := Lib.hid hc
        clear hc
        generalize pick (fun a => !leqB n A (a : Int) lev) k = K at *
        go_wp2_with (first | (refine ld31 rfl _ rfl _ rfl _ hgr.out hsz.out ?_) | fail)
        refine (rLeqB_any hG _ _ _ h).mono ?_
        rintro e w1 ⟨rfl, hb1⟩
        rw [Hc.out]
        have hb2 := hnx.trans (hb1.mono hnx.size)
        have hg2 := (hb1.block _ hlt).trans hgr.out
        have hG2 := Lib.hid hg2
        have hown2 := own_below hown hb1
        have hlt2 := (Array.getElem?_eq_some_iff.1 hg2).1
        clear hnx hgr hb1 hown hg2
        go_wp2_with (at_builtin; refine wpList_append_own _ rfl _ _ 23 rfl (w.heap.size + 1) 3 i0 (.int .i64 0) 1 8 Try.underlying23 hi hz0 hz1 hz2 rfl (by decide) _ _ _ rfl (hown2.alloc _) ⟨_, 0, none⟩ 1 1 [.int .i64 (k : Int)] rfl rfl ?c1 ?c2 ?c3 ?c4 ?c5 ?_)
        case c1 => intro j u hu; match j, hu with | 0, hu => (cases hu; show (w1.alloc _).cell? ⟨w1.heap.size, 0, none⟩ = _; rw [World.cell?_alloc_at _ _ _ _ rfl]; rfl)
        case c2 => simp [Value.oneCell']
        case c3 => unfold maxLen; omega
        case c4 => omega
        case c5 => simp; omega
        intro v' w3 hown3 hgrow _
        obtain ⟨g1, g2, g3⟩ := app_hit1 Hn.out (by omega) hown2 hb2 hown3 hgrow
        have hg4 : Hid (w3.heap[w.heap.size]? = some (.cells cs 28 (0, 0))) := Lib.hid ((g3.block _ (by omega)).trans hG2.out)
        clear hown3 hgrow hown2 hb2 g3
        go_wp2_with fail
        go_roundw
        case rel => exact ⟨k + 1, by omega, by go_num, g1, g2, hg4⟩
        case measure => simp [intOf]; omega
      · have Hn := Lib.hid (pick_miss (P := fun a => !leqB n A (a : Int) lev) (k := k) (by simp [hc]))
        have Hc := Lib.hid hc
        clear hc
        go_wp2_with (first | (refine ld31 rfl _ rfl _ rfl _ hgr.out hsz.out ?_) | fail)
        refine (rLeqB_any hG _ _ _ h).mono ?_
        rintro e w1 ⟨rfl, hb1⟩
        rw [Hc.out]
        have hb2 := hnx.trans (hb1.mono hnx.size)
        have hg2 : Hid (w1.heap[w.heap.size]? = some (.cells cs 28 (0, 0))) := Lib.hid ((hb1.block _ hlt).trans hgr.out)
        have hown2 := own_below hown hb1
        clear hnx hgr hb1 hown
        go_wp2_with fail
        go_roundw
        case rel => exact ⟨k + 1, by omega, by go_num, by rw [Hn.out]; exact hown2, hb2, hg2⟩
        case measure => simp [intOf]; omega
    · obtain rfl : k = n := by omega
      go_wp2_with fail
      go_ret
      exact ⟨_, rfl, hown, hnx⟩
end Go.Proofs.Ytmnbalmihehodaa
