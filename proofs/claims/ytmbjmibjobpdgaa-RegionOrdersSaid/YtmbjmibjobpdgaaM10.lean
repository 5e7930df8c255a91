/-
  The document's region: its edges.
  The document's region: its loops.
-/
import Derived.Test.YtmbjmibjobpdgaaM09
import Derived.Deep.Cut
import Derived.BigQuiet
namespace Go.Proofs.Ytmbjmibjobpdgaa
open Go.RowKit

/-- Does an edge lead to a node? -/
def toN (n : Nat) (e : Edge) : Bool := decide (0 ≤ e.2.2) && decide (e.2.2 < n)
/-- The edges that lead to nodes. -/
def inE (G : GT) : List Edge := (edgesL G G.n).filter (toN G.n)
theorem below_draws {B : Nat} {a w : World} (h : Below B a w) (n : Nat) : Below B a (w.drewN n) := h.trans ⟨rfl, rfl, rfl, Nat.le_refl _, fun _ _ => rfl⟩
theorem filter_snoc {α : Type} (p : α → Bool) (L : List α) {j : Nat} (hj : j < L.length) : (L.take (j + 1)).filter p = (L.take j).filter p ++ if p L[j] then [L[j]] else [] := by
  rw [List.take_add_one, List.getElem?_eq_getElem hj, Option.toList, List.filter_append]
  cases h : p L[j] <;> simp [h]
theorem filter_len {α : Type} (p : α → Bool) (L : List α) (j : Nat) : ((L.take j).filter p).length ≤ L.length := by
  refine Nat.le_trans (List.length_filter_le _ _) ?_
  simp
  omega
set_option maxRecDepth 20000 in
set_option maxHeartbeats 4000000 in
theorem REdges15_any {mv : Array Value} {G : GT} (w : World) (h : ModelAt w w.heap.size mv G) (hfew : fewB G) :
    Calls Try.prog 30 #[.agg mv] w fun e w' => ∃ v, e = .returned v ∧ OwnE w' w.heap.size v (inE G) ∧ Below w.heap.size w w' := by
  have hM := Lib.hid h
  have hF := Lib.hid hfew
  have hEl : Hid ((edgesL G G.n).length ≤ 4100) := Lib.hid (by have := edgesL_len hfew (Nat.le_refl _); have := hfew.1; omega)
  have hR : Hid (inE G = (edgesL G G.n).filter (toN G.n)) := Lib.hid rfl
  have hn1 := hfew.1
  clear hfew
  cases h with
  | mk lb A a1 aa B b bb V p pp S q qq N n nn vs ms ns d ha1 hb hp hq hn hV hvs hS hms hN hns =>
    clear ha1 hb hp hq hV hvs hS hms hN hns hn
    simp only at hn1
    rw [show modelV lb A a1 aa B b bb V p pp S q qq N n nn = #[.int .i64 lb, .slice A a1 aa, .slice B b bb, .slice V p pp, .slice S q qq, .slice N n nn] from rfl]
    have hX : Hid (Below w.heap.size w (w.alloc (.cells #[.int .i64 lb, .slice A a1 aa, .slice B b bb, .slice V p pp, .slice S q qq, .slice N n nn] 27))) := Lib.hid ((Below.refl _ _).alloc (Nat.le_refl _) _)
    have hbx : Hid ((w.alloc (.cells #[.int .i64 lb, .slice A a1 aa, .slice B b bb, .slice V p pp, .slice S q qq, .slice N n nn] 27)).heap[w.heap.size]? = some (.cells #[.int .i64 lb, .slice A a1 aa, .slice B b bb, .slice V p pp, .slice S q qq, .slice N n nn] 27 (0, 0))) := Lib.hid (heap_alloc_new w _)
    have hM5 : Hid (ModelAt (w.alloc (.cells #[.int .i64 lb, .slice A a1 aa, .slice B b bb, .slice V p pp, .slice S q qq, .slice N n nn] 27)) (w.alloc (.cells #[.int .i64 lb, .slice A a1 aa, .slice B b bb, .slice V p pp, .slice S q qq, .slice N n nn] 27)).heap.size #[.int .i64 lb, .slice A a1 aa, .slice B b bb, .slice V p pp, .slice S q qq, .slice N n nn] ⟨n, d⟩) := Lib.hid ((hM.out.stay hX.out).mono hX.out.size)
    generalize hE : edgesL ⟨n, d⟩ n = E at *
    have HE := Lib.hid hE
    clear hE
    go_enter Try.func30, Try.ntmps30
    go_wp2_with (first
      | (refine wpList_load_row rfl 27 _ rfl w.heap.size rfl 27 #[.int .i64 lb, .slice A a1 aa, .slice B b bb, .slice V p pp, .slice S q qq, .slice N n nn] (0, 0) _ hbx.out Try.underlying27 rfl (by kernel_rfl) ?_)
      | (go_at_call 62; refine (REdges_any _ hM5.out hF.out).mono ?_; rintro e w6 ⟨v, rfl, hov, hb6⟩; refine Hid.out ?_)
      | fail)
    refine Lib.hid ?_
    have hB6 : Hid (Below w.heap.size w w6) := Lib.hid (hX.out.trans (hb6.mono hX.out.size))
    have hbx6 : Hid (w6.heap[w.heap.size]? = some (.cells #[.int .i64 lb, .slice A a1 aa, .slice B b bb, .slice V p pp, .slice S q qq, .slice N n nn] 27 (0, 0))) := Lib.hid (by rw [hb6.block _ (row_lt hbx.out)]; exact hbx.out)
    rw [HE.out] at hov
    obtain ⟨A0, c0, rfl⟩ := hov.open
    have hov' := hov
    obtain ⟨A0', c0', e0, hlie⟩ := hov'.lie
    have hL0 : Hid (LieE w6 w6.heap.size A0 E) := Lib.hid (by injection e0 with e1; rw [e1]; exact hlie)
    clear hov hov' e0 hlie hb6 hX hbx hM5
    obtain ⟨m, hm⟩ : ∃ m, m = E.length := ⟨_, rfl⟩
    have HMM := Lib.hid hm
    rw [← hm] at hEl ⊢
    clear hm
    have hm41 := hEl.out
    go_wp2_with fail
    go_loopw [3, 5] (fun v jv wr => ∃ j : Nat, j ≤ m ∧ jv = .int .i64 j ∧ Hid (Below w6.heap.size w6 wr) ∧ Hid (OwnE wr w6.heap.size v ((E.take j).filter (toN n)))) (fun _ jv _ => m - (intOf jv).toNat)
    case atStart => exact ⟨0, Nat.zero_le _, rfl, Lib.hid (Below.refl _ _), Lib.hid (OwnE.nil _ _)⟩
    case round =>
      obtain ⟨j, hj, rfl, hb, hO⟩ := hrel
      by_cases hjm : j < m
      · have hjl : j < E.length := by have := HMM.out; omega
        obtain ⟨g, o, rfl, hg, hx⟩ := hL0.out (by omega)
        have hft := Lib.hid (filter_snoc (toN n) E hjl)
        have hfl := Lib.hid (filter_len (toN n) E j)
        have hto : Hid (toN n E[j] = (decide (0 ≤ E[j].2.2) && decide (E[j].2.2 < (n : Int)))) := Lib.hid rfl
        obtain ⟨x0, x1, x2⟩ := hx j hjl
        have x0 := (hb.out.cell (p := ⟨g, o + j * 3, none⟩) hg).trans x0
        have x1 := (hb.out.cell (p := ⟨g, o + j * 3 + 1, none⟩) hg).trans x1
        have x2 := (hb.out.cell (p := ⟨g, o + j * 3 + 2, none⟩) hg).trans x2
        have c5 : wr.cell? ⟨w.heap.size, 5, none⟩ = some (.slice N n nn) := by
          rw [hb.out.cell (p := ⟨w.heap.size, 5, none⟩) (row_lt hbx6.out), cell_of_row w6 _ 5 _ 27 (0, 0) hbx6.out]; rfl
        generalize E[j] = e at x0 x1 x2 hft hto
        by_cases hz0 : 0 ≤ e.2.2
        · have tz0 : decide (0 ≤ e.2.2) = true := decide_eq_true hz0
          by_cases hzn : e.2.2 < (n : Int)
          · have tz1 : decide (e.2.2 < (n : Int)) = true := decide_eq_true hzn
            go_upto_region 6 with (fail)
            go_quiet (fail)
            have hbq := Lib.hid (below_draws hb.out nq)
            have hOq : Hid (OwnE (wr.drewN nq) w6.heap.size u3 ((E.take j).filter (toN n))) := Lib.hid hO.out
            have y0 : (wr.drewN nq).cell? ⟨g, o + j * 3, none⟩ = some (.int .i64 e.1) := x0
            have y1 : (wr.drewN nq).cell? ⟨g, o + j * 3 + 1, none⟩ = some (.int .i64 e.2.1) := x1
            have y2 : (wr.drewN nq).cell? ⟨g, o + j * 3 + 2, none⟩ = some (.int .i64 e.2.2) := x2
            clear x0 x1 x2 c5 hb hO
            generalize wr.drewN nq = wq at *
            have hal : Hid (Below wq.heap.size wq (wq.alloc (.cells #[.int .i64 e.1, .int .i64 e.2.1, .int .i64 e.2.2] 44))) := Lib.hid ((Below.refl _ _).alloc (Nat.le_refl _) _)
            have hO1 : Hid (OwnE (wq.alloc (.cells #[.int .i64 e.1, .int .i64 e.2.1, .int .i64 e.2.2] 44)) w6.heap.size u3 ((E.take j).filter (toN n))) := Lib.hid (World.ownsRow.alloc hOq.out _)
            have hb1 : Hid (Below w6.heap.size w6 (wq.alloc (.cells #[.int .i64 e.1, .int .i64 e.2.1, .int .i64 e.2.2] 44))) := Lib.hid (hbq.out.trans (hal.out.mono hbq.out.size))
            have w0 : (wq.alloc (.cells #[.int .i64 e.1, .int .i64 e.2.1, .int .i64 e.2.2] 44)).cell? ⟨wq.heap.size, 0, none⟩ = some (.int .i64 e.1) := by rw [World.cell?_alloc_new]; rfl
            have w1 : (wq.alloc (.cells #[.int .i64 e.1, .int .i64 e.2.1, .int .i64 e.2.2] 44)).cell? ⟨wq.heap.size, 1, none⟩ = some (.int .i64 e.2.1) := by rw [World.cell?_alloc_new]; rfl
            have w2 : (wq.alloc (.cells #[.int .i64 e.1, .int .i64 e.2.1, .int .i64 e.2.2] 44)).cell? ⟨wq.heap.size, 2, none⟩ = some (.int .i64 e.2.2) := by rw [World.cell?_alloc_new]; rfl
            clear hOq hbq hal
            go_wp2_with (at_builtin; refine Hid.out ?_)
            refine Lib.hid ?_
            go_loud (refine wpl_edge rfl (.tmp 31) (.tmp 36) rfl w6.heap.size _ _ rfl hO1.out wq.heap.size e rfl w0 w1 w2 (by have := hfl.out; have := HMM.out; omega) hb1.out.size ?_)
            intro v' w5 ho5 hg5
            have hO2 : Hid (OwnE w5 w6.heap.size v' ((E.take (j + 1)).filter (toN n))) := Lib.hid (by
              rw [hft.out, hto.out]; simp only [tz0, tz1, Bool.and_self, if_true]; exact ho5)
            have hb2 : Hid (Below w6.heap.size w6 w5) := Lib.hid (hb1.out.grown hg5 hb1.out.size (fun k e => (World.ownsRow.lt hO1.out k e).1))
            clear ho5 hg5 hO1 hb1 hft hto w0 w1 w2
            go_wp2_with fail
            go_roundw
            case rel => exact ⟨j + 1, by omega, by go_num, hb2, hO2⟩
            case measure => simp [intOf]; omega
          · have tz1 : decide (e.2.2 < (n : Int)) = false := decide_eq_false hzn
            go_upto_region 6 with (fail)
            go_quiet (fail)
            have hbq := Lib.hid (below_draws hb.out nq)
            have hOq : Hid (OwnE (wr.drewN nq) w6.heap.size u3 ((E.take j).filter (toN n))) := Lib.hid hO.out
            have y0 : (wr.drewN nq).cell? ⟨g, o + j * 3, none⟩ = some (.int .i64 e.1) := x0
            have y1 : (wr.drewN nq).cell? ⟨g, o + j * 3 + 1, none⟩ = some (.int .i64 e.2.1) := x1
            have y2 : (wr.drewN nq).cell? ⟨g, o + j * 3 + 2, none⟩ = some (.int .i64 e.2.2) := x2
            clear x0 x1 x2 c5 hb hO
            generalize wr.drewN nq = wq at *
            have hO2 : Hid (OwnE wq w6.heap.size u3 ((E.take (j + 1)).filter (toN n))) := Lib.hid (by
              rw [hft.out, hto.out]; simp only [tz1, Bool.and_false, Bool.false_eq_true, if_false, List.append_nil]; exact hOq.out)
            clear hOq hft hto y0 y1 y2
            go_wp2_with fail
            go_roundw
            case rel => exact ⟨j + 1, by omega, by go_num, hbq, hO2⟩
            case measure => simp [intOf]; omega
        · have tz0 : decide (0 ≤ e.2.2) = false := decide_eq_false hz0
          go_upto_region 6 with (fail)
          go_quiet (fail)
          have hbq := Lib.hid (below_draws hb.out nq)
          have hOq : Hid (OwnE (wr.drewN nq) w6.heap.size u3 ((E.take j).filter (toN n))) := Lib.hid hO.out
          have y0 : (wr.drewN nq).cell? ⟨g, o + j * 3, none⟩ = some (.int .i64 e.1) := x0
          have y1 : (wr.drewN nq).cell? ⟨g, o + j * 3 + 1, none⟩ = some (.int .i64 e.2.1) := x1
          have y2 : (wr.drewN nq).cell? ⟨g, o + j * 3 + 2, none⟩ = some (.int .i64 e.2.2) := x2
          clear x0 x1 x2 c5 hb hO
          generalize wr.drewN nq = wq at *
          have hO2 : Hid (OwnE wq w6.heap.size u3 ((E.take (j + 1)).filter (toN n))) := Lib.hid (by
            rw [hft.out, hto.out]; simp only [tz0, Bool.false_and, Bool.false_eq_true, if_false, List.append_nil]; exact hOq.out)
          clear hOq hft hto y0 y1 y2
          go_wp2_with fail
          go_roundw
          case rel => exact ⟨j + 1, by omega, by go_num, hbq, hO2⟩
          case measure => simp [intOf]; omega
      · obtain rfl : m = j := by omega
        have hfin : Hid (OwnE wr w.heap.size u3 (inE ⟨n, d⟩)) := Lib.hid (by
          have := hO.out
          rw [List.take_of_length_le (by have := HMM.out; omega), ← hR.out] at this
          exact this.low hB6.out.size)
        have hbl := Lib.hid (hB6.out.trans (hb.out.mono hB6.out.size))
        clear hb hO
        go_wp2_with fail
        go_ret
        exact ⟨_, rfl, hfin.out, hbl.out⟩
end Go.Proofs.Ytmbjmibjobpdgaa
namespace Go.Proofs.Ytmbjmibjobpdgaa
open Go.RowKit

theorem pickL_mem {n : Nat} {f : Nat → Bool} {x : Int} : x ∈ pickL n f ↔ ∃ i : Nat, x = (i : Int) ∧ i < n ∧ f i = true := by
  unfold pickL
  simp only [List.mem_map, List.mem_filter, List.mem_range]
  constructor
  · rintro ⟨i, ⟨h1, h2⟩, rfl⟩; exact ⟨i, rfl, h1, h2⟩
  · rintro ⟨i, rfl, h1, h2⟩; exact ⟨i, ⟨h1, h2⟩, rfl⟩
theorem pickL_nodup (n : Nat) (f : Nat → Bool) : (pickL n f).Pairwise (fun x y => x ≠ y) := by
  unfold pickL
  rw [List.pairwise_map]
  refine (List.Pairwise.filter _ List.nodup_range).imp fun h e => h (by exact_mod_cast e)
/-- Loops, plainly. -/
def loopB (G : GT) (i : Nat) : Bool := reachB G i i
def loopsL (G : GT) : List Int := pickL G.n (loopB G)
theorem reachL_in {G : GT} {i : Nat} (hi : i < G.n) : reachL G (i : Int) = pickL G.n (reachB G i) := by
  unfold reachL
  rw [if_pos ⟨by omega, by omega⟩]
  rfl
theorem nodup_take {L : List Int} (h : L.Pairwise (fun x y => x ≠ y)) {j : Nat} (hj : j < L.length) : L[j] ∉ L.take j := by
  intro hm
  obtain ⟨k, hk, e⟩ := List.getElem_of_mem hm
  have hk' : k < j := by simp at hk; omega
  rw [List.getElem_take] at e
  exact (List.pairwise_iff_getElem.1 h k j (by omega) hj hk') e
theorem OwnI.low {w : World} {B B' : Nat} {v : Value} {L : List Int} (h : OwnI w B v L) (hB : B' ≤ B) : OwnI w B' v L := by
  refine ⟨h.1, ?_⟩
  rcases h.2 with h | ⟨g, cap, cur, e, hg, r⟩
  · exact .inl h
  · exact .inr ⟨g, cap, cur, e, Nat.le_trans hB hg, r⟩
theorem OwnI.below {w w' : World} {B : Nat} {v : Value} {L : List Int} (h : OwnI w B v L) (hb : Below w.heap.size w w') : OwnI w' B v L := by
  refine World.ownsRow.kept h (row := none) ⟨hb.os, hb.tape, hb.output, hb.size, fun k hk _ => hb.block k hk⟩ ?_
  cases v.ownBlock with
  | none => exact .inl rfl
  | some k => exact .inr (by simp)
set_option maxRecDepth 20000 in
set_option maxHeartbeats 4000000 in
theorem RLoops_any {mv : Array Value} {G : GT} (w : World) (h : ModelAt w w.heap.size mv G) (hfew : fewB G) :
    Calls Try.prog 18 #[.agg mv] w fun e w' => ∃ v, e = .returned v ∧ OwnI w' w.heap.size v (loopsL G) ∧ Below w.heap.size w w' := by
  have hM := Lib.hid h
  have hF := Lib.hid hfew
  have hn1 := hfew.1
  clear hfew
  cases h with
  | mk lb A a1 aa B b bb V p pp S q qq N n nn vs ms ns d ha1 hb hp hq hn hV hvs hS hms hN hns =>
    clear ha1 hb hp hq hV hvs hS hms hN hns hn
    have hnn1 : n ≤ 100 := hn1
    clear hn1
    rw [show modelV lb A a1 aa B b bb V p pp S q qq N n nn = #[.int .i64 lb, .slice A a1 aa, .slice B b bb, .slice V p pp, .slice S q qq, .slice N n nn] from rfl]
    have hX : Hid (Below w.heap.size w (w.alloc (.cells #[.int .i64 lb, .slice A a1 aa, .slice B b bb, .slice V p pp, .slice S q qq, .slice N n nn] 27))) := Lib.hid ((Below.refl _ _).alloc (Nat.le_refl _) _)
    have hbx : Hid ((w.alloc (.cells #[.int .i64 lb, .slice A a1 aa, .slice B b bb, .slice V p pp, .slice S q qq, .slice N n nn] 27)).heap[w.heap.size]? = some (.cells #[.int .i64 lb, .slice A a1 aa, .slice B b bb, .slice V p pp, .slice S q qq, .slice N n nn] 27 (0, 0))) := Lib.hid (heap_alloc_new w _)
    go_enter Try.func18, Try.ntmps18
    go_wp2_with fail
    generalize w.alloc (.cells #[.int .i64 lb, .slice A a1 aa, .slice B b bb, .slice V p pp, .slice S q qq, .slice N n nn] 27) = W1 at *
    go_loopw [3, 4] (fun v iv wr => ∃ i : Nat, i ≤ n ∧ iv = .int .i64 i ∧ Hid (Below W1.heap.size W1 wr) ∧ Hid (OwnI wr W1.heap.size v (pickL i (loopB ⟨n, d⟩)))) (fun _ iv _ => n - (intOf iv).toNat)
    case atStart => exact ⟨0, Nat.zero_le _, rfl, Lib.hid (Below.refl _ _), Lib.hid (OwnI.nil _ _)⟩
    case round =>
      obtain ⟨i, hi, rfl, hb, hO⟩ := hrel
      have hbr : Hid (wr.heap[w.heap.size]? = some (.cells #[.int .i64 lb, .slice A a1 aa, .slice B b bb, .slice V p pp, .slice S q qq, .slice N n nn] 27 (0, 0))) := Lib.hid (by rw [hb.out.block _ (row_lt hbx.out)]; exact hbx.out)
      have c5 : wr.cell? ⟨w.heap.size, 5, none⟩ = some (.slice N n nn) := by rw [cell_of_row wr _ 5 _ 27 (0, 0) hbr.out]; rfl
      have hB : Hid (Below w.heap.size w wr) := Lib.hid (hX.out.trans (hb.out.mono hX.out.size))
      by_cases hin : i < n
      · have hMr : Hid (ModelAt wr wr.heap.size #[.int .i64 lb, .slice A a1 aa, .slice B b bb, .slice V p pp, .slice S q qq, .slice N n nn] ⟨n, d⟩) := Lib.hid ((hM.out.stay hB.out).mono hB.out.size)
        have hrl : Hid (reachL ⟨n, d⟩ (i : Int) = pickL n (reachB ⟨n, d⟩ i)) := Lib.hid (reachL_in (G := ⟨n, d⟩) hin)
        have hps := Lib.hid (pickL_succ i (loopB ⟨n, d⟩))
        have hlb : Hid (loopB ⟨n, d⟩ i = reachB ⟨n, d⟩ i i) := Lib.hid rfl
        have hpl : Hid ((pickL i (loopB ⟨n, d⟩)).length ≤ 100) := Lib.hid (by have := pickL_len i (loopB ⟨n, d⟩); omega)
        go_wp2_with (first
          | (refine wpList_load_row rfl 27 _ rfl w.heap.size rfl 27 #[.int .i64 lb, .slice A a1 aa, .slice B b bb, .slice V p pp, .slice S q qq, .slice N n nn] (0, 0) _ hbr.out Try.underlying27 rfl (by kernel_rfl) ?_)
          | (go_at_call 36; refine (RReach_any _ (i : Int) hMr.out hF.out).mono ?_; rintro e w6 ⟨vl, rfl, hol, hb6⟩; refine Hid.out ?_)
          | fail)
        refine Lib.hid ?_
        rw [hrl.out] at hol
        have hO6 : Hid (OwnI w6 W1.heap.size u3 (pickL i (loopB ⟨n, d⟩))) := Lib.hid (hO.out.below hb6)
        have hB6 : Hid (Below W1.heap.size W1 w6) := Lib.hid (hb.out.trans (hb6.mono hb.out.size))
        have hnd := Lib.hid (pickL_nodup n (reachB ⟨n, d⟩ i))
        have hin2 : Hid (∀ P : List Int, pickL n (reachB ⟨n, d⟩ i) = P → ((i : Int) ∈ P ↔ loopB ⟨n, d⟩ i = true)) := Lib.hid (fun P hP => by
          rw [← hP, pickL_mem, hlb.out]
          constructor
          · rintro ⟨k, e, _, h⟩; have : i = k := by omega
            subst this; exact h
          · intro h; exact ⟨i, rfl, hin, h⟩)
        have hl100 : Hid ((pickL n (reachB ⟨n, d⟩ i)).length ≤ 100) := Lib.hid (by have := pickL_len n (reachB ⟨n, d⟩ i); omega)
        generalize hLq : pickL n (reachB ⟨n, d⟩ i) = L at *
        have hin3 := Lib.hid (hin2.out L rfl)
        have hne0 : Hid (∀ k, vl.ownBlock = some k → some k ≠ u3.ownBlock) := Lib.hid (fun k e e' => by
          have h1 := (World.ownsRow.lt hol k e).1
          have h2 := (World.ownsRow.lt hO.out k e'.symm).2
          omega)
        obtain ⟨AL, cL, rfl⟩ := hol.open
        have hol1 := Lib.hid hol
        clear hol hb6 hO hrl hin2 hLq hMr hB hb c5 hbr
        obtain ⟨m, hm⟩ : ∃ m, m = L.length := ⟨_, rfl⟩
        have HMM := Lib.hid hm
        rw [← hm] at hl100 hol1 hne0 ⊢
        clear hm
        have hm100 := hl100.out
        generalize pickL i (loopB ⟨n, d⟩) = P at *
        go_wp2_with fail
        go_loopw [3, 6] (fun v jv wj => ∃ j : Nat, j ≤ m ∧ jv = .int .i64 j ∧ Hid (Below W1.heap.size W1 wj) ∧ Hid (OwnI wj W1.heap.size v (if (i : Int) ∈ L.take j then P ++ [(i : Int)] else P)) ∧ Hid (OwnI wj 0 (.slice AL m cL) L) ∧ Hid ((i : Int) ∉ L.take j → ∀ k, (Value.slice AL m cL).ownBlock = some k → some k ≠ v.ownBlock)) (fun _ jv _ => m - (intOf jv).toNat)
        case atStart => exact ⟨0, Nat.zero_le _, rfl, hB6, Lib.hid (by simpa using hO6.out), Lib.hid (hol1.out.low (Nat.zero_le _)), Lib.hid fun _ => hne0.out⟩
        case round =>
          clear hB6 hO6 hol1 hne0
          obtain ⟨j, hj, rfl, hb, hO, hl, hne⟩ := hrel
          by_cases hjm : j < m
          · have hjl : j < L.length := by have := HMM.out; omega
            obtain ⟨A', c', e0, hlie⟩ := hl.out.lie
            obtain ⟨g, o, hA', hg, hx⟩ := hlie (by omega)
            obtain rfl : AL = some ⟨g, o, none⟩ := by injection e0 with e1 _ _; rw [e1]; exact hA'
            have x0 := hx j hjl
            have hnt := Lib.hid (nodup_take hnd.out hjl)
            have htk : Hid (∀ x, x ∈ L.take (j + 1) ↔ x ∈ L.take j ∨ x = L[j]) := Lib.hid (fun x => by rw [List.take_add_one, List.getElem?_eq_getElem hjl, Option.toList, List.mem_append, List.mem_singleton])
            clear hx hlie hA' e0
            generalize L[j] = y at *
            by_cases hy : y = (i : Int)
            · subst hy
              have ty : ((i : Int) == (i : Int)) = true := by simp
              have hno := Lib.hid (hne.out hnt.out)
              have hOp : Hid (OwnI wr W1.heap.size u3 P) := Lib.hid (by have := hO.out; rw [if_neg hnt.out] at this; exact this)
              have hal : Hid (Below wr.heap.size wr (wr.alloc (.cells #[.int .i64 (i : Int)] 3))) := Lib.hid ((Below.refl _ _).alloc (Nat.le_refl _) _)
              have hO1 : Hid (OwnI (wr.alloc (.cells #[.int .i64 (i : Int)] 3)) W1.heap.size u3 P) := Lib.hid (hOp.out.below hal.out)
              have hl1 : Hid (OwnI (wr.alloc (.cells #[.int .i64 (i : Int)] 3)) 0 (.slice (some ⟨g, o, none⟩) m cL) L) := Lib.hid (hl.out.below hal.out)
              have hb1 : Hid (Below W1.heap.size W1 (wr.alloc (.cells #[.int .i64 (i : Int)] 3))) := Lib.hid (hb.out.trans (hal.out.mono hb.out.size))
              have w0 : (wr.alloc (.cells #[.int .i64 (i : Int)] 3)).cell? ⟨wr.heap.size, 0, none⟩ = some (.int .i64 (i : Int)) := by rw [World.cell?_alloc_new]; rfl
              clear hO hOp hl hb hal
              go_wp2_with (at_builtin; refine Hid.out ?_)
              refine Lib.hid ?_
              go_loud (refine wpl_int rfl (.tmp 29) (.tmp 31) rfl W1.heap.size _ _ rfl hO1.out wr.heap.size (i : Int) rfl w0 (by have := hpl.out; omega) hb1.out.size ?_)
              intro v' w8 ho8 hg8
              have hin4 : Hid ((i : Int) ∈ L.take (j + 1)) := Lib.hid ((htk.out _).2 (.inr rfl))
              have hO2 : Hid (OwnI w8 W1.heap.size v' (if (i : Int) ∈ L.take (j + 1) then P ++ [(i : Int)] else P)) := Lib.hid (by rw [if_pos hin4.out]; exact ho8)
              have hb2 : Hid (Below W1.heap.size W1 w8) := Lib.hid (hb1.out.grown hg8 hb1.out.size (fun k e => (World.ownsRow.lt hO1.out k e).1))
              have hl2 : Hid (OwnI w8 0 (.slice (some ⟨g, o, none⟩) m cL) L) := Lib.hid (World.ownsRow.kept hl1.out hg8 (by
                cases e : (Value.slice (some ⟨g, o, none⟩) m cL).ownBlock with
                | none => exact .inl rfl
                | some k => exact .inr (hno.out k e)))
              clear ho8 hg8 hO1 hl1 hb1 w0 hne hno
              go_wp2_with fail
              go_roundw
              case rel => exact ⟨j + 1, by omega, by go_num, hb2, hO2, hl2, Lib.hid fun h => absurd hin4.out h⟩
              case measure => simp [intOf]; omega
            · have ty : (y == (i : Int)) = false := by simp [hy]
              have hiff : Hid ((i : Int) ∈ L.take (j + 1) ↔ (i : Int) ∈ L.take j) := Lib.hid ((htk.out _).trans ⟨fun h => h.elim id (fun h => absurd h.symm hy), .inl⟩)
              have hO2 : Hid (OwnI wr W1.heap.size u3 (if (i : Int) ∈ L.take (j + 1) then P ++ [(i : Int)] else P)) := Lib.hid (by
                have := hO.out
                by_cases e : (i : Int) ∈ L.take j
                · rw [if_pos e] at this; rw [if_pos (hiff.out.2 e)]; exact this
                · rw [if_neg e] at this; rw [if_neg (fun h => e (hiff.out.1 h))]; exact this)
              have hne2 : Hid ((i : Int) ∉ L.take (j + 1) → ∀ k, (Value.slice (some ⟨g, o, none⟩) m cL).ownBlock = some k → some k ≠ u3.ownBlock) := Lib.hid fun h => hne.out (fun h' => h (hiff.out.2 h'))
              clear hO hne hy
              go_wp2_with fail
              go_roundw
              case rel => exact ⟨j + 1, by omega, by go_num, hb, hO2, hl, hne2⟩
              case measure => simp [intOf]; omega
          · obtain rfl : m = j := by omega
            have hO2 : Hid (OwnI wr W1.heap.size u3 (pickL (i + 1) (loopB ⟨n, d⟩))) := Lib.hid (by
              have := hO.out
              rw [List.take_of_length_le (by have := HMM.out; omega)] at this
              rw [hps.out]
              by_cases e : (i : Int) ∈ L
              · rw [if_pos e] at this; rw [if_pos (hin3.out.1 e)]; exact this
              · rw [if_neg e] at this; rw [if_neg (fun h => e (hin3.out.2 h)), List.append_nil]; exact this)
            clear hO hne hl
            go_wp2_with fail
            go_roundw
            case rel => exact ⟨i + 1, by omega, by go_num, hb, hO2⟩
            case measure => simp [intOf]; omega
      · obtain rfl : n = i := by omega
        have hfin : Hid (OwnI wr w.heap.size u3 (loopsL ⟨n, d⟩)) := Lib.hid (hO.out.low hX.out.size)
        have hbl := hB
        clear hb hO hB
        go_wp2_with fail
        go_ret
        exact ⟨_, rfl, hfin.out, hbl.out⟩
end Go.Proofs.Ytmbjmibjobpdgaa
