/-
  The walk of RegionFalls.
-/
import Derived.Test.YtmbjmibjobpdgaaM52
namespace Go.Proofs.Ytmbjmibjobpdgaa.lawRegionFalls
open Go.RowKit

/-- The weight that the law has summed up behind k edges. -/
def sK (G : GT) (i k : Nat) : Int := (((edgesL G G.n).take k).filter (toN G.n)).foldl (addE (weightsF G) i) 1
theorem sK_in (G : GT) (i k : Nat) : 1 ≤ sK G i k ∧ sK G i k ≤ 1000000000 := foldE_in (weight_in G) _ 1 (by omega)
theorem sK_succ (G : GT) (i : Nat) {k : Nat} (hk : k < (edgesL G G.n).length) : sK G i (k + 1) = if toN G.n (edgesL G G.n)[k] = true then addE (weightsF G) i (sK G i k) (edgesL G G.n)[k] else sK G i k := by
  unfold sK
  rw [filter_snoc _ _ hk, List.foldl_append]
  split <;> rfl
theorem sK_all {G : GT} (ha : Acyc G) {i : Nat} (hi : i < G.n) : sK G i (edgesL G G.n).length = weightsF G i := by
  rw [weight_sum ha hi]
  unfold sK sumE inE
  rw [List.take_length]
theorem order_at {G : GT} {k : Nat} (hk : k < G.n) : (orderL G)[k]'(by unfold orderL; rw [ordL_len]; exact hk) = (ordK G.n (inE G) k : Int) := by
  simp [orderL, ordL]
set_option maxRecDepth 100000 in
set_option maxHeartbeats 8000000 in
theorem walk {mv : Array Value} {G : GT} (w : World) (h : ModelAt w w.heap.size mv G) : Calls Try.prog 5 #[.agg mv] w (Yes w) := by
  obtain ⟨ml, hmv, hM, hX, hbx⟩ := model_boxed h
  have hX := Lib.hid hX
  clear h
  generalize ml 0 = m0 at *
  generalize ml 1 = m1 at *
  generalize ml 2 = m2 at *
  generalize ml 3 = m3 at *
  generalize ml 4 = m4 at *
  generalize ml 5 = m5 at *
  subst hmv
  have hB := Lib.hid (show Bx (w.alloc (.cells #[m0, m1, m2, m3, m4, m5] 27)) (w.alloc (.cells #[m0, m1, m2, m3, m4, m5] 27)) w.heap.size #[m0, m1, m2, m3, m4, m5] G from ⟨Below.refl _ _, hbx, hM⟩)
  clear hM hbx
  obtain ⟨N, nn, rfl, _⟩ := model_nodes hB.out.at_
  go_enter Try.func5, Try.ntmps5
  go_upto_region 1 with (fail)
  generalize hbw : w.heap.size = b at *
  have HBW := Lib.hid hbw
  clear hbw
  generalize w.alloc (.cells #[m0, m1, m2, m3, m4, .slice N G.n nn] 27) = w1 at *
  go_wp2_with (first
    | (go_at_call 8; refine (awake_any _).mono ?_; rintro e w2 ⟨rfl, hb⟩; refine Hid.out ?_)
    | fail)
  refine Lib.hid ?_
  have hB2 := Lib.hid (hB.out.step hb)
  clear hb
  go_wp2_with (first
    | (refine ldm rfl 27 _ rfl b 0 rfl [m0, m1, m2, m3, m4, .slice N G.n nn] _ hB2.out.range Try.underlying27 rfl 6 info27 rfl ?_)
    | (go_at_call 9; refine (MSmall_any _ hB2.out.at_).mono ?_; rintro e w3 ⟨bs, rfl, hfew, hb⟩; refine Hid.out ?_)
    | fail)
  refine Lib.hid ?_
  have hF := Lib.hid hfew
  have hB3 := Lib.hid (hB2.out.step hb)
  clear hb
  clear hfew
  cases bs with
  | false =>
    go_wp2_with (first
      | (go_at_call 8; refine (awake_any _).mono ?_; rintro e w4 ⟨rfl, hb⟩; refine Hid.out ?_)
      | fail)
    refine Lib.hid ?_
    have hB4 := Lib.hid (hB3.out.step hb)
    clear hb
    go_wp2_with fail
    go_ret
    exact ⟨rfl, by rw [HBW.out]; exact hX.out.trans (hB4.out.below.mono (by rw [← HBW.out]; exact hX.out.size))⟩
  | true =>
    have hf := Lib.hid (hF.out rfl)
    have hn100 : G.n ≤ 100 := hf.out.1
    go_wp2_with (first
      | (refine ldm rfl 27 _ rfl b 0 rfl [m0, m1, m2, m3, m4, .slice N G.n nn] _ hB3.out.range Try.underlying27 rfl 6 info27 rfl ?_)
      | (go_at_call 10; refine (LOrder _ hB3.out.at_ hf.out).mono ?_; rintro e w4 ⟨A1, c1, rfl, hl1, hb⟩; refine Hid.out ?_)
      | fail)
    refine Lib.hid ?_
    have hl1 := Lib.hid hl1
    have hB4 := Lib.hid (hB3.out.step hb)
    clear hb
    go_wp2_with (first
      | (refine ldm rfl 27 _ rfl b 0 rfl [m0, m1, m2, m3, m4, .slice N G.n nn] _ hB4.out.range Try.underlying27 rfl 6 info27 rfl ?_)
      | (go_at_call 12; refine (LWeights _ hB4.out.at_ hf.out).mono ?_; rintro e w5 ⟨A2, c2, rfl, hl2, hb⟩; refine Hid.out ?_)
      | fail)
    refine Lib.hid ?_
    have hl2 := Lib.hid hl2
    have p45 := Lib.hid hb
    have hB5 := Lib.hid (hB4.out.step hb)
    clear hb
    by_cases hac : okG G = true
    · have hlp := okG_true.1 hac
      have HAC := Lib.hid (loops_nil.1 hlp)
      have hw1 := Lib.hid (weightsA_yes hlp)
      have ho1 := Lib.hid (show orderA G = orderL G from if_pos hlp)
      have hll := Lib.hid (show (loopsL G).length = 0 by rw [hlp]; rfl)
      rw [hac]
      clear hac hlp
      have hwn : Hid ((weightsA G).length = G.n) := Lib.hid (by rw [hw1.out]; simp)
      have hon : Hid ((orderA G).length = G.n) := Lib.hid (by rw [ho1.out]; exact ordL_len _ _ _)
      have hlw : Hid (0 < G.n → ∃ g o, A2 = some ⟨g, o, none⟩ ∧ g < w5.heap.size ∧ ∀ i, i < G.n → w5.cell? ⟨g, o + i, none⟩ = some (.int .i64 (weightsF G i))) := Lib.hid (fun h0 => by
        obtain ⟨g, o, e, hg, hx⟩ := hl2.out (by rw [hwn.out]; exact h0)
        refine ⟨g, o, e, hg, fun i hi => ?_⟩
        have := hx i (by rw [hwn.out]; exact hi)
        simp only [hw1.out, List.getElem_map, List.getElem_range] at this
        exact this)
      have hlo : Hid (0 < G.n → ∃ g o, A1 = some ⟨g, o, none⟩ ∧ g < w4.heap.size ∧ ∀ i, i < G.n → w4.cell? ⟨g, o + i, none⟩ = some (.int .i64 (ordK G.n (inE G) i : Int))) := Lib.hid (fun h0 => by
        obtain ⟨g, o, e, hg, hx⟩ := hl1.out (by rw [hon.out]; exact h0)
        refine ⟨g, o, e, hg, fun i hi => ?_⟩
        have := hx i (by rw [hon.out]; exact hi)
        simp only [ho1.out, order_at hi] at this
        exact this)
      rw [hwn.out, hon.out]
      clear hl1 hl2 hw1 ho1 hwn hon
      go_wp2_with (first
        | (refine ldm rfl 27 _ rfl b 0 rfl [m0, m1, m2, m3, m4, .slice N G.n nn] _ hB5.out.range Try.underlying27 rfl 6 info27 rfl ?_)
        | (go_at_call 17; refine (LLoops _ hB5.out.at_ hf.out).mono ?_; rintro e w6 ⟨A3, c3, rfl, _, hb⟩; rw [hll.out]; refine Hid.out ?_)
        | fail)
      refine Lib.hid ?_
      have p56 := Lib.hid hb
      have p46 := Lib.hid (onto p45.out hb)
      have hB6 := Lib.hid (hB5.out.step hb)
      clear hb
      have hkeep : Hid (∀ wj, Below w6.heap.size w6 wj → wj.cell? ⟨b, 5, none⟩ = some (.slice N G.n nn) ∧ Bx w1 wj b #[m0, m1, m2, m3, m4, .slice N G.n nn] G) := Lib.hid (fun wj h => by
        have hx := hB6.out.step h
        refine ⟨?_, hx⟩
        rw [cell_of_row wj b 5 _ 27 (0, 0) hx.row]; rfl)
      have hW6 : Hid (Below w.heap.size w w6) := Lib.hid (by rw [HBW.out]; exact hX.out.trans (hB6.out.below.mono (by rw [← HBW.out]; exact hX.out.size)))
      clear hB hB2 hB3 hB4 hB5 hB6 p45 hll
      obtain ⟨c5, _⟩ := hkeep.out _ (Below.refl _ _)
      go_wp2_with (first | (refine wp_mk info3' (by omega) Try.underlying30 rfl rfl (.tmp 55) (.tmp 55) rfl G.n rfl rfl (by omega) ?_; intro w7 hcb hb; refine Hid.out ?_) | fail)
      refine Lib.hid ?_
      have hcb := Lib.hid hcb
      have hb := Lib.hid hb
      obtain ⟨gA, hgA⟩ : ∃ gA, gA = w6.heap.size := ⟨_, rfl⟩
      rw [← hgA] at hcb ⊢
      have HGA := Lib.hid hgA.symm
      clear hgA c5
      obtain ⟨c5, _⟩ := hkeep.out _ hb.out
      go_wp2_with fail
      go_loopw [59] (fun iv wr => ∃ (k : Nat) (f : Nat → Int), k ≤ G.n ∧ iv = .int .i64 k ∧ Hid (Below w6.heap.size w6 wr) ∧ Hid (CB wr 3 gA G.n (fun t => .int .i64 (f t))) ∧ Hid (∀ j, j < k → f (ordK G.n (inE G) j) = (j : Int))) (fun iv _ => G.n - (intOf iv).toNat)
      case atStart => exact ⟨0, fun _ => 0, Nat.zero_le _, rfl, hb, hcb, Lib.hid fun j h => absurd h (Nat.not_lt_zero _)⟩
      case round =>
        clear hb hcb c5
        obtain ⟨k, f, hk, rfl, hb, hcb, hfk⟩ := hrel
        by_cases hlt : k < G.n
        · obtain ⟨go, oo, rfl, hgo, hco⟩ := hlo.out (by omega)
          have c0 := ((onto p46.out hb.out).cell (p := ⟨go, oo + k, none⟩) hgo).trans (hco k hlt)
          have hox := ordK_lt HAC.out hlt
          have hinj := Lib.hid (fun j (hj : j < G.n) (e : ordK G.n (inE G) j = ordK G.n (inE G) k) => ord_inj HAC.out hj hlt e)
          clear hco
          have hf2 : Hid (∀ j, j < k + 1 → upd f (ordK G.n (inE G) k) (k : Int) (ordK G.n (inE G) j) = (j : Int)) := Lib.hid (fun j hj => by
            by_cases e : ordK G.n (inE G) j = ordK G.n (inE G) k
            · have := hinj.out j (by omega) e
              subst this
              rw [upd_same]
            · rw [upd_far e]
              refine hfk.out j ?_
              refine Nat.lt_of_le_of_ne (by omega) fun e' => e (by rw [e']))
          generalize ordK G.n (inE G) k = ox at *
          have ox0 : (0 : Int) ≤ ox := by omega
          have ox1 : (ox : Int) < G.n := by omega
          have y1 := hcb.out.cell hox
          have y2 := hcb.out.free ox
          have hb2 : Hid (Below w6.heap.size w6 (wr.setCell ⟨gA, ox, none⟩ (.int .i64 (k : Int)))) := Lib.hid (hb.out.grown (grown_set wr gA ox _) hb.out.size (fun k e => by cases e; exact Nat.le_of_eq HGA.out))
          have hc2 : Hid (CB (wr.setCell ⟨gA, ox, none⟩ (.int .i64 (k : Int))) 3 gA G.n (fun t => .int .i64 (upd f ox (k : Int) t))) := Lib.hid ((hcb.out.set ox (.int .i64 (k : Int))).congr fun t _ => by
            unfold upd
            split <;> rfl)
          clear hb hcb hinj hfk
          go_wp2_with fail
          go_roundw
          case rel => exact ⟨k + 1, upd f ox (k : Int), by omega, by go_num, hb2, hc2, hf2⟩
          case measure => simp [intOf]; omega
        · have hfin : Hid (∀ j, j < G.n → f (ordK G.n (inE G) j) = (j : Int)) := Lib.hid (fun j hj => hfk.out j (by omega))
          clear hfk
          obtain ⟨c5, _⟩ := hkeep.out _ hb.out
          go_wp2_with fail
          go_loopw [72] (fun iv wi => ∃ i : Nat, i ≤ G.n ∧ iv = .int .i64 i ∧ Hid (Below w6.heap.size w6 wi) ∧ Hid (CB wi 3 gA G.n (fun t => .int .i64 (f t)))) (fun iv _ => G.n - (intOf iv).toNat)
          case atStart => exact ⟨0, Nat.zero_le _, rfl, hb, hcb⟩
          case round =>
            clear hb hcb c5
            obtain ⟨i, hi, rfl, hb, hcb⟩ := hrel
            obtain ⟨c5, hx⟩ := hkeep.out _ hb.out
            have hx := Lib.hid hx
            by_cases hin : i < G.n
            · have i0 : (0 : Int) ≤ i := by omega
              have i1 : (i : Int) < G.n := by omega
              go_wp2_with (first
                | (refine ldm rfl 27 _ rfl b 0 rfl [m0, m1, m2, m3, m4, .slice N G.n nn] _ hx.out.range Try.underlying27 rfl 6 info27 rfl ?_)
                | (go_at_call 22; refine (LEdges _ hx.out.at_ hf.out).mono ?_; rintro e w9 ⟨A4, c4, rfl, hl4, hb9⟩; refine Hid.out ?_)
                | fail)
              refine Lib.hid ?_
              have hl4 := Lib.hid hl4
              have hcb9 : Hid (CB w9 3 gA G.n (fun t => .int .i64 (f t))) := Lib.hid (hcb.out.keep hb9)
              have hb9 := Lib.hid (onto hb.out hb9)
              clear hb hcb hx c5
              obtain ⟨ne, hne⟩ : ∃ ne, ne = (edgesL G G.n).length := ⟨_, rfl⟩
              have HNE := Lib.hid hne
              rw [← hne]
              clear hne
              have hne5 : ne ≤ 4100 := by have := edgesL_len hf.out (Nat.le_refl _); have := HNE.out; omega
              go_wp2_with fail
              go_loopw [11, 78] (fun sv iv wj => ∃ k : Nat, k ≤ ne ∧ iv = .int .i64 k ∧ sv = .int .i64 (sK G i k) ∧ Hid (Below w9.heap.size w9 wj)) (fun _ iv _ => ne - (intOf iv).toNat)
              case atStart => exact ⟨0, Nat.zero_le _, rfl, rfl, Lib.hid (Below.refl _ _)⟩
              case round =>
                obtain ⟨k, hk, rfl, rfl, hbj⟩ := hrel
                by_cases hlt2 : k < ne
                · have hkE : k < (edgesL G G.n).length := by have := HNE.out; omega
                  obtain ⟨ge, oe, rfl, hge, hce⟩ := hl4.out (by omega)
                  obtain ⟨x0, x1, x2⟩ := hce k hkE
                  have c0 := (hbj.out.cell (p := ⟨ge, oe + k * 3, none⟩) hge).trans x0
                  have c1 := (hbj.out.cell (p := ⟨ge, oe + k * 3 + 1, none⟩) hge).trans x1
                  have c2 := (hbj.out.cell (p := ⟨ge, oe + k * 3 + 2, none⟩) hge).trans x2
                  have hmem := Lib.hid (List.getElem_mem hkE)
                  have hss := Lib.hid (sK_succ G i hkE)
                  have hsi := sK_in G i k
                  clear hce x0 x1 x2
                  generalize (edgesL G G.n)[k] = ed at *
                  obtain ⟨p, q, t⟩ := ed
                  obtain ⟨u, hu, he1, _⟩ := edge_from hmem.out
                  simp only at c0 c1 c2 he1
                  subst he1
                  have hbA : Hid (Below w9.heap.size w9 (wr.alloc (.cells #[.int .i64 (u : Int), .int .i64 q, .int .i64 t] 44))) := Lib.hid (onto hbj.out ((Below.refl _ _).alloc (Nat.le_refl _) _))
                  obtain ⟨c5, _⟩ := hkeep.out _ (onto hb9.out hbA.out)
                  have hbe : Hid ((wr.alloc (.cells #[.int .i64 (u : Int), .int .i64 q, .int .i64 t] 44)).heap[wr.heap.size]? = some (.cells #[.int .i64 (u : Int), .int .i64 q, .int .i64 t] 44 (0, 0))) := Lib.hid (heap_alloc_new wr _)
                  clear hbj
                  by_cases hui : (u : Int) = (i : Int)
                  · have tu : ((u : Int) == (i : Int)) = true := by simp [hui]
                    by_cases ht0 : 0 ≤ t
                    · have td : decide (0 ≤ t) = true := decide_eq_true ht0
                      by_cases htn : t < (G.n : Int)
                      · have te : decide (t < (G.n : Int)) = true := decide_eq_true htn
                        obtain ⟨j, rfl⟩ : ∃ j : Nat, t = (j : Int) := ⟨t.toNat, by omega⟩
                        have hj : j < G.n := by omega
                        have hst := Lib.hid (edge_stp hmem.out hui rfl hj)
                        have hs2 : Hid (sK G i (k + 1) = min (sK G i k + weightsF G j) 1000000000) := Lib.hid (by
                          rw [hss.out, if_pos (by unfold toN; simp [hj])]
                          unfold addE
                          rw [if_pos hui]
                          rfl)
                        have hat : Hid (f i < f j) := Lib.hid (by
                          obtain ⟨kj, hkj, rfl⟩ := ord_all HAC.out hj
                          obtain ⟨ki, hki, e⟩ := ord_rise HAC.out hkj hst.out
                          rw [← e, hfin.out ki (by omega), hfin.out kj hkj]
                          omega)
                        clear ht0 htn hui hss
                        go_upto_region 23 with (fail)
                        have j0 : (0 : Int) ≤ j := by omega
                        have j1 : (j : Int) < G.n := by omega
                        obtain ⟨gw, ow, rfl, hgw, hcw⟩ := hlw.out (by omega)
                        have hwj := weight_in G j
                        have zw := Lib.hid (fun wk (h : Below w9.heap.size w9 wk) => ((onto p56.out (onto hb9.out h)).cell (p := ⟨gw, ow + j, none⟩) hgw).trans (hcw j hj))
                        have hcA : Hid (CB (wr.alloc (.cells #[.int .i64 (u : Int), .int .i64 q, .int .i64 (j : Int)] 44)) 3 gA G.n (fun t => .int .i64 (f t))) := Lib.hid (hcb9.out.keep hbA.out)
                        generalize hbeq : wr.heap.size = be at *
                        clear hbeq hcw hgw c0 c1 c2 c5 hmem hst
                        generalize wr.alloc (.cells #[.int .i64 (u : Int), .int .i64 q, .int .i64 (j : Int)] 44) = wb at *
                        have y2 : wb.cell? ⟨be, 2, none⟩ = some (.int .i64 (j : Int)) := by rw [cell_of_row wb be 2 _ 44 (0, 0) hbe.out]; rfl
                        have a1 := hcA.out.cell hj
                        have a2 := hcA.out.cell hin
                        have tl : decide (f j ≤ f i) = false := decide_eq_false (by have := hat.out; omega)
                        generalize weightsF G j = wjj at *
                        have HCUT := Lib.hid (fun nq : Nat => (⟨below_draws hbA.out nq, hbe.out⟩ : Below w9.heap.size w9 (wb.drewN nq) ∧ (wb.drewN nq).heap[be]? = some (.cells #[.int .i64 (u : Int), .int .i64 q, .int .i64 (j : Int)] 44 (0, 0))))
                        clear hat hbA hcA
                        go_quiet (fail)
                        obtain ⟨hbd, hrd⟩ := HCUT.out nq
                        have hbd := Lib.hid hbd
                        have zj := zw.out _ hbd.out
                        clear HCUT hbe y2 a1 a2 zw
                        have y2 : (wb.drewN nq).cell? ⟨be, 2, none⟩ = some (.int .i64 (j : Int)) := by rw [cell_of_row _ be 2 _ 44 (0, 0) hrd]; rfl
                        clear hrd
                        generalize wb.drewN nq = wd at *
                        generalize sK G i k = sm at *
                        by_cases hmn : sm + wjj ≤ 1000000000
                        · have hmin : Hid (min (sm + wjj) 1000000000 = sm + wjj) := Lib.hid (by omega)
                          go_wp2_with fail
                          go_roundw
                          case rel => exact ⟨k + 1, by omega, by go_num, by rw [hs2.out, hmin.out], hbd⟩
                          case measure => simp [intOf]; omega
                        · have hmin : Hid (min (sm + wjj) 1000000000 = 1000000000) := Lib.hid (by omega)
                          go_wp2_with fail
                          go_roundw
                          case rel => exact ⟨k + 1, by omega, by go_num, by first | (rw [hs2.out, hmin.out]; done) | rw [hs2.out, hmin.out, if_pos (by omega)], hbd⟩
                          case measure => simp [intOf]; omega
                      · have te : decide (t < (G.n : Int)) = false := decide_eq_false htn
                        have hs2 : Hid (sK G i (k + 1) = sK G i k) := Lib.hid (by
                          rw [hss.out, if_neg (by unfold toN; simp; omega)])
                        clear ht0 htn hui hss
                        go_wp2_with fail
                        go_roundw
                        case rel => exact ⟨k + 1, by omega, by go_num, by rw [hs2.out], hbA⟩
                        case measure => simp [intOf]; omega
                    · have td : decide (0 ≤ t) = false := decide_eq_false ht0
                      have hs2 : Hid (sK G i (k + 1) = sK G i k) := Lib.hid (by
                        rw [hss.out, if_neg (by unfold toN; simp; omega)])
                      clear ht0 hui hss
                      go_wp2_with fail
                      go_roundw
                      case rel => exact ⟨k + 1, by omega, by go_num, by rw [hs2.out], hbA⟩
                      case measure => simp [intOf]; omega
                  · have tu : ((u : Int) == (i : Int)) = false := by simpa using hui
                    have hs2 : Hid (sK G i (k + 1) = sK G i k) := Lib.hid (by
                      rw [hss.out]
                      unfold addE
                      rw [if_neg hui]
                      simp)
                    clear hui hss
                    go_wp2_with fail
                    go_roundw
                    case rel => exact ⟨k + 1, by omega, by go_num, by rw [hs2.out], hbA⟩
                    case measure => simp [intOf]; omega
                · have hs : Hid (sK G i k = weightsF G i) := Lib.hid (by
                    have : k = (edgesL G G.n).length := by have := HNE.out; omega
                    rw [this]; exact sK_all HAC.out hin)
                  rw [hs.out]
                  obtain ⟨gw, ow, rfl, hgw, hcw⟩ := hlw.out (by omega)
                  have zi := ((onto p56.out (onto hb9.out hbj.out)).cell (p := ⟨gw, ow + i, none⟩) hgw).trans (hcw i hin)
                  have hb2 := Lib.hid (onto hb9.out hbj.out)
                  have hc2 := Lib.hid (hcb9.out.keep hbj.out)
                  clear hcw hs hgw
                  generalize weightsF G i = xi at *
                  have tx : (xi != xi) = false := by simp
                  go_wp2_with fail
                  go_roundw
                  case rel => exact ⟨i + 1, by omega, by go_num, hb2, hc2⟩
                  case measure => simp [intOf]; omega
            · clear hx
              go_wp2_with fail
              go_ret
              exact ⟨rfl, onto hW6.out hb.out⟩
    · have hac2 : okG G = false := by simpa using hac
      have hne : loopsL G ≠ [] := fun e => hac (okG_true.2 e)
      have hq0 : Hid (0 < (loopsL G).length) := Lib.hid (List.length_pos_iff.2 hne)
      have ho0 : Hid ((orderA G).length = 0) := Lib.hid (by unfold orderA; rw [if_neg hne]; rfl)
      have hw0 : Hid ((weightsA G).length = 0) := Lib.hid (by unfold weightsA; rw [if_neg hne]; rfl)
      rw [hac2, ho0.out, hw0.out]
      clear hac hac2 hne hl1 hl2
      generalize hlq : (loopsL G).length = q at hq0
      have HLQ := Lib.hid hlq
      clear hlq
      have tq : ((q : Int) == 0) = false := by have := hq0.out; simp; omega
      go_wp2_with (first
        | (refine ldm rfl 27 _ rfl b 0 rfl [m0, m1, m2, m3, m4, .slice N G.n nn] _ hB5.out.range Try.underlying27 rfl 6 info27 rfl ?_)
        | (go_at_call 17; refine (LLoops _ hB5.out.at_ hf.out).mono ?_; rintro e w6 ⟨A3, c3, rfl, _, hb⟩; rw [HLQ.out]; refine Hid.out ?_)
        | fail)
      refine Lib.hid ?_
      have hB6 := Lib.hid (hB5.out.step hb)
      clear hb
      go_wp2_with fail
      go_ret
      exact ⟨rfl, by rw [HBW.out]; exact hX.out.trans (hB6.out.below.mono (by rw [← HBW.out]; exact hX.out.size))⟩
end Go.Proofs.Ytmbjmibjobpdgaa.lawRegionFalls
