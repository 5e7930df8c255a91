/-
  The walk of RegionLeast.
-/
import Derived.Test.YtmbjmibjobpdgaaM52
namespace Go.Proofs.Ytmbjmibjobpdgaa.lawRegionLeast
open Go.RowKit

set_option maxRecDepth 100000 in
set_option maxHeartbeats 4000000 in
theorem walk {mv : Array Value} {G : GT} (r : Int) (w : World) (h : ModelAt w w.heap.size mv G) : Calls Try.prog 7 #[.agg mv, .int .i64 r] w (Yes w) := by
  obtain ⟨ml, hmv, hM, hX, hbx⟩ := model_boxed h
  have hX := Lib.hid hX
  clear h
  generalize ml 0 = m0 at *
  generalize ml 1 = m1 at *
  generalize ml 2 = m2 at *
  generalize ml 3 = m3 at *
  generalize ml 4 = m4 at *
  generalize ml 5 = m5 at *
  subst hmv
  have hB := Lib.hid (show Bx (w.alloc (.cells #[m0, m1, m2, m3, m4, m5] 27)) (w.alloc (.cells #[m0, m1, m2, m3, m4, m5] 27)) w.heap.size #[m0, m1, m2, m3, m4, m5] G from ⟨Below.refl _ _, hbx, hM⟩)
  clear hM hbx
  obtain ⟨N, nn, rfl, _⟩ := model_nodes hB.out.at_
  go_enter Try.func7, Try.ntmps7
  go_upto_region 1 with (fail)
  generalize hbw : w.heap.size = b at *
  have HBW := Lib.hid hbw
  clear hbw
  generalize w.alloc (.cells #[m0, m1, m2, m3, m4, .slice N G.n nn] 27) = w1 at *
  go_wp2_with (first
    | (go_at_call 8; refine (awake_any _).mono ?_; rintro e w2 ⟨rfl, hb⟩; refine Hid.out ?_)
    | fail)
  refine Lib.hid ?_
  have hB2 := Lib.hid (hB.out.step hb)
  clear hb
  go_wp2_with (first
    | (refine ldm rfl 27 _ rfl b 0 rfl [m0, m1, m2, m3, m4, .slice N G.n nn] _ hB2.out.range Try.underlying27 rfl 6 info27 rfl ?_)
    | (go_at_call 9; refine (MSmall_any _ hB2.out.at_).mono ?_; rintro e w3 ⟨bs, rfl, hfew, hb⟩; refine Hid.out ?_)
    | fail)
  refine Lib.hid ?_
  have hF := Lib.hid hfew
  have hB3 := Lib.hid (hB2.out.step hb)
  clear hb
  clear hfew
  cases bs with
  | false =>
    go_wp2_with (first
      | (go_at_call 8; refine (awake_any _).mono ?_; rintro e w4 ⟨rfl, hb⟩; refine Hid.out ?_)
      | fail)
    refine Lib.hid ?_
    have hB4 := Lib.hid (hB3.out.step hb)
    clear hb
    go_wp2_with fail
    go_ret
    exact ⟨rfl, by rw [HBW.out]; exact hX.out.trans (hB4.out.below.mono (by rw [← HBW.out]; exact hX.out.size))⟩
  | true =>
    have hf := Lib.hid (hF.out rfl)
    have hn100 : G.n ≤ 100 := hf.out.1
    go_wp2_with (first
      | (refine ldm rfl 27 _ rfl b 0 rfl [m0, m1, m2, m3, m4, .slice N G.n nn] _ hB3.out.range Try.underlying27 rfl 6 info27 rfl ?_)
      | (go_at_call 12; refine (LWeights _ hB3.out.at_ hf.out).mono ?_; rintro e w4 ⟨A1, c1, rfl, hl1, hb⟩; refine Hid.out ?_)
      | fail)
    refine Lib.hid ?_
    have hl1 := Lib.hid hl1
    have hz1 := Lib.hid (Nat.le_refl w4.heap.size)
    have hB4 := Lib.hid (hB3.out.step hb)
    clear hb
    by_cases hac : okG G = true
    · have HAC := Lib.hid (loops_nil.1 (okG_true.1 hac))
      have hw1 := Lib.hid (weightsA_yes (okG_true.1 hac))
      rw [hac]
      clear hac
      have hwn : Hid ((weightsA G).length = G.n) := Lib.hid (by rw [hw1.out]; simp)
      have hlw : Hid (0 < G.n → ∃ g o, A1 = some ⟨g, o, none⟩ ∧ g < w4.heap.size ∧ ∀ i, i < G.n → w4.cell? ⟨g, o + i, none⟩ = some (.int .i64 (weightsF G i))) := Lib.hid (fun h0 => by
        obtain ⟨g, o, e, hg, hx⟩ := hl1.out (by rw [hwn.out]; exact h0)
        refine ⟨g, o, e, hg, fun i hi => ?_⟩
        have := hx i (by rw [hwn.out]; exact hi)
        simp only [hw1.out, List.getElem_map, List.getElem_range] at this
        exact this)
      rw [hwn.out]
      clear hl1 hw1 hwn hz1
      go_wp2_with (first
        | (refine ldm rfl 27 _ rfl b 0 rfl [m0, m1, m2, m3, m4, .slice N G.n nn] _ hB4.out.range Try.underlying27 rfl 6 info27 rfl ?_)
        | (go_at_call 20; refine (LDominators _ r hB4.out.at_ hf.out).mono ?_; rintro e w5 ⟨A2, c2, rfl, hl2, hb⟩; refine Hid.out ?_)
        | fail)
      refine Lib.hid ?_
      have hl2 := Lib.hid hl2
      have p45 := Lib.hid hb
      have hB5 := Lib.hid (hB4.out.step hb)
      clear hb
      go_wp2_with (first
        | (refine ldm rfl 27 _ rfl b 0 rfl [m0, m1, m2, m3, m4, .slice N G.n nn] _ hB5.out.range Try.underlying27 rfl 6 info27 rfl ?_)
        | (go_at_call 22; refine (LEdges _ hB5.out.at_ hf.out).mono ?_; rintro e w6 ⟨A3, c3, rfl, hl3, hb⟩; refine Hid.out ?_)
        | fail)
      refine Lib.hid ?_
      have hl3 := Lib.hid hl3
      have p56 := Lib.hid hb
      have p46 := Lib.hid (onto p45.out hb)
      have hB6 := Lib.hid (hB5.out.step hb)
      clear hb
      obtain ⟨ne, hne⟩ : ∃ ne, ne = (edgesL G G.n).length := ⟨_, rfl⟩
      have HNE := Lib.hid hne
      rw [← hne]
      clear hne
      have hne5 : ne ≤ 4100 := by have := edgesL_len hf.out (Nat.le_refl _); have := HNE.out; omega
      have hld5 : Hid (∀ i, (domL G r i).length ≤ 100) := Lib.hid (fun i => by have := domK_len G r G.n i; unfold domL; omega)
      have hkeep : Hid (∀ wj, Below w6.heap.size w6 wj → wj.cell? ⟨b, 5, none⟩ = some (.slice N G.n nn) ∧ Bx w1 wj b #[m0, m1, m2, m3, m4, .slice N G.n nn] G) := Lib.hid (fun wj h => by
        have hx := hB6.out.step h
        refine ⟨?_, hx⟩
        rw [cell_of_row wj b 5 _ 27 (0, 0) hx.row]; rfl)
      have hW6 : Hid (Below w.heap.size w w6) := Lib.hid (by rw [HBW.out]; exact hX.out.trans (hB6.out.below.mono (by rw [← HBW.out]; exact hX.out.size)))
      clear hB hB2 hB3 hB4 hB5 hB6 p45
      go_wp2_with fail
      go_loopw [35] (fun iv wr => ∃ k : Nat, k ≤ ne ∧ iv = .int .i64 k ∧ Hid (Below w6.heap.size w6 wr)) (fun iv _ => ne - (intOf iv).toNat)
      case atStart => exact ⟨0, Nat.zero_le _, rfl, Lib.hid (Below.refl _ _)⟩
      case round =>
        obtain ⟨k, hk, rfl, hb⟩ := hrel
        by_cases hlt : k < ne
        · have hkE : k < (edgesL G G.n).length := by have := HNE.out; omega
          obtain ⟨ge, oe, rfl, hge, hce⟩ := hl3.out (by omega)
          obtain ⟨x0, x1, x2⟩ := hce k hkE
          have c0 := (hb.out.cell (p := ⟨ge, oe + k * 3, none⟩) hge).trans x0
          have c1 := (hb.out.cell (p := ⟨ge, oe + k * 3 + 1, none⟩) hge).trans x1
          have c2 := (hb.out.cell (p := ⟨ge, oe + k * 3 + 2, none⟩) hge).trans x2
          have hmem := Lib.hid (List.getElem_mem hkE)
          clear hce x0 x1 x2
          generalize (edgesL G G.n)[k] = ed at *
          obtain ⟨p, q, t⟩ := ed
          obtain ⟨i, hi, he1, _⟩ := edge_from hmem.out
          simp only at c0 c1 c2 he1
          subst he1
          have hbe : Hid ((wr.alloc (.cells #[.int .i64 (i : Int), .int .i64 q, .int .i64 t] 44)).heap[wr.heap.size]? = some (.cells #[.int .i64 (i : Int), .int .i64 q, .int .i64 t] 44 (0, 0))) := Lib.hid (heap_alloc_new wr _)
          have hbA : Hid (Below w6.heap.size w6 (wr.alloc (.cells #[.int .i64 (i : Int), .int .i64 q, .int .i64 t] 44))) := Lib.hid (onto hb.out ((Below.refl _ _).alloc (Nat.le_refl _) _))
          obtain ⟨c5, _⟩ := hkeep.out _ hbA.out
          clear hb
          by_cases ht0 : t < 0
          · have td : decide (t < 0) = true := decide_eq_true ht0
            clear ht0
            go_wp2_with fail
            go_roundw
            case rel => exact ⟨k + 1, by omega, by go_num, hbA⟩
            case measure => simp [intOf]; omega
          · have td : decide (t < 0) = false := decide_eq_false ht0
            by_cases htn : (G.n : Int) ≤ t
            · have te : decide ((G.n : Int) ≤ t) = true := decide_eq_true htn
              clear ht0 htn
              go_wp2_with fail
              go_roundw
              case rel => exact ⟨k + 1, by omega, by go_num, hbA⟩
              case measure => simp [intOf]; omega
            · have te : decide ((G.n : Int) ≤ t) = false := decide_eq_false htn
              obtain ⟨j, rfl⟩ : ∃ j : Nat, t = (j : Int) := ⟨t.toNat, by omega⟩
              have hj : j < G.n := by omega
              clear ht0 htn
              go_upto_region 11 with (fail)
              have hst := Lib.hid (edge_stp hmem.out rfl rfl hj)
              have hno := Lib.hid (dom_no HAC.out hst.out (r := r))
              have hfall := Lib.hid (weight_falls HAC.out hst.out)
              have hwi := Lib.hid (weight_in G i)
              have hwj := Lib.hid (weight_in G j)
              obtain ⟨gw, ow, rfl, hgw, hcw⟩ := hlw.out (by omega)
              have hcell : Hid (∀ wj, Below w6.heap.size w6 wj → ∀ t, t < G.n → wj.cell? ⟨gw, ow + t, none⟩ = some (.int .i64 (weightsF G t))) := Lib.hid (fun wj h t ht => ((onto p46.out h).cell (p := ⟨gw, ow + t, none⟩) hgw).trans (hcw t ht))
              obtain ⟨gd, od, rfl, hgd, hxd⟩ := hl2.out (by omega)
              obtain ⟨Bd, cd, hcd, hld⟩ := hxd i hi
              have hcd := Lib.hid hcd
              have hld := Lib.hid hld
              have hgd := Lib.hid hgd
              obtain ⟨ld, hld0⟩ : ∃ ld, ld = (domL G r i).length := ⟨_, rfl⟩
              have HLD := Lib.hid hld0
              have hld6 : ld ≤ 100 := by have := hld5.out i; omega
              rw [← hld0] at hcd
              clear hld0 hcw hxd c0 c1 c2 hmem hst hgw hge
              have i0 : (0 : Int) ≤ i := by omega
              have i1 : (i : Int) < G.n := by omega
              have j0 : (0 : Int) ≤ j := by omega
              have j1 : (j : Int) < G.n := by omega
              generalize hbeq : wr.heap.size = be at *
              clear hbeq
              generalize wr.alloc (.cells #[.int .i64 (i : Int), .int .i64 q, .int .i64 (j : Int)] 44) = wb at *
              have y0 : wb.cell? ⟨be, 0, none⟩ = some (.int .i64 (i : Int)) := by rw [cell_of_row wb be 0 _ 44 (0, 0) hbe.out]; rfl
              have y2 : wb.cell? ⟨be, 2, none⟩ = some (.int .i64 (j : Int)) := by rw [cell_of_row wb be 2 _ 44 (0, 0) hbe.out]; rfl
              have zi := hcell.out _ hbA.out i hi
              have zj := hcell.out _ hbA.out j hj
              have hfin : Hid (decide (weightsF G i ≤ weightsF G j) = false ∨ decide (weightsF G i ≤ weightsF G j) = true ∧ decide (weightsF G j < 1000000000) = false) := Lib.hid (by
                by_cases hle : weightsF G i ≤ weightsF G j
                · refine .inr ⟨decide_eq_true hle, decide_eq_false ?_⟩
                  have := hfall.out
                  have := hwj.out
                  omega
                · exact .inl (decide_eq_false hle))
              clear hfall hwi hwj
              generalize weightsF G i = xi at *
              generalize weightsF G j = xj at *
              have hcut : ∀ nq : Nat, Below w6.heap.size w6 (wb.drewN nq) ∧ (wb.drewN nq).heap[be]? = some (.cells #[.int .i64 (i : Int), .int .i64 q, .int .i64 (j : Int)] 44 (0, 0)) := fun nq => ⟨below_draws hbA.out nq, hbe.out⟩
              have HCUT := Lib.hid hcut
              clear hcut
              rcases hfin.out with q1 | ⟨q1, q2⟩
              · clear hfin
                go_quiet (fail)
                obtain ⟨hbd, hrd⟩ := HCUT.out nq
                have hbd := Lib.hid hbd
                have hrd := Lib.hid hrd
                clear HCUT hbA hbe y0 y2 zi zj
                generalize wb.drewN nq = wd at *
                have y0 : wd.cell? ⟨be, 0, none⟩ = some (.int .i64 (i : Int)) := by rw [cell_of_row wd be 0 _ 44 (0, 0) hrd.out]; rfl
                have hcd2 := ((onto p56.out hbd.out).cell (p := ⟨gd, od + i, none⟩) hgd.out).trans hcd.out
                go_wp2_with fail
                go_loopw [75] (fun jv wj => ∃ m : Nat, m ≤ ld ∧ jv = .int .i64 m ∧ Hid (Below w6.heap.size w6 wj) ∧ Hid (wj.heap[be]? = some (.cells #[.int .i64 (i : Int), .int .i64 q, .int .i64 (j : Int)] 44 (0, 0)))) (fun jv _ => ld - (intOf jv).toNat)
                case atStart => exact ⟨0, Nat.zero_le _, rfl, hbd, hrd⟩
                case round =>
                  clear hbd hrd y0 hcd2
                  obtain ⟨m, hm, rfl, hbd, hrd⟩ := hrel
                  by_cases hml : m < ld
                  · have hmL : m < (domL G r i).length := by have := HLD.out; omega
                    obtain ⟨gB, oB, rfl, hgB, hxB⟩ := hld.out (by omega)
                    have z1 := ((onto p56.out hbd.out).cell (p := ⟨gB, oB + m, none⟩) hgB).trans (hxB m hmL)
                    have hne2 : Hid ((domL G r i)[m] ≠ (j : Int)) := Lib.hid (fun e => hno.out (by rw [← e]; exact List.getElem_mem hmL))
                    clear hxB
                    generalize (domL G r i)[m] = x at *
                    have tx : (x == (j : Int)) = false := by simpa using hne2.out
                    have y2 : wr.cell? ⟨be, 2, none⟩ = some (.int .i64 (j : Int)) := by rw [cell_of_row wr be 2 _ 44 (0, 0) hrd.out]; rfl
                    go_wp2_with fail
                    go_roundw
                    case rel => exact ⟨m + 1, by omega, by go_num, hbd, hrd⟩
                    case measure => simp [intOf]; omega
                  · go_wp2_with fail
                    go_roundw
                    case rel => exact ⟨k + 1, by omega, by go_num, hbd⟩
                    case measure => simp [intOf]; omega
              · clear hfin
                go_quiet (fail)
                obtain ⟨hbd, hrd⟩ := HCUT.out nq
                have hbd := Lib.hid hbd
                have hrd := Lib.hid hrd
                clear HCUT hbA hbe y0 y2 zi zj
                generalize wb.drewN nq = wd at *
                have y0 : wd.cell? ⟨be, 0, none⟩ = some (.int .i64 (i : Int)) := by rw [cell_of_row wd be 0 _ 44 (0, 0) hrd.out]; rfl
                have hcd2 := ((onto p56.out hbd.out).cell (p := ⟨gd, od + i, none⟩) hgd.out).trans hcd.out
                go_wp2_with fail
                go_loopw [75] (fun jv wj => ∃ m : Nat, m ≤ ld ∧ jv = .int .i64 m ∧ Hid (Below w6.heap.size w6 wj) ∧ Hid (wj.heap[be]? = some (.cells #[.int .i64 (i : Int), .int .i64 q, .int .i64 (j : Int)] 44 (0, 0)))) (fun jv _ => ld - (intOf jv).toNat)
                case atStart => exact ⟨0, Nat.zero_le _, rfl, hbd, hrd⟩
                case round =>
                  clear hbd hrd y0 hcd2
                  obtain ⟨m, hm, rfl, hbd, hrd⟩ := hrel
                  by_cases hml : m < ld
                  · have hmL : m < (domL G r i).length := by have := HLD.out; omega
                    obtain ⟨gB, oB, rfl, hgB, hxB⟩ := hld.out (by omega)
                    have z1 := ((onto p56.out hbd.out).cell (p := ⟨gB, oB + m, none⟩) hgB).trans (hxB m hmL)
                    have hne2 : Hid ((domL G r i)[m] ≠ (j : Int)) := Lib.hid (fun e => hno.out (by rw [← e]; exact List.getElem_mem hmL))
                    clear hxB
                    generalize (domL G r i)[m] = x at *
                    have tx : (x == (j : Int)) = false := by simpa using hne2.out
                    have y2 : wr.cell? ⟨be, 2, none⟩ = some (.int .i64 (j : Int)) := by rw [cell_of_row wr be 2 _ 44 (0, 0) hrd.out]; rfl
                    go_wp2_with fail
                    go_roundw
                    case rel => exact ⟨m + 1, by omega, by go_num, hbd, hrd⟩
                    case measure => simp [intOf]; omega
                  · go_wp2_with fail
                    go_roundw
                    case rel => exact ⟨k + 1, by omega, by go_num, hbd⟩
                    case measure => simp [intOf]; omega
        · have hkk : k = ne := by omega
          clear hkk
          obtain ⟨c5, _⟩ := hkeep.out _ hb.out
          go_wp2_with fail
          go_loopw [88] (fun iv wj => ∃ i : Nat, i ≤ G.n ∧ iv = .int .i64 i ∧ Hid (Below w6.heap.size w6 wj)) (fun iv _ => G.n - (intOf iv).toNat)
          case atStart => exact ⟨0, Nat.zero_le _, rfl, hb⟩
          case round =>
            clear hb c5
            obtain ⟨i, hi, rfl, hb⟩ := hrel
            obtain ⟨c5, hx⟩ := hkeep.out _ hb.out
            by_cases hin : i < G.n
            · obtain ⟨N', nn', e, ns, hR, hN⟩ := model_nodes hx.at_
              injection e with e1 e2 e3
              subst e1
              subst e3
              obtain ⟨g, o, rfl, hg, hc⟩ := hR (by omega)
              obtain ⟨L, _, _, A4, ca, _, _, _, _, _, _, _, ev, hL, ho, hc2, _, hc26, _, _, _, _, _, _, _, hca, _, _, _, _, _, _, _⟩ := (hN i hin).list
              have hra := Lib.hid (RowAt.range hc hin ev hL)
              have hLL := Lib.hid hL
              have ho := Lib.hid ho
              obtain ⟨gw, ow, rfl, hgw, hcw⟩ := hlw.out (by omega)
              have hbA : Hid (Below w6.heap.size w6 (wr.alloc (.cells L.toArray 58))) := Lib.hid (onto hb.out ((Below.refl _ _).alloc (Nat.le_refl _) _))
              have zi := ((onto p46.out hbA.out).cell (p := ⟨gw, ow + i, none⟩) hgw).trans (hcw i hin)
              have y2 : (wr.alloc (.cells L.toArray 58)).cell? ⟨wr.heap.size, 2, none⟩ = some (.slice A4 (G.d i).c ca) := by rw [World.cell?_alloc_new]; simpa using hc2
              have y26 : (wr.alloc (.cells L.toArray 58)).cell? ⟨wr.heap.size, 26, none⟩ = some (.int .i64 (G.d i).k) := by rw [World.cell?_alloc_new]; simpa using hc26
              have hone := Lib.hid (fun hc hk => weight_one HAC.out hin hc hk)
              have i0 : (0 : Int) ≤ i := by omega
              have i1 : (i : Int) < G.n := by omega
              clear hcw hc hR hN hL hc2 hc26 ev hx hgw hca
              generalize weightsF G i = xi at *
              generalize (G.d i).c = yc at *
              generalize (G.d i).k = yk at *
              by_cases hyc : yc = 0
              · subst hyc
                by_cases hyk : yk < 0
                · have tk : decide (yk < 0) = true := decide_eq_true hyk
                  have hx1 : xi = 1 := hone.out rfl hyk
                  subst hx1
                  clear hyk hone
                  go_wp2_with (first | (refine ldm rfl 58 _ rfl g (o + i * 29) rfl L _ hra.out Try.underlying58 rfl 29 info58 hLL.out ?_) | (refine stm rfl 58 _ _ rfl _ L rfl rfl 29 info58 hLL.out rfl ho.out ?_) | fail)
                  go_roundw
                  case rel => exact ⟨i + 1, by omega, by go_num, hbA⟩
                  case measure => simp [intOf]; omega
                · have tk : decide (yk < 0) = false := decide_eq_false hyk
                  clear hyk hone
                  go_wp2_with (first | (refine ldm rfl 58 _ rfl g (o + i * 29) rfl L _ hra.out Try.underlying58 rfl 29 info58 hLL.out ?_) | (refine stm rfl 58 _ _ rfl _ L rfl rfl 29 info58 hLL.out rfl ho.out ?_) | fail)
                  go_roundw
                  case rel => exact ⟨i + 1, by omega, by go_num, hbA⟩
                  case measure => simp [intOf]; omega
              · have tc : ((yc : Int) == 0) = false := by simpa using hyc
                have tc2 : ((yc : Int) != 0) = true := by simpa using hyc
                clear hone
                go_wp2_with (first | (refine ldm rfl 58 _ rfl g (o + i * 29) rfl L _ hra.out Try.underlying58 rfl 29 info58 hLL.out ?_) | (refine stm rfl 58 _ _ rfl _ L rfl rfl 29 info58 hLL.out rfl ho.out ?_) | fail)
                go_roundw
                case rel => exact ⟨i + 1, by omega, by go_num, hbA⟩
                case measure => simp [intOf]; omega
            · clear hkeep hx
              go_wp2_with fail
              go_ret
              exact ⟨rfl, onto hW6.out hb.out⟩
    · have hac2 : okG G = false := by simpa using hac
      rw [hac2]
      clear hac hac2
      go_wp2_with fail
      go_ret
      exact ⟨rfl, by rw [HBW.out]; exact hX.out.trans (hB4.out.below.mono (by rw [← HBW.out]; exact hX.out.size))⟩
end Go.Proofs.Ytmbjmibjobpdgaa.lawRegionLeast
