/-
  The landed model's Reach.
-/
import Derived.Test.YtmbjmibjobpdgaaM22
namespace Go.Proofs.Ytmbjmibjobpdgaa
open Go.RowKit Go.Maps

theorem World.ownsRow.low {w : World} {B B' : Nat} {t C : Nat} {v : Value} {n : Nat} {cs : List Value} (h : w.ownsRow B t C v n cs) (hB : B' ≤ B) : w.ownsRow B' t C v n cs := by
  refine ⟨h.1, ?_⟩
  rcases h.2 with h | ⟨g, cap, cur, e, hg, r⟩
  · exact .inl h
  · exact .inr ⟨g, cap, cur, e, Nat.le_trans hB hg, r⟩
theorem OwnI.saysF {w w' : World} {v : Value} {L : List Int} (ho : OwnI w' w.heap.size v L) (hb : Below w.heap.size w w') : SaysF w L (.returned v) w' := by
  obtain ⟨A, c, e, hl, hb⟩ := ho.says hb
  rw [e]
  injection e with e
  refine ⟨A, c, rfl, hl, hb, fun h0 => ?_⟩
  rcases ho.2 with ⟨_, h1⟩ | ⟨g, cap, _, e1, hg, _⟩
  · omega
  · rw [e] at e1
    injection e1 with e1
    exact ⟨g, 0, e1, hg⟩
set_option maxRecDepth 20000 in
set_option maxHeartbeats 4000000 in
theorem LReach {mv : Array Value} {G : GT} (w : World) (st : Int) (h : ModelAt w w.heap.size mv G) (hfew : fewB G) : Calls Try.prog 23 #[.agg mv, .int .i64 st] w (SaysF w (reachL G st)) := by
  have hF := Lib.hid hfew
  clear hfew
  have hmm := @run_makeMap Try.prog
  cases h with
  | mk lb A a aa B b bb V p pp S q qq N n nn vs ms ns d ha hb hp hq hn hV hvs hS hms hN hns =>
    clear ha hb hp hq hV hvs hS hms
    have hn1 := hF.out.1
    simp only at hn1
    have hNN := Lib.hid hN
    have hns1 := Lib.hid hns
    clear hN hns hn
    rw [show modelV lb A a aa B b bb V p pp S q qq N n nn = #[.int .i64 lb, .slice A a aa, .slice B b bb, .slice V p pp, .slice S q qq, .slice N n nn] from rfl]
    generalize (Value.int .i64 lb) = m0 at *
    generalize (Value.slice A a aa) = m1 at *
    generalize (Value.slice B b bb) = m2 at *
    generalize (Value.slice V p pp) = m3 at *
    generalize (Value.slice S q qq) = m4 at *
    obtain ⟨L, hL⟩ : ∃ L : List Value, L = [m0, m1, m2, m3, m4, .slice N n nn] := ⟨_, rfl⟩
    have h6 : Hid (L.length = 6) := Lib.hid (by rw [hL]; rfl)
    have h5 : Hid (L[5]? = some (.slice N n nn)) := Lib.hid (by rw [hL]; rfl)
    have hLa : Hid (#[m0, m1, m2, m3, m4, .slice N n nn] = L.toArray) := Lib.hid (by rw [hL])
    have hr0 : Hid ((w.alloc (.cells #[m0, m1, m2, m3, m4, .slice N n nn] 27)).rangeAt w.heap.size 0 [m0, m1, m2, m3, m4, .slice N n nn]) := Lib.hid (range6 (heap_alloc_new w _))
    have hb0 : Hid (Below w.heap.size w (w.alloc (.cells #[m0, m1, m2, m3, m4, .slice N n nn] 27))) := Lib.hid ((Below.refl _ _).alloc (Nat.le_refl _) _)
    have hx0 : Hid ((w.alloc (.cells #[m0, m1, m2, m3, m4, .slice N n nn] 27)).heap[w.heap.size]? = some (.cells #[m0, m1, m2, m3, m4, .slice N n nn] 27 (0, 0))) := Lib.hid (heap_alloc_new w _)
    clear hL
    go_enter Try.func23, Try.ntmps23
    go_wp2_with (first | (refine ldm rfl 27 _ rfl w.heap.size 0 rfl [m0, m1, m2, m3, m4, .slice N n nn] _ hr0.out Try.underlying27 rfl 6 info27q rfl ?_; refine Hid.out ?_) | fail)
    refine Lib.hid ?_
    rw [hLa.out] at hr0 hb0 hx0 ⊢
    have HB : Hid (Below w.heap.size w (w.alloc (.cells L.toArray 27))) := hb0
    clear hr0 hb0 hLa
    generalize hbx : w.heap.size = bx at *
    have HBX := Lib.hid hbx
    clear hbx
    generalize w.alloc (.cells L.toArray 27) = W0 at *
    have hx1 := Lib.hid (row_alloc hx0.out (.cells L.toArray 27))
    have hB1 := Lib.hid (HB.out.alloc (by have := HB.out.size; have := HBX.out; omega) (.cells L.toArray 27))
    clear hx0 HB
    by_cases hst : 0 ≤ st ∧ st < n
    · obtain ⟨s, rfl⟩ : ∃ s : Nat, st = (s : Int) := ⟨st.toNat, by omega⟩
      have hsn : s < n := by omega
      have hiN : Hid (isNodeB n (s : Int) = true) := Lib.hid (by unfold isNodeB; rw [decide_eq_true (show (0 : Int) ≤ (s : Int) by omega), decide_eq_true (show (s : Int) < (n : Int) by omega)]; rfl)
      have hrl : Hid (reachL ⟨n, d⟩ (s : Int) = pickL n (reachB ⟨n, d⟩ s)) := Lib.hid (by unfold reachL; rw [if_pos ⟨hst.1, hst.2⟩, show ((s : Int)).toNat = s by omega])
      clear hst
      go_wp2_with (first | (go_at_call 50; refine (isNode_L h6.out h5.out _).mono ?_; rintro e w6 ⟨rfl, rfl⟩; rw [hiN.out]; refine Hid.out ?_) | fail)
      refine Lib.hid ?_
      generalize W0.alloc (.cells L.toArray 27) = W1 at *
      go_wp2_with fail
      have hmb0 := row_lt hx1.out
      have hQ0 : Hid (AmidQ w ((W1.alloc (.map #[] 0)).alloc (.cells #[.int .i64 (s : Int)] 3)) L W1.heap.size n (fun _ => false) (.slice (some ⟨W1.heap.size + 1, 0, none⟩) 1 1) [s]) := Lib.hid (by
        have e : (W1.alloc (.map #[] 0)).heap.size = W1.heap.size + 1 := by simp
        refine ⟨?_, ?_, ⟨.map [], 0, Nat.zero_le _, (World.ownsMap_made W1 Try.prog 3 unitElem).alloc _, isSet_none n⟩, ?_, ⟨by simp [ofN], .inr ⟨W1.heap.size + 1, 1, #[.int .i64 (s : Int)], rfl, Nat.le_refl _, ?_, ?_, ?_, ?_, ?_⟩⟩⟩
        · rw [HBX.out]; exact (hB1.out.alloc (by omega) _).alloc (by rw [e]; omega) _
        · rw [HBX.out]; exact row_alloc (row_alloc hx1.out _) _
        · rw [HBX.out]; exact hmb0
        · rw [← e]; exact heap_alloc_new _ _
        all_goals simp [ofN, maxLen])
      have HW1 := Lib.hid hB1.out
      clear hx1 hB1
      generalize hmb : W1.heap.size = mb at *
      clear hmb hmb0
      generalize (W1.alloc (.map #[] 0)).alloc (.cells #[.int .i64 (s : Int)] 3) = W2 at *
      go_loopg [6] ((n - (pickL n (fun _ => false)).length) + 1) (fun k v wr => ∃ (f : Nat → Bool) (O : List Nat), Hid (k = (n - (pickL n f).length) + O.length ∧ Dfs ⟨n, d⟩ s f O ∧ O.length ≤ (pickL n f).length + 1) ∧ Hid (AmidQ w wr L mb n f v O))
      case atStart => exact ⟨fun _ => false, [s], Lib.hid ⟨rfl, Dfs.start hsn, by simp⟩, hQ0⟩
      case round =>
        clear hQ0
        obtain ⟨f, O, HK, hQ⟩ := hrel
        rcases List.eq_nil_or_concat O with rfl | ⟨O0, u, hOe⟩
        · obtain ⟨Ao, oc, rfl⟩ := hQ.out.none
          obtain ⟨D, k, hk, hD, hS⟩ := hQ.out.set
          have hpl := pickL_len n f
          have hDs : Hid (Maps.size D ≤ 100) := Lib.hid (by have := hD.size_le; omega)
          have hDD := Lib.hid hD
          have hSS := Lib.hid hS
          have hfin : Hid (∀ ss : List Int, ss.Perm (intKeys D) → ss.mergeSort (fun x y => decide (x ≤ y)) = reachL ⟨n, d⟩ (s : Int)) := Lib.hid (fun ss hp => by
            rw [sorted_pick hSS.out hDD.out hp, hrl.out]
            congr 1
            funext t
            exact HK.out.2.1.all hsn t)
          clear hD hS hk hpl
          go_wp2_with (first
            | (go_at_call 52; refine (keys_call _ _).mono ?_; rintro e w6 ⟨rfl, rfl⟩)
            | (go_at_call 51; refine (sorted_call mb k D unitElem _ hDD.out (by have := hDs.out; unfold maxLen; omega) (by have := hDs.out; omega)).mono ?_; rintro e w7 ⟨v7, ss, rfl, hp, hrow, hnil, hb⟩; have hp := Lib.hid hp; have hrow := Lib.hid hrow; have hb := Lib.hid hb; clear hnil)
            | fail)
          go_ret
          have hB7 : Below w.heap.size w w7 := (hQ.out.below.alloc hQ.out.below.size _).trans (hb.out.mono (by have := hQ.out.below.size; simp; omega))
          refine OwnI.saysF ?_ hB7
          have ho := World.ownsRow.low hrow.out (B' := w.heap.size) (by have := hQ.out.below.size; simp; omega)
          have e := hfin.out ss hp.out
          unfold OwnI
          rw [← e, List.length_mergeSort]
          exact ho
        · rw [List.concat_eq_append] at hOe
          subst hOe
          obtain ⟨go, oc, rfl, hcell, hQ1, hcap⟩ := hQ.out.pop
          have hM0 := HK.out.2.1.pop
          have hun : u < n := hM0.here.1
          have hpl := pickL_len n f
          have hO0 : O0.length ≤ 100 := by have := HK.out.2.2; rw [List.length_append, List.length_singleton] at this; omega
          have HI : Hid (O0.length ≤ (pickL n f).length ∧ gk = (n - (pickL n f).length) + O0.length + 1) := Lib.hid (by
            have h1 := HK.out.1
            have h2 := HK.out.2.2
            rw [List.length_append, List.length_singleton] at h1 h2
            omega)
          have hNw := hNN.out.keep (w' := wr) fun g o hg => hQ1.below.cell (p := ⟨g, o, none⟩) (by show g < w.heap.size; rw [HBX.out]; exact hg)
          obtain ⟨g, o, rfl, hg, hx⟩ := hNw (by omega)
          obtain ⟨Ln, E, F, A1, ca, B1, m1', cb, vs1, xs1, x1, y1, ev, hL, ho1, hc_2, _, hc_26, _, _, _, _, _, _, _, hca, hA1, hnum, _, _, _, hct, _⟩ := (hns1.out u hun).list
          have hra := Lib.hid (RowAt.range hx hun ev hL)
          have hLL := Lib.hid hL
          have ho := Lib.hid ho1
          have hNx := Lib.hid hA1
          have h41 : (d u).c + (if 0 ≤ (d u).k then 1 else 0) ≤ 41 := hF.out.2 u (by show u < n; exact hun)
          have h40 : (d u).c ≤ 41 := Nat.le_trans (Nat.le_add_right _ _) h41
          have hp41 := portsN_le h41
          have hwf : Hid (∀ j, j ≤ (d u).c → Num (targetN (d u) j)) := Lib.hid (fun j hj => by
            unfold targetN
            split
            · exact hct
            · exact hnum j (by omega))
          clear h41
          have hM1 := Lib.hid hM0
          obtain ⟨x, hxd⟩ : ∃ x, x = d u := ⟨_, rfl⟩
          have HXD := Lib.hid hxd
          rw [← hxd] at hc_2 hc_26 hNx h40 hp41 hwf
          have h2 := Lib.hid hc_2
          have h26 := Lib.hid hc_26
          have hQd := Lib.hid hQ1.drew
          have c5 : wr.drew.cell? ⟨bx, 5, none⟩ = some (.slice (some ⟨g, o, none⟩) n nn) := by
            have hb := hQ1.box
            rw [HBX.out] at hb
            have e : wr.drew.cell? ⟨bx, 5, none⟩ = wr.cell? ⟨bx, 5, none⟩ := rfl
            rw [e, cell_of_row wr bx 5 _ 27 (0, 0) hb]
            simpa using h5.out
          have cO : wr.drew.cell? ⟨go, O0.length, none⟩ = some (.int .i64 (u : Int)) := hcell
          have cN : wr.drew.rangeAt g (o + u * 29) Ln := hra.out
          have hcap' := Lib.hid hcap
          have HC5 := Lib.hid c5
          have HCO := Lib.hid cO
          have HCN := Lib.hid cN
          obtain ⟨ol, hol⟩ : ∃ ol, ol = O0.length := ⟨_, rfl⟩
          have HOL := Lib.hid hol
          have hOg : Hid (AmidQ w wr.drew L mb n f (.slice (some ⟨go, 0, none⟩) ol oc) O0) := by rw [hol]; exact hQd
          rw [← hol] at hO0 HCO
          rw [← hol]
          clear hL ho1 hc_2 hc_26 hA1 hx hNw ev hnum hct hca hM0 hQ1 hcell c5 cO cN hra hcap hQd hpl hol hxd
          go_upto_region 7 with (fail)
          have hlt : ∀ (b k : Nat) (v : Value), wr.drew.cell? ⟨b, k, none⟩ = some v → ∀ z, (wr.drew.alloc z).cell? ⟨b, k, none⟩ = some v := fun b k v h z => by
            rw [World.cell?_alloc_some _ _ _ (by rw [h]; rfl)]; exact h
          have HS0 : Hid (wr.drew.cell? ⟨bx, 5, none⟩ = some (.slice (some ⟨g, o, none⟩) n nn) ∧ wr.drew.cell? ⟨go, ol, none⟩ = some (.int .i64 (u : Int)) ∧ wr.drew.rangeAt g (o + u * 29) Ln) := Lib.hid ⟨HC5.out, HCO.out, HCN.out⟩
          have HS1 : Hid (∀ z, (wr.drew.alloc z).cell? ⟨bx, 5, none⟩ = some (.slice (some ⟨g, o, none⟩) n nn) ∧ (wr.drew.alloc z).cell? ⟨go, ol, none⟩ = some (.int .i64 (u : Int)) ∧ (wr.drew.alloc z).rangeAt g (o + u * 29) Ln) := Lib.hid (fun z => ⟨hlt _ _ _ HC5.out z, hlt _ _ _ HCO.out z, fun j v h => hlt _ _ _ (HCN.out j v h) z⟩)
          clear hlt HC5 HCO HCN
          have hQ8 := Lib.hid (hOg.out.alloc (.cells Ln.toArray 58))
          have hnb8 : Hid ((wr.drew.alloc (.cells Ln.toArray 58)).heap[wr.drew.heap.size]? = some (.cells Ln.toArray 58 (0, 0))) := Lib.hid (heap_alloc_new wr.drew _)
          refine wp_region_held_drew (S := fun W => W.cell? ⟨bx, 5, none⟩ = some (.slice (some ⟨g, o, none⟩) n nn) ∧ W.cell? ⟨go, ol, none⟩ = some (.int .i64 (u : Int)) ∧ W.rangeAt g (o + u * 29) Ln) (by kernel_rfl) HS0.out (fun _ => ?_)
          refine takeQ (i := 0) (some 26) (.pointer (some ⟨bx, 5, none⟩)) rfl rfl (by kernel_rfl) (by kernel_rfl) (by kernel_rfl) (fun _ _ _ h => h) HS0.out (by kernel_rfl) (fun W hW => by kernel_rfl) ?_
          refine takeQ (i := 1) (some 27) (.slice (some ⟨g, o, none⟩) n nn) rfl rfl (by kernel_rfl) (by kernel_rfl) (by kernel_rfl) (fun _ _ _ h => h) HS0.out (by kernel_rfl) (fun W hW => run_ld 25 (.tmp 26) rfl bx 5 (by kernel_rfl) _ hW.1 (fun W h => ld1 (Try.isAgg25 W) h)) ?_
          refine takeQ (i := 2) (some 28) (.slice (some ⟨go, 0, none⟩) (ol + 1) oc) rfl rfl (by kernel_rfl) (by kernel_rfl) (by kernel_rfl) (fun _ _ _ h => h) HS0.out (by kernel_rfl) (fun W hW => by kernel_rfl) ?_
          refine takeQ (i := 3) (some 29) (.int .i64 (ol : Int)) rfl rfl (by kernel_rfl) (by kernel_rfl) (by kernel_rfl) (fun _ _ _ h => h) HS0.out (by kernel_rfl) (fun W hW => by kernel_rfl) ?_
          refine takeQ (i := 4) (some 30) (.pointer (some ⟨go, 0 + ol * 1, none⟩)) rfl rfl (by kernel_rfl) (by kernel_rfl) (by kernel_rfl) (fun _ _ _ h => h) HS0.out (by kernel_rfl) (fun W hW => run_ix (.tmp 28) (.tmp 29) rfl Try.underlying30 (by kernel_rfl) go 0 (ol + 1) oc ol (by omega) (by kernel_rfl) (by kernel_rfl)) ?_
          refine takeQ (i := 5) (some 31) (.int .i64 (u : Int)) rfl rfl (by kernel_rfl) (by kernel_rfl) (by kernel_rfl) (fun _ _ _ h => h) HS0.out (by kernel_rfl) (fun W hW => run_ld 3 (.tmp 30) rfl go (0 + ol * 1) (by kernel_rfl) _ (by rw [Nat.zero_add, Nat.mul_one]; exact hW.2.1) (fun W h => ld1 (Try.isAgg3 W) h)) ?_
          refine takeQ (i := 6) (some 32) (.pointer (some ⟨g, o + u * 29, none⟩)) rfl rfl (by kernel_rfl) (by kernel_rfl) (by kernel_rfl) (fun _ _ _ h => h) HS0.out (by kernel_rfl) (fun W hW => run_ix (.tmp 27) (.tmp 31) rfl Try.underlying25 info58 g o n nn u hun (by kernel_rfl) (by kernel_rfl)) ?_
          refine takeQ (i := 7) (some 33) (.agg Ln.toArray) rfl rfl (by kernel_rfl) (by kernel_rfl) (by kernel_rfl) (fun _ _ _ h => h) HS0.out (by kernel_rfl) (fun W hW => run_ldN (.tmp 32) rfl g (o + u * 29) (by kernel_rfl) Ln hLL.out hW.2.2) ?_
          refine allocQ (i := 8) (some 8) rfl (by kernel_rfl) rfl (by kernel_rfl) rfl (HS1.out _) ?_
          refine storeQ (i := 9) (.tmp 8) (.tmp 33) rfl (by kernel_rfl) rfl (by kernel_rfl) rfl (by kernel_rfl) Ln (by kernel_rfl) hLL.out ho.out (HS1.out _) ?_
          refine wpAnyH_done (by kernel_rfl) ?_ _
          simp only [Act.put, List.setIfInBounds_toArray, List.set_cons_zero, List.set_cons_succ]
          clear HS0 HS1 ho hOg
          generalize hbn : wr.drew.heap.size = bn at *
          clear hbn
          generalize wr.drew.alloc (.cells Ln.toArray 58) = W8 at *
          have hol1 : ol ≤ oc := by have := hcap'.out; have := HOL.out; omega
          have hrb := Lib.hid (range_of_row hnb8.out)
          have hQ9 := Lib.hid (hQ8.out.alloc (.cells Ln.toArray 58))
          have hnb9 := Lib.hid (row_alloc hnb8.out (.cells Ln.toArray 58))
          have HM : Hid (Dmid ⟨n, d⟩ s u 0 f O0 ∧ O0.length ≤ (pickL n f).length ∧ (n - (pickL n f).length) + O0.length + 1 ≤ gk) := Lib.hid ⟨hM1.out, HI.out.1, by have := HI.out.2; omega⟩
          clear hQ8 hnb8 hM1 HI hcap' HOL
          obtain ⟨pn, hpn⟩ : ∃ pn, pn = portsN x := ⟨_, rfl⟩
          have HPN := Lib.hid hpn
          rw [← hpn] at hp41
          clear hpn
          go_wp2_with (first | (refine ldm rfl 58 _ rfl bn 0 rfl Ln _ hrb.out Try.underlying58 rfl 29 info58 hLL.out ?_) | (go_at_call 48; refine (ports_any x hLL.out h2.out h26.out h40).mono ?_; rintro e w6 ⟨rfl, rfl⟩; rw [← HPN.out]) | fail)
          clear hrb
          generalize W8.alloc (.cells Ln.toArray 58) = W9 at *
          go_loopw [6, 39] (fun v jv wj => ∃ (j : Nat) (f : Nat → Bool) (O : List Nat), j ≤ pn ∧ jv = .int .i64 j ∧ Hid (Dmid ⟨n, d⟩ s u j f O ∧ O.length ≤ (pickL n f).length ∧ (n - (pickL n f).length) + O.length + 1 ≤ gk) ∧ Hid (AmidQ w wj L mb n f v O) ∧ Hid (wj.heap[bn]? = some (.cells Ln.toArray 58 (0, 0)))) (fun _ jv _ => pn - (intOf jv).toNat)
          case atStart => exact ⟨0, f, O0, Nat.zero_le _, rfl, HM, hQ9, hnb9⟩
          case round =>
            clear hQ9 hnb9 HM
            obtain ⟨j, f, O, hj, rfl, HM, hQ, hnb⟩ := hrel
            by_cases hjl : j < pn
            · have hjc : j ≤ x.c := by
                have := HPN.out
                unfold portsN at this
                split at this <;> omega
              have hrb := Lib.hid (range_of_row hnb.out)
              have hAx : Hid (0 < x.c → ∃ g o, A1 = some ⟨g, o, none⟩ ∧ g < wr.heap.size ∧ ∀ j, j < x.c → wr.cell? ⟨g, o + j, none⟩ = some (.int .i64 (x.f j))) := Lib.hid (fun h0 => by
                obtain ⟨g1, o1, e1, hg1, hx1⟩ := hNx.out h0
                have hg2 : g1 < w.heap.size := by rw [HBX.out]; exact hg1
                exact ⟨g1, o1, e1, Nat.lt_of_lt_of_le hg2 hQ.out.below.size, fun k hkc => (hQ.out.below.cell (p := ⟨g1, o1 + k, none⟩) hg2).trans (hx1 k hkc)⟩)
              have hQ3 := Lib.hid (hQ.out.alloc (.cells Ln.toArray 58))
              have hnb3 := Lib.hid (row_alloc hnb.out (.cells Ln.toArray 58))
              obtain ⟨tg, htg⟩ : ∃ tg, tg = targetN x j := ⟨_, rfl⟩
              have HTG := Lib.hid htg
              have hkey : Hid (keyOf Try.prog 3 (.int .i64 tg) = some (.int .i64 tg)) := Lib.hid (keyOf_int_mk Try.underlying3 (by
                have := hwf.out j hjc
                rw [← htg] at this
                simpa [Num, Lit.wf, IntKind.min, IntKind.max, IntKind.signed, IntKind.bits] using this))
              clear htg
              have htd : Hid (tg = targetN (GT.d ⟨n, d⟩ u) j) := Lib.hid (by have := HTG.out; rw [HXD.out] at this; exact this)
              obtain ⟨D, k, hk, hD, hS⟩ := hQ3.out.set
              have hpl := pickL_len n f
              have hk1 : Hid (k < maxLen) := Lib.hid (by unfold maxLen; omega)
              have hk2 := Lib.hid hk
              have hD3 := Lib.hid hD
              have hS3 := Lib.hid hS
              have hh0 := hS.2 tg
              clear hk hD hS hpl hQ hnb
              by_cases hit : 0 ≤ tg ∧ tg < n
              · obtain ⟨t, rfl⟩ : ∃ t : Nat, tg = (t : Int) := ⟨tg.toNat, by omega⟩
                have htn : t < n := by omega
                rw [decide_eq_true hit.1, decide_eq_true hit.2, show ((t : Int)).toNat = t by omega, Bool.true_and, Bool.true_and] at hh0
                have hiT : Hid (isNodeB n (t : Int) = true) := Lib.hid (by unfold isNodeB; rw [decide_eq_true hit.1, decide_eq_true hit.2]; rfl)
                clear hit
                by_cases hft : f t = true
                · rw [hft] at hh0
                  have hhas := Lib.hid hh0
                  have HM2 : Hid (Dmid ⟨n, d⟩ s u (j + 1) f O ∧ O.length ≤ (pickL n f).length ∧ (n - (pickL n f).length) + O.length + 1 ≤ gk) := Lib.hid ⟨HM.out.1.skip fun v hv hl => by
                    have e := htd.out
                    rw [hv] at e
                    obtain rfl : t = v := by omega
                    exact hft, HM.out.2⟩
                  clear hh0 hft HM
                  go_wp2_with (first | (refine ldm rfl 58 _ rfl bn 0 rfl Ln _ hrb.out Try.underlying58 rfl 29 info58 hLL.out ?_) | (go_at_call 49; refine (target_any x hLL.out h2.out h26.out h40 hAx.out j hjc).mono ?_; rintro e w6 ⟨rfl, rfl⟩; rw [← HTG.out]) | (at_lookup; refine wpList_lookup_own_unit _ rfl _ _ 91 rfl 3 92 law3q Try.underlying91 (zero75 _) mb k D rfl hD3.out _ _ rfl hkey.out ?_; rw [hhas.out]; refine Hid.out ?_) | fail)
                  refine Lib.hid ?_
                  clear hrb hAx
                  have hQ4 := Lib.hid (hQ3.out.alloc (.cells #[] 92))
                  have hnb4 := Lib.hid (row_alloc hnb3.out (.cells #[] 92))
                  clear hQ3 hnb3 hD3
                  generalize wr.alloc (.cells Ln.toArray 58) = wC at *
                  go_wp2_with fail
                  go_roundw
                  case rel => exact ⟨j + 1, f, O, by omega, by go_num, HM2, hQ4, hnb4⟩
                  case measure => simp [intOf]; omega
                · have hff : f t = false := by simpa using hft
                  clear hft
                  rw [hff] at hh0
                  have hhas := Lib.hid hh0
                  have HFF := Lib.hid hff
                  have HM2 : Hid (Dmid ⟨n, d⟩ s u (j + 1) (upd f t true) (O ++ [t]) ∧ (O ++ [t]).length ≤ (pickL n (upd f t true)).length ∧ (n - (pickL n (upd f t true)).length) + (O ++ [t]).length + 1 ≤ gk) := Lib.hid (by
                    have h1 := pick_more htn hff
                    have h3 := pickL_len n (upd f t true)
                    obtain ⟨h4, h5, h7⟩ := HM.out
                    refine ⟨h4.meet ?_ htd.out.symm htn, ?_, ?_⟩
                    · have e := HPN.out
                      rw [HXD.out] at e
                      rw [← e]; exact hjl
                    all_goals rw [List.length_append, List.length_singleton]; omega)
                  have hOl : Hid (O.length ≤ 1000) := Lib.hid (by have := HM.out.2.1; have := pickL_len n f; omega)
                  clear hh0 hff HM
                  go_wp2_with (first | (refine ldm rfl 58 _ rfl bn 0 rfl Ln _ hrb.out Try.underlying58 rfl 29 info58 hLL.out ?_) | (go_at_call 49; refine (target_any x hLL.out h2.out h26.out h40 hAx.out j hjc).mono ?_; rintro e w6 ⟨rfl, rfl⟩; rw [← HTG.out]) | (at_lookup; refine wpList_lookup_own_unit _ rfl _ _ 91 rfl 3 92 law3q Try.underlying91 (zero75 _) mb k D rfl hD3.out _ _ rfl hkey.out ?_; rw [hhas.out]; refine Hid.out ?_) | fail)
                  refine Lib.hid ?_
                  clear hrb hAx
                  have hQ4 := Lib.hid (hQ3.out.alloc (.cells #[] 92))
                  have hnb4 := Lib.hid (row_alloc hnb3.out (.cells #[] 92))
                  have hD4 := Lib.hid (hD3.out.alloc (.cells #[] 92))
                  clear hQ3 hnb3 hD3
                  generalize wr.alloc (.cells Ln.toArray 58) = wC at *
                  have hr6 := Lib.hid (range6 hQ4.out.box)
                  rw [HBX.out] at hr6
                  have hQ5 := Lib.hid (hQ4.out.alloc (.cells L.toArray 27))
                  have hnb5 := Lib.hid (row_alloc hnb4.out (.cells L.toArray 27))
                  have hD5 := Lib.hid (hD4.out.alloc (.cells L.toArray 27))
                  clear hQ4 hnb4 hD4
                  go_wp2_with (first | (refine ldm (by kernel_rfl) 27 _ rfl bx 0 rfl L _ hr6.out Try.underlying27 rfl 6 info27q h6.out ?_) | (go_at_call 50; refine (isNode_L h6.out h5.out _).mono ?_; rintro e w6 ⟨rfl, rfl⟩; rw [hiT.out]) | (at_mapUpdate; refine Hid.out ?_) | fail)
                  refine Lib.hid ?_
                  clear hr6
                  generalize (wC.alloc (.cells #[] 92)).alloc (.cells L.toArray 27) = wD at *
                  go_loud (refine wpList_mapUpdate_own _ rfl _ _ _ 91 rfl 3 92 law3q Try.underlying91 _ mb k _ rfl hD5.out hk1.out _ _ _ rfl rfl hkey.out _ [] unitElem_mk ?_)
                  intro w9 hown9 hgr9
                  have hQ9 := Lib.hid (hQ5.out.put htn HFF.out hk2.out hS3.out hown9 hgr9)
                  have hnb9 : Hid (w9.heap[bn]? = some (.cells Ln.toArray 58 (0, 0))) := Lib.hid (by
                    rw [hgr9.block bn (row_lt hnb5.out) (by
                      intro e
                      cases e
                      obtain ⟨es, clock, hb, _⟩ := hD5.out
                      rw [hnb5.out] at hb
                      cases hb)]
                    exact hnb5.out)
                  clear hown9 hgr9 hQ5 hnb5 hD5
                  have hQ10 := Lib.hid (hQ9.out.alloc (.cells #[.int .i64 (t : Int)] 3))
                  have hnb10 := Lib.hid (row_alloc hnb9.out (.cells #[.int .i64 (t : Int)] 3))
                  have y0 : Hid ((w9.alloc (.cells #[.int .i64 (t : Int)] 3)).cell? ⟨w9.heap.size, 0, none⟩ = some (.int .i64 (t : Int))) := Lib.hid (by rw [World.cell?_alloc_new]; rfl)
                  have hB10 : Hid (mb + 1 ≤ (w9.alloc (.cells #[.int .i64 (t : Int)] 3)).heap.size) := Lib.hid (by have := hQ10.out.lt; omega)
                  clear hQ9 hnb9
                  go_wp2_with (at_builtin; refine Hid.out ?_)
                  refine Lib.hid ?_
                  go_loud (refine wpl_int rfl (.tmp 61) (.tmp 63) rfl (mb + 1) _ (ofN O) rfl hQ10.out.own w9.heap.size (t : Int) rfl y0.out (by have := hOl.out; simp only [ofN, List.length_map]; omega) hB10.out ?_)
                  intro v' w11 ho11 hg11
                  have hQ11 : Hid (AmidQ w w11 L mb n (upd f t true) v' (O ++ [t])) := Lib.hid (hQ10.out.push (by simpa [ofN] using ho11) hg11)
                  have hnb11 : Hid (w11.heap[bn]? = some (.cells Ln.toArray 58 (0, 0))) := Lib.hid (by
                    rw [hg11.block bn (row_lt hnb10.out) (hQ10.out.own.ne hnb10.out (by decide))]; exact hnb10.out)
                  clear ho11 hg11 hQ10 hnb10 y0 hB10
                  go_wp2_with fail
                  go_roundw
                  case rel => exact ⟨j + 1, upd f t true, O ++ [t], by omega, by go_num, HM2, hQ11, hnb11⟩
                  case measure => simp [intOf]; omega
              · have hoff : (decide (0 ≤ tg) && decide (tg < n)) = false := by
                  rcases Classical.not_and_iff_not_or_not.1 hit with h | h
                  · rw [decide_eq_false h]; rfl
                  · rw [decide_eq_false h, Bool.and_false]
                have hiT : Hid (isNodeB n tg = false) := Lib.hid hoff
                rw [← Bool.and_assoc, hoff, Bool.false_and] at hh0
                have hhas := Lib.hid hh0
                have HM2 : Hid (Dmid ⟨n, d⟩ s u (j + 1) f O ∧ O.length ≤ (pickL n f).length ∧ (n - (pickL n f).length) + O.length + 1 ≤ gk) := Lib.hid ⟨HM.out.1.skip fun v hv hl => by
                  have e := htd.out
                  rw [hv] at e
                  have hl : v < n := hl
                  exact absurd ⟨by omega, by omega⟩ hit, HM.out.2⟩
                clear hh0 hoff hit HM
                go_wp2_with (first | (refine ldm rfl 58 _ rfl bn 0 rfl Ln _ hrb.out Try.underlying58 rfl 29 info58 hLL.out ?_) | (go_at_call 49; refine (target_any x hLL.out h2.out h26.out h40 hAx.out j hjc).mono ?_; rintro e w6 ⟨rfl, rfl⟩; rw [← HTG.out]) | (at_lookup; refine wpList_lookup_own_unit _ rfl _ _ 91 rfl 3 92 law3q Try.underlying91 (zero75 _) mb k D rfl hD3.out _ _ rfl hkey.out ?_; rw [hhas.out]; refine Hid.out ?_) | fail)
                refine Lib.hid ?_
                clear hrb hAx
                have hQ4 := Lib.hid (hQ3.out.alloc (.cells #[] 92))
                have hnb4 := Lib.hid (row_alloc hnb3.out (.cells #[] 92))
                clear hQ3 hnb3 hD3
                generalize wr.alloc (.cells Ln.toArray 58) = wC at *
                have hr6 := Lib.hid (range6 hQ4.out.box)
                rw [HBX.out] at hr6
                have hQ5 := Lib.hid (hQ4.out.alloc (.cells L.toArray 27))
                have hnb5 := Lib.hid (row_alloc hnb4.out (.cells L.toArray 27))
                clear hQ4 hnb4
                go_wp2_with (first | (refine ldm (by kernel_rfl) 27 _ rfl bx 0 rfl L _ hr6.out Try.underlying27 rfl 6 info27q h6.out ?_) | (go_at_call 50; refine (isNode_L h6.out h5.out _).mono ?_; rintro e w6 ⟨rfl, rfl⟩; rw [hiT.out]) | fail)
                go_roundw
                case rel => exact ⟨j + 1, f, O, by omega, by go_num, HM2, hQ5, hnb5⟩
                case measure => simp [intOf]; omega
            · have HMf : Hid (Dfs ⟨n, d⟩ s f O ∧ O.length ≤ (pickL n f).length + 1 ∧ (n - (pickL n f).length) + O.length + 1 ≤ gk) := Lib.hid (by
                have e : pn = j := by omega
                obtain ⟨h1, h3, h4⟩ := HM.out
                rw [← e, HPN.out, HXD.out] at h1
                exact ⟨h1.close, by omega, h4⟩)
              clear HM
              go_wp2_with fail
              go_roundg ((n - (pickL n f).length) + O.length)
              case rel => exact ⟨f, O, Lib.hid ⟨rfl, HMf.out.1, HMf.out.2.1⟩, hQ⟩
              case measure => have := HMf.out.2.2; omega
    · have hiN : Hid (isNodeB n st = false) := Lib.hid (by
        unfold isNodeB
        rcases Classical.not_and_iff_not_or_not.1 hst with h | h
        · rw [decide_eq_false h]; rfl
        · rw [decide_eq_false h, Bool.and_false])
      have hrl : Hid (reachL ⟨n, d⟩ st = []) := Lib.hid (by unfold reachL; rw [if_neg hst])
      clear hst
      go_wp2_with (first | (go_at_call 50; refine (isNode_L h6.out h5.out _).mono ?_; rintro e w6 ⟨rfl, rfl⟩; rw [hiN.out]) | fail)
      go_ret
      rw [hrl.out]
      exact ⟨none, 0, rfl, LieI.nil _ _ _, by rw [HBX.out]; exact hB1.out, fun h => absurd h (Nat.lt_irrefl 0)⟩
end Go.Proofs.Ytmbjmibjobpdgaa
