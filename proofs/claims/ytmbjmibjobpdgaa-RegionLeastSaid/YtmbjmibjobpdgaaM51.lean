/-
  The landed Dominators.
-/
import Derived.Test.YtmbjmibjobpdgaaM50
import Derived.Test.YtmbjmibjobpdgaaM42
namespace Go.Proofs.Ytmbjmibjobpdgaa
open Go.RowKit Go.Shelf
attribute [local go_sem] Oper.semAt_some

set_option maxRecDepth 20000 in
set_option maxHeartbeats 4000000 in
theorem dom_none {mv : Array Value} {G : GT} (w : World) (r : Int) (h : ModelAt w w.heap.size mv G) (hf : fewB G) (hr : ¬ (0 ≤ r ∧ r < (G.n : Int))) : Calls Try.prog 20 #[.agg mv, .int .i64 r] w (SaysR w G.n (domL G r)) := by
  obtain ⟨N, nn, hm5, hnodes⟩ := model_nodes_at h
  obtain ⟨ml, hmv, hM, hX, hbx⟩ := model_boxed h
  have hM := Lib.hid hM
  have hX := Lib.hid hX
  have hbx := Lib.hid hbx
  have hn1 : G.n ≤ 100 := hf.1
  clear h hf hnodes
  generalize ml 0 = m0 at *
  generalize ml 1 = m1 at *
  generalize ml 2 = m2 at *
  generalize ml 3 = m3 at *
  generalize ml 4 = m4 at *
  generalize ml 5 = m5 at *
  subst hmv
  obtain rfl : m5 = .slice N G.n nn := by simpa using hm5
  clear hm5
  have c5 : (w.alloc (.cells #[m0, m1, m2, m3, m4, .slice N G.n nn] 27)).cell? ⟨w.heap.size, 5, none⟩ = some (.slice N G.n nn) := by rw [cell_of_row _ _ 5 _ _ (0, 0) hbx.out]; rfl
  have hmk : ∀ w : World, (Instr.makeSlice 38 (.int .i64 (G.n : Int)) (.int .i64 (G.n : Int))).run Try.prog w = .ok (.slice (some ⟨w.heap.size, 0, none⟩) G.n G.n) (w.alloc (.cells (madeCells #[.slice none 0 0] G.n) 30)) := run_mk Try.underlying38 info30' G.n (by omega) (by omega)
  have hs2 : ((w.alloc (.cells #[m0, m1, m2, m3, m4, .slice N G.n nn] 27)).alloc (.cells (madeCells #[.slice none 0 0] G.n) 30)).heap.size = w.heap.size + 2 := by simp
  have hb2 : Below (w.alloc (.cells #[m0, m1, m2, m3, m4, .slice N G.n nn] 27)).heap.size (w.alloc (.cells #[m0, m1, m2, m3, m4, .slice N G.n nn] 27)) ((w.alloc (.cells #[m0, m1, m2, m3, m4, .slice N G.n nn] 27)).alloc (.cells (madeCells #[.slice none 0 0] G.n) 30)) := (Below.refl _ _).alloc (Nat.le_refl _) _
  have r2 := heap_alloc_new (w.alloc (.cells #[m0, m1, m2, m3, m4, .slice N G.n nn] 27)) (.cells (madeCells #[.slice none 0 0] G.n) 30)
  rw [World.size_alloc] at r2
  have hX2 := hX.out.trans (hb2.mono hX.out.size)
  have hnb : (false : Bool) = true ↔ 0 ≤ r ∧ r < (G.n : Int) := Iff.intro (fun h => by cases h) (fun h => absurd h hr)
  have HNB := Lib.hid hnb
  have HD := Lib.hid (DInv.start (n := G.n) r2 rfl)
  have HX2 := Lib.hid hX2
  clear hnb hb2 hX2 r2
  go_enter Try.func20, Try.ntmps20
  go_wp2_with (first
    | (go_at_call 37; refine (rNode_any _ _ _ _ _ _ _ G.n nn r false HNB.out).mono ?_; rintro e w3 ⟨rfl, hb3⟩; have HB3 := Lib.hid hb3; clear hb3)
    | fail)
  refine bodyPost_ret (results_tmp rfl _ _ _) rfl ?_
  have hlt : w.heap.size + 1 < ((w.alloc (.cells #[m0, m1, m2, m3, m4, .slice N G.n nn] 27)).alloc (.cells (madeCells #[.slice none 0 0] G.n) 30)).heap.size := by rw [hs2]; omega
  obtain ⟨h1, h2⟩ := (HD.out.step hlt HB3.out).ends (Ms := domL G r) HX2.out (Nat.le_succ _) (fun i _ => by
    unfold domL domK
    rw [List.filter_eq_nil_iff.2 fun d _ => by rw [domB_none hr]; simp]
    rfl)
  exact ⟨_, _, rfl, h1, h2⟩
set_option maxRecDepth 20000 in
set_option maxHeartbeats 4000000 in
theorem dom_some {mv : Array Value} {G : GT} (w : World) (r : Nat) (h : ModelAt w w.heap.size mv G) (hf : fewB G) (hr : r < G.n) : Calls Try.prog 20 #[.agg mv, .int .i64 (r : Int)] w (SaysR w G.n (domL G (r : Int))) := by
  obtain ⟨N, nn, hm5, hnodes⟩ := model_nodes_at h
  obtain ⟨ml, hmv, hM, hX, hbx⟩ := model_boxed h
  have hM := Lib.hid hM
  have hX := Lib.hid hX
  have hbx := Lib.hid hbx
  have hn1 : G.n ≤ 100 := hf.1
  have HF := Lib.hid hf
  clear h hf hnodes
  generalize ml 0 = m0 at *
  generalize ml 1 = m1 at *
  generalize ml 2 = m2 at *
  generalize ml 3 = m3 at *
  generalize ml 4 = m4 at *
  generalize ml 5 = m5 at *
  subst hmv
  obtain rfl : m5 = .slice N G.n nn := by simpa using hm5
  clear hm5
  have c5 : (w.alloc (.cells #[m0, m1, m2, m3, m4, .slice N G.n nn] 27)).cell? ⟨w.heap.size, 5, none⟩ = some (.slice N G.n nn) := by rw [cell_of_row _ _ 5 _ _ (0, 0) hbx.out]; rfl
  have hmk : ∀ w : World, (Instr.makeSlice 38 (.int .i64 (G.n : Int)) (.int .i64 (G.n : Int))).run Try.prog w = .ok (.slice (some ⟨w.heap.size, 0, none⟩) G.n G.n) (w.alloc (.cells (madeCells #[.slice none 0 0] G.n) 30)) := run_mk Try.underlying38 info30' G.n (by omega) (by omega)
  have hs2 : ((w.alloc (.cells #[m0, m1, m2, m3, m4, .slice N G.n nn] 27)).alloc (.cells (madeCells #[.slice none 0 0] G.n) 30)).heap.size = w.heap.size + 2 := by simp
  have hb2 : Below (w.alloc (.cells #[m0, m1, m2, m3, m4, .slice N G.n nn] 27)).heap.size (w.alloc (.cells #[m0, m1, m2, m3, m4, .slice N G.n nn] 27)) ((w.alloc (.cells #[m0, m1, m2, m3, m4, .slice N G.n nn] 27)).alloc (.cells (madeCells #[.slice none 0 0] G.n) 30)) := (Below.refl _ _).alloc (Nat.le_refl _) _
  have r2 := heap_alloc_new (w.alloc (.cells #[m0, m1, m2, m3, m4, .slice N G.n nn] 27)) (.cells (madeCells #[.slice none 0 0] G.n) 30)
  rw [World.size_alloc] at r2
  have hX2 := hX.out.trans (hb2.mono hX.out.size)
  have hnb : (true : Bool) = true ↔ 0 ≤ (r : Int) ∧ (r : Int) < (G.n : Int) := Iff.intro (fun _ => by omega) (fun _ => rfl)
  have HNB := Lib.hid hnb
  have HD := Lib.hid (DInv.start (n := G.n) r2 rfl)
  have HX2 := Lib.hid hX2
  have HBX2 := Lib.hid ((hb2.block _ (by simp)).trans hbx.out)
  have HM2 := Lib.hid ((hM.out.stay hb2).mono hb2.size)
  clear hnb hb2 hX2 r2
  go_enter Try.func20, Try.ntmps20
  go_wp2_with (first
    | (go_at_call 37; refine (rNode_any _ _ _ _ _ _ _ G.n nn (r : Int) true HNB.out).mono ?_; rintro e w3 ⟨rfl, hb3⟩; have HB3 := Lib.hid hb3; have HM3 := Lib.hid ((HM2.out.stay hb3).mono hb3.size); have HBX3 := Lib.hid ((hb3.block _ (by rw [hs2]; omega)).trans HBX2.out); clear hb3; refine Hid.out ?_)
    | fail)
  refine Lib.hid ?_
  have hD3 := HD.out.step (by rw [hs2]; omega) HB3.out
  have hX3 := HX2.out.trans (HB3.out.mono HX2.out.size)
  have hz3 := HB3.out.size
  rw [hs2] at hz3
  generalize hWW : (w.alloc (.cells #[m0, m1, m2, m3, m4, .slice N G.n nn] 27)).alloc (.cells (madeCells #[.slice none 0 0] G.n) 30) = W2 at *
  have HX3 := Lib.hid hX3
  have HD3 := Lib.hid hD3
  clear hX3 hD3 hWW hM hX hbx HB3 HX2 HBX2 HM2 c5
  go_wp2_with (first
    | (refine wpList_load_row rfl 27 _ rfl w.heap.size rfl 27 #[m0, m1, m2, m3, m4, .slice N G.n nn] (0, 0) _ HBX3.out Try.underlying27 rfl (by kernel_rfl) ?_)
    | (go_at_call 28; refine (graphOf_any _ HM3.out HF.out).mono ?_; rintro e w5 ⟨gO, gI, rfl, hgO1, hgI1, hgO2, hgI2, hO, hI, hb5, _⟩; have hb6 : Below w5.heap.size w5 (w5.alloc (.cells #[.slice (some ⟨gO, 0, none⟩) G.n G.n, .slice (some ⟨gI, 0, none⟩) G.n G.n] 71)) := (Below.refl _ _).alloc (Nat.le_refl _) _; have HO := Lib.hid (hO.keep hb6); have HI := Lib.hid (hI.keep hb6); have HB6 := Lib.hid hb6; have HG6 := Lib.hid (heap_alloc_new w5 (.cells #[.slice (some ⟨gO, 0, none⟩) G.n G.n, .slice (some ⟨gI, 0, none⟩) G.n G.n] 71)); have HB5 := Lib.hid hb5; have c60 : (w5.alloc (.cells #[.slice (some ⟨gO, 0, none⟩) G.n G.n, .slice (some ⟨gI, 0, none⟩) G.n G.n] 71)).cell? ⟨w5.heap.size, 0, none⟩ = some (.slice (some ⟨gO, 0, none⟩) G.n G.n) := (by rw [cell_of_row _ _ 0 _ _ (0, 0) HG6.out]; rfl); clear hO hI hb5 hb6)
    | (go_at_call 38; refine (newWalk_any HO.out hgO2 HB6.out.size (by omega)).mono ?_; rintro e w7 ⟨gm, A7, co, rfl, hgm, hm7, ho7, hb7⟩; obtain ⟨go7, rfl, hgo7, hop7⟩ := ho7 (by omega); have HM7 := Lib.hid hm7; have HO7 := Lib.hid hop7; have HB7 := Lib.hid hb7; clear hm7 ho7 hb7 hop7)
    | (go_at_call 39; refine (from_new (d := ⟨fun _ => false, outN G, [], [], fun _ => 0⟩) HM7.out HO7.out rfl (Nat.le_trans HB6.out.size hgm) (Nat.le_trans HB6.out.size hgo7) (fun x _ => outN_lt x) hr rfl (show opnSum (outN G) G.n ≤ 4900 from Nat.le_trans (opnSum_few HF.out G.n).1 (by omega))).mono ?_; rintro e w8 ⟨v8, k8, lf, rfl, hst, hlf, hown, _, _, hbu, hl9⟩; have HST := Lib.hid hst; have HLF := Lib.hid hlf; have HOWN := Lib.hid hown; have HBU := Lib.hid hbu; clear hst hlf hown hbu; refine Hid.out ?_)
    | fail)
  refine Lib.hid ?_
  have hinv : Inv (outN G) (fun _ => False) (fun x => x = r) (steps (Ds.push ⟨fun _ => false, outN G, [], [], fun _ => 0⟩ r) k8) := ((Inv.start (outN G) (fun _ => False) (fun x => x = r) (fun _ => false) (outN G) (fun _ => ⟨(fun h => by cases h), fun h => h.elim⟩) (fun _ _ => rfl)).push rfl (.inl ⟨rfl, rfl⟩)).steps k8
  have hroot := (Run2.nil (Q := outN G) (nd := fun x => x)).root (y := r) (k := k8) rfl HST.out
  have hlf : (steps (Ds.push ⟨fun _ => false, outN G, [], [], fun _ => 0⟩ r) k8).lft = lf := HLF.out
  have hR := rpo_of hinv HST.out hroot
  rw [hlf] at hR hroot
  clear hinv hlf HST HLF
  have hin : ∀ x ∈ lf.reverse, x < G.n := fun x hx => by
    rcases (hR.mem x).1 hx with h | h
    · rw [h]; exact hr
    · exact h.lt.2
  have hlen : lf.reverse.length ≤ G.n := nodup_bound G.n _ hR.nodup hin
  have hpos : 0 < lf.reverse.length := by rw [List.length_reverse]; exact List.length_pos_of_mem hroot
  obtain ⟨A8, c8, rfl⟩ := HOWN.out.open
  have hs6 : (w5.alloc (.cells #[.slice (some ⟨gO, 0, none⟩) G.n G.n, .slice (some ⟨gI, 0, none⟩) G.n G.n] 71)).heap.size = w5.heap.size + 1 := by simp
  rw [hs6] at hgm hgo7
  have b6 := HB5.out.trans (HB6.out.mono HB5.out.size)
  have y7 := HB7.out.trans (HBU.out.below (lim := (w5.alloc (.cells #[.slice (some ⟨gO, 0, none⟩) G.n G.n, .slice (some ⟨gI, 0, none⟩) G.n G.n] 71)).heap.size) HB7.out.size (by rw [hs6]; exact hgm) (by rw [hs6]; exact hgo7))
  have hs7 := HB7.out.size
  have hs5 := HB5.out.size
  rw [hs6] at hs7
  rw [List.length_reverse] at hpos hlen
  have HR := Lib.hid hR
  have HIN := Lib.hid hin
  have Y7 := Lib.hid y7
  have B6 := Lib.hid b6
  clear hR hin y7 b6 HBU HB7 HM7 HO7 c60 HO HB5 HM3 HBX3 hroot
  go_wp2_with (first
    | (go_at_call 40; refine (rev_own HOWN.out (by rw [ofN_len]; omega) (by rw [ofN_len]; exact hpos)).mono ?_; rintro e w9 ⟨rfl, g9, rfl, _, hg9, hg9l, hc9, hgr9⟩; have HC9 := Lib.hid hc9; have HGR9 := Lib.hid hgr9; clear hc9 hgr9; refine Hid.out ?_)
    | fail)
  refine Lib.hid ?_
  have y9 : Below (w5.alloc (.cells #[.slice (some ⟨gO, 0, none⟩) G.n G.n, .slice (some ⟨gI, 0, none⟩) G.n G.n] 71)).heap.size (w5.alloc (.cells #[.slice (some ⟨gO, 0, none⟩) G.n G.n, .slice (some ⟨gI, 0, none⟩) G.n G.n] 71)) w9 := Y7.out.trans (((Below.refl _ w8).mono Y7.out.size).grown HGR9.out Y7.out.size fun j ej => by injection ej with ej; rw [hs6]; omega)
  have e9 : (ofNs lf).reverse = ofNs lf.reverse := by simp [ofNs]
  obtain ⟨ord, hord⟩ : ∃ ord, ord = lf.reverse := ⟨_, rfl⟩
  have el : (ofNs lf).length = ord.length := by rw [ofN_len, hord, List.length_reverse]
  rw [← hord] at HR HIN e9
  have hlen2 : ord.length ≤ G.n := by rw [hord, List.length_reverse]; exact hlen
  have hpos2 : 0 < ord.length := by rw [hord, List.length_reverse]; exact hpos
  have hc9 : ∀ j (hj : j < (ofNs ord).length), w9.cell? ⟨g9, 0 + j, none⟩ = some (.int .i64 (ofNs ord)[j]) := by
    have h := HC9.out
    rw [e9] at h
    exact h
  rw [el]
  have hw9 := y9.size
  rw [hs6] at hw9
  have hg9b : w5.heap.size + 1 ≤ g9 := by omega
  have HO9 : Hid (LieI w9 w9.heap.size (some ⟨g9, 0, none⟩) (ofNs ord)) := Lib.hid fun _ => ⟨g9, 0, rfl, hg9l, hc9⟩
  have HI9 := Lib.hid (((HI.out.keep (y9.mono (by rw [hs6]; omega))).lie).mono (show w5.heap.size ≤ w9.heap.size by omega))
  have HG9 := Lib.hid ((y9.block w5.heap.size (by rw [hs6]; omega)).trans HG6.out)
  have B9 := Lib.hid (B6.out.trans (y9.mono B6.out.size))
  have HX := Lib.hid (HX3.out.trans (B9.out.mono (by omega)))
  have HL9 := Lib.hid (HD3.out.row.keep B9.out)
  clear y9 hc9 e9 el hord hlen hpos HC9 HGR9 HOWN Y7 B6 HG6 HI HD3 HX3 hw9 hs7 B9 HNB HD hs2
  generalize w5.heap.size = gb at *
  go_wp2_with (first
    | (refine wpList_load_row rfl 71 _ rfl gb rfl 71 #[.slice (some ⟨gO, 0, none⟩) G.n G.n, .slice (some ⟨gI, 0, none⟩) G.n G.n] (0, 0) _ HG9.out Try.underlying71 rfl (by kernel_rfl) ?_)
    | (go_at_call 42; refine (sources_any HR.out.nodup HI9.out HO9.out (Nat.le_refl _) (by omega) (by omega) HIN.out (fun x _ => inN_lt x) (fun x _ => Nat.le_trans (rows_few HF.out x).1 (by omega))).mono ?_; rintro e w10 ⟨gS, rfl, hl10, hb10⟩; have HL10 := Lib.hid hl10; have HB10 := Lib.hid hb10; clear hl10 hb10)
    | (go_at_call 41; refine (nearest_any HR.out.srcs HL10.out (Nat.le_refl _) (by omega) (fun p _ => srcN_few HF.out ord p)).mono ?_; rintro e w11 ⟨gN, o, rfl, hgN, hOA, hOv, hAll, hChk, hb11⟩; have HOA := Lib.hid hOA; have HOV := Lib.hid hOv; have HALL := Lib.hid hAll; have HCHK := Lib.hid hChk; have HB11 := Lib.hid hb11; clear hOA hOv hAll hChk hb11; refine Hid.out ?_)
    | fail)
  refine Lib.hid ?_
  have b11 := HB10.out.trans (HB11.out.mono HB10.out.size)
  have hz11 := b11.size
  have hz10 := HB11.out.size
  have hz9 := HB10.out.size
  obtain ⟨gl, hgl⟩ : ∃ gl, gl = w.heap.size + 1 := ⟨_, rfl⟩
  obtain ⟨m, hmd⟩ : ∃ m, m = ord.length := ⟨_, rfl⟩
  obtain ⟨n, hnd⟩ : ∃ n, n = G.n := ⟨_, rfl⟩
  have HD0 : Hid (DInv w11 w11 gl n (fun _ => .slice none 0 0) (fun _ => [])) := Lib.hid (by rw [hgl, hnd]; exact DInv.start2 (HL9.out.keep b11))
  have HX11 := Lib.hid (HX.out.trans (b11.mono HX.out.size))
  have HORD : Hid (∀ k (hk : k < ord.length), w11.cell? ⟨g9, k, none⟩ = some (.int .i64 (ord[k] : Nat))) := Lib.hid fun k hk => by
    obtain ⟨g', o', e, _, hx⟩ := HO9.out (by rw [ofN_len]; omega)
    injection e with e
    injection e with e1 e2
    subst e1 e2
    have h := hx k (by rw [ofN_len]; exact hk)
    rw [Nat.zero_add] at h
    refine (b11.cell (p := ⟨g9, k, none⟩) hg9l).trans (h.trans ?_)
    simp [ofNs]
  have hgN2 : gl < gN := by omega
  have hg92 : gl < g9 := by omega
  have hgN3 : gN < w11.heap.size := HOA.out.lt
  have hg93 : g9 < w11.heap.size := by omega
  have hgl3 : gl < w11.heap.size := by omega
  have hglw : w.heap.size ≤ gl := by omega
  have HMD := Lib.hid hmd
  have HND := Lib.hid hnd
  rw [← hgl, ← hmd, ← hnd]
  rw [← hmd] at hlen2 hpos2
  rw [← hnd] at hlen2 hr
  have hm1 : m ≤ 100 := by omega
  have hn100 : n ≤ 100 := by omega
  clear hn1 b11 HO9 HI9 HG9 HL9 HB10 HB11 HL10 HX hgl hmd hnd hz11 hz10 hz9 hgN hg9 hg9b hg9l hgO1 hgI1 hgO2 hgI2 hs5 hz3 hgm hgo7 hmk hM hX hbx hl9
  go_wp2_with fail
  go_loopw [37] (fun kv wr => ∃ k : Nat, k ≤ m ∧ kv = .int .i64 k ∧ Hid (∃ us, DInv w11 wr gl n us (domT G (r : Int) ord k))) (fun kv _ => m - (intOf kv).toNat)
  case atStart => exact ⟨0, Nat.zero_le _, rfl, Lib.hid ⟨_, by rw [show domT G (r : Int) ord 0 = fun _ => [] from funext fun i => by simp [domT]]; exact HD0.out⟩⟩
  case round =>
    clear HD0
    obtain ⟨k, hk, rfl, hr2⟩ := hrel
    by_cases hlt : k < m
    · have hkl : k < ord.length := by have := HMD.out; omega
      obtain ⟨us, hD⟩ := hr2.out
      obtain ⟨y, q, hql, hqo, hyq, hsort, hfew, hcat⟩ : ∃ y q, ∃ hq : q < ord.length, (q : Int) = o k ∧ ord[q] = y ∧ (domT G (r : Int) ord k y).Pairwise (· ≤ ·) ∧ (domT G (r : Int) ord k y).length ≤ n ∧ (domT G (r : Int) ord k y).take ((domT G (r : Int) ord k y).countP (· < (ord[k] : Int))) ++ [(ord[k] : Int)] ++ (domT G (r : Int) ord k y).drop ((domT G (r : Int) ord k y).countP (· < (ord[k] : Int))) = domL G (r : Int) ord[k] := by
        have hr3 : r < G.n := by rw [← HND.out]; exact hr
        rcases Nat.eq_zero_or_pos k with rfl | h0
        · obtain ⟨a1, a2, a3, a4⟩ := domL_first hr3 HR.out HOV.out HALL.out hkl
          refine ⟨r, 0, hkl, by rw [a1]; rfl, a2, ?_⟩
          rw [a3, a2, a4]
          exact ⟨List.Pairwise.nil, Nat.zero_le _, rfl⟩
        · obtain ⟨y, q, a1, a2, a3, a4, a5⟩ := domL_over hr3 HR.out HOV.out HALL.out HCHK.out hkl h0
          obtain ⟨hq, e⟩ := List.getElem?_eq_some_iff.1 a3
          refine ⟨y, q, hq, a2, e, ?_⟩
          rw [a4]
          exact ⟨domL_sorted G _ y, by rw [HND.out]; exact domL_len G _ y, a5⟩
      have hyn : y < n := by rw [HND.out, ← hyq]; exact HIN.out _ (List.getElem_mem hql)
      have hxn : ord[k] < n := by rw [HND.out]; exact HIN.out _ (List.getElem_mem hkl)
      have hsucc : (fun i => if i = ord[k] then domL G (r : Int) ord[k] else domT G (r : Int) ord k i) = domT G (r : Int) ord (k + 1) := funext fun i => by
        rw [domT_succ hkl]
        by_cases e : i = ord[k]
        · rw [if_pos e, if_pos e, e]
        · rw [if_neg e, if_neg e]
      have hdl := hD.lie y hyn
      have hqm : q < m := by rw [HMD.out]; exact hql
      have cN : wr.cell? ⟨gN, k, none⟩ = some (.int .i64 (q : Int)) := by
        rw [World.cell?_of_block (a := ⟨gN, k, none⟩) (hD.keep gN hgN3 (by omega)), HOA.out.cell hkl, hqo]
      have cq : wr.cell? ⟨g9, q, none⟩ = some (.int .i64 (y : Int)) := by
        rw [World.cell?_of_block (a := ⟨g9, q, none⟩) (hD.keep g9 hg93 (by omega)), HORD.out q hql, hyq]
      have ck : wr.cell? ⟨g9, k, none⟩ = some (.int .i64 (ord[k] : Int)) := by
        rw [World.cell?_of_block (a := ⟨g9, k, none⟩) (hD.keep g9 hg93 (by omega)), HORD.out k hkl]
      have cy : wr.cell? ⟨gl, y, none⟩ = some (us y) := hD.row.cell hyn
      generalize ord[k] = x at *
      generalize domT G (r : Int) ord k y = L at *
      generalize domL G (r : Int) x = D at *
      have HDD := Lib.hid hD
      have HCAT := Lib.hid hcat
      have HSUCC := Lib.hid hsucc
      have HSORT := Lib.hid hsort
      have HFEW := Lib.hid hfew
      have hki : (k : Int) < (m : Int) := by omega
      have hk0 : (0 : Int) ≤ (k : Int) := by omega
      have hqi : (q : Int) < (m : Int) := by omega
      have hq0 : (0 : Int) ≤ (q : Int) := by omega
      have hyi : (y : Int) < (n : Int) := by omega
      have hy0 : (0 : Int) ≤ (y : Int) := by omega
      have hxi : (x : Int) < (n : Int) := by omega
      have hx0 : (0 : Int) ≤ (x : Int) := by omega
      clear hr2 hD hcat hsucc hsort hfew hyq hqo
      rcases hdl with ⟨rfl, hu⟩ | ⟨g, c, hu, hL0, hLc, hlo, hgs, hcells⟩
      · rw [hu] at cy
        have HS0 : Hid (wr.drew.cell? ⟨g9, k, none⟩ = some (.int .i64 (x : Int)) ∧ wr.drew.cell? ⟨g9, q, none⟩ = some (.int .i64 (y : Int)) ∧ wr.drew.cell? ⟨gl, y, none⟩ = some (.slice none 0 0)) := Lib.hid ⟨ck, cq, cy⟩
        clear ck cq cy
        go_wp2_with fail
        refine wp_region_noPanic ?_
        refine wp_region_held_drew (S := fun W => W.cell? ⟨g9, k, none⟩ = some (.int .i64 (x : Int)) ∧ W.cell? ⟨g9, q, none⟩ = some (.int .i64 (y : Int)) ∧ W.cell? ⟨gl, y, none⟩ = some (.slice none 0 0)) (by kernel_rfl) HS0.out (fun _ => ?_)
        refine takeG (i := 0) (some 42) (.slice (some ⟨g9, 0, none⟩) m c8) rfl rfl (by kernel_rfl) (by kernel_rfl) (by kernel_rfl) (fun _ _ _ h => h) HS0.out (by kernel_rfl) (fun W hW => by go_simp) ?_
        simp only [Act.put, List.setIfInBounds_toArray, List.set_cons_zero, List.set_cons_succ]
        refine takeG (i := 1) (some 43) (.int .i64 (k : Int)) rfl rfl (by kernel_rfl) (by kernel_rfl) (by kernel_rfl) (fun _ _ _ h => h) HS0.out (by kernel_rfl) (fun W hW => by go_simp) ?_
        simp only [Act.put, List.setIfInBounds_toArray, List.set_cons_zero, List.set_cons_succ]
        refine takeG (i := 2) (some 44) (.pointer (some ⟨g9, k, none⟩)) rfl rfl (by kernel_rfl) (by kernel_rfl) (by kernel_rfl) (fun _ _ _ h => h) HS0.out (by kernel_rfl) (fun W hW => by go_simp) ?_
        simp only [Act.put, List.setIfInBounds_toArray, List.set_cons_zero, List.set_cons_succ]
        refine takeG (i := 3) (some 45) (.int .i64 (x : Int)) rfl rfl (by kernel_rfl) (by kernel_rfl) (by kernel_rfl) (fun _ _ _ h => h) HS0.out (by kernel_rfl) (fun W hW => by obtain ⟨h1, h2, h3⟩ := hW; go_simp) ?_
        simp only [Act.put, List.setIfInBounds_toArray, List.set_cons_zero, List.set_cons_succ]
        refine takeG (i := 4) (some 46) (.slice (some ⟨gl, 0, none⟩) n n) rfl rfl (by kernel_rfl) (by kernel_rfl) (by kernel_rfl) (fun _ _ _ h => h) HS0.out (by kernel_rfl) (fun W hW => by go_simp) ?_
        simp only [Act.put, List.setIfInBounds_toArray, List.set_cons_zero, List.set_cons_succ]
        refine takeG (i := 5) (some 47) (.slice (some ⟨g9, 0, none⟩) m c8) rfl rfl (by kernel_rfl) (by kernel_rfl) (by kernel_rfl) (fun _ _ _ h => h) HS0.out (by kernel_rfl) (fun W hW => by go_simp) ?_
        simp only [Act.put, List.setIfInBounds_toArray, List.set_cons_zero, List.set_cons_succ]
        refine takeG (i := 6) (some 48) (.int .i64 (q : Int)) rfl rfl (by kernel_rfl) (by kernel_rfl) (by kernel_rfl) (fun _ _ _ h => h) HS0.out (by kernel_rfl) (fun W hW => by go_simp) ?_
        simp only [Act.put, List.setIfInBounds_toArray, List.set_cons_zero, List.set_cons_succ]
        refine takeG (i := 7) (some 49) (.pointer (some ⟨g9, q, none⟩)) rfl rfl (by kernel_rfl) (by kernel_rfl) (by kernel_rfl) (fun _ _ _ h => h) HS0.out (by kernel_rfl) (fun W hW => by go_simp) ?_
        simp only [Act.put, List.setIfInBounds_toArray, List.set_cons_zero, List.set_cons_succ]
        refine takeG (i := 8) (some 50) (.int .i64 (y : Int)) rfl rfl (by kernel_rfl) (by kernel_rfl) (by kernel_rfl) (fun _ _ _ h => h) HS0.out (by kernel_rfl) (fun W hW => by obtain ⟨h1, h2, h3⟩ := hW; go_simp) ?_
        simp only [Act.put, List.setIfInBounds_toArray, List.set_cons_zero, List.set_cons_succ]
        refine takeG (i := 9) (some 51) (.pointer (some ⟨gl, y, none⟩)) rfl rfl (by kernel_rfl) (by kernel_rfl) (by kernel_rfl) (fun _ _ _ h => h) HS0.out (by kernel_rfl) (fun W hW => by go_simp) ?_
        simp only [Act.put, List.setIfInBounds_toArray, List.set_cons_zero, List.set_cons_succ]
        refine takeG (i := 10) (some 52) (.slice none 0 0) rfl rfl (by kernel_rfl) (by kernel_rfl) (by kernel_rfl) (fun _ _ _ h => h) HS0.out (by kernel_rfl) (fun W hW => by obtain ⟨h1, h2, h3⟩ := hW; go_simp) ?_
        simp only [Act.put, List.setIfInBounds_toArray, List.set_cons_zero, List.set_cons_succ]
        refine takeG (i := 11) (some 10) (.int .i64 (x : Int)) rfl rfl (by kernel_rfl) (by kernel_rfl) (by kernel_rfl) (fun _ _ _ h => h) HS0.out (by kernel_rfl) (fun W hW => by go_simp) ?_
        simp only [Act.put, List.setIfInBounds_toArray, List.set_cons_zero, List.set_cons_succ]
        refine takeG (i := 12) (some 11) (.slice none 0 0) rfl rfl (by kernel_rfl) (by kernel_rfl) (by kernel_rfl) (fun _ _ _ h => h) HS0.out (by kernel_rfl) (fun W hW => by go_simp) ?_
        simp only [Act.put, List.setIfInBounds_toArray, List.set_cons_zero, List.set_cons_succ]
        refine wpAnyH_done (by kernel_rfl) ?_ _
        refine NoPanic.normal ?_
        go_wp2_with (first
          | (go_at_call 43; refine (lib_slices_BinarySearch_int_empty none 0 (x : Int) _).mono ?_; rintro e w9' ⟨rfl, rfl⟩)
          | fail)
        have HDV : Hid (DInv w11 wr.drew.drew gl n us (domT G (r : Int) ord k)) := Lib.hid (by
          refine HDD.out.step hgl3 ⟨rfl, rfl, rfl, Nat.le_refl _, fun _ _ => rfl⟩)
        refine wp_region_noPanic ?_
        refine wp_region_held_drew (S := fun _ => True) (by kernel_rfl) True.intro (fun _ => ?_)
        generalize wr.drew.drew = V at *
        refine takeG (i := 0) (some 59) (.slice (some ⟨gl, 0, none⟩) n n) rfl rfl (by kernel_rfl) (by kernel_rfl) (by kernel_rfl) (fun _ _ _ h => h) True.intro (by kernel_rfl) (fun W hW => by go_simp) ?_
        simp only [Act.put, List.setIfInBounds_toArray, List.set_cons_zero, List.set_cons_succ]
        refine takeG (i := 1) (some 60) (.int .i64 (x : Int)) rfl rfl (by kernel_rfl) (by kernel_rfl) (by kernel_rfl) (fun _ _ _ h => h) True.intro (by kernel_rfl) (fun W hW => by go_simp) ?_
        simp only [Act.put, List.setIfInBounds_toArray, List.set_cons_zero, List.set_cons_succ]
        refine takeG (i := 2) (some 61) (.slice none 0 0) rfl rfl (by kernel_rfl) (by kernel_rfl) (by kernel_rfl) (fun _ _ _ h => h) True.intro (by kernel_rfl) (fun W hW => by go_simp) ?_
        simp only [Act.put, List.setIfInBounds_toArray, List.set_cons_zero, List.set_cons_succ]
        refine takeG (i := 3) (some 62) (.int .i64 0) rfl rfl (by kernel_rfl) (by kernel_rfl) (by kernel_rfl) (fun _ _ _ h => h) True.intro (by kernel_rfl) (fun W hW => by go_simp) ?_
        simp only [Act.put, List.setIfInBounds_toArray, List.set_cons_zero, List.set_cons_succ]
        refine takeG (i := 4) (some 63) (.slice none 0 0) rfl rfl (by kernel_rfl) (by kernel_rfl) (by kernel_rfl) (fun _ _ _ h => h) True.intro (by kernel_rfl) (fun W hW => by go_simp) ?_
        simp only [Act.put, List.setIfInBounds_toArray, List.set_cons_zero, List.set_cons_succ]
        refine takeG (i := 5) (some 64) (.int .i64 (x : Int)) rfl rfl (by kernel_rfl) (by kernel_rfl) (by kernel_rfl) (fun _ _ _ h => h) True.intro (by kernel_rfl) (fun W hW => by go_simp) ?_
        simp only [Act.put, List.setIfInBounds_toArray, List.set_cons_zero, List.set_cons_succ]
        refine takeG (i := 7) (some 66) (.slice none 0 0) rfl rfl (by kernel_rfl) (by kernel_rfl) (by kernel_rfl) (fun _ _ _ h => h) True.intro (by kernel_rfl) (fun W hW => by go_simp) ?_
        simp only [Act.put, List.setIfInBounds_toArray, List.set_cons_zero, List.set_cons_succ]
        refine takeG (i := 8) (some 67) (.int .i64 0) rfl rfl (by kernel_rfl) (by kernel_rfl) (by kernel_rfl) (fun _ _ _ h => h) True.intro (by kernel_rfl) (fun W hW => by go_simp) ?_
        simp only [Act.put, List.setIfInBounds_toArray, List.set_cons_zero, List.set_cons_succ]
        refine takeG (i := 9) (some 68) (.slice none 0 0) rfl rfl (by kernel_rfl) (by kernel_rfl) (by kernel_rfl) (fun _ _ _ h => h) True.intro (by kernel_rfl) (fun W hW => by go_simp) ?_
        simp only [Act.put, List.setIfInBounds_toArray, List.set_cons_zero, List.set_cons_succ]
        refine wpAnyH_ready (rs := [6]) (by kernel_rfl) (by simp) (AllReadyH.cons rfl (fun K6 hK6 => ?_) AllReadyH.nil)
        refine branchG (some 65) (.slice (some ⟨V.heap.size, 0, none⟩) 1 1) (V.alloc (.cells #[.int .i64 (x : Int)] 3)) rfl (by kernel_rfl) (by go_simp) ?_
        refine hK6.out _ _ True.intro (fun _ => ?_)
        simp only [Act.put, List.setIfInBounds_toArray, List.set_cons_zero, List.set_cons_succ]
        refine wpAnyH_ready (rs := [10]) (by kernel_rfl) (by simp) (AllReadyH.cons rfl (fun K10 hK10 => ?_) AllReadyH.nil)
        refine branchG (some 69) (.slice (some ⟨V.heap.size + 1, 0, none⟩) 3 3) ((V.alloc (.cells #[.int .i64 (x : Int)] 3)).alloc (.cells #[.slice none 0 0, .slice (some ⟨V.heap.size, 0, none⟩) 1 1, .slice none 0 0] 30)) rfl (by kernel_rfl) (by go_simp) ?_
        refine hK10.out _ _ True.intro (fun _ => ?_)
        simp only [Act.put, List.setIfInBounds_toArray, List.set_cons_zero, List.set_cons_succ]
        refine wpAnyH_ready (rs := [11]) (by kernel_rfl) (by simp) (AllReadyH.cons rfl (fun K11 hK11 => ?_) AllReadyH.nil)
        rw [if_pos (by kernel_rfl)]
        go_simp
        go_at_call 44
        have HLIE : Hid (LieR ((V.alloc (.cells #[.int .i64 (x : Int)] 3)).alloc (.cells #[.slice none 0 0, .slice (some ⟨V.heap.size, 0, none⟩) 1 1, .slice none 0 0] 30)) ((V.alloc (.cells #[.int .i64 (x : Int)] 3)).alloc (.cells #[.slice none 0 0, .slice (some ⟨V.heap.size, 0, none⟩) 1 1, .slice none 0 0] 30)).heap.size (some ⟨V.heap.size + 1, 0, none⟩) 3 (row3 [] [(x : Int)] [])) := Lib.hid (lie3 (A1 := none) (A3 := none) (c1 := 0) (c3 := 0) (L1 := []) (L3 := []) (x := (x : Int)) (LieI.nil _ _ _) (LieI.nil _ _ _))
        have hcat : [] ++ [(x : Int)] ++ [] = D := by simpa using HCAT.out
        have hlenc : (catL (row3 [] [(x : Int)] []) 3).length ≤ 100000 := by
          rw [catL_row3]
          have := HFEW.out
          simp
          try omega
        refine (concat_any HLIE.out (Nat.le_refl _) (by omega) hlenc).mono ?_
        rintro e V3 ⟨vv, rfl, hown, hbV⟩
        rw [catL_row3, hcat] at hown
        have hD0 : 0 < D.length := by rw [← hcat]; simp <;> omega
        obtain ⟨Av, cv, rfl⟩ := hown.open
        have hbA : Below V.heap.size V V3 := (((Below.refl _ V).alloc (Nat.le_refl _) _).alloc (by simp) _).trans (hbV.mono (by simp; omega))
        have hD3 := HDV.out.step hgl3 hbA
        have hcl := hD3.row.cell hxn
        have hfl := hD3.row.free x
        have HN : Hid (∃ us', DInv w11 (V3.setCell ⟨gl, x, none⟩ (.slice Av D.length cv)) gl n us' (domT G (r : Int) ord (k + 1))) := Lib.hid ⟨_, by
          rw [← HSUCC.out]
          exact hD3.put hgl3 (hown.drow (by have := HDV.out.size; simp; omega) hD0)⟩
        clear hown hbV hbA hD3 hlenc HLIE
        refine hK11.out _ _ True.intro (fun _ => ?_)
        refine takeG (i := 12) (some 71) (.pointer (some ⟨gl, x, none⟩)) rfl rfl (by kernel_rfl) (by kernel_rfl) (by kernel_rfl) (fun _ _ _ h => h) True.intro (by kernel_rfl) (fun W hW => by go_simp) ?_
        simp only [Act.put, List.setIfInBounds_toArray, List.set_cons_zero, List.set_cons_succ]
        refine wpAnyH_ready (rs := [13]) (by kernel_rfl) (by simp) (AllReadyH.cons rfl (fun K13 hK13 => ?_) AllReadyH.nil)
        refine branchS (V3.setCell ⟨gl, x, none⟩ (.slice Av D.length cv)) rfl (by kernel_rfl) (by go_simp) ?_
        refine hK13.out _ _ True.intro (fun _ => ?_)
        refine wpAnyH_done (by kernel_rfl) ?_ _
        refine NoPanic.normal ?_
        simp only [Act.put]
        generalize V3.setCell ⟨gl, x, none⟩ (.slice Av D.length cv) = V4 at *
        go_wp2_with fail
        go_roundw
        case rel => exact ⟨k + 1, by omega, by go_num, HN⟩
        case measure => simp [intOf]; omega
      · rw [hu] at cy
        have HS0 : Hid (wr.drew.cell? ⟨g9, k, none⟩ = some (.int .i64 (x : Int)) ∧ wr.drew.cell? ⟨g9, q, none⟩ = some (.int .i64 (y : Int)) ∧ wr.drew.cell? ⟨gl, y, none⟩ = some (.slice (some ⟨g, 0, none⟩) L.length c)) := Lib.hid ⟨ck, cq, cy⟩
        have HCELLS := Lib.hid hcells
        clear hcells
        clear ck cq cy
        go_wp2_with fail
        refine wp_region_noPanic ?_
        refine wp_region_held_drew (S := fun W => W.cell? ⟨g9, k, none⟩ = some (.int .i64 (x : Int)) ∧ W.cell? ⟨g9, q, none⟩ = some (.int .i64 (y : Int)) ∧ W.cell? ⟨gl, y, none⟩ = some (.slice (some ⟨g, 0, none⟩) L.length c)) (by kernel_rfl) HS0.out (fun _ => ?_)
        refine takeG (i := 0) (some 42) (.slice (some ⟨g9, 0, none⟩) m c8) rfl rfl (by kernel_rfl) (by kernel_rfl) (by kernel_rfl) (fun _ _ _ h => h) HS0.out (by kernel_rfl) (fun W hW => by go_simp) ?_
        simp only [Act.put, List.setIfInBounds_toArray, List.set_cons_zero, List.set_cons_succ]
        refine takeG (i := 1) (some 43) (.int .i64 (k : Int)) rfl rfl (by kernel_rfl) (by kernel_rfl) (by kernel_rfl) (fun _ _ _ h => h) HS0.out (by kernel_rfl) (fun W hW => by go_simp) ?_
        simp only [Act.put, List.setIfInBounds_toArray, List.set_cons_zero, List.set_cons_succ]
        refine takeG (i := 2) (some 44) (.pointer (some ⟨g9, k, none⟩)) rfl rfl (by kernel_rfl) (by kernel_rfl) (by kernel_rfl) (fun _ _ _ h => h) HS0.out (by kernel_rfl) (fun W hW => by go_simp) ?_
        simp only [Act.put, List.setIfInBounds_toArray, List.set_cons_zero, List.set_cons_succ]
        refine takeG (i := 3) (some 45) (.int .i64 (x : Int)) rfl rfl (by kernel_rfl) (by kernel_rfl) (by kernel_rfl) (fun _ _ _ h => h) HS0.out (by kernel_rfl) (fun W hW => by obtain ⟨h1, h2, h3⟩ := hW; go_simp) ?_
        simp only [Act.put, List.setIfInBounds_toArray, List.set_cons_zero, List.set_cons_succ]
        refine takeG (i := 4) (some 46) (.slice (some ⟨gl, 0, none⟩) n n) rfl rfl (by kernel_rfl) (by kernel_rfl) (by kernel_rfl) (fun _ _ _ h => h) HS0.out (by kernel_rfl) (fun W hW => by go_simp) ?_
        simp only [Act.put, List.setIfInBounds_toArray, List.set_cons_zero, List.set_cons_succ]
        refine takeG (i := 5) (some 47) (.slice (some ⟨g9, 0, none⟩) m c8) rfl rfl (by kernel_rfl) (by kernel_rfl) (by kernel_rfl) (fun _ _ _ h => h) HS0.out (by kernel_rfl) (fun W hW => by go_simp) ?_
        simp only [Act.put, List.setIfInBounds_toArray, List.set_cons_zero, List.set_cons_succ]
        refine takeG (i := 6) (some 48) (.int .i64 (q : Int)) rfl rfl (by kernel_rfl) (by kernel_rfl) (by kernel_rfl) (fun _ _ _ h => h) HS0.out (by kernel_rfl) (fun W hW => by go_simp) ?_
        simp only [Act.put, List.setIfInBounds_toArray, List.set_cons_zero, List.set_cons_succ]
        refine takeG (i := 7) (some 49) (.pointer (some ⟨g9, q, none⟩)) rfl rfl (by kernel_rfl) (by kernel_rfl) (by kernel_rfl) (fun _ _ _ h => h) HS0.out (by kernel_rfl) (fun W hW => by go_simp) ?_
        simp only [Act.put, List.setIfInBounds_toArray, List.set_cons_zero, List.set_cons_succ]
        refine takeG (i := 8) (some 50) (.int .i64 (y : Int)) rfl rfl (by kernel_rfl) (by kernel_rfl) (by kernel_rfl) (fun _ _ _ h => h) HS0.out (by kernel_rfl) (fun W hW => by obtain ⟨h1, h2, h3⟩ := hW; go_simp) ?_
        simp only [Act.put, List.setIfInBounds_toArray, List.set_cons_zero, List.set_cons_succ]
        refine takeG (i := 9) (some 51) (.pointer (some ⟨gl, y, none⟩)) rfl rfl (by kernel_rfl) (by kernel_rfl) (by kernel_rfl) (fun _ _ _ h => h) HS0.out (by kernel_rfl) (fun W hW => by go_simp) ?_
        simp only [Act.put, List.setIfInBounds_toArray, List.set_cons_zero, List.set_cons_succ]
        refine takeG (i := 10) (some 52) (.slice (some ⟨g, 0, none⟩) L.length c) rfl rfl (by kernel_rfl) (by kernel_rfl) (by kernel_rfl) (fun _ _ _ h => h) HS0.out (by kernel_rfl) (fun W hW => by obtain ⟨h1, h2, h3⟩ := hW; go_simp) ?_
        simp only [Act.put, List.setIfInBounds_toArray, List.set_cons_zero, List.set_cons_succ]
        refine takeG (i := 11) (some 10) (.int .i64 (x : Int)) rfl rfl (by kernel_rfl) (by kernel_rfl) (by kernel_rfl) (fun _ _ _ h => h) HS0.out (by kernel_rfl) (fun W hW => by go_simp) ?_
        simp only [Act.put, List.setIfInBounds_toArray, List.set_cons_zero, List.set_cons_succ]
        refine takeG (i := 12) (some 11) (.slice (some ⟨g, 0, none⟩) L.length c) rfl rfl (by kernel_rfl) (by kernel_rfl) (by kernel_rfl) (fun _ _ _ h => h) HS0.out (by kernel_rfl) (fun W hW => by go_simp) ?_
        simp only [Act.put, List.setIfInBounds_toArray, List.set_cons_zero, List.set_cons_succ]
        refine wpAnyH_done (by kernel_rfl) ?_ _
        refine NoPanic.normal ?_
        have HBS := Lib.hid (lib_slices_BinarySearch_int g 0 L.length c L (x : Int) wr.drew (Nat.le_refl _) (by have := HFEW.out; omega) (fun j hj => by
          refine (HCELLS.out j hj).trans ?_
          simp [List.getD, List.getElem?_eq_getElem hj]) (by rw [List.take_length]; exact HSORT.out))
        rw [List.take_length] at HBS
        obtain ⟨p, hp⟩ : ∃ p, p = L.countP (· < (x : Int)) := ⟨_, rfl⟩
        have HP := Lib.hid hp
        have hpl : p ≤ L.length := by rw [hp]; exact List.countP_le_length
        rw [← hp] at HBS
        clear hp
        go_wp2_with (first
          | (go_at_call 43; refine HBS.out.mono ?_; rintro e wb ⟨rfl, hqd⟩; have HQD := Lib.hid hqd; clear hqd)
          | fail)
        have HDV : Hid (DInv w11 wb.drew gl n us (domT G (r : Int) ord k)) := Lib.hid (by
          obtain ⟨qd, hw⟩ := HQD.out; rw [hw]; refine HDD.out.step hgl3 ⟨rfl, rfl, rfl, Nat.le_refl _, fun _ _ => rfl⟩)
        have hcv : ∀ j (hj : j < L.length), wb.drew.cell? ⟨g, 0 + j, none⟩ = some (.int .i64 L[j]) := (by
          obtain ⟨qd, hw⟩ := HQD.out
          rw [hw]
          exact HCELLS.out)
        have HCV := Lib.hid hcv
        clear hcv
        have hgv : g < wb.drew.heap.size := (by
          obtain ⟨qd, hw⟩ := HQD.out
          rw [hw]
          exact hgs)
        obtain ⟨po, hpo1, hpo2⟩ : ∃ po : Nat, (c = p → po = 0) ∧ (c ≠ p → po = p) := (by
          by_cases e : c = p
          · exact ⟨0, fun _ => rfl, fun h => absurd e h⟩
          · exact ⟨p, fun h => absurd h e, fun _ => rfl⟩)
        have hpi : (p : Int) ≤ (L.length : Int) := by omega
        have hpc : (p : Int) ≤ (c : Int) := by omega
        have hp0 : (0 : Int) ≤ (p : Int) := by omega
        refine wp_region_noPanic ?_
        refine wp_region_held_drew (S := fun _ => True) (by kernel_rfl) True.intro (fun _ => ?_)
        generalize wb.drew = V at *
        refine takeG (i := 0) (some 59) (.slice (some ⟨gl, 0, none⟩) n n) rfl rfl (by kernel_rfl) (by kernel_rfl) (by kernel_rfl) (fun _ _ _ h => h) True.intro (by kernel_rfl) (fun W hW => by go_simp) ?_
        simp only [Act.put, List.setIfInBounds_toArray, List.set_cons_zero, List.set_cons_succ]
        refine takeG (i := 1) (some 60) (.int .i64 (x : Int)) rfl rfl (by kernel_rfl) (by kernel_rfl) (by kernel_rfl) (fun _ _ _ h => h) True.intro (by kernel_rfl) (fun W hW => by go_simp) ?_
        simp only [Act.put, List.setIfInBounds_toArray, List.set_cons_zero, List.set_cons_succ]
        refine takeG (i := 2) (some 61) (.slice (some ⟨g, 0, none⟩) L.length c) rfl rfl (by kernel_rfl) (by kernel_rfl) (by kernel_rfl) (fun _ _ _ h => h) True.intro (by kernel_rfl) (fun W hW => by go_simp) ?_
        simp only [Act.put, List.setIfInBounds_toArray, List.set_cons_zero, List.set_cons_succ]
        refine takeG (i := 3) (some 62) (.int .i64 (p : Int)) rfl rfl (by kernel_rfl) (by kernel_rfl) (by kernel_rfl) (fun _ _ _ h => h) True.intro (by kernel_rfl) (fun W hW => by go_simp) ?_
        simp only [Act.put, List.setIfInBounds_toArray, List.set_cons_zero, List.set_cons_succ]
        refine takeG (i := 4) (some 63) (.slice (some ⟨g, 0, none⟩) p c) rfl rfl (by kernel_rfl) (by kernel_rfl) (by kernel_rfl) (fun _ _ _ h => h) True.intro (by kernel_rfl) (fun W hW => by go_simp) ?_
        simp only [Act.put, List.setIfInBounds_toArray, List.set_cons_zero, List.set_cons_succ]
        refine takeG (i := 5) (some 64) (.int .i64 (x : Int)) rfl rfl (by kernel_rfl) (by kernel_rfl) (by kernel_rfl) (fun _ _ _ h => h) True.intro (by kernel_rfl) (fun W hW => by go_simp) ?_
        simp only [Act.put, List.setIfInBounds_toArray, List.set_cons_zero, List.set_cons_succ]
        refine takeG (i := 7) (some 66) (.slice (some ⟨g, 0, none⟩) L.length c) rfl rfl (by kernel_rfl) (by kernel_rfl) (by kernel_rfl) (fun _ _ _ h => h) True.intro (by kernel_rfl) (fun W hW => by go_simp) ?_
        simp only [Act.put, List.setIfInBounds_toArray, List.set_cons_zero, List.set_cons_succ]
        refine takeG (i := 8) (some 67) (.int .i64 (p : Int)) rfl rfl (by kernel_rfl) (by kernel_rfl) (by kernel_rfl) (fun _ _ _ h => h) True.intro (by kernel_rfl) (fun W hW => by go_simp) ?_
        simp only [Act.put, List.setIfInBounds_toArray, List.set_cons_zero, List.set_cons_succ]
        refine takeG (i := 9) (some 68) (.slice (some ⟨g, po, none⟩) (L.length - p) (c - p)) rfl rfl (by kernel_rfl) (by kernel_rfl) (by kernel_rfl) (fun _ _ _ h => h) True.intro (by kernel_rfl) (fun W hW => by go_simp; by_cases e : c = p; (rw [if_pos e, hpo1 e]); (rw [if_neg e, hpo2 e])) ?_
        simp only [Act.put, List.setIfInBounds_toArray, List.set_cons_zero, List.set_cons_succ]
        refine wpAnyH_ready (rs := [6]) (by kernel_rfl) (by simp) (AllReadyH.cons rfl (fun K6 hK6 => ?_) AllReadyH.nil)
        refine branchG (some 65) (.slice (some ⟨V.heap.size, 0, none⟩) 1 1) (V.alloc (.cells #[.int .i64 (x : Int)] 3)) rfl (by kernel_rfl) (by go_simp) ?_
        refine hK6.out _ _ True.intro (fun _ => ?_)
        simp only [Act.put, List.setIfInBounds_toArray, List.set_cons_zero, List.set_cons_succ]
        refine wpAnyH_ready (rs := [10]) (by kernel_rfl) (by simp) (AllReadyH.cons rfl (fun K10 hK10 => ?_) AllReadyH.nil)
        refine branchG (some 69) (.slice (some ⟨V.heap.size + 1, 0, none⟩) 3 3) ((V.alloc (.cells #[.int .i64 (x : Int)] 3)).alloc (.cells #[.slice (some ⟨g, 0, none⟩) p c, .slice (some ⟨V.heap.size, 0, none⟩) 1 1, .slice (some ⟨g, po, none⟩) (L.length - p) (c - p)] 30)) rfl (by kernel_rfl) (by go_simp) ?_
        refine hK10.out _ _ True.intro (fun _ => ?_)
        simp only [Act.put, List.setIfInBounds_toArray, List.set_cons_zero, List.set_cons_succ]
        refine wpAnyH_ready (rs := [11]) (by kernel_rfl) (by simp) (AllReadyH.cons rfl (fun K11 hK11 => ?_) AllReadyH.nil)
        rw [if_pos (by kernel_rfl)]
        go_simp
        go_at_call 44
        have HLIE : Hid (LieR ((V.alloc (.cells #[.int .i64 (x : Int)] 3)).alloc (.cells #[.slice (some ⟨g, 0, none⟩) p c, .slice (some ⟨V.heap.size, 0, none⟩) 1 1, .slice (some ⟨g, po, none⟩) (L.length - p) (c - p)] 30)) ((V.alloc (.cells #[.int .i64 (x : Int)] 3)).alloc (.cells #[.slice (some ⟨g, 0, none⟩) p c, .slice (some ⟨V.heap.size, 0, none⟩) 1 1, .slice (some ⟨g, po, none⟩) (L.length - p) (c - p)] 30)).heap.size (some ⟨V.heap.size + 1, 0, none⟩) 3 (row3 (L.take p) [(x : Int)] (L.drop p))) := Lib.hid (by
          have h := lie3 (W := V) (A1 := some ⟨g, 0, none⟩) (A3 := some ⟨g, po, none⟩) (c1 := c) (c3 := c - p) (L1 := L.take p) (L3 := L.drop p) (x := (x : Int)) (fun _ => ⟨g, 0, rfl, hgv, fun j hj => by
              have hj2 : j < L.length := by rw [List.length_take] at hj; omega
              rw [HCV.out j hj2]; simp⟩) (fun _ => ⟨g, po, rfl, hgv, fun j hj => by
              have hj2 : p + j < L.length := by rw [List.length_drop] at hj; omega
              obtain rfl : po = p := hpo2 (by omega)
              have h := HCV.out (po + j) hj2
              rw [Nat.zero_add] at h
              rw [h]; simp⟩)
          rw [List.length_take, Nat.min_eq_left hpl, List.length_drop] at h
          exact h)
        have hcat : L.take p ++ [(x : Int)] ++ L.drop p = D := by rw [HP.out]; exact HCAT.out
        have hlenc : (catL (row3 (L.take p) [(x : Int)] (L.drop p)) 3).length ≤ 100000 := by
          rw [catL_row3]
          have := HFEW.out
          simp
          try omega
        refine (concat_any HLIE.out (Nat.le_refl _) (by omega) hlenc).mono ?_
        rintro e V3 ⟨vv, rfl, hown, hbV⟩
        rw [catL_row3, hcat] at hown
        have hD0 : 0 < D.length := by rw [← hcat]; simp <;> omega
        obtain ⟨Av, cv, rfl⟩ := hown.open
        have hbA : Below V.heap.size V V3 := (((Below.refl _ V).alloc (Nat.le_refl _) _).alloc (by simp) _).trans (hbV.mono (by simp; omega))
        have hD3 := HDV.out.step hgl3 hbA
        have hcl := hD3.row.cell hxn
        have hfl := hD3.row.free x
        have HN : Hid (∃ us', DInv w11 (V3.setCell ⟨gl, x, none⟩ (.slice Av D.length cv)) gl n us' (domT G (r : Int) ord (k + 1))) := Lib.hid ⟨_, by
          rw [← HSUCC.out]
          exact hD3.put hgl3 (hown.drow (by have := HDV.out.size; simp; omega) hD0)⟩
        clear hown hbV hbA hD3 hlenc HLIE
        refine hK11.out _ _ True.intro (fun _ => ?_)
        refine takeG (i := 12) (some 71) (.pointer (some ⟨gl, x, none⟩)) rfl rfl (by kernel_rfl) (by kernel_rfl) (by kernel_rfl) (fun _ _ _ h => h) True.intro (by kernel_rfl) (fun W hW => by go_simp) ?_
        simp only [Act.put, List.setIfInBounds_toArray, List.set_cons_zero, List.set_cons_succ]
        refine wpAnyH_ready (rs := [13]) (by kernel_rfl) (by simp) (AllReadyH.cons rfl (fun K13 hK13 => ?_) AllReadyH.nil)
        refine branchS (V3.setCell ⟨gl, x, none⟩ (.slice Av D.length cv)) rfl (by kernel_rfl) (by go_simp) ?_
        refine hK13.out _ _ True.intro (fun _ => ?_)
        refine wpAnyH_done (by kernel_rfl) ?_ _
        refine NoPanic.normal ?_
        simp only [Act.put]
        generalize V3.setCell ⟨gl, x, none⟩ (.slice Av D.length cv) = V4 at *
        go_wp2_with fail
        go_roundw
        case rel => exact ⟨k + 1, by omega, by go_num, HN⟩
        case measure => simp [intOf]; omega
    · obtain rfl : k = m := by omega
      obtain ⟨us, hD⟩ := hr2.out
      have hends := hD.ends (Ms := domL G (r : Int)) HX11.out hglw (fun i hi => by
        unfold domT
        by_cases e : i ∈ ord.take k
        · rw [if_pos e]
        · rw [if_neg e]
          rw [HMD.out, List.take_length] at e
          exact (dom_away (by rw [← HND.out]; exact hr) HR.out e).symm)
      have HE := Lib.hid hends
      clear hr2 hD hends
      go_wp2_with fail
      rw [← HND.out]
      refine bodyPost_ret (results_tmp rfl _ _ _) rfl ?_
      exact ⟨_, _, rfl, HE.out.1, HE.out.2⟩
theorem LDominatorsZ {mv : Array Value} {G : GT} (w : World) (r : Int) (h : ModelAt w w.heap.size mv G) (hf : fewB G) : Calls Try.prog 20 #[.agg mv, .int .i64 r] w (SaysR w G.n (domL G r)) := by
  by_cases hr : 0 ≤ r ∧ r < (G.n : Int)
  · obtain ⟨k, rfl⟩ : ∃ k : Nat, r = (k : Int) := ⟨r.toNat, by omega⟩
    exact dom_some w k h hf (by omega)
  · exact dom_none w r h hf hr
theorem LLongestZ {mv : Array Value} {G : GT} (w : World) (h : ModelAt w w.heap.size mv G) (hf : fewB G) : Calls Try.prog 14 #[.agg mv] w (SaysN w (longestA G) (okG G)) := by
  rcases loops_cases G with hl | ⟨_, hn⟩
  · refine (longest_yes w h hf (loops_nil.1 hl)).mono ?_
    rintro e w' ⟨rfl, hb⟩
    unfold longestA okG
    rw [if_pos hl, decide_eq_true hl]
    exact ⟨rfl, hb⟩
  · refine (longest_no w h hf (fun h => hn (loops_nil.2 h))).mono ?_
    rintro e w' ⟨rfl, hb⟩
    unfold longestA okG
    rw [if_neg hn, decide_eq_false hn]
    exact ⟨rfl, hb⟩
end Go.Proofs.Ytmbjmibjobpdgaa
