/-
  The landed sources.
-/
import Derived.Test.YtmbjmibjobpdgaaM30
import Derived.Test.YtmbjmibjobpdgaaM20
import Derived.Deep.RegionHeld3
namespace Go.Proofs.Ytmbjmibjobpdgaa
open Go.RowKit

/-- Where the nodes stand, as far as the order was gone through. -/
def plK (ord : List Nat) (k : Nat) (x : Nat) : Int := if pos ord x < k then (pos ord x : Int) else -1
theorem plK_zero (ord : List Nat) (x : Nat) : plK ord 0 x = -1 := if_neg (by omega)
theorem plK_succ {ord : List Nat} (hn : ord.Nodup) {k x : Nat} (hx : ord[k]? = some x) : fup (plK ord k) x (k : Int) = plK ord (k + 1) := by
  funext y
  unfold fup plK
  by_cases e : y = x
  · subst e
    rw [if_pos rfl, pos_of hn hx, if_pos (by omega)]
  · rw [if_neg e]
    by_cases h : pos ord y < k
    · rw [if_pos h, if_pos (by omega)]
    · rw [if_neg h, if_neg]
      intro h2
      have hk : pos ord y = k := by omega
      have hlt := (List.getElem?_eq_some_iff.1 hx).1
      have hy : y ∈ ord := List.idxOf_lt_length_iff.1 (by unfold pos at hk; omega)
      have := pos_at hy
      rw [hk, hx] at this
      injection this with this
      exact e this.symm
theorem plK_all {ord : List Nat} {x : Nat} : plK ord ord.length x = if x ∈ ord then (pos ord x : Int) else -1 := by
  unfold plK
  by_cases h : x ∈ ord
  · rw [if_pos h, if_pos (pos_lt h)]
  · rw [if_neg h, if_neg]
    unfold pos
    rw [List.idxOf_eq_length h]; omega
/-- A place's sources, as far as they were gone through. -/
def srcP (ord L : List Nat) (j : Nat) : List Nat := ((L.take j).filter fun y => decide (y ∈ ord)).map fun y => pos ord y
theorem srcP_succ (ord L : List Nat) {j : Nat} (hj : j < L.length) : srcP ord L (j + 1) = srcP ord L j ++ if L[j] ∈ ord then [pos ord L[j]] else [] := by
  unfold srcP
  rw [List.take_add_one, List.getElem?_eq_getElem hj, Option.toList, List.filter_append, List.map_append]
  by_cases h : L[j] ∈ ord
  · rw [if_pos h]; simp [h]
  · rw [if_neg h]; simp [h]
theorem srcP_len (ord L : List Nat) (j : Nat) : (srcP ord L j).length ≤ L.length := by
  unfold srcP
  rw [List.length_map]
  exact Nat.le_trans (List.length_filter_le _ _) (by simp; omega)
theorem srcP_all {G : GT} {ord : List Nat} {p x : Nat} (hx : ord[p]? = some x) : srcP ord (inN G x) (inN G x).length = srcN G ord p := by
  unfold srcP srcN
  rw [hx, List.take_length]
theorem box2 {w wr : World} {x y : Value} {T : TypeId} {b2 g : Nat} (h : w.heap[b2]? = some (.cells #[x, y] T (0, 0))) {B : Nat} (hb : Bow B g w wr) (h1 : b2 < B) (h2 : b2 ≠ g) : wr.cell? ⟨b2, 0, none⟩ = some x ∧ wr.cell? ⟨b2, 1, none⟩ = some y := by
  have := (hb.block b2 h1 h2).trans h
  exact ⟨by rw [cell_of_row wr _ 0 _ _ (0, 0) this]; rfl, by rw [cell_of_row wr _ 1 _ _ (0, 0) this]; rfl⟩
/-- What sources answers. -/
def SrcEnds (w : World) (G : GT) (ord : List Nat) (e : Ending) (w' : World) : Prop :=
  ∃ g, e = .returned (.slice (some ⟨g, 0, none⟩) ord.length ord.length) ∧ LieR w' w'.heap.size (some ⟨g, 0, none⟩) ord.length (fun p => ofNs (srcN G ord p)) ∧ Below w.heap.size w w'
set_option maxRecDepth 20000 in
set_option maxHeartbeats 4000000 in
theorem sources_any {w : World} {lim n cA cB co : Nat} {A B AO : Option Addr} {G : GT} {ord : List Nat} (hnd : ord.Nodup) (hB : LieR w lim B n (fun i => ofNs (inN G i))) (hO : LieI w lim AO (ofNs ord)) (hlim : lim ≤ w.heap.size) (hn : n ≤ 1000) (hm : ord.length ≤ 1000) (hord : ∀ x ∈ ord, x < n) (hin : ∀ x, x < n → ∀ y ∈ inN G x, y < n) (hlen : ∀ x, x < n → (inN G x).length ≤ 9999) :
    Calls Try.prog 42 #[.agg #[.slice A n cA, .slice B n cB], .slice AO ord.length co] w fun e w' => SrcEnds w G ord e w' := by
  obtain ⟨W0, hW0⟩ : ∃ W0, W0 = w.alloc (.cells #[.slice A n cA, .slice B n cB] 71) := ⟨_, rfl⟩
  have hb0 : Below w.heap.size w W0 := by rw [hW0]; exact (Below.refl _ _).alloc (Nat.le_refl _) _
  have hbox : W0.heap[w.heap.size]? = some (.cells #[.slice A n cA, .slice B n cB] 71 (0, 0)) := by rw [hW0]; exact heap_alloc_new w _
  have hsz0 : W0.heap.size = w.heap.size + 1 := by rw [hW0]; simp
  obtain ⟨m, hmd⟩ : ∃ m, m = ord.length := ⟨_, rfl⟩
  have R := Lib.hid (rep_any W0.heap.size n hn (W0.alloc (.cells #[.int .i64 (-1)] 3)) (heap_alloc_new W0 _))
  have HB0 := Lib.hid hb0
  have HBX := Lib.hid hbox
  have HSZ := Lib.hid hsz0
  have HMD := Lib.hid hmd
  have HND := Lib.hid hnd
  have HB := Lib.hid hB
  have HO := Lib.hid hO
  have HORD := Lib.hid hord
  have HIN := Lib.hid hin
  have HLEN := Lib.hid hlen
  have b1 : W0.cell? ⟨w.heap.size, 1, none⟩ = some (.slice B n cB) := by rw [cell_of_row W0 _ 1 _ _ (0, 0) hbox]; rfl
  have b1' : (W0.alloc (.cells #[.int .i64 (-1)] 3)).cell? ⟨w.heap.size, 1, none⟩ = some (.slice B n cB) := by
    rw [(((Below.refl _ W0).alloc (Nat.le_refl _) (.cells #[.int .i64 (-1)] 3)).cell (p := ⟨w.heap.size, 1, none⟩) (show w.heap.size < W0.heap.size by omega))]
    exact b1
  have HW := Lib.hid hW0
  rw [← hmd] at hm ⊢
  clear hb0 hbox hsz0 hmd hnd hB hO hord hin hlen hW0
  go_enter Try.func42, Try.ntmps42
  have e0 := HW.out.symm
  go_wp2_with (go_at_call 68; refine R.out.mono ?_; clear R; rintro e w1 ⟨gp, rfl, hg, hI, hb1⟩; have HI : Hid (OAt w1 gp n (fun _ => -1)) := Lib.hid hI; have HG := Lib.hid hg; have HB1 := Lib.hid (((Below.refl _ W0).alloc (Nat.le_refl _) (.cells #[.int .i64 (-1)] 3)).trans (hb1.mono (by simp))); clear hI hb1 hg)
  clear e0 b1 b1'
  have hgl : gp < w1.heap.size := HI.out.lt
  have hgw : w.heap.size < gp := by
    have h1 := HG.out
    have h2 := HSZ.out
    rw [World.size_alloc] at h1
    omega
  have H0 : Hid (OAt w1 gp n (plK ord 0) ∧ Bow w1.heap.size gp w1 w1) := Lib.hid ⟨HI.out.congr fun i _ => by show Value.int .i64 (plK ord 0 i) = _; rw [plK_zero], Bow.refl _ _ _⟩
  have HBW1 : Hid (Below w.heap.size w w1) := Lib.hid (HB0.out.trans (HB1.out.mono HB0.out.size))
  have hsw1 : w.heap.size < w1.heap.size := by omega
  clear HI HG
  go_loopw [20] (fun kv wr => ∃ k : Nat, k ≤ m ∧ kv = .int .i64 k ∧ Hid (OAt wr gp n (plK ord k) ∧ Bow w1.heap.size gp w1 wr)) (fun kv _ => m - (intOf kv).toNat)
  case atStart => exact ⟨0, Nat.zero_le _, rfl, H0⟩
  case round =>
    clear H0
    obtain ⟨k, hk, rfl, hr⟩ := hrel
    by_cases hlt : k < m
    · have hkl : k < ord.length := by have := HMD.out; omega
      obtain ⟨gr, orr, rfl, hgr, hx⟩ := HO.out (by rw [ofN_len]; omega)
      obtain ⟨hP, hbw⟩ := hr.out
      have x0 : wr.cell? ⟨gr, orr + k, none⟩ = some (.int .i64 (ord[k] : Nat)) := by
        rw [hbw.cell (by omega) (by omega), HBW1.out.cell (p := ⟨gr, orr + k, none⟩) (show gr < w.heap.size by omega), hx k (by rw [ofN_len]; exact hkl)]
        simp [ofNs]
      have hxn : ord[k] < n := HORD.out _ (List.getElem_mem hkl)
      have hst := plK_succ HND.out (List.getElem?_eq_getElem hkl)
      have hP2 := hP.set ord[k] (k : Int)
      rw [hst] at hP2
      have fr : ∀ i, wr.frozen? ⟨gp, i, none⟩ = false := fun i => hP.free i
      have cp := hP.cell hxn
      generalize ord[k] = x at *
      have H2 : Hid (OAt (wr.setCell ⟨gp, x, none⟩ (.int .i64 (k : Int))) gp n (plK ord (k + 1)) ∧ Bow w1.heap.size gp w1 (wr.setCell ⟨gp, x, none⟩ (.int .i64 (k : Int)))) := Lib.hid ⟨hP2, hbw.set x _⟩
      generalize plK ord k x = ov at *
      clear hP hbw hr hst hP2 hx
      go_wp2_with fail
      go_roundw
      case rel => exact ⟨k + 1, by omega, by go_num, H2⟩
      case measure => simp [intOf]; omega
    · obtain rfl : m = k := by omega
      clear hlt hk
      have hbx := HBX.out
      have HP := hr
      clear hr
      go_wp2_with (refine wp_mkL rfl (.tmp 31) (.tmp 31) rfl m rfl rfl hm ?_; intro w2 hC hb2 hlt2; refine Hid.out ?_)
      refine Lib.hid ?_
      go_wp2_with fail
      obtain ⟨b2, hb2d⟩ : ∃ b2, b2 = w2.heap.size := ⟨_, rfl⟩
      obtain ⟨gS, hgSd⟩ : ∃ gS, gS = wr.heap.size := ⟨_, rfl⟩
      have hw1r : w1.heap.size ≤ wr.heap.size := HP.out.2.size
      have hpl : ∀ x, x < n → wr.cell? ⟨gp, x, none⟩ = some (.int .i64 (plK ord m x)) := fun x hx => HP.out.1.cell hx
      have HPL : Hid (∀ x, x < n → w2.cell? ⟨gp, x, none⟩ = some (.int .i64 (plK ord m x))) := Lib.hid fun x hx => (hb2.cell (p := ⟨gp, x, none⟩) (show gp < wr.heap.size by omega)).trans (hpl x hx)
      have HBX2 : Hid (w2.heap[w.heap.size]? = some (.cells #[.slice A n cA, .slice B n cB] 71 (0, 0))) := Lib.hid (by
        rw [hb2.block _ (show w.heap.size < wr.heap.size by omega), HP.out.2.block _ hsw1 (by omega), HB1.out.block _ (row_lt hbx)]
        exact hbx)
      have HBW2 : Hid (Below w.heap.size w w2) := Lib.hid ((HBW1.out.trans (HP.out.2.below (by omega) (by omega))).trans (hb2.mono (by omega)))
      have S0 : Hid (∃ us, Sr w2 w2 gS m b2 us (fun t => if t < 0 then ofNs (srcN G ord t) else [])) := Lib.hid ⟨_, by rw [hgSd]; exact hC, ⟨fun t _ => OwnI.nil _ _, fun s t _ _ _ => .inl rfl⟩, Bow.refl _ _ _⟩
      have hgS2 : gp < gS := by omega
      have hwS : w.heap.size < gS := by omega
      have hSb : gS < b2 := by omega
      rw [← hgSd]
      have HB2D := Lib.hid hb2d
      clear hpl hbx HP hC hb2 hlt2 hb2d hgSd hw1r HBX HB1
      go_loopw [35] (fun kv wr => ∃ k : Nat, k ≤ m ∧ kv = .int .i64 k ∧ Hid (∃ us, Sr w2 wr gS m b2 us (fun t => if t < k then ofNs (srcN G ord t) else []))) (fun kv _ => m - (intOf kv).toNat)
      case atStart => exact ⟨0, Nat.zero_le _, rfl, S0⟩
      case round =>
        clear S0
        obtain ⟨k, hk, rfl, hr⟩ := hrel
        by_cases hlt : k < m
        · have hkl : k < ord.length := by have := HMD.out; omega
          obtain ⟨gr, orr, rfl, hgr, hx⟩ := HO.out (by rw [ofN_len]; omega)
          obtain ⟨us, hS⟩ := hr.out
          have hbw := hS.2.2
          have x0 : wr.cell? ⟨gr, orr + k, none⟩ = some (.int .i64 (ord[k] : Nat)) := by
            rw [hbw.cell (by omega) (by omega), HBW2.out.cell (p := ⟨gr, orr + k, none⟩) (show gr < w.heap.size by omega), hx k (by rw [ofN_len]; exact hkl)]
            simp [ofNs]
          have hxn : ord[k] < n := HORD.out _ (List.getElem_mem hkl)
          have hoz : Hid (ord[k]? = some ord[k]) := Lib.hid (List.getElem?_eq_getElem hkl)
          generalize ord[k] = x at *
          obtain ⟨gB, oB, rfl, hgB, hrow⟩ := HB.out (by omega)
          obtain ⟨A2, c2, y0, hli⟩ := hrow x hxn
          rw [ofN_len] at y0
          obtain ⟨q0, q1⟩ := box2 HBX2.out hbw (by omega) (by omega)
          have y1 : wr.cell? ⟨gB, oB + x, none⟩ = some (.slice A2 (inN G x).length c2) := by
            rw [hbw.cell (by omega) (by omega), HBW2.out.cell (p := ⟨gB, oB + x, none⟩) (show gB < w.heap.size by omega)]
            exact y0
          have HLI := Lib.hid hli
          have S1 : Hid (∃ us, Sr w2 wr gS m b2 us (upd (fun t => if t < k then ofNs (srcN G ord t) else []) k (ofNs (srcP ord (inN G x) 0)))) := Lib.hid ⟨us, hS.congr fun t _ => by
            by_cases e : t = k
            · subst e; rw [upd_same, if_neg (by omega)]; rfl
            · rw [upd_far e]⟩
          have hnl := HLEN.out x hxn
          obtain ⟨nL, hnL⟩ : ∃ nL, nL = (inN G x).length := ⟨_, rfl⟩
          have HNL := Lib.hid hnL
          rw [← hnL] at y1 hnl
          clear hS hbw hr hrow y0 hli hnL hx hkl
          go_wp2_with fail
          go_loopw [46] (fun jv wr => ∃ j : Nat, j ≤ nL ∧ jv = .int .i64 j ∧ Hid (∃ us, Sr w2 wr gS m b2 us (upd (fun t => if t < k then ofNs (srcN G ord t) else []) k (ofNs (srcP ord (inN G x) j))))) (fun jv _ => nL - (intOf jv).toNat)
          case atStart => exact ⟨0, Nat.zero_le _, rfl, S1⟩
          case round =>
            clear S1 x0 y1 q0 q1
            obtain ⟨j, hj, rfl, hr⟩ := hrel
            by_cases hjt : j < nL
            · have hjL : j < (inN G x).length := by have := HNL.out; omega
              obtain ⟨ga, oa, rfl, hga, hxx⟩ := HLI.out (by rw [ofN_len]; omega)
              obtain ⟨us, hS⟩ := hr.out
              have hbw := hS.2.2
              have x0 : wr.cell? ⟨ga, oa + j, none⟩ = some (.int .i64 ((inN G x)[j] : Nat)) := by
                rw [hbw.cell (by omega) (by omega), HBW2.out.cell (p := ⟨ga, oa + j, none⟩) (show ga < w.heap.size by omega), hxx j (by rw [ofN_len]; exact hjL)]
                simp [ofNs]
              have hyn := HIN.out x hxn _ (List.getElem_mem hjL)
              have hsu := srcP_succ ord (inN G x) hjL
              have cpl : wr.cell? ⟨gp, (inN G x)[j], none⟩ = some (.int .i64 (plK ord m (inN G x)[j])) := by
                rw [hbw.cell (by omega) (by omega)]
                exact HPL.out _ hyn
              have hpa : plK ord m (inN G x)[j] = if (inN G x)[j] ∈ ord then (pos ord (inN G x)[j] : Int) else -1 := by rw [HMD.out]; exact plK_all
              have hpl2 : (srcP ord (inN G x) j).length ≤ 9999 := by have := srcP_len ord (inN G x) j; have := HNL.out; omega
              generalize (inN G x)[j] = y at *
              by_cases hy : y ∈ ord
              · rw [if_pos hy] at hsu hpa
                rw [hpa] at cpl
                have t0 : (((pos ord y : Nat) : Int) != (-1 : Int)) = true := by simp
                obtain ⟨L0, hL0⟩ : ∃ L0, L0 = ofNs (srcP ord (inN G x) j) := ⟨_, rfl⟩
                have hL0k : (upd (fun t => if t < k then ofNs (srcN G ord t) else []) k (ofNs (srcP ord (inN G x) j))) k = L0 := by rw [upd_same, hL0]
                have hfin : Hid (upd (upd (fun t => if t < k then ofNs (srcN G ord t) else []) k (ofNs (srcP ord (inN G x) j))) k (L0 ++ [((pos ord y : Nat) : Int)]) = upd (fun t => if t < k then ofNs (srcN G ord t) else []) k (ofNs (srcP ord (inN G x) (j + 1)))) := Lib.hid (by
                  funext t
                  by_cases e : t = k
                  · subst e; rw [upd_same, upd_same, hsu, ofNs_app, hL0]
                  · rw [upd_far e, upd_far e, upd_far e])
                have hll : Hid (L0.length ≤ 10000) := Lib.hid (by rw [hL0, ofN_len]; omega)
                obtain ⟨z, hz⟩ : ∃ z, z = pos ord y := ⟨_, rfl⟩
                rw [← hz] at cpl t0 hfin
                have hb2r : b2 ≤ wr.heap.size := by have := HB2D.out; have := hbw.size; omega
                have hS1 := (hS.drew.alloc hb2r (.cells #[.int .i64 (z : Int)] 3))
                have HS1 := Lib.hid hS1
                have hO := Lib.hid (hS1.2.1.1 k hlt)
                rw [hL0k] at hO
                obtain ⟨cS, _⟩ := hS.cells hlt
                have w0 : (wr.drew.alloc (.cells #[.int .i64 (z : Int)] 3)).cell? ⟨wr.heap.size, 0, none⟩ = some (.int .i64 (z : Int)) := by
                  have := World.cell?_alloc_new wr.drew #[.int .i64 (z : Int)] 3 0
                  simpa using this
                have hsz : Hid (b2 ≤ (wr.drew.alloc (.cells #[.int .i64 (z : Int)] 3)).heap.size) := Lib.hid (by
                  rw [World.size_alloc]
                  exact Nat.le_succ_of_le hb2r)
                have HGR : Hid (∀ v' w8, OwnI w8 b2 v' (L0 ++ [(z : Int)]) → (wr.drew.alloc (.cells #[.int .i64 (z : Int)] 3)).grownBy w8 (us k).ownBlock → (v'.ownBlock = (us k).ownBlock ∨ v'.ownBlock = some (wr.drew.alloc (.cells #[.int .i64 (z : Int)] 3)).heap.size) → (∃ A8 n8 c8, v' = .slice A8 n8 c8) ∧ (w8.cell? ⟨gS, k, none⟩ = some (us k) ∧ w8.frozen? ⟨gS, k, none⟩ = false) ∧ ∃ us, Sr w2 (w8.setCell ⟨gS, k, none⟩ v') gS m b2 us (upd (fun t => if t < k then ofNs (srcN G ord t) else []) k (ofNs (srcP ord (inN G x) (j + 1))))) := Lib.hid fun v' w8 h1 h2 h3 => by
                  obtain ⟨hcc, hs9⟩ := HS1.out.grow hsz.out hlt (x := (z : Int)) (v' := v') (w8 := w8) (by rw [hL0k]; exact h1) h2 h3
                  rw [hL0k, hfin.out] at hs9
                  obtain ⟨A8, c8, e8⟩ := h1.open
                  exact ⟨⟨_, _, _, e8⟩, hcc, _, hs9⟩
                have cS2 : (wr.alloc (.cells #[.int .i64 (z : Int)] 3)).drew.cell? ⟨gS, k, none⟩ = some (us k) := (HS1.out.cells hlt).1
                obtain ⟨uk, huk⟩ : ∃ uk, uk = us k := ⟨_, rfl⟩
                rw [← huk] at cS cS2 hO HGR
                clear hS hbw hr hsu hpa hy hpl2 hxx hL0 hL0k hfin hz hS1 HS1 huk hb2r
                go_wp2_with fail
                go_region_law (first | (refine step_intAt rfl 30 Try.underlying30 (.tmp 60) (.tmp 65) rfl b2 uk L0 rfl hO.out wr.heap.size (z : Int) rfl w0 hll.out hsz.out ?_; intro v' w8 ho8 hg8 hat8; obtain ⟨⟨A8, n8, c8, e8⟩, ⟨cj8, fj8⟩, hS9⟩ := HGR.out v' w8 ho8 hg8 hat8; subst e8; have HS9 := Lib.hid hS9; clear ho8 hg8 hat8 hS9))
                all_goals
                  clear cS cS2 hO HGR w0 cpl x0
                  go_wp2_with fail
                  go_roundw
                  case rel => exact ⟨j + 1, by omega, by go_num, Lib.hid HS9.out⟩
                  case measure => simp [intOf]; omega
              · rw [if_neg hy, List.append_nil] at hsu
                rw [if_neg hy] at hpa
                rw [hpa] at cpl
                have HR : Hid (∃ us, Sr w2 wr gS m b2 us (upd (fun t => if t < k then ofNs (srcN G ord t) else []) k (ofNs (srcP ord (inN G x) (j + 1))))) := Lib.hid (by rw [hsu]; exact ⟨us, hS⟩)
                clear hS hbw hr hsu hpa hy hpl2 hxx
                go_wp2_with fail
                go_roundw
                case rel => exact ⟨j + 1, by omega, by go_num, HR⟩
                case measure => simp [intOf]; omega
            · obtain rfl : nL = j := by omega
              have HR : Hid (∃ us, Sr w2 wr gS m b2 us (fun t => if t < k + 1 then ofNs (srcN G ord t) else [])) := Lib.hid (by
                obtain ⟨us, hS⟩ := hr.out
                refine ⟨us, hS.congr fun t _ => ?_⟩
                by_cases e : t = k
                · subst e
                  rw [upd_same, if_pos (by omega), HNL.out, srcP_all hoz.out]
                · rw [upd_far e]
                  by_cases e2 : t < k
                  · rw [if_pos e2, if_pos (by omega)]
                  · rw [if_neg e2, if_neg (by omega)])
              clear hr
              go_wp2_with fail
              go_roundw
              case rel => exact ⟨k + 1, by omega, by go_num, HR⟩
              case measure => simp [intOf]; omega
        · obtain rfl : m = k := by omega
          have hfin : Hid (SrcEnds w G ord (.returned (.slice (some ⟨gS, 0, none⟩) m m)) wr) := Lib.hid (by
            obtain ⟨us, hS⟩ := hr.out
            refine ⟨gS, by rw [HMD.out], ?_, HBW2.out.trans (hS.2.2.below (by have := HB2D.out; have := HBW2.out.size; omega) (by omega))⟩
            rw [← HMD.out]
            refine Fam.lie (hS.2.1.congr fun t ht => ?_) hS.1
            rw [if_pos ht])
          clear hr
          go_wp2_with fail
          go_ret
          exact hfin.out
end Go.Proofs.Ytmbjmibjobpdgaa
