/-
  The landed pieces.
-/
import Derived.Test.YtmbjmibjobpdgaaM44
namespace Go.Proofs.Ytmbjmibjobpdgaa
open Go.RowKit Go.Shelf
attribute [local go_sem] Oper.semAt_some

set_option maxRecDepth 20000 in
set_option maxHeartbeats 8000000 in
theorem pieces_any {w : World} {lim cO cI gO gI : Nat} {G : GT} (hO : LieC w lim (some ⟨gO, 0, none⟩) G.n (outN G)) (hI : LieC w lim (some ⟨gI, 0, none⟩) G.n (inN G)) (hgO : gO < lim) (hgI : gI < lim) (hlim : lim ≤ w.heap.size) (hf : fewB G) :
    Calls Try.prog 33 #[.agg #[.slice (some ⟨gO, 0, none⟩) G.n cO, .slice (some ⟨gI, 0, none⟩) G.n cI]] w fun e w' => PcEnds w G e w' := by
  obtain ⟨n, hnd⟩ : ∃ n, n = G.n := ⟨_, rfl⟩
  have hn : n ≤ 1000 := by have := hf.1; omega
  rw [← hnd] at hO hI ⊢
  have HO := Lib.hid hO
  have HI := Lib.hid hI
  have HF := Lib.hid hf
  have HND := Lib.hid hnd
  clear hO hI hf hnd
  refine (callsIn_wide (n := 4)).1 ?_
  refine callsIn_of_wp_marks Try.func33 rfl trivial ?_ rfl
  simp only [Try.ntmps33, List.size_toArray, List.length_cons, List.length_nil, Nat.reduceAdd, Nat.reduceSub, Array.replicate_succ, Array.replicate_zero, List.push_toArray, List.append_toArray, List.nil_append, List.cons_append]
  refine wpIn_wide.2 ?_
  go_wp2_with fail
  have hz : w.heap.size + 1 ≤ (w.alloc (.cells #[.slice (some ⟨gO, 0, none⟩) n cO, .slice (some ⟨gI, 0, none⟩) n cI] 71)).drew.heap.size := by
    rw [World.size_drew, World.size_alloc]
    exact Nat.le_refl _
  have hbx := heap_alloc_new w (.cells #[.slice (some ⟨gO, 0, none⟩) n cO, .slice (some ⟨gI, 0, none⟩) n cI] 71)
  have HS : Hid ((w.alloc (.cells #[.slice (some ⟨gO, 0, none⟩) n cO, .slice (some ⟨gI, 0, none⟩) n cI] 71)).drew.cell? ⟨w.heap.size, 0, none⟩ = some (.slice (some ⟨gO, 0, none⟩) n cO) ∧ (w.alloc (.cells #[.slice (some ⟨gO, 0, none⟩) n cO, .slice (some ⟨gI, 0, none⟩) n cI] 71)).drew.cell? ⟨w.heap.size, 1, none⟩ = some (.slice (some ⟨gI, 0, none⟩) n cI)) := Lib.hid ⟨(cell_of_row (World.drew _) _ 0 _ _ (0, 0) hbx).trans rfl, (cell_of_row (World.drew _) _ 1 _ _ (0, 0) hbx).trans rfl⟩
  have HB : Hid (Below w.heap.size w (w.alloc (.cells #[.slice (some ⟨gO, 0, none⟩) n cO, .slice (some ⟨gI, 0, none⟩) n cI] 71)).drew) := Lib.hid (((Below.refl _ _).alloc (Nat.le_refl _) _).trans ⟨rfl, rfl, rfl, Nat.le_refl _, fun _ _ => rfl⟩)
  clear hbx
  rename_i K hK
  have REST : Hid (∀ (W : World) (b4 b5 gm1 gm2 : Nat) (A1 A2 : Option Addr) (co1 co2 : Nat), Hid (Pz w W lim n (outN G) (inN G) b4 b5 gm1 gm2 A1 A2 co1 co2) → K { tmps := #[.agg #[.slice (some ⟨gO, 0, none⟩) n cO, .slice (some ⟨gI, 0, none⟩) n cI], .pointer (some ⟨w.heap.size, 0, none⟩), .slice none 0 0, .slice none 0 0, .pointer (some ⟨b4, 0, none⟩), .pointer (some ⟨b5, 0, none⟩), undef, undef, undef, undef, undef, .pointer (some ⟨w.heap.size, 0, none⟩), .slice (some ⟨gO, 0, none⟩) n cO, .agg #[.slice (some ⟨gm1, 0, none⟩) n n, .slice A1 n co1], .pointer (some ⟨w.heap.size, 1, none⟩), .slice (some ⟨gI, 0, none⟩) n cI, .agg #[.slice (some ⟨gm2, 0, none⟩) n n, .slice A2 n co2], undef, undef, undef, undef, undef, undef, undef, undef, undef, undef, undef, undef, undef, undef, undef, undef, undef, undef, undef, undef, undef, undef, undef, undef, undef, undef, undef], defers := [] } W) := Lib.hid (by
    intro W b4 b5 gm1 gm2 A1 A2 co1 co2 hP
    clear HS HB hz
    refine hK _ _ ?_
    clear hK K
    obtain ⟨gB, cB, c0⟩ := hP.out.box
    have HP := hP
    have S0 : Hid (Z1 w W W lim n (inN G) b4 b5 gm1 gm2 A1 A2 co1 co2 (fun _ => false) (outN G) (ofNs []) (.slice none 0 0)) := Lib.hid ⟨hP.out.n1.met, hP.out.n1.opn, hP.out.n2.met, hP.out.n2.opn, hP.out.r4, hP.out.r5, OwnI.nil _ _, hP.out.bel, by have := row_lt hP.out.r4; have := hP.out.ge4; omega, Nat.le_refl _⟩
    have hg1 := hP.out.n1.ge
    have hz4 := hP.out.ge4
    have hz5 := hP.out.ge5
    clear hP
    go_wp2_with fail
    go_loopw [3, 20] (fun lv kv wr => ∃ (k : Nat) (d : Ds), k ≤ n ∧ kv = .int .i64 k ∧ Hid (Wk1 (outN G) n k d) ∧ Hid (Z1 w W wr lim n (inN G) b4 b5 gm1 gm2 A1 A2 co1 co2 d.met d.opn (ofNs d.lft) lv)) (fun _ kv _ => n - (intOf kv).toNat)
    case atStart => exact ⟨0, _, Nat.zero_le _, rfl, Lib.hid (Wk1.start (outN G) n), S0⟩
    case round =>
      clear S0 c0
      obtain ⟨k, d, hk, rfl, hwk, hr⟩ := hrel
      have hR : ∀ x, x < n → ∀ y ∈ outN G x, y < n := fun x _ y hy => by rw [HND.out]; exact outN_lt x y hy
      have hfew := (hwk.out.few hR).1
      obtain ⟨AL, cL, rfl⟩ := hr.out.own.open
      rw [ofN_len] at hr ⊢
      have r4 := hr.out.r4
      have hw4 : wr.cell? ⟨b4, 0, none⟩ = some (.slice (some ⟨gm1, 0, none⟩) n n) := by rw [cell_of_row _ _ 0 _ _ (0, 0) r4]; rfl
      have hw4b : wr.cell? ⟨b4, 1, none⟩ = some (.slice A1 n co1) := by rw [cell_of_row _ _ 1 _ _ (0, 0) r4]; rfl
      have HR4 := Lib.hid r4
      clear r4
      by_cases hlt : k < n
      · by_cases hm : d.met k = true
        · have HSK : Hid (∀ w5, Below wr.heap.size wr w5 → Z1 w W w5 lim n (inN G) b4 b5 gm1 gm2 A1 A2 co1 co2 d.met d.opn (ofNs d.lft) (.slice AL d.lft.length cL)) := Lib.hid fun w5 hb => hr.out.below hlim hb
          have HM := Lib.hid hr.out.met
          have HWK := Lib.hid (hwk.out.skip hm)
          clear hr hwk
          go_wp2_with (first
            | (refine wpList_load_row rfl 82 _ rfl b4 rfl 82 #[.slice (some ⟨gm1, 0, none⟩) n n, .slice A1 n co1] (0, 0) _ HR4.out Try.underlying82 rfl (by kernel_rfl) ?_)
            | (go_at_call 39; refine (from_met HM.out hlt hm).mono ?_; rintro e w5 ⟨rfl, hb5⟩; have HZ5 := Lib.hid (HSK.out _ hb5); clear hb5; refine Hid.out ?_)
            | fail)
          refine Lib.hid ?_
          have HO5 := Lib.hid HZ5.out.own
          have hl5 : Hid ((ofNs d.lft).length + ([] : List Int).length ≤ 100000) := Lib.hid (by rw [ofN_len]; simp; omega)
          go_wp2_with (refine wpl_row rfl (.tmp 23) (.tmp 26) rfl W.heap.size _ (ofNs d.lft) rfl HO5.out none [] 0 0 rfl (LieI.nil _ _ _) hl5.out HZ5.out.sz.2 ?_; refine Hid.out ?_)
          refine Lib.hid ?_
          intro v' w6 ho hg6 _
          have HR := Lib.hid (HZ5.out.grow hlim hg6 ho)
          obtain ⟨A6, c6, rfl⟩ := ho.open
          clear ho hg6 HZ5 HO5 hl5 HSK HM hw4 hw4b HR4
          go_wp2_with fail
          refine ⟨?rel, ?measure⟩
          case rel => exact ⟨k + 1, d, by omega, by go_num, HWK, HR⟩
          case measure => simp [intOf]; omega
        · have hmf : d.met k = false := by simpa using hm
          obtain ⟨go, rfl, hgo, hop⟩ := hr.out.opn (by omega)
          have hst := hwk.out.stk
          have hsum := hwk.out.suf.sum n
          have h41 := (opnSum_few HF.out n).1
          have hltd := hwk.out.suf.lt hR
          have CF := Lib.hid (from_new (cm := n) (co := co1) hr.out.met hop hst (by omega) (by omega) hltd hlt hmf (by omega))
          have HWR : Hid (∀ w5 j lf, (steps (d.push k) j).stk = [] → (steps (d.push k) j).lft = d.lft ++ lf → MetAt w5 gm1 n (steps (d.push k) j).met → OpnAt w5 lim go n (steps (d.push k) j).opn → Bu wr.heap.size gm1 go wr w5 → ∃ d2 : Ds, Wk1 (outN G) n (k + 1) d2 ∧ d2.lft = d.lft ++ lf ∧ Z1 w W w5 lim n (inN G) b4 b5 gm1 gm2 (some ⟨go, 0, none⟩) A2 co1 co2 d2.met d2.opn (ofNs d.lft) (.slice AL d.lft.length cL)) := Lib.hid fun w5 j lf h1 h2 h3 h4 h5 =>
            ⟨_, hwk.out.walk hlt hmf h1, h2, hr.out.walk hlim HP.out.apt (by omega) rfl hg1 hgo h5 h3 h4⟩
          clear hr hwk hop hltd hst hsum h41
          go_wp2_with (first
            | (refine wpList_load_row rfl 82 _ rfl b4 rfl 82 #[.slice (some ⟨gm1, 0, none⟩) n n, .slice (some ⟨go, 0, none⟩) n co1] (0, 0) _ HR4.out Try.underlying82 rfl (by kernel_rfl) ?_)
            | (go_at_call 39; refine CF.out.mono ?_; rintro e w5 ⟨vv, j, lf, rfl, e1, e2, ho5, e3, e4, e5, e6⟩; obtain ⟨d2, h1, h2, h3⟩ := HWR.out w5 j lf e1 e2 e3 e4 e5; have HWK := Lib.hid h1; have HLF := Lib.hid h2; have HZ5 := Lib.hid h3; have HVO := Lib.hid ho5; clear e1 e2 e3 e4 e5 e6 h1 h2 h3 ho5; refine Hid.out ?_)
            | fail)
          refine Lib.hid ?_
          obtain ⟨A5, c5, rfl, hli5⟩ := HVO.out.lie
          have hfew2 := (HWK.out.few hR).1
          rw [HLF.out, List.length_append] at hfew2
          have HO5 := Lib.hid HZ5.out.own
          have HLI5 := Lib.hid hli5
          have hl5 : Hid ((ofNs d.lft).length + (ofNs lf).length ≤ 100000) := Lib.hid (by rw [ofN_len, ofN_len]; omega)
          clear hli5
          go_wp2_with (refine wpl_row rfl (.tmp 23) (.tmp 26) rfl W.heap.size _ (ofNs d.lft) rfl HO5.out A5 (ofNs lf) c5 _ rfl HLI5.out hl5.out HZ5.out.sz.2 ?_; refine Hid.out ?_)
          refine Lib.hid ?_
          intro v' w6 ho hg6 _
          have HR : Hid (Z1 w W w6 lim n (inN G) b4 b5 gm1 gm2 (some ⟨go, 0, none⟩) A2 co1 co2 d2.met d2.opn (ofNs d2.lft) v') := Lib.hid (HZ5.out.grow hlim hg6 (by
            rw [HLF.out]
            have e : ofNs (d.lft ++ lf) = ofNs d.lft ++ ofNs lf := by simp [ofNs]
            rw [e]
            exact ho))
          obtain ⟨A6, c6, rfl⟩ := ho.open
          clear ho hg6 HZ5 HO5 hl5 HLI5 HVO CF HWR hw4 hw4b HR4
          go_wp2_with fail
          refine ⟨?rel, ?measure⟩
          case rel => exact ⟨k + 1, d2, by omega, by go_num, HWK, HR⟩
          case measure => simp [intOf]; omega
      · obtain rfl : n = k := by omega
        clear hw4 hw4b HR4 hg1
        obtain ⟨w0, rfl⟩ : ∃ w0, w0 = wr := ⟨wr, rfl⟩
        have HZ := Lib.hid hr.out
        have HWK := Lib.hid hwk.out
        clear hr hwk
        go_wp2_with (first
          | (go_at_call 31; refine (callsIn_wide (n := 3)).1 ?_; refine (back_in Fence.wide 3 trivial rfl _ _ _ _).mono ?_; rintro e w8 ⟨rfl, rfl⟩)
          | fail)
        obtain ⟨b7, hb7⟩ : ∃ b7, b7 = w0.heap.size := ⟨_, rfl⟩
        obtain ⟨N, hN⟩ : ∃ N, N = d.lft.length := ⟨_, rfl⟩
        obtain ⟨W2, hW2⟩ : ∃ W2, W2 = (w0.alloc (.cells #[.slice none 0 0] 38)).alloc (.cells #[.slice AL N cL] 30) := ⟨_, rfl⟩
        rw [← hN] at hfew ⊢
        rw [← hW2, ← hb7]
        have s2 : W2.heap.size = b7 + 2 := by rw [hW2, hb7]; simp
        have hB2 : Below w0.heap.size w0 W2 := by rw [hW2]; exact ((Below.refl _ _).alloc (Nat.le_refl _) _).alloc (by simp) _
        have x1 : W2.heap[b7]? = some (.cells #[.slice none 0 0] 38 (0, 0)) := by
          have e := heap_alloc_new w0 (.cells #[.slice none 0 0] 38)
          have hb := (Below.refl (w0.alloc (.cells #[.slice none 0 0] 38)).heap.size (w0.alloc (.cells #[.slice none 0 0] 38))).alloc (Nat.le_refl _) (.cells #[.slice AL N cL] 30)
          rw [← hW2] at hb
          rw [hb7]
          exact (hb.block _ (row_lt e)).trans e
        have x2 : W2.heap[b7 + 1]? = some (.cells #[.slice AL N cL] 30 (0, 0)) := by
          have e := heap_alloc_new (w0.alloc (.cells #[.slice none 0 0] 38)) (.cells #[.slice AL N cL] 30)
          rw [← hW2] at e
          have h9 : (w0.alloc (.cells #[.slice none 0 0] 38)).heap.size = b7 + 1 := by rw [hb7]; simp
          rw [h9] at e
          exact e
        have hZ2 := HZ.out.below hlim hB2
        obtain ⟨z1, z2⟩ := HZ.out.sz
        have S2 : Hid (Z2 W2 W2 (w.heap.size + 1) lim n b5 b7 gm2 A2 co2 ⟨fun _ => false, inN G, []⟩ (.slice none 0 0) []) := Lib.hid ⟨hZ2.met2, hZ2.opn2, hZ2.r5, x1, World.ownsRow_nil _ _ _ _, fun t ht => by simp at ht, fun _ _ _ _ _ => rfl, ⟨rfl, rfl, rfl⟩, Nat.le_refl _⟩
        obtain ⟨gs, hgs1, hgs2, hAL, hgn, hgs3⟩ := HZ.out.own.place2 (lb := w.heap.size) (by omega)
        have hgm : gm2 < b7 := by rw [hb7]; exact HZ.out.met2.lt
        have hgl : ∀ g, 0 < n → A2 = some ⟨g, 0, none⟩ → g < b7 ∧ w.heap.size + 1 ≤ g := fun g h0 e => by
          obtain ⟨go, e1, h1, h2⟩ := HZ.out.opn2 h0
          rw [e] at e1
          injection e1 with e1; injection e1 with e1 _
          have := h2.lt
          omega
        have hgm1 := HP.out.n2.ge
        have hgsm : gs ≠ gm2 := by
          rcases hgs2 with e | ⟨cs, hcs⟩
          · omega
          · exact Ne.symm (HZ.out.met2.ne_row hcs (by decide))
        have hgsA : 0 < n → A2 ≠ some ⟨gs, 0, none⟩ := fun h0 e => by
          rcases hgs2 with e2 | ⟨cs, hcs⟩
          · have := (hgl gs h0 e).2
            omega
          · obtain ⟨go, e1, _, us3, hc3, _⟩ := HZ.out.opn2 h0
            rw [e] at e1
            injection e1 with e1; injection e1 with e1 _
            subst e1
            exact hc3.ne_row hcs (by decide) rfl
        have hordr : ∀ j, j < N → W2.cell? ⟨gs, 0 + j, none⟩ = some (.int .i64 ((d.lft.getD j 0 : Nat) : Int)) := fun j hj => by
          rw [cell_of_same (hB2.block gs hgs1), hgs3 j (by rw [ofN_len, ← hN]; exact hj)]
          have : j < d.lft.length := by omega
          simp [ofNs, List.getD, this]
        have hbase : w.heap.size + 1 ≤ W2.heap.size := by omega
        have HIZ : OwnFrom W2.heap.size (fun (pre : List Nat) W => ∃ s pv us, Run2 (inN G) (fun j => d.lft.getD j 0) pre s ∧ Z2 W2 W (w.heap.size + 1) lim n b5 b7 gm2 A2 co2 s pv us) := by
          rintro pre A B row ⟨s, pv, us, h1, h2⟩ hg hr
          exact ⟨s, pv, us, h1, h2.from (by omega) hbase hg hr⟩
        rw [← hN] at hAL
        have HAL := Lib.hid hAL
        have HORD := Lib.hid hordr
        have HX2 := Lib.hid x2
        have hB2s : Below w.heap.size w W2 := HZ.out.bel.trans (hB2.mono (by omega))
        have HBS := Lib.hid hB2s
        have hdl : ∀ x ∈ d.lft, x < n := (HWK.out.few hR).2
        have HDL := Lib.hid hdl
        have HND2 := Lib.hid hN
        have HGL := Lib.hid hgl
        have HGSA := Lib.hid hgsA
        have hgs7 : gs < b7 := by omega
        have hb57 : b5 < b7 := by rw [hb7]; exact row_lt HZ.out.r5
        have hw7 : w.heap.size + 1 ≤ b7 := by omega
        clear hgn hAL hordr hB2s hdl hN hgl hgsA hgs1 hgs2 hgs3 hZ2 x1 x2 hB2 hW2 hb7 HZ hlt hk
        refine wpIn_wide.1 (wpIn_rangeFunc_ownG (F := Fence.wide) (n := 4) rfl (by omega) (gf := 63) (lb := #[.pointer (some ⟨b7 + 1, 0, none⟩)]) rfl trivial (enters_of Try.func63 (by kernel_rfl) rfl)
          (back_stops Fence.wide 3 trivial rfl (by omega) (b7 + 1) gs 0 N cL AL (fun j => d.lft.getD j 0) HAL.out (by omega) W2 (by omega) (by omega) (by rw [cell_of_row _ _ 0 _ _ (0, 0) HX2.out]; rfl) HORD.out) (fun h k => KpB.trans h k) (kpB_b (by omega) (by omega)) (Below.refl _ _) (fun _ => rfl)
          (fun (pre : List Nat) W => ∃ s pv us, Run2 (inN G) (fun j => d.lft.getD j 0) pre s ∧ Z2 W2 W (w.heap.size + 1) lim n b5 b7 gm2 A2 co2 s pv us)
          (fun _ _ _ => False) HIZ (fun _ _ _ _ _ hs _ _ => hs) ⟨_, _, _, .nil, S2.out⟩
          (fun x => { tmps := #[.agg #[.slice (some ⟨gO, 0, none⟩) n cO, .slice (some ⟨gI, 0, none⟩) n cI], .pointer (some ⟨w.heap.size, 0, none⟩), .slice none 0 0, .slice AL N cL, .pointer (some ⟨b4, 0, none⟩), .pointer (some ⟨b5, 0, none⟩), u6, .pointer (some ⟨b7, 0, none⟩), undef, .int .i64 ((d.lft.getD x 0 : Nat) : Int), undef, .pointer (some ⟨w.heap.size, 0, none⟩), .slice (some ⟨gO, 0, none⟩) n cO, .agg #[.slice (some ⟨gm1, 0, none⟩) n n, .slice A1 n co1], .pointer (some ⟨w.heap.size, 1, none⟩), .slice (some ⟨gI, 0, none⟩) n cI, .agg #[.slice (some ⟨gm2, 0, none⟩) n n, .slice A2 n co2], .pointer (some ⟨w.heap.size, 0, none⟩), .slice (some ⟨gB, 0, none⟩) n cB, .int .i64 (n : Int), .int .i64 (n : Int), .bool false, u22, u23, u24, u25, u26, u27, u28, .slice AL N cL, .func (.func 63) #[] #[.pointer (some ⟨b7 + 1, 0, none⟩)], .int .i64 (x : Int), .int .i64 ((d.lft.getD x 0 : Nat) : Int), undef, undef, undef, undef, undef, undef, undef, undef, undef, undef, undef], defers := [] }) ?assign ?body ?done ?stop)
        case assign =>
          intro l x W K hK
          unfold encB
          gi_wp2
          exact hK
        case stop =>
          rintro D c pre W _ _ h _
          exact h.elim
        case done =>
          rintro D ys W hD rfl ⟨s, pv, us, hrun, hZ⟩ hK
          have c7 : W.cell? ⟨b7, 0, none⟩ = some pv := by rw [cell_of_row _ _ 0 _ _ (0, 0) hZ.box]; rfl
          have hT : Z2 W2 (W.putObj D (.deferred none)) (w.heap.size + 1) lim n b5 b7 gm2 A2 co2 s pv us := hZ.from (by omega) hbase (grownBy_putObj' _ D _) (fun r e => by cases e; exact ⟨hD, _, hK, rfl⟩)
          obtain ⟨A, c, epv, hlie⟩ := hT.lie
          subst epv
          have HT := Lib.hid hT
          have HL := Lib.hid hlie
          have HK := Lib.hid hK
          have HRUN := Lib.hid hrun
          clear hZ hT hlie hK hrun
          go_wp2_with fail
          refine ⟨by simp, .inl ⟨_, _, rfl, run_takeDeferred HK.out, ?_⟩⟩
          refine ⟨_, results_tmp rfl _ _ _, A, c, s.ps, d, s.met, rfl, HL.out, ?_, by rw [← HND.out]; exact HWK.out, ?_, by have h1 := HRUN.out.len; rw [backL_len] at h1; have := HND.out; omega, ?_⟩
          · refine HBS.out.trans ⟨HT.out.same.1, HT.out.same.2.1, HT.out.same.2.2, HT.out.sz, fun k hk => HT.out.keep k (by omega) (by have := HP.out.n2.ge; omega) (by omega) ?_⟩
            intro h0 e
            have := (HGL.out k h0 e).2
            omega
          · have hp := Run2.pcs (n := n) HWK.out (fun x hx => List.eq_nil_iff_forall_not_mem.2 fun y hy => by have := (mem_outN.1 hy).1; have := HND.out; omega) (fun x y => mem_inN.trans mem_outN.symm) (fun j x hj => by show d.lft.getD j 0 = x; simp [List.getD, hj]) N (by rw [HND2.out]; exact Nat.le_refl _) s (by rw [← HND2.out]; exact HRUN.out)
            have h1 := hp.1
            rw [← HND2.out, Nat.sub_self] at h1
            exact h1
          · intro P hP
            have h1 := HRUN.out.len
            rw [backL_len] at h1
            have := List.length_pos_of_mem hP
            have hN0 : 0 < N := by omega
            have hn0 : 0 < n := by omega
            obtain ⟨y, hy, hyn⟩ := HRUN.out.in_n (n := n) (fun x => by
              show d.lft.getD x 0 < n
              by_cases hx : x < d.lft.length
              · have e : d.lft.getD x 0 = d.lft[x] := by simp [List.getD, hx]
                rw [e]
                exact HDL.out _ (List.getElem_mem hx)
              · have e : d.lft.getD x 0 = 0 := by simp [List.getD, Nat.not_lt.1 hx]
                omega) P hP
            exact ⟨y, hy, by rw [← HND.out]; exact hyn⟩
        case body =>
          rintro l pre x W ⟨s, pv, us, hrun, hZ⟩ hlen
          have hN0 : 0 < N := by omega
          have hn0 : 0 < n := by omega
          have hi0 : d.lft.getD x 0 < n := by
            by_cases hx : x < d.lft.length
            · have e : d.lft.getD x 0 = d.lft[x] := by simp [List.getD, hx]
              rw [e]
              exact HDL.out _ (List.getElem_mem hx)
            · have e : d.lft.getD x 0 = 0 := by simp [List.getD, Nat.not_lt.1 hx]
              omega
          obtain ⟨go, rfl, hgo, hop⟩ := hZ.opn hn0
          obtain ⟨hgol, _⟩ := HGL.out go hn0 rfl
          have HR5 := Lib.hid hZ.r5
          have c7 : W.cell? ⟨b7, 0, none⟩ = some pv := by rw [cell_of_row _ _ 0 _ _ (0, 0) hZ.box]; rfl
          obtain ⟨AP, cP, epv, _⟩ := hZ.lie
          have HKEEP : Hid (∀ (w5 : World) (s' : St) (pv' : Value) (us' : List Value), W.heap.size ≤ w5.heap.size → Z2 W2 w5 (w.heap.size + 1) lim n b5 b7 gm2 (some ⟨go, 0, none⟩) co2 s' pv' us' → KpB gs (b7 + 1) W w5) := Lib.hid fun w5 s' pv' us' hs h =>
            ⟨(h.keep gs (by omega) (by omega) (by omega) HGSA.out).trans (hZ.keep gs (by omega) (by omega) (by omega) HGSA.out).symm, (h.keep (b7 + 1) (by omega) (by omega) (by omega) (fun _ e => by injection e with e; injection e with e _; omega)).trans (hZ.keep (b7 + 1) (by omega) (by omega) (by omega) (fun _ e => by injection e with e; injection e with e _; omega)).symm, hs⟩
          obtain ⟨nx, hnx⟩ : ∃ nx, nx = d.lft.getD x 0 := ⟨_, rfl⟩
          have HNX := Lib.hid hnx
          rw [← hnx] at hi0 ⊢
          clear hnx
          by_cases hm : s.met nx = true
          · have HSK : Hid (∀ w5, Below W.heap.size W w5 → KeepsFrom W2.heap.size W w5 ∧ KpB gs (b7 + 1) W w5 ∧ ∃ s pv us, Run2 (inN G) (fun j => d.lft.getD j 0) (pre ++ [x]) s ∧ Z2 W2 w5 (w.heap.size + 1) lim n b5 b7 gm2 (some ⟨go, 0, none⟩) co2 s pv us) := Lib.hid fun w5 hb =>
              ⟨keepsFrom_below hb, HKEEP.out _ _ _ _ hb.size (hZ.below (by omega) hbase hb), s, pv, us, .skip hrun (by show s.met (d.lft.getD x 0) = true; rw [← HNX.out]; exact hm), hZ.below (by omega) hbase hb⟩
            have HM := Lib.hid hZ.met
            clear hZ hrun HKEEP hop
            gi_wp2_with (first
              | (refine wpListIn_walk rfl _ rfl b5 rfl _ _ HR5.out ?_)
              | (refine ⟨trivial, ?_⟩; gi_at_call 39; refine (CallsIn.inRound l (callsIn_wide.2 (from_met HM.out hi0 hm))).mono ?_; rintro e w5 ⟨rfl, hb5⟩; have HE5 := Lib.hid (HSK.out _ hb5); clear hb5)
              | fail)
            exact HE5.out
          · have hmf : s.met nx = false := by simpa using hm
            have hR2 : ∀ x, x < n → ∀ y ∈ inN G x, y < n := fun x _ y hy => by rw [HND.out]; exact inN_lt x y hy
            have hsum := hrun.suf.sum (d := ⟨s.met, s.opn, [], [], fun _ => 0⟩) n
            have h41 := (opnSum_few HF.out n).2
            have hltd := hrun.suf.lt (d := ⟨s.met, s.opn, [], [], fun _ => 0⟩) hR2
            have hgm2 := HP.out.n2.ge
            have CF := Lib.hid (from_new (cm := n) (co := co2) (d := ⟨s.met, s.opn, [], [], fun _ => 0⟩) hZ.met hop rfl (by omega) (by omega) hltd hi0 hmf (by omega))
            have hpl := hrun.len
            have HRUN := Lib.hid hrun
            have HZ := Lib.hid hZ
            clear hZ hrun hop hltd hsum h41
            gi_wp2_with (first
              | (refine wpListIn_walk rfl _ rfl b5 rfl _ _ HR5.out ?_)
              | (refine ⟨trivial, ?_⟩; gi_at_call 39; refine (CallsIn.inRound l (callsIn_wide.2 CF.out)).mono ?_; rintro e w5 ⟨vv, j, lf, rfl, e1, e2, ho5, e3, e4, e5, _⟩; have HVO := Lib.hid ho5; have HE1 := Lib.hid e1; have HE2 := Lib.hid e2; have HE3 := Lib.hid e3; have HE4 := Lib.hid e4; have HE5 := Lib.hid e5; clear ho5 e1 e2 e3 e4 e5; refine Hid.out ?_)
              | fail)
            refine Lib.hid ?_
            have hroot := HRUN.out.root (y := nx) hmf HE1.out
            rw [HE2.out] at hroot
            obtain ⟨A5, c5, rfl, hli5⟩ := HVO.out.lie
            rw [ofN_len] at *
            have hlf : 0 < lf.length := List.length_pos_iff.2 (fun e => by rw [e] at hroot; simp at hroot)
            have hZ5 := HZ.out.walk hn0 rfl hgo (by omega) HE5.out HE3.out HE4.out
            have hb6 : Below w5.heap.size w5 (w5.alloc (.cells #[.slice A5 lf.length c5] 30)) := (Below.refl _ _).alloc (Nat.le_refl _) _
            have hZ6 := hZ5.below (by omega) hbase hb6
            have c7' : w5.cell? ⟨b7, 0, none⟩ = some (.slice AP s.ps.length cP) := by rw [cell_of_row _ _ 0 _ _ (0, 0) hZ5.box, ← epv]; rfl
            have w0c : (w5.alloc (.cells #[.slice A5 lf.length c5] 30)).cell? ⟨w5.heap.size, 0, none⟩ = some (.slice A5 lf.length c5) := by rw [World.cell?_alloc_new]; rfl
            have hpv : pv = .slice AP s.ps.length cP := epv
            have HP5 : Hid (∀ pv' w7, w7.ownsRow W2.heap.size 30 1 pv' (s.ps.length + 1) (us ++ [.slice A5 lf.length c5]) → (w5.alloc (.cells #[.slice A5 lf.length c5] 30)).grownBy w7 (Value.slice AP s.ps.length cP).ownBlock → (w7.cell? ⟨b7, 0, none⟩ = some (.slice AP s.ps.length cP) ∧ w7.frozen? ⟨b7, 0, none⟩ = false) ∧ (∃ A8 n8 c8, pv' = .slice A8 n8 c8) ∧ KeepsFrom W2.heap.size W (w7.setCell ⟨b7, 0, none⟩ pv') ∧ KpB gs (b7 + 1) W (w7.setCell ⟨b7, 0, none⟩ pv') ∧ ∃ s pv us, Run2 (inN G) (fun j => d.lft.getD j 0) (pre ++ [x]) s ∧ Z2 W2 (w7.setCell ⟨b7, 0, none⟩ pv') (w.heap.size + 1) lim n b5 b7 gm2 (some ⟨go, 0, none⟩) co2 s pv us) := Lib.hid fun pv' w7 h1 h2 => by
              rw [← hpv] at h2 ⊢
              have hv : OwnI (w5.alloc (.cells #[.slice A5 lf.length c5] 30)) W2.heap.size (.slice A5 lf.length c5) (ofNs lf) := (HVO.out.below hb6).low (by have := HZ.out.sz; omega)
              obtain ⟨p1, p2⟩ := hZ6.push (by omega) (fun g e => by injection e with e; injection e with e _; omega) (by omega) (by omega) (by omega) (by omega) h2 h1 hv
              refine ⟨p1, ?_, ?_, HKEEP.out _ _ _ _ ?_ p2, _, _, _, ?_, p2⟩
              · rcases h1.2 with ⟨e, _⟩ | ⟨g, cap, cur, e, _⟩
                · exact ⟨_, _, _, e⟩
                · exact ⟨_, _, _, e⟩
              · exact ((keepsFrom_bu HE5.out (by omega) (by omega)).trans (keepsFrom_below hb6)).trans ((keepsFrom_row hZ6.row h2).trans ((KeepsOthers.setCell _ _ _).from _))
              · rw [World.size_setCell]
                exact Nat.le_trans HE5.out.size (Nat.le_trans hb6.size h2.size)
              · have hr2 := Run2.walk (x := x) (k := j) HRUN.out (by show s.met (d.lft.getD x 0) = false; rw [← HNX.out]; exact hmf) (by rw [show d.lft.getD x 0 = nx from HNX.out.symm]; exact HE1.out)
                rw [show d.lft.getD x 0 = nx from HNX.out.symm, HE2.out] at hr2
                exact hr2
            have HROW := Lib.hid hZ6.row
            rw [hpv] at HROW
            have HSZ6 : Hid (W2.heap.size ≤ (w5.alloc (.cells #[.slice A5 lf.length c5] 30)).heap.size) := Lib.hid hZ6.sz
            have HLN : Hid (s.ps.length ≤ 10000) := Lib.hid (by omega)
            clear hZ5 hZ6 hb6 HKEEP HRUN HVO HE1 HE2 HE3 HE4 HE5 hli5 hroot c7 CF hpv epv HR5
            generalize s.ps.length = pn at *
            generalize lf.length = ln at *
            gi_wp2_with (first
              | (refine wpListIn_rows rfl (.tmp 39) (.tmp 41) rfl W2.heap.size _ pn us rfl HROW.out w5.heap.size _ rfl w0c rfl HLN.out HSZ6.out ?_; refine Hid.out ?_)
              | fail)
            refine Lib.hid ?_
            intro pv' w7 h1 h2
            obtain ⟨⟨q1, q2⟩, ⟨A8, n8, c8, rfl⟩, q3⟩ := HP5.out pv' w7 (by rw [s2]; exact h1) h2
            have HQ := Lib.hid q3
            clear h1 h2 q3 HP5 HROW HSZ6 HLN w0c c7'
            gi_wp2
            exact HQ.out)
  clear hK
  refine wp_region_noPanic ?_
  refine wp_region_held_drew (S := fun W => W.cell? ⟨w.heap.size, 0, none⟩ = some (.slice (some ⟨gO, 0, none⟩) n cO) ∧ W.cell? ⟨w.heap.size, 1, none⟩ = some (.slice (some ⟨gI, 0, none⟩) n cI)) (by kernel_rfl) HS.out (fun _ => ?_)
  refine takeG (i := 0) (some 11) (.pointer (some ⟨w.heap.size, 0, none⟩)) rfl rfl (by kernel_rfl) (by kernel_rfl) (by kernel_rfl) (fun _ _ _ h => h) HS.out (by kernel_rfl) (fun W hW => by obtain ⟨k1, k2⟩ := hW; go_simp) ?_
  simp only [Act.put, List.setIfInBounds_toArray, List.set_cons_zero, List.set_cons_succ]
  refine takeG (i := 1) (some 12) (.slice (some ⟨gO, 0, none⟩) n cO) rfl rfl (by kernel_rfl) (by kernel_rfl) (by kernel_rfl) (fun _ _ _ h => h) HS.out (by kernel_rfl) (fun W hW => by obtain ⟨k1, k2⟩ := hW; go_simp) ?_
  simp only [Act.put, List.setIfInBounds_toArray, List.set_cons_zero, List.set_cons_succ]
  refine takeG (i := 3) (some 14) (.pointer (some ⟨w.heap.size, 1, none⟩)) rfl rfl (by kernel_rfl) (by kernel_rfl) (by kernel_rfl) (fun _ _ _ h => h) HS.out (by kernel_rfl) (fun W hW => by obtain ⟨k1, k2⟩ := hW; go_simp) ?_
  simp only [Act.put, List.setIfInBounds_toArray, List.set_cons_zero, List.set_cons_succ]
  refine takeG (i := 4) (some 15) (.slice (some ⟨gI, 0, none⟩) n cI) rfl rfl (by kernel_rfl) (by kernel_rfl) (by kernel_rfl) (fun _ _ _ h => h) HS.out (by kernel_rfl) (fun W hW => by obtain ⟨k1, k2⟩ := hW; go_simp) ?_
  simp only [Act.put, List.setIfInBounds_toArray, List.set_cons_zero, List.set_cons_succ]
  generalize (w.alloc (.cells #[.slice (some ⟨gO, 0, none⟩) n cO, .slice (some ⟨gI, 0, none⟩) n cI] 71)).drew = w0 at *
  refine wpAnyH_ready (rs := [2, 6, 7]) (by kernel_rfl) (by simp) (AllReadyH.cons rfl (fun K2 hK2 => ?_) (AllReadyH.cons rfl (fun K6 hK6 => ?_) (AllReadyH.cons rfl (fun K7 hK7 => ?_) AllReadyH.nil)))
  · rw [if_pos (by kernel_rfl)]
    go_simp
    go_at_call 38
    refine (newWalk_any (HO.out.keep (HB.out.mono hlim)) hgO (Nat.le_trans hlim HB.out.size) hn).mono ?_
    rintro e wc1 ⟨gm1, A1, co1, rfl, hg, hm, ho, hb⟩
    have N1 : Hid (Nw wc1 w0.heap.size lim n (outN G) gm1 A1) := Lib.hid ⟨hg, hm, ho⟩
    have HB := Lib.hid (HB.out.trans (hb.mono HB.out.size))
    have HS : Hid (wc1.cell? ⟨w.heap.size, 0, none⟩ = some (.slice (some ⟨gO, 0, none⟩) n cO) ∧ wc1.cell? ⟨w.heap.size, 1, none⟩ = some (.slice (some ⟨gI, 0, none⟩) n cI)) := Lib.hid (boxG hb hz HS.out)
    have hz : (w.heap.size + 1 ≤ wc1.heap.size) := Nat.le_trans hz hb.size
    clear hg hm ho hb
    refine hK2.out _ _ HS.out (fun _ => ?_)
    refine wpAnyH_ready (rs := [5, 6, 7]) (by kernel_rfl) (by simp) (AllReadyH.cons rfl (fun K5 hK5 => ?_) (AllReadyH.cons rfl (fun K6 hK6 => ?_) (AllReadyH.cons rfl (fun K7 hK7 => ?_) AllReadyH.nil)))
    · rw [if_pos (by kernel_rfl)]
      go_simp
      go_at_call 38
      refine (newWalk_any (HI.out.keep (HB.out.mono hlim)) hgI (Nat.le_trans hlim HB.out.size) hn).mono ?_
      rintro e wc2 ⟨gm2, A2, co2, rfl, hg, hm, ho, hb⟩
      have HD : Hid (Apt n gm1 gm2 A1 A2) := Lib.hid (N1.out.apt hg ho)
      have N2 : Hid (Nw wc2 wc1.heap.size lim n (inN G) gm2 A2) := Lib.hid ⟨hg, hm, ho⟩
      have HB := Lib.hid (HB.out.trans (hb.mono HB.out.size))
      have HS : Hid (wc2.cell? ⟨w.heap.size, 0, none⟩ = some (.slice (some ⟨gO, 0, none⟩) n cO) ∧ wc2.cell? ⟨w.heap.size, 1, none⟩ = some (.slice (some ⟨gI, 0, none⟩) n cI)) := Lib.hid (boxG hb hz HS.out)
      have hz : (w.heap.size + 1 ≤ wc2.heap.size) := Nat.le_trans hz hb.size
      have N1 := Lib.hid (N1.out.keep hb (by omega))
      clear hg hm ho hb
      refine hK5.out _ _ HS.out (fun _ => ?_)
      refine wpAnyH_ready (rs := [6, 7]) (by kernel_rfl) (by simp) (AllReadyH.cons rfl (fun K6 hK6 => ?_) (AllReadyH.cons rfl (fun K7 hK7 => ?_) AllReadyH.nil))
      · refine branchG (some 4) (.pointer (some ⟨wc2.heap.size, 0, none⟩)) (wc2.alloc (.cells #[.slice none 0 0, .slice none 0 0] 82)) rfl (by kernel_rfl) (by go_simp) ?_
        have hb : Below wc2.heap.size wc2 (wc2.alloc (.cells #[.slice none 0 0, .slice none 0 0] 82)) := (Below.refl _ _).alloc (Nat.le_refl _) _
        have F4 : Hid (Bx0 (wc2.alloc (.cells #[.slice none 0 0, .slice none 0 0] 82)) wc2.heap.size) := Lib.hid (heap_alloc_new wc2 _)
        have hz4 : wc2.heap.size < (wc2.alloc (.cells #[.slice none 0 0, .slice none 0 0] 82)).heap.size := by simp
        have HB := Lib.hid (HB.out.trans (hb.mono HB.out.size))
        have HS : Hid ((wc2.alloc (.cells #[.slice none 0 0, .slice none 0 0] 82)).cell? ⟨w.heap.size, 0, none⟩ = some (.slice (some ⟨gO, 0, none⟩) n cO) ∧ (wc2.alloc (.cells #[.slice none 0 0, .slice none 0 0] 82)).cell? ⟨w.heap.size, 1, none⟩ = some (.slice (some ⟨gI, 0, none⟩) n cI)) := Lib.hid (boxG hb hz HS.out)
        have hz : (w.heap.size + 1 ≤ (wc2.alloc (.cells #[.slice none 0 0, .slice none 0 0] 82)).heap.size) := Nat.le_trans hz hb.size
        have N1 := Lib.hid (N1.out.keep hb (by omega))
        have N2 := Lib.hid (N2.out.keep hb (by omega))
        clear hb
        generalize wc2.alloc (.cells #[.slice none 0 0, .slice none 0 0] 82) = wq3 at *
        refine hK6.out _ _ HS.out (fun _ => ?_)
        simp only [Act.put, List.setIfInBounds_toArray, List.set_cons_zero, List.set_cons_succ]
        refine wpAnyH_ready (rs := [7]) (by kernel_rfl) (by simp) (AllReadyH.cons rfl (fun K7 hK7 => ?_) AllReadyH.nil)
        refine branchG (some 5) (.pointer (some ⟨wq3.heap.size, 0, none⟩)) (wq3.alloc (.cells #[.slice none 0 0, .slice none 0 0] 82)) rfl (by kernel_rfl) (by go_simp) ?_
        have hb : Below wq3.heap.size wq3 (wq3.alloc (.cells #[.slice none 0 0, .slice none 0 0] 82)) := (Below.refl _ _).alloc (Nat.le_refl _) _
        have F5 : Hid (Bx0 (wq3.alloc (.cells #[.slice none 0 0, .slice none 0 0] 82)) wq3.heap.size) := Lib.hid (heap_alloc_new wq3 _)
        have hz5 : wq3.heap.size < (wq3.alloc (.cells #[.slice none 0 0, .slice none 0 0] 82)).heap.size := by simp
        have HNE : Hid (wc2.heap.size ≠ wq3.heap.size) := Lib.hid (by have := F4.out.lt; omega)
        have HB := Lib.hid (HB.out.trans (hb.mono HB.out.size))
        have HS : Hid ((wq3.alloc (.cells #[.slice none 0 0, .slice none 0 0] 82)).cell? ⟨w.heap.size, 0, none⟩ = some (.slice (some ⟨gO, 0, none⟩) n cO) ∧ (wq3.alloc (.cells #[.slice none 0 0, .slice none 0 0] 82)).cell? ⟨w.heap.size, 1, none⟩ = some (.slice (some ⟨gI, 0, none⟩) n cI)) := Lib.hid (boxG hb hz HS.out)
        have hz : (w.heap.size + 1 ≤ (wq3.alloc (.cells #[.slice none 0 0, .slice none 0 0] 82)).heap.size) := Nat.le_trans hz hb.size
        have F4 := Lib.hid (F4.out.keep hb)
        have N1 := Lib.hid (N1.out.keep hb (by omega))
        have N2 := Lib.hid (N2.out.keep hb (by omega))
        clear hb
        generalize wq3.alloc (.cells #[.slice none 0 0, .slice none 0 0] 82) = wq4 at *
        refine hK7.out _ _ HS.out (fun _ => ?_)
        simp only [Act.put, List.setIfInBounds_toArray, List.set_cons_zero, List.set_cons_succ]
        obtain ⟨⟨c40, c41⟩, f40, f41, c50, c51, f50, f51, HSa, HSb, HP⟩ := Pz.made (co1 := co1) (co2 := co2) hlim F4.out F5.out HNE.out N1.out N2.out HD.out HB.out HS.out (by omega)
        refine wpAnyH_ready (rs := [8]) (by kernel_rfl) (by simp) (AllReadyH.cons rfl (fun K8 hK8 => ?_) AllReadyH.nil)
        refine branchS ((wq4.setCell ⟨wc2.heap.size, 0, none⟩ (.slice (some ⟨gm1, 0, none⟩) n n)).setCell ⟨wc2.heap.size, 1, none⟩ (.slice A1 n co1)) rfl (by kernel_rfl) (by go_simp) ?_
        refine hK8.out _ _ HSa (fun _ => ?_)
        refine wpAnyH_ready (rs := [9]) (by kernel_rfl) (by simp) (AllReadyH.cons rfl (fun K9 hK9 => ?_) AllReadyH.nil)
        refine branchS ((((wq4.setCell ⟨wc2.heap.size, 0, none⟩ (.slice (some ⟨gm1, 0, none⟩) n n)).setCell ⟨wc2.heap.size, 1, none⟩ (.slice A1 n co1)).setCell ⟨wq3.heap.size, 0, none⟩ (.slice (some ⟨gm2, 0, none⟩) n n)).setCell ⟨wq3.heap.size, 1, none⟩ (.slice A2 n co2)) rfl (by kernel_rfl) (by go_simp) ?_
        refine hK9.out _ _ HSb (fun _ => ?_)
        refine wpAnyH_done (by kernel_rfl) ?_ _
        simp only [Act.put]
        exact REST.out _ _ _ _ _ _ _ _ _ (Lib.hid HP)
      · refine branchG (some 5) (.pointer (some ⟨wc2.heap.size, 0, none⟩)) (wc2.alloc (.cells #[.slice none 0 0, .slice none 0 0] 82)) rfl (by kernel_rfl) (by go_simp) ?_
        have hb : Below wc2.heap.size wc2 (wc2.alloc (.cells #[.slice none 0 0, .slice none 0 0] 82)) := (Below.refl _ _).alloc (Nat.le_refl _) _
        have F5 : Hid (Bx0 (wc2.alloc (.cells #[.slice none 0 0, .slice none 0 0] 82)) wc2.heap.size) := Lib.hid (heap_alloc_new wc2 _)
        have hz5 : wc2.heap.size < (wc2.alloc (.cells #[.slice none 0 0, .slice none 0 0] 82)).heap.size := by simp
        have HB := Lib.hid (HB.out.trans (hb.mono HB.out.size))
        have HS : Hid ((wc2.alloc (.cells #[.slice none 0 0, .slice none 0 0] 82)).cell? ⟨w.heap.size, 0, none⟩ = some (.slice (some ⟨gO, 0, none⟩) n cO) ∧ (wc2.alloc (.cells #[.slice none 0 0, .slice none 0 0] 82)).cell? ⟨w.heap.size, 1, none⟩ = some (.slice (some ⟨gI, 0, none⟩) n cI)) := Lib.hid (boxG hb hz HS.out)
        have hz : (w.heap.size + 1 ≤ (wc2.alloc (.cells #[.slice none 0 0, .slice none 0 0] 82)).heap.size) := Nat.le_trans hz hb.size
        have N1 := Lib.hid (N1.out.keep hb (by omega))
        have N2 := Lib.hid (N2.out.keep hb (by omega))
        clear hb
        generalize wc2.alloc (.cells #[.slice none 0 0, .slice none 0 0] 82) = wq5 at *
        refine hK7.out _ _ HS.out (fun _ => ?_)
        simp only [Act.put, List.setIfInBounds_toArray, List.set_cons_zero, List.set_cons_succ]
        refine wpAnyH_ready (rs := [6]) (by kernel_rfl) (by simp) (AllReadyH.cons rfl (fun K6 hK6 => ?_) AllReadyH.nil)
        refine branchG (some 4) (.pointer (some ⟨wq5.heap.size, 0, none⟩)) (wq5.alloc (.cells #[.slice none 0 0, .slice none 0 0] 82)) rfl (by kernel_rfl) (by go_simp) ?_
        have hb : Below wq5.heap.size wq5 (wq5.alloc (.cells #[.slice none 0 0, .slice none 0 0] 82)) := (Below.refl _ _).alloc (Nat.le_refl _) _
        have F4 : Hid (Bx0 (wq5.alloc (.cells #[.slice none 0 0, .slice none 0 0] 82)) wq5.heap.size) := Lib.hid (heap_alloc_new wq5 _)
        have hz4 : wq5.heap.size < (wq5.alloc (.cells #[.slice none 0 0, .slice none 0 0] 82)).heap.size := by simp
        have HNE : Hid (wq5.heap.size ≠ wc2.heap.size) := Lib.hid (by have := F5.out.lt; omega)
        have HB := Lib.hid (HB.out.trans (hb.mono HB.out.size))
        have HS : Hid ((wq5.alloc (.cells #[.slice none 0 0, .slice none 0 0] 82)).cell? ⟨w.heap.size, 0, none⟩ = some (.slice (some ⟨gO, 0, none⟩) n cO) ∧ (wq5.alloc (.cells #[.slice none 0 0, .slice none 0 0] 82)).cell? ⟨w.heap.size, 1, none⟩ = some (.slice (some ⟨gI, 0, none⟩) n cI)) := Lib.hid (boxG hb hz HS.out)
        have hz : (w.heap.size + 1 ≤ (wq5.alloc (.cells #[.slice none 0 0, .slice none 0 0] 82)).heap.size) := Nat.le_trans hz hb.size
        have F5 := Lib.hid (F5.out.keep hb)
        have N1 := Lib.hid (N1.out.keep hb (by omega))
        have N2 := Lib.hid (N2.out.keep hb (by omega))
        clear hb
        generalize wq5.alloc (.cells #[.slice none 0 0, .slice none 0 0] 82) = wq6 at *
        refine hK6.out _ _ HS.out (fun _ => ?_)
        simp only [Act.put, List.setIfInBounds_toArray, List.set_cons_zero, List.set_cons_succ]
        obtain ⟨⟨c40, c41⟩, f40, f41, c50, c51, f50, f51, HSa, HSb, HP⟩ := Pz.made (co1 := co1) (co2 := co2) hlim F4.out F5.out HNE.out N1.out N2.out HD.out HB.out HS.out (by omega)
        refine wpAnyH_ready (rs := [8]) (by kernel_rfl) (by simp) (AllReadyH.cons rfl (fun K8 hK8 => ?_) AllReadyH.nil)
        refine branchS ((wq6.setCell ⟨wq5.heap.size, 0, none⟩ (.slice (some ⟨gm1, 0, none⟩) n n)).setCell ⟨wq5.heap.size, 1, none⟩ (.slice A1 n co1)) rfl (by kernel_rfl) (by go_simp) ?_
        refine hK8.out _ _ HSa (fun _ => ?_)
        refine wpAnyH_ready (rs := [9]) (by kernel_rfl) (by simp) (AllReadyH.cons rfl (fun K9 hK9 => ?_) AllReadyH.nil)
        refine branchS ((((wq6.setCell ⟨wq5.heap.size, 0, none⟩ (.slice (some ⟨gm1, 0, none⟩) n n)).setCell ⟨wq5.heap.size, 1, none⟩ (.slice A1 n co1)).setCell ⟨wc2.heap.size, 0, none⟩ (.slice (some ⟨gm2, 0, none⟩) n n)).setCell ⟨wc2.heap.size, 1, none⟩ (.slice A2 n co2)) rfl (by kernel_rfl) (by go_simp) ?_
        refine hK9.out _ _ HSb (fun _ => ?_)
        refine wpAnyH_done (by kernel_rfl) ?_ _
        simp only [Act.put]
        exact REST.out _ _ _ _ _ _ _ _ _ (Lib.hid HP)
    · refine branchG (some 4) (.pointer (some ⟨wc1.heap.size, 0, none⟩)) (wc1.alloc (.cells #[.slice none 0 0, .slice none 0 0] 82)) rfl (by kernel_rfl) (by go_simp) ?_
      have hb : Below wc1.heap.size wc1 (wc1.alloc (.cells #[.slice none 0 0, .slice none 0 0] 82)) := (Below.refl _ _).alloc (Nat.le_refl _) _
      have F4 : Hid (Bx0 (wc1.alloc (.cells #[.slice none 0 0, .slice none 0 0] 82)) wc1.heap.size) := Lib.hid (heap_alloc_new wc1 _)
      have hz4 : wc1.heap.size < (wc1.alloc (.cells #[.slice none 0 0, .slice none 0 0] 82)).heap.size := by simp
      have HB := Lib.hid (HB.out.trans (hb.mono HB.out.size))
      have HS : Hid ((wc1.alloc (.cells #[.slice none 0 0, .slice none 0 0] 82)).cell? ⟨w.heap.size, 0, none⟩ = some (.slice (some ⟨gO, 0, none⟩) n cO) ∧ (wc1.alloc (.cells #[.slice none 0 0, .slice none 0 0] 82)).cell? ⟨w.heap.size, 1, none⟩ = some (.slice (some ⟨gI, 0, none⟩) n cI)) := Lib.hid (boxG hb hz HS.out)
      have hz : (w.heap.size + 1 ≤ (wc1.alloc (.cells #[.slice none 0 0, .slice none 0 0] 82)).heap.size) := Nat.le_trans hz hb.size
      have N1 := Lib.hid (N1.out.keep hb (by omega))
      clear hb
      generalize wc1.alloc (.cells #[.slice none 0 0, .slice none 0 0] 82) = wq7 at *
      refine hK6.out _ _ HS.out (fun _ => ?_)
      simp only [Act.put, List.setIfInBounds_toArray, List.set_cons_zero, List.set_cons_succ]
      refine wpAnyH_ready (rs := [5, 7]) (by kernel_rfl) (by simp) (AllReadyH.cons rfl (fun K5 hK5 => ?_) (AllReadyH.cons rfl (fun K7 hK7 => ?_) AllReadyH.nil))
      · rw [if_pos (by kernel_rfl)]
        go_simp
        go_at_call 38
        refine (newWalk_any (HI.out.keep (HB.out.mono hlim)) hgI (Nat.le_trans hlim HB.out.size) hn).mono ?_
        rintro e wc8 ⟨gm2, A2, co2, rfl, hg, hm, ho, hb⟩
        have HD : Hid (Apt n gm1 gm2 A1 A2) := Lib.hid (N1.out.apt hg ho)
        have N2 : Hid (Nw wc8 wq7.heap.size lim n (inN G) gm2 A2) := Lib.hid ⟨hg, hm, ho⟩
        have HB := Lib.hid (HB.out.trans (hb.mono HB.out.size))
        have HS : Hid (wc8.cell? ⟨w.heap.size, 0, none⟩ = some (.slice (some ⟨gO, 0, none⟩) n cO) ∧ wc8.cell? ⟨w.heap.size, 1, none⟩ = some (.slice (some ⟨gI, 0, none⟩) n cI)) := Lib.hid (boxG hb hz HS.out)
        have hz : (w.heap.size + 1 ≤ wc8.heap.size) := Nat.le_trans hz hb.size
        have F4 := Lib.hid (F4.out.keep hb)
        have N1 := Lib.hid (N1.out.keep hb (by omega))
        clear hg hm ho hb
        refine hK5.out _ _ HS.out (fun _ => ?_)
        refine wpAnyH_ready (rs := [7]) (by kernel_rfl) (by simp) (AllReadyH.cons rfl (fun K7 hK7 => ?_) AllReadyH.nil)
        refine branchG (some 5) (.pointer (some ⟨wc8.heap.size, 0, none⟩)) (wc8.alloc (.cells #[.slice none 0 0, .slice none 0 0] 82)) rfl (by kernel_rfl) (by go_simp) ?_
        have hb : Below wc8.heap.size wc8 (wc8.alloc (.cells #[.slice none 0 0, .slice none 0 0] 82)) := (Below.refl _ _).alloc (Nat.le_refl _) _
        have F5 : Hid (Bx0 (wc8.alloc (.cells #[.slice none 0 0, .slice none 0 0] 82)) wc8.heap.size) := Lib.hid (heap_alloc_new wc8 _)
        have hz5 : wc8.heap.size < (wc8.alloc (.cells #[.slice none 0 0, .slice none 0 0] 82)).heap.size := by simp
        have HNE : Hid (wc1.heap.size ≠ wc8.heap.size) := Lib.hid (by have := F4.out.lt; omega)
        have HB := Lib.hid (HB.out.trans (hb.mono HB.out.size))
        have HS : Hid ((wc8.alloc (.cells #[.slice none 0 0, .slice none 0 0] 82)).cell? ⟨w.heap.size, 0, none⟩ = some (.slice (some ⟨gO, 0, none⟩) n cO) ∧ (wc8.alloc (.cells #[.slice none 0 0, .slice none 0 0] 82)).cell? ⟨w.heap.size, 1, none⟩ = some (.slice (some ⟨gI, 0, none⟩) n cI)) := Lib.hid (boxG hb hz HS.out)
        have hz : (w.heap.size + 1 ≤ (wc8.alloc (.cells #[.slice none 0 0, .slice none 0 0] 82)).heap.size) := Nat.le_trans hz hb.size
        have F4 := Lib.hid (F4.out.keep hb)
        have N1 := Lib.hid (N1.out.keep hb (by omega))
        have N2 := Lib.hid (N2.out.keep hb (by omega))
        clear hb
        generalize wc8.alloc (.cells #[.slice none 0 0, .slice none 0 0] 82) = wq9 at *
        refine hK7.out _ _ HS.out (fun _ => ?_)
        simp only [Act.put, List.setIfInBounds_toArray, List.set_cons_zero, List.set_cons_succ]
        obtain ⟨⟨c40, c41⟩, f40, f41, c50, c51, f50, f51, HSa, HSb, HP⟩ := Pz.made (co1 := co1) (co2 := co2) hlim F4.out F5.out HNE.out N1.out N2.out HD.out HB.out HS.out (by omega)
        refine wpAnyH_ready (rs := [8]) (by kernel_rfl) (by simp) (AllReadyH.cons rfl (fun K8 hK8 => ?_) AllReadyH.nil)
        refine branchS ((wq9.setCell ⟨wc1.heap.size, 0, none⟩ (.slice (some ⟨gm1, 0, none⟩) n n)).setCell ⟨wc1.heap.size, 1, none⟩ (.slice A1 n co1)) rfl (by kernel_rfl) (by go_simp) ?_
        refine hK8.out _ _ HSa (fun _ => ?_)
        refine wpAnyH_ready (rs := [9]) (by kernel_rfl) (by simp) (AllReadyH.cons rfl (fun K9 hK9 => ?_) AllReadyH.nil)
        refine branchS ((((wq9.setCell ⟨wc1.heap.size, 0, none⟩ (.slice (some ⟨gm1, 0, none⟩) n n)).setCell ⟨wc1.heap.size, 1, none⟩ (.slice A1 n co1)).setCell ⟨wc8.heap.size, 0, none⟩ (.slice (some ⟨gm2, 0, none⟩) n n)).setCell ⟨wc8.heap.size, 1, none⟩ (.slice A2 n co2)) rfl (by kernel_rfl) (by go_simp) ?_
        refine hK9.out _ _ HSb (fun _ => ?_)
        refine wpAnyH_done (by kernel_rfl) ?_ _
        simp only [Act.put]
        exact REST.out _ _ _ _ _ _ _ _ _ (Lib.hid HP)
      · refine branchG (some 5) (.pointer (some ⟨wq7.heap.size, 0, none⟩)) (wq7.alloc (.cells #[.slice none 0 0, .slice none 0 0] 82)) rfl (by kernel_rfl) (by go_simp) ?_
        have hb : Below wq7.heap.size wq7 (wq7.alloc (.cells #[.slice none 0 0, .slice none 0 0] 82)) := (Below.refl _ _).alloc (Nat.le_refl _) _
        have F5 : Hid (Bx0 (wq7.alloc (.cells #[.slice none 0 0, .slice none 0 0] 82)) wq7.heap.size) := Lib.hid (heap_alloc_new wq7 _)
        have hz5 : wq7.heap.size < (wq7.alloc (.cells #[.slice none 0 0, .slice none 0 0] 82)).heap.size := by simp
        have HNE : Hid (wc1.heap.size ≠ wq7.heap.size) := Lib.hid (by have := F4.out.lt; omega)
        have HB := Lib.hid (HB.out.trans (hb.mono HB.out.size))
        have HS : Hid ((wq7.alloc (.cells #[.slice none 0 0, .slice none 0 0] 82)).cell? ⟨w.heap.size, 0, none⟩ = some (.slice (some ⟨gO, 0, none⟩) n cO) ∧ (wq7.alloc (.cells #[.slice none 0 0, .slice none 0 0] 82)).cell? ⟨w.heap.size, 1, none⟩ = some (.slice (some ⟨gI, 0, none⟩) n cI)) := Lib.hid (boxG hb hz HS.out)
        have hz : (w.heap.size + 1 ≤ (wq7.alloc (.cells #[.slice none 0 0, .slice none 0 0] 82)).heap.size) := Nat.le_trans hz hb.size
        have F4 := Lib.hid (F4.out.keep hb)
        have N1 := Lib.hid (N1.out.keep hb (by omega))
        clear hb
        generalize wq7.alloc (.cells #[.slice none 0 0, .slice none 0 0] 82) = wq10 at *
        refine hK7.out _ _ HS.out (fun _ => ?_)
        simp only [Act.put, List.setIfInBounds_toArray, List.set_cons_zero, List.set_cons_succ]
        refine wpAnyH_ready (rs := [5]) (by kernel_rfl) (by simp) (AllReadyH.cons rfl (fun K5 hK5 => ?_) AllReadyH.nil)
        rw [if_pos (by kernel_rfl)]
        go_simp
        go_at_call 38
        refine (newWalk_any (HI.out.keep (HB.out.mono hlim)) hgI (Nat.le_trans hlim HB.out.size) hn).mono ?_
        rintro e wc11 ⟨gm2, A2, co2, rfl, hg, hm, ho, hb⟩
        have HD : Hid (Apt n gm1 gm2 A1 A2) := Lib.hid (N1.out.apt hg ho)
        have N2 : Hid (Nw wc11 wq10.heap.size lim n (inN G) gm2 A2) := Lib.hid ⟨hg, hm, ho⟩
        have HB := Lib.hid (HB.out.trans (hb.mono HB.out.size))
        have HS : Hid (wc11.cell? ⟨w.heap.size, 0, none⟩ = some (.slice (some ⟨gO, 0, none⟩) n cO) ∧ wc11.cell? ⟨w.heap.size, 1, none⟩ = some (.slice (some ⟨gI, 0, none⟩) n cI)) := Lib.hid (boxG hb hz HS.out)
        have hz : (w.heap.size + 1 ≤ wc11.heap.size) := Nat.le_trans hz hb.size
        have F4 := Lib.hid (F4.out.keep hb)
        have F5 := Lib.hid (F5.out.keep hb)
        have N1 := Lib.hid (N1.out.keep hb (by omega))
        clear hg hm ho hb
        refine hK5.out _ _ HS.out (fun _ => ?_)
        obtain ⟨⟨c40, c41⟩, f40, f41, c50, c51, f50, f51, HSa, HSb, HP⟩ := Pz.made (co1 := co1) (co2 := co2) hlim F4.out F5.out HNE.out N1.out N2.out HD.out HB.out HS.out (by omega)
        refine wpAnyH_ready (rs := [8]) (by kernel_rfl) (by simp) (AllReadyH.cons rfl (fun K8 hK8 => ?_) AllReadyH.nil)
        refine branchS ((wc11.setCell ⟨wc1.heap.size, 0, none⟩ (.slice (some ⟨gm1, 0, none⟩) n n)).setCell ⟨wc1.heap.size, 1, none⟩ (.slice A1 n co1)) rfl (by kernel_rfl) (by go_simp) ?_
        refine hK8.out _ _ HSa (fun _ => ?_)
        refine wpAnyH_ready (rs := [9]) (by kernel_rfl) (by simp) (AllReadyH.cons rfl (fun K9 hK9 => ?_) AllReadyH.nil)
        refine branchS ((((wc11.setCell ⟨wc1.heap.size, 0, none⟩ (.slice (some ⟨gm1, 0, none⟩) n n)).setCell ⟨wc1.heap.size, 1, none⟩ (.slice A1 n co1)).setCell ⟨wq7.heap.size, 0, none⟩ (.slice (some ⟨gm2, 0, none⟩) n n)).setCell ⟨wq7.heap.size, 1, none⟩ (.slice A2 n co2)) rfl (by kernel_rfl) (by go_simp) ?_
        refine hK9.out _ _ HSb (fun _ => ?_)
        refine wpAnyH_done (by kernel_rfl) ?_ _
        simp only [Act.put]
        exact REST.out _ _ _ _ _ _ _ _ _ (Lib.hid HP)
    · refine branchG (some 5) (.pointer (some ⟨wc1.heap.size, 0, none⟩)) (wc1.alloc (.cells #[.slice none 0 0, .slice none 0 0] 82)) rfl (by kernel_rfl) (by go_simp) ?_
      have hb : Below wc1.heap.size wc1 (wc1.alloc (.cells #[.slice none 0 0, .slice none 0 0] 82)) := (Below.refl _ _).alloc (Nat.le_refl _) _
      have F5 : Hid (Bx0 (wc1.alloc (.cells #[.slice none 0 0, .slice none 0 0] 82)) wc1.heap.size) := Lib.hid (heap_alloc_new wc1 _)
      have hz5 : wc1.heap.size < (wc1.alloc (.cells #[.slice none 0 0, .slice none 0 0] 82)).heap.size := by simp
      have HB := Lib.hid (HB.out.trans (hb.mono HB.out.size))
      have HS : Hid ((wc1.alloc (.cells #[.slice none 0 0, .slice none 0 0] 82)).cell? ⟨w.heap.size, 0, none⟩ = some (.slice (some ⟨gO, 0, none⟩) n cO) ∧ (wc1.alloc (.cells #[.slice none 0 0, .slice none 0 0] 82)).cell? ⟨w.heap.size, 1, none⟩ = some (.slice (some ⟨gI, 0, none⟩) n cI)) := Lib.hid (boxG hb hz HS.out)
      have hz : (w.heap.size + 1 ≤ (wc1.alloc (.cells #[.slice none 0 0, .slice none 0 0] 82)).heap.size) := Nat.le_trans hz hb.size
      have N1 := Lib.hid (N1.out.keep hb (by omega))
      clear hb
      generalize wc1.alloc (.cells #[.slice none 0 0, .slice none 0 0] 82) = wq12 at *
      refine hK7.out _ _ HS.out (fun _ => ?_)
      simp only [Act.put, List.setIfInBounds_toArray, List.set_cons_zero, List.set_cons_succ]
      refine wpAnyH_ready (rs := [5, 6]) (by kernel_rfl) (by simp) (AllReadyH.cons rfl (fun K5 hK5 => ?_) (AllReadyH.cons rfl (fun K6 hK6 => ?_) AllReadyH.nil))
      · rw [if_pos (by kernel_rfl)]
        go_simp
        go_at_call 38
        refine (newWalk_any (HI.out.keep (HB.out.mono hlim)) hgI (Nat.le_trans hlim HB.out.size) hn).mono ?_
        rintro e wc13 ⟨gm2, A2, co2, rfl, hg, hm, ho, hb⟩
        have HD : Hid (Apt n gm1 gm2 A1 A2) := Lib.hid (N1.out.apt hg ho)
        have N2 : Hid (Nw wc13 wq12.heap.size lim n (inN G) gm2 A2) := Lib.hid ⟨hg, hm, ho⟩
        have HB := Lib.hid (HB.out.trans (hb.mono HB.out.size))
        have HS : Hid (wc13.cell? ⟨w.heap.size, 0, none⟩ = some (.slice (some ⟨gO, 0, none⟩) n cO) ∧ wc13.cell? ⟨w.heap.size, 1, none⟩ = some (.slice (some ⟨gI, 0, none⟩) n cI)) := Lib.hid (boxG hb hz HS.out)
        have hz : (w.heap.size + 1 ≤ wc13.heap.size) := Nat.le_trans hz hb.size
        have F5 := Lib.hid (F5.out.keep hb)
        have N1 := Lib.hid (N1.out.keep hb (by omega))
        clear hg hm ho hb
        refine hK5.out _ _ HS.out (fun _ => ?_)
        refine wpAnyH_ready (rs := [6]) (by kernel_rfl) (by simp) (AllReadyH.cons rfl (fun K6 hK6 => ?_) AllReadyH.nil)
        refine branchG (some 4) (.pointer (some ⟨wc13.heap.size, 0, none⟩)) (wc13.alloc (.cells #[.slice none 0 0, .slice none 0 0] 82)) rfl (by kernel_rfl) (by go_simp) ?_
        have hb : Below wc13.heap.size wc13 (wc13.alloc (.cells #[.slice none 0 0, .slice none 0 0] 82)) := (Below.refl _ _).alloc (Nat.le_refl _) _
        have F4 : Hid (Bx0 (wc13.alloc (.cells #[.slice none 0 0, .slice none 0 0] 82)) wc13.heap.size) := Lib.hid (heap_alloc_new wc13 _)
        have hz4 : wc13.heap.size < (wc13.alloc (.cells #[.slice none 0 0, .slice none 0 0] 82)).heap.size := by simp
        have HNE : Hid (wc13.heap.size ≠ wc1.heap.size) := Lib.hid (by have := F5.out.lt; omega)
        have HB := Lib.hid (HB.out.trans (hb.mono HB.out.size))
        have HS : Hid ((wc13.alloc (.cells #[.slice none 0 0, .slice none 0 0] 82)).cell? ⟨w.heap.size, 0, none⟩ = some (.slice (some ⟨gO, 0, none⟩) n cO) ∧ (wc13.alloc (.cells #[.slice none 0 0, .slice none 0 0] 82)).cell? ⟨w.heap.size, 1, none⟩ = some (.slice (some ⟨gI, 0, none⟩) n cI)) := Lib.hid (boxG hb hz HS.out)
        have hz : (w.heap.size + 1 ≤ (wc13.alloc (.cells #[.slice none 0 0, .slice none 0 0] 82)).heap.size) := Nat.le_trans hz hb.size
        have F5 := Lib.hid (F5.out.keep hb)
        have N1 := Lib.hid (N1.out.keep hb (by omega))
        have N2 := Lib.hid (N2.out.keep hb (by omega))
        clear hb
        generalize wc13.alloc (.cells #[.slice none 0 0, .slice none 0 0] 82) = wq14 at *
        refine hK6.out _ _ HS.out (fun _ => ?_)
        simp only [Act.put, List.setIfInBounds_toArray, List.set_cons_zero, List.set_cons_succ]
        obtain ⟨⟨c40, c41⟩, f40, f41, c50, c51, f50, f51, HSa, HSb, HP⟩ := Pz.made (co1 := co1) (co2 := co2) hlim F4.out F5.out HNE.out N1.out N2.out HD.out HB.out HS.out (by omega)
        refine wpAnyH_ready (rs := [8]) (by kernel_rfl) (by simp) (AllReadyH.cons rfl (fun K8 hK8 => ?_) AllReadyH.nil)
        refine branchS ((wq14.setCell ⟨wc13.heap.size, 0, none⟩ (.slice (some ⟨gm1, 0, none⟩) n n)).setCell ⟨wc13.heap.size, 1, none⟩ (.slice A1 n co1)) rfl (by kernel_rfl) (by go_simp) ?_
        refine hK8.out _ _ HSa (fun _ => ?_)
        refine wpAnyH_ready (rs := [9]) (by kernel_rfl) (by simp) (AllReadyH.cons rfl (fun K9 hK9 => ?_) AllReadyH.nil)
        refine branchS ((((wq14.setCell ⟨wc13.heap.size, 0, none⟩ (.slice (some ⟨gm1, 0, none⟩) n n)).setCell ⟨wc13.heap.size, 1, none⟩ (.slice A1 n co1)).setCell ⟨wc1.heap.size, 0, none⟩ (.slice (some ⟨gm2, 0, none⟩) n n)).setCell ⟨wc1.heap.size, 1, none⟩ (.slice A2 n co2)) rfl (by kernel_rfl) (by go_simp) ?_
        refine hK9.out _ _ HSb (fun _ => ?_)
        refine wpAnyH_done (by kernel_rfl) ?_ _
        simp only [Act.put]
        exact REST.out _ _ _ _ _ _ _ _ _ (Lib.hid HP)
      · refine branchG (some 4) (.pointer (some ⟨wq12.heap.size, 0, none⟩)) (wq12.alloc (.cells #[.slice none 0 0, .slice none 0 0] 82)) rfl (by kernel_rfl) (by go_simp) ?_
        have hb : Below wq12.heap.size wq12 (wq12.alloc (.cells #[.slice none 0 0, .slice none 0 0] 82)) := (Below.refl _ _).alloc (Nat.le_refl _) _
        have F4 : Hid (Bx0 (wq12.alloc (.cells #[.slice none 0 0, .slice none 0 0] 82)) wq12.heap.size) := Lib.hid (heap_alloc_new wq12 _)
        have hz4 : wq12.heap.size < (wq12.alloc (.cells #[.slice none 0 0, .slice none 0 0] 82)).heap.size := by simp
        have HNE : Hid (wq12.heap.size ≠ wc1.heap.size) := Lib.hid (by have := F5.out.lt; omega)
        have HB := Lib.hid (HB.out.trans (hb.mono HB.out.size))
        have HS : Hid ((wq12.alloc (.cells #[.slice none 0 0, .slice none 0 0] 82)).cell? ⟨w.heap.size, 0, none⟩ = some (.slice (some ⟨gO, 0, none⟩) n cO) ∧ (wq12.alloc (.cells #[.slice none 0 0, .slice none 0 0] 82)).cell? ⟨w.heap.size, 1, none⟩ = some (.slice (some ⟨gI, 0, none⟩) n cI)) := Lib.hid (boxG hb hz HS.out)
        have hz : (w.heap.size + 1 ≤ (wq12.alloc (.cells #[.slice none 0 0, .slice none 0 0] 82)).heap.size) := Nat.le_trans hz hb.size
        have F5 := Lib.hid (F5.out.keep hb)
        have N1 := Lib.hid (N1.out.keep hb (by omega))
        clear hb
        generalize wq12.alloc (.cells #[.slice none 0 0, .slice none 0 0] 82) = wq15 at *
        refine hK6.out _ _ HS.out (fun _ => ?_)
        simp only [Act.put, List.setIfInBounds_toArray, List.set_cons_zero, List.set_cons_succ]
        refine wpAnyH_ready (rs := [5]) (by kernel_rfl) (by simp) (AllReadyH.cons rfl (fun K5 hK5 => ?_) AllReadyH.nil)
        rw [if_pos (by kernel_rfl)]
        go_simp
        go_at_call 38
        refine (newWalk_any (HI.out.keep (HB.out.mono hlim)) hgI (Nat.le_trans hlim HB.out.size) hn).mono ?_
        rintro e wc16 ⟨gm2, A2, co2, rfl, hg, hm, ho, hb⟩
        have HD : Hid (Apt n gm1 gm2 A1 A2) := Lib.hid (N1.out.apt hg ho)
        have N2 : Hid (Nw wc16 wq15.heap.size lim n (inN G) gm2 A2) := Lib.hid ⟨hg, hm, ho⟩
        have HB := Lib.hid (HB.out.trans (hb.mono HB.out.size))
        have HS : Hid (wc16.cell? ⟨w.heap.size, 0, none⟩ = some (.slice (some ⟨gO, 0, none⟩) n cO) ∧ wc16.cell? ⟨w.heap.size, 1, none⟩ = some (.slice (some ⟨gI, 0, none⟩) n cI)) := Lib.hid (boxG hb hz HS.out)
        have hz : (w.heap.size + 1 ≤ wc16.heap.size) := Nat.le_trans hz hb.size
        have F4 := Lib.hid (F4.out.keep hb)
        have F5 := Lib.hid (F5.out.keep hb)
        have N1 := Lib.hid (N1.out.keep hb (by omega))
        clear hg hm ho hb
        refine hK5.out _ _ HS.out (fun _ => ?_)
        obtain ⟨⟨c40, c41⟩, f40, f41, c50, c51, f50, f51, HSa, HSb, HP⟩ := Pz.made (co1 := co1) (co2 := co2) hlim F4.out F5.out HNE.out N1.out N2.out HD.out HB.out HS.out (by omega)
        refine wpAnyH_ready (rs := [8]) (by kernel_rfl) (by simp) (AllReadyH.cons rfl (fun K8 hK8 => ?_) AllReadyH.nil)
        refine branchS ((wc16.setCell ⟨wq12.heap.size, 0, none⟩ (.slice (some ⟨gm1, 0, none⟩) n n)).setCell ⟨wq12.heap.size, 1, none⟩ (.slice A1 n co1)) rfl (by kernel_rfl) (by go_simp) ?_
        refine hK8.out _ _ HSa (fun _ => ?_)
        refine wpAnyH_ready (rs := [9]) (by kernel_rfl) (by simp) (AllReadyH.cons rfl (fun K9 hK9 => ?_) AllReadyH.nil)
        refine branchS ((((wc16.setCell ⟨wq12.heap.size, 0, none⟩ (.slice (some ⟨gm1, 0, none⟩) n n)).setCell ⟨wq12.heap.size, 1, none⟩ (.slice A1 n co1)).setCell ⟨wc1.heap.size, 0, none⟩ (.slice (some ⟨gm2, 0, none⟩) n n)).setCell ⟨wc1.heap.size, 1, none⟩ (.slice A2 n co2)) rfl (by kernel_rfl) (by go_simp) ?_
        refine hK9.out _ _ HSb (fun _ => ?_)
        refine wpAnyH_done (by kernel_rfl) ?_ _
        simp only [Act.put]
        exact REST.out _ _ _ _ _ _ _ _ _ (Lib.hid HP)
  · refine branchG (some 4) (.pointer (some ⟨w0.heap.size, 0, none⟩)) (w0.alloc (.cells #[.slice none 0 0, .slice none 0 0] 82)) rfl (by kernel_rfl) (by go_simp) ?_
    have hb : Below w0.heap.size w0 (w0.alloc (.cells #[.slice none 0 0, .slice none 0 0] 82)) := (Below.refl _ _).alloc (Nat.le_refl _) _
    have F4 : Hid (Bx0 (w0.alloc (.cells #[.slice none 0 0, .slice none 0 0] 82)) w0.heap.size) := Lib.hid (heap_alloc_new w0 _)
    have hz4 : w0.heap.size < (w0.alloc (.cells #[.slice none 0 0, .slice none 0 0] 82)).heap.size := by simp
    have HB := Lib.hid (HB.out.trans (hb.mono HB.out.size))
    have HS : Hid ((w0.alloc (.cells #[.slice none 0 0, .slice none 0 0] 82)).cell? ⟨w.heap.size, 0, none⟩ = some (.slice (some ⟨gO, 0, none⟩) n cO) ∧ (w0.alloc (.cells #[.slice none 0 0, .slice none 0 0] 82)).cell? ⟨w.heap.size, 1, none⟩ = some (.slice (some ⟨gI, 0, none⟩) n cI)) := Lib.hid (boxG hb hz HS.out)
    have hz : (w.heap.size + 1 ≤ (w0.alloc (.cells #[.slice none 0 0, .slice none 0 0] 82)).heap.size) := Nat.le_trans hz hb.size
    clear hb
    generalize w0.alloc (.cells #[.slice none 0 0, .slice none 0 0] 82) = wq17 at *
    refine hK6.out _ _ HS.out (fun _ => ?_)
    simp only [Act.put, List.setIfInBounds_toArray, List.set_cons_zero, List.set_cons_succ]
    refine wpAnyH_ready (rs := [2, 7]) (by kernel_rfl) (by simp) (AllReadyH.cons rfl (fun K2 hK2 => ?_) (AllReadyH.cons rfl (fun K7 hK7 => ?_) AllReadyH.nil))
    · rw [if_pos (by kernel_rfl)]
      go_simp
      go_at_call 38
      refine (newWalk_any (HO.out.keep (HB.out.mono hlim)) hgO (Nat.le_trans hlim HB.out.size) hn).mono ?_
      rintro e wc18 ⟨gm1, A1, co1, rfl, hg, hm, ho, hb⟩
      have N1 : Hid (Nw wc18 wq17.heap.size lim n (outN G) gm1 A1) := Lib.hid ⟨hg, hm, ho⟩
      have HB := Lib.hid (HB.out.trans (hb.mono HB.out.size))
      have HS : Hid (wc18.cell? ⟨w.heap.size, 0, none⟩ = some (.slice (some ⟨gO, 0, none⟩) n cO) ∧ wc18.cell? ⟨w.heap.size, 1, none⟩ = some (.slice (some ⟨gI, 0, none⟩) n cI)) := Lib.hid (boxG hb hz HS.out)
      have hz : (w.heap.size + 1 ≤ wc18.heap.size) := Nat.le_trans hz hb.size
      have F4 := Lib.hid (F4.out.keep hb)
      clear hg hm ho hb
      refine hK2.out _ _ HS.out (fun _ => ?_)
      refine wpAnyH_ready (rs := [5, 7]) (by kernel_rfl) (by simp) (AllReadyH.cons rfl (fun K5 hK5 => ?_) (AllReadyH.cons rfl (fun K7 hK7 => ?_) AllReadyH.nil))
      · rw [if_pos (by kernel_rfl)]
        go_simp
        go_at_call 38
        refine (newWalk_any (HI.out.keep (HB.out.mono hlim)) hgI (Nat.le_trans hlim HB.out.size) hn).mono ?_
        rintro e wc19 ⟨gm2, A2, co2, rfl, hg, hm, ho, hb⟩
        have HD : Hid (Apt n gm1 gm2 A1 A2) := Lib.hid (N1.out.apt hg ho)
        have N2 : Hid (Nw wc19 wc18.heap.size lim n (inN G) gm2 A2) := Lib.hid ⟨hg, hm, ho⟩
        have HB := Lib.hid (HB.out.trans (hb.mono HB.out.size))
        have HS : Hid (wc19.cell? ⟨w.heap.size, 0, none⟩ = some (.slice (some ⟨gO, 0, none⟩) n cO) ∧ wc19.cell? ⟨w.heap.size, 1, none⟩ = some (.slice (some ⟨gI, 0, none⟩) n cI)) := Lib.hid (boxG hb hz HS.out)
        have hz : (w.heap.size + 1 ≤ wc19.heap.size) := Nat.le_trans hz hb.size
        have F4 := Lib.hid (F4.out.keep hb)
        have N1 := Lib.hid (N1.out.keep hb (by omega))
        clear hg hm ho hb
        refine hK5.out _ _ HS.out (fun _ => ?_)
        refine wpAnyH_ready (rs := [7]) (by kernel_rfl) (by simp) (AllReadyH.cons rfl (fun K7 hK7 => ?_) AllReadyH.nil)
        refine branchG (some 5) (.pointer (some ⟨wc19.heap.size, 0, none⟩)) (wc19.alloc (.cells #[.slice none 0 0, .slice none 0 0] 82)) rfl (by kernel_rfl) (by go_simp) ?_
        have hb : Below wc19.heap.size wc19 (wc19.alloc (.cells #[.slice none 0 0, .slice none 0 0] 82)) := (Below.refl _ _).alloc (Nat.le_refl _) _
        have F5 : Hid (Bx0 (wc19.alloc (.cells #[.slice none 0 0, .slice none 0 0] 82)) wc19.heap.size) := Lib.hid (heap_alloc_new wc19 _)
        have hz5 : wc19.heap.size < (wc19.alloc (.cells #[.slice none 0 0, .slice none 0 0] 82)).heap.size := by simp
        have HNE : Hid (w0.heap.size ≠ wc19.heap.size) := Lib.hid (by have := F4.out.lt; omega)
        have HB := Lib.hid (HB.out.trans (hb.mono HB.out.size))
        have HS : Hid ((wc19.alloc (.cells #[.slice none 0 0, .slice none 0 0] 82)).cell? ⟨w.heap.size, 0, none⟩ = some (.slice (some ⟨gO, 0, none⟩) n cO) ∧ (wc19.alloc (.cells #[.slice none 0 0, .slice none 0 0] 82)).cell? ⟨w.heap.size, 1, none⟩ = some (.slice (some ⟨gI, 0, none⟩) n cI)) := Lib.hid (boxG hb hz HS.out)
        have hz : (w.heap.size + 1 ≤ (wc19.alloc (.cells #[.slice none 0 0, .slice none 0 0] 82)).heap.size) := Nat.le_trans hz hb.size
        have F4 := Lib.hid (F4.out.keep hb)
        have N1 := Lib.hid (N1.out.keep hb (by omega))
        have N2 := Lib.hid (N2.out.keep hb (by omega))
        clear hb
        generalize wc19.alloc (.cells #[.slice none 0 0, .slice none 0 0] 82) = wq20 at *
        refine hK7.out _ _ HS.out (fun _ => ?_)
        simp only [Act.put, List.setIfInBounds_toArray, List.set_cons_zero, List.set_cons_succ]
        obtain ⟨⟨c40, c41⟩, f40, f41, c50, c51, f50, f51, HSa, HSb, HP⟩ := Pz.made (co1 := co1) (co2 := co2) hlim F4.out F5.out HNE.out N1.out N2.out HD.out HB.out HS.out (by omega)
        refine wpAnyH_ready (rs := [8]) (by kernel_rfl) (by simp) (AllReadyH.cons rfl (fun K8 hK8 => ?_) AllReadyH.nil)
        refine branchS ((wq20.setCell ⟨w0.heap.size, 0, none⟩ (.slice (some ⟨gm1, 0, none⟩) n n)).setCell ⟨w0.heap.size, 1, none⟩ (.slice A1 n co1)) rfl (by kernel_rfl) (by go_simp) ?_
        refine hK8.out _ _ HSa (fun _ => ?_)
        refine wpAnyH_ready (rs := [9]) (by kernel_rfl) (by simp) (AllReadyH.cons rfl (fun K9 hK9 => ?_) AllReadyH.nil)
        refine branchS ((((wq20.setCell ⟨w0.heap.size, 0, none⟩ (.slice (some ⟨gm1, 0, none⟩) n n)).setCell ⟨w0.heap.size, 1, none⟩ (.slice A1 n co1)).setCell ⟨wc19.heap.size, 0, none⟩ (.slice (some ⟨gm2, 0, none⟩) n n)).setCell ⟨wc19.heap.size, 1, none⟩ (.slice A2 n co2)) rfl (by kernel_rfl) (by go_simp) ?_
        refine hK9.out _ _ HSb (fun _ => ?_)
        refine wpAnyH_done (by kernel_rfl) ?_ _
        simp only [Act.put]
        exact REST.out _ _ _ _ _ _ _ _ _ (Lib.hid HP)
      · refine branchG (some 5) (.pointer (some ⟨wc18.heap.size, 0, none⟩)) (wc18.alloc (.cells #[.slice none 0 0, .slice none 0 0] 82)) rfl (by kernel_rfl) (by go_simp) ?_
        have hb : Below wc18.heap.size wc18 (wc18.alloc (.cells #[.slice none 0 0, .slice none 0 0] 82)) := (Below.refl _ _).alloc (Nat.le_refl _) _
        have F5 : Hid (Bx0 (wc18.alloc (.cells #[.slice none 0 0, .slice none 0 0] 82)) wc18.heap.size) := Lib.hid (heap_alloc_new wc18 _)
        have hz5 : wc18.heap.size < (wc18.alloc (.cells #[.slice none 0 0, .slice none 0 0] 82)).heap.size := by simp
        have HNE : Hid (w0.heap.size ≠ wc18.heap.size) := Lib.hid (by have := F4.out.lt; omega)
        have HB := Lib.hid (HB.out.trans (hb.mono HB.out.size))
        have HS : Hid ((wc18.alloc (.cells #[.slice none 0 0, .slice none 0 0] 82)).cell? ⟨w.heap.size, 0, none⟩ = some (.slice (some ⟨gO, 0, none⟩) n cO) ∧ (wc18.alloc (.cells #[.slice none 0 0, .slice none 0 0] 82)).cell? ⟨w.heap.size, 1, none⟩ = some (.slice (some ⟨gI, 0, none⟩) n cI)) := Lib.hid (boxG hb hz HS.out)
        have hz : (w.heap.size + 1 ≤ (wc18.alloc (.cells #[.slice none 0 0, .slice none 0 0] 82)).heap.size) := Nat.le_trans hz hb.size
        have F4 := Lib.hid (F4.out.keep hb)
        have N1 := Lib.hid (N1.out.keep hb (by omega))
        clear hb
        generalize wc18.alloc (.cells #[.slice none 0 0, .slice none 0 0] 82) = wq21 at *
        refine hK7.out _ _ HS.out (fun _ => ?_)
        simp only [Act.put, List.setIfInBounds_toArray, List.set_cons_zero, List.set_cons_succ]
        refine wpAnyH_ready (rs := [5]) (by kernel_rfl) (by simp) (AllReadyH.cons rfl (fun K5 hK5 => ?_) AllReadyH.nil)
        rw [if_pos (by kernel_rfl)]
        go_simp
        go_at_call 38
        refine (newWalk_any (HI.out.keep (HB.out.mono hlim)) hgI (Nat.le_trans hlim HB.out.size) hn).mono ?_
        rintro e wc22 ⟨gm2, A2, co2, rfl, hg, hm, ho, hb⟩
        have HD : Hid (Apt n gm1 gm2 A1 A2) := Lib.hid (N1.out.apt hg ho)
        have N2 : Hid (Nw wc22 wq21.heap.size lim n (inN G) gm2 A2) := Lib.hid ⟨hg, hm, ho⟩
        have HB := Lib.hid (HB.out.trans (hb.mono HB.out.size))
        have HS : Hid (wc22.cell? ⟨w.heap.size, 0, none⟩ = some (.slice (some ⟨gO, 0, none⟩) n cO) ∧ wc22.cell? ⟨w.heap.size, 1, none⟩ = some (.slice (some ⟨gI, 0, none⟩) n cI)) := Lib.hid (boxG hb hz HS.out)
        have hz : (w.heap.size + 1 ≤ wc22.heap.size) := Nat.le_trans hz hb.size
        have F4 := Lib.hid (F4.out.keep hb)
        have F5 := Lib.hid (F5.out.keep hb)
        have N1 := Lib.hid (N1.out.keep hb (by omega))
        clear hg hm ho hb
        refine hK5.out _ _ HS.out (fun _ => ?_)
        obtain ⟨⟨c40, c41⟩, f40, f41, c50, c51, f50, f51, HSa, HSb, HP⟩ := Pz.made (co1 := co1) (co2 := co2) hlim F4.out F5.out HNE.out N1.out N2.out HD.out HB.out HS.out (by omega)
        refine wpAnyH_ready (rs := [8]) (by kernel_rfl) (by simp) (AllReadyH.cons rfl (fun K8 hK8 => ?_) AllReadyH.nil)
        refine branchS ((wc22.setCell ⟨w0.heap.size, 0, none⟩ (.slice (some ⟨gm1, 0, none⟩) n n)).setCell ⟨w0.heap.size, 1, none⟩ (.slice A1 n co1)) rfl (by kernel_rfl) (by go_simp) ?_
        refine hK8.out _ _ HSa (fun _ => ?_)
        refine wpAnyH_ready (rs := [9]) (by kernel_rfl) (by simp) (AllReadyH.cons rfl (fun K9 hK9 => ?_) AllReadyH.nil)
        refine branchS ((((wc22.setCell ⟨w0.heap.size, 0, none⟩ (.slice (some ⟨gm1, 0, none⟩) n n)).setCell ⟨w0.heap.size, 1, none⟩ (.slice A1 n co1)).setCell ⟨wc18.heap.size, 0, none⟩ (.slice (some ⟨gm2, 0, none⟩) n n)).setCell ⟨wc18.heap.size, 1, none⟩ (.slice A2 n co2)) rfl (by kernel_rfl) (by go_simp) ?_
        refine hK9.out _ _ HSb (fun _ => ?_)
        refine wpAnyH_done (by kernel_rfl) ?_ _
        simp only [Act.put]
        exact REST.out _ _ _ _ _ _ _ _ _ (Lib.hid HP)
    · refine branchG (some 5) (.pointer (some ⟨wq17.heap.size, 0, none⟩)) (wq17.alloc (.cells #[.slice none 0 0, .slice none 0 0] 82)) rfl (by kernel_rfl) (by go_simp) ?_
      have hb : Below wq17.heap.size wq17 (wq17.alloc (.cells #[.slice none 0 0, .slice none 0 0] 82)) := (Below.refl _ _).alloc (Nat.le_refl _) _
      have F5 : Hid (Bx0 (wq17.alloc (.cells #[.slice none 0 0, .slice none 0 0] 82)) wq17.heap.size) := Lib.hid (heap_alloc_new wq17 _)
      have hz5 : wq17.heap.size < (wq17.alloc (.cells #[.slice none 0 0, .slice none 0 0] 82)).heap.size := by simp
      have HNE : Hid (w0.heap.size ≠ wq17.heap.size) := Lib.hid (by have := F4.out.lt; omega)
      have HB := Lib.hid (HB.out.trans (hb.mono HB.out.size))
      have HS : Hid ((wq17.alloc (.cells #[.slice none 0 0, .slice none 0 0] 82)).cell? ⟨w.heap.size, 0, none⟩ = some (.slice (some ⟨gO, 0, none⟩) n cO) ∧ (wq17.alloc (.cells #[.slice none 0 0, .slice none 0 0] 82)).cell? ⟨w.heap.size, 1, none⟩ = some (.slice (some ⟨gI, 0, none⟩) n cI)) := Lib.hid (boxG hb hz HS.out)
      have hz : (w.heap.size + 1 ≤ (wq17.alloc (.cells #[.slice none 0 0, .slice none 0 0] 82)).heap.size) := Nat.le_trans hz hb.size
      have F4 := Lib.hid (F4.out.keep hb)
      clear hb
      generalize wq17.alloc (.cells #[.slice none 0 0, .slice none 0 0] 82) = wq23 at *
      refine hK7.out _ _ HS.out (fun _ => ?_)
      simp only [Act.put, List.setIfInBounds_toArray, List.set_cons_zero, List.set_cons_succ]
      refine wpAnyH_ready (rs := [2]) (by kernel_rfl) (by simp) (AllReadyH.cons rfl (fun K2 hK2 => ?_) AllReadyH.nil)
      rw [if_pos (by kernel_rfl)]
      go_simp
      go_at_call 38
      refine (newWalk_any (HO.out.keep (HB.out.mono hlim)) hgO (Nat.le_trans hlim HB.out.size) hn).mono ?_
      rintro e wc24 ⟨gm1, A1, co1, rfl, hg, hm, ho, hb⟩
      have N1 : Hid (Nw wc24 wq23.heap.size lim n (outN G) gm1 A1) := Lib.hid ⟨hg, hm, ho⟩
      have HB := Lib.hid (HB.out.trans (hb.mono HB.out.size))
      have HS : Hid (wc24.cell? ⟨w.heap.size, 0, none⟩ = some (.slice (some ⟨gO, 0, none⟩) n cO) ∧ wc24.cell? ⟨w.heap.size, 1, none⟩ = some (.slice (some ⟨gI, 0, none⟩) n cI)) := Lib.hid (boxG hb hz HS.out)
      have hz : (w.heap.size + 1 ≤ wc24.heap.size) := Nat.le_trans hz hb.size
      have F4 := Lib.hid (F4.out.keep hb)
      have F5 := Lib.hid (F5.out.keep hb)
      clear hg hm ho hb
      refine hK2.out _ _ HS.out (fun _ => ?_)
      refine wpAnyH_ready (rs := [5]) (by kernel_rfl) (by simp) (AllReadyH.cons rfl (fun K5 hK5 => ?_) AllReadyH.nil)
      rw [if_pos (by kernel_rfl)]
      go_simp
      go_at_call 38
      refine (newWalk_any (HI.out.keep (HB.out.mono hlim)) hgI (Nat.le_trans hlim HB.out.size) hn).mono ?_
      rintro e wc25 ⟨gm2, A2, co2, rfl, hg, hm, ho, hb⟩
      have HD : Hid (Apt n gm1 gm2 A1 A2) := Lib.hid (N1.out.apt hg ho)
      have N2 : Hid (Nw wc25 wc24.heap.size lim n (inN G) gm2 A2) := Lib.hid ⟨hg, hm, ho⟩
      have HB := Lib.hid (HB.out.trans (hb.mono HB.out.size))
      have HS : Hid (wc25.cell? ⟨w.heap.size, 0, none⟩ = some (.slice (some ⟨gO, 0, none⟩) n cO) ∧ wc25.cell? ⟨w.heap.size, 1, none⟩ = some (.slice (some ⟨gI, 0, none⟩) n cI)) := Lib.hid (boxG hb hz HS.out)
      have hz : (w.heap.size + 1 ≤ wc25.heap.size) := Nat.le_trans hz hb.size
      have F4 := Lib.hid (F4.out.keep hb)
      have F5 := Lib.hid (F5.out.keep hb)
      have N1 := Lib.hid (N1.out.keep hb (by omega))
      clear hg hm ho hb
      refine hK5.out _ _ HS.out (fun _ => ?_)
      obtain ⟨⟨c40, c41⟩, f40, f41, c50, c51, f50, f51, HSa, HSb, HP⟩ := Pz.made (co1 := co1) (co2 := co2) hlim F4.out F5.out HNE.out N1.out N2.out HD.out HB.out HS.out (by omega)
      refine wpAnyH_ready (rs := [8]) (by kernel_rfl) (by simp) (AllReadyH.cons rfl (fun K8 hK8 => ?_) AllReadyH.nil)
      refine branchS ((wc25.setCell ⟨w0.heap.size, 0, none⟩ (.slice (some ⟨gm1, 0, none⟩) n n)).setCell ⟨w0.heap.size, 1, none⟩ (.slice A1 n co1)) rfl (by kernel_rfl) (by go_simp) ?_
      refine hK8.out _ _ HSa (fun _ => ?_)
      refine wpAnyH_ready (rs := [9]) (by kernel_rfl) (by simp) (AllReadyH.cons rfl (fun K9 hK9 => ?_) AllReadyH.nil)
      refine branchS ((((wc25.setCell ⟨w0.heap.size, 0, none⟩ (.slice (some ⟨gm1, 0, none⟩) n n)).setCell ⟨w0.heap.size, 1, none⟩ (.slice A1 n co1)).setCell ⟨wq17.heap.size, 0, none⟩ (.slice (some ⟨gm2, 0, none⟩) n n)).setCell ⟨wq17.heap.size, 1, none⟩ (.slice A2 n co2)) rfl (by kernel_rfl) (by go_simp) ?_
      refine hK9.out _ _ HSb (fun _ => ?_)
      refine wpAnyH_done (by kernel_rfl) ?_ _
      simp only [Act.put]
      exact REST.out _ _ _ _ _ _ _ _ _ (Lib.hid HP)
  · refine branchG (some 5) (.pointer (some ⟨w0.heap.size, 0, none⟩)) (w0.alloc (.cells #[.slice none 0 0, .slice none 0 0] 82)) rfl (by kernel_rfl) (by go_simp) ?_
    have hb : Below w0.heap.size w0 (w0.alloc (.cells #[.slice none 0 0, .slice none 0 0] 82)) := (Below.refl _ _).alloc (Nat.le_refl _) _
    have F5 : Hid (Bx0 (w0.alloc (.cells #[.slice none 0 0, .slice none 0 0] 82)) w0.heap.size) := Lib.hid (heap_alloc_new w0 _)
    have hz5 : w0.heap.size < (w0.alloc (.cells #[.slice none 0 0, .slice none 0 0] 82)).heap.size := by simp
    have HB := Lib.hid (HB.out.trans (hb.mono HB.out.size))
    have HS : Hid ((w0.alloc (.cells #[.slice none 0 0, .slice none 0 0] 82)).cell? ⟨w.heap.size, 0, none⟩ = some (.slice (some ⟨gO, 0, none⟩) n cO) ∧ (w0.alloc (.cells #[.slice none 0 0, .slice none 0 0] 82)).cell? ⟨w.heap.size, 1, none⟩ = some (.slice (some ⟨gI, 0, none⟩) n cI)) := Lib.hid (boxG hb hz HS.out)
    have hz : (w.heap.size + 1 ≤ (w0.alloc (.cells #[.slice none 0 0, .slice none 0 0] 82)).heap.size) := Nat.le_trans hz hb.size
    clear hb
    generalize w0.alloc (.cells #[.slice none 0 0, .slice none 0 0] 82) = wq26 at *
    refine hK7.out _ _ HS.out (fun _ => ?_)
    simp only [Act.put, List.setIfInBounds_toArray, List.set_cons_zero, List.set_cons_succ]
    refine wpAnyH_ready (rs := [2, 6]) (by kernel_rfl) (by simp) (AllReadyH.cons rfl (fun K2 hK2 => ?_) (AllReadyH.cons rfl (fun K6 hK6 => ?_) AllReadyH.nil))
    · rw [if_pos (by kernel_rfl)]
      go_simp
      go_at_call 38
      refine (newWalk_any (HO.out.keep (HB.out.mono hlim)) hgO (Nat.le_trans hlim HB.out.size) hn).mono ?_
      rintro e wc27 ⟨gm1, A1, co1, rfl, hg, hm, ho, hb⟩
      have N1 : Hid (Nw wc27 wq26.heap.size lim n (outN G) gm1 A1) := Lib.hid ⟨hg, hm, ho⟩
      have HB := Lib.hid (HB.out.trans (hb.mono HB.out.size))
      have HS : Hid (wc27.cell? ⟨w.heap.size, 0, none⟩ = some (.slice (some ⟨gO, 0, none⟩) n cO) ∧ wc27.cell? ⟨w.heap.size, 1, none⟩ = some (.slice (some ⟨gI, 0, none⟩) n cI)) := Lib.hid (boxG hb hz HS.out)
      have hz : (w.heap.size + 1 ≤ wc27.heap.size) := Nat.le_trans hz hb.size
      have F5 := Lib.hid (F5.out.keep hb)
      clear hg hm ho hb
      refine hK2.out _ _ HS.out (fun _ => ?_)
      refine wpAnyH_ready (rs := [5, 6]) (by kernel_rfl) (by simp) (AllReadyH.cons rfl (fun K5 hK5 => ?_) (AllReadyH.cons rfl (fun K6 hK6 => ?_) AllReadyH.nil))
      · rw [if_pos (by kernel_rfl)]
        go_simp
        go_at_call 38
        refine (newWalk_any (HI.out.keep (HB.out.mono hlim)) hgI (Nat.le_trans hlim HB.out.size) hn).mono ?_
        rintro e wc28 ⟨gm2, A2, co2, rfl, hg, hm, ho, hb⟩
        have HD : Hid (Apt n gm1 gm2 A1 A2) := Lib.hid (N1.out.apt hg ho)
        have N2 : Hid (Nw wc28 wc27.heap.size lim n (inN G) gm2 A2) := Lib.hid ⟨hg, hm, ho⟩
        have HB := Lib.hid (HB.out.trans (hb.mono HB.out.size))
        have HS : Hid (wc28.cell? ⟨w.heap.size, 0, none⟩ = some (.slice (some ⟨gO, 0, none⟩) n cO) ∧ wc28.cell? ⟨w.heap.size, 1, none⟩ = some (.slice (some ⟨gI, 0, none⟩) n cI)) := Lib.hid (boxG hb hz HS.out)
        have hz : (w.heap.size + 1 ≤ wc28.heap.size) := Nat.le_trans hz hb.size
        have F5 := Lib.hid (F5.out.keep hb)
        have N1 := Lib.hid (N1.out.keep hb (by omega))
        clear hg hm ho hb
        refine hK5.out _ _ HS.out (fun _ => ?_)
        refine wpAnyH_ready (rs := [6]) (by kernel_rfl) (by simp) (AllReadyH.cons rfl (fun K6 hK6 => ?_) AllReadyH.nil)
        refine branchG (some 4) (.pointer (some ⟨wc28.heap.size, 0, none⟩)) (wc28.alloc (.cells #[.slice none 0 0, .slice none 0 0] 82)) rfl (by kernel_rfl) (by go_simp) ?_
        have hb : Below wc28.heap.size wc28 (wc28.alloc (.cells #[.slice none 0 0, .slice none 0 0] 82)) := (Below.refl _ _).alloc (Nat.le_refl _) _
        have F4 : Hid (Bx0 (wc28.alloc (.cells #[.slice none 0 0, .slice none 0 0] 82)) wc28.heap.size) := Lib.hid (heap_alloc_new wc28 _)
        have hz4 : wc28.heap.size < (wc28.alloc (.cells #[.slice none 0 0, .slice none 0 0] 82)).heap.size := by simp
        have HNE : Hid (wc28.heap.size ≠ w0.heap.size) := Lib.hid (by have := F5.out.lt; omega)
        have HB := Lib.hid (HB.out.trans (hb.mono HB.out.size))
        have HS : Hid ((wc28.alloc (.cells #[.slice none 0 0, .slice none 0 0] 82)).cell? ⟨w.heap.size, 0, none⟩ = some (.slice (some ⟨gO, 0, none⟩) n cO) ∧ (wc28.alloc (.cells #[.slice none 0 0, .slice none 0 0] 82)).cell? ⟨w.heap.size, 1, none⟩ = some (.slice (some ⟨gI, 0, none⟩) n cI)) := Lib.hid (boxG hb hz HS.out)
        have hz : (w.heap.size + 1 ≤ (wc28.alloc (.cells #[.slice none 0 0, .slice none 0 0] 82)).heap.size) := Nat.le_trans hz hb.size
        have F5 := Lib.hid (F5.out.keep hb)
        have N1 := Lib.hid (N1.out.keep hb (by omega))
        have N2 := Lib.hid (N2.out.keep hb (by omega))
        clear hb
        generalize wc28.alloc (.cells #[.slice none 0 0, .slice none 0 0] 82) = wq29 at *
        refine hK6.out _ _ HS.out (fun _ => ?_)
        simp only [Act.put, List.setIfInBounds_toArray, List.set_cons_zero, List.set_cons_succ]
        obtain ⟨⟨c40, c41⟩, f40, f41, c50, c51, f50, f51, HSa, HSb, HP⟩ := Pz.made (co1 := co1) (co2 := co2) hlim F4.out F5.out HNE.out N1.out N2.out HD.out HB.out HS.out (by omega)
        refine wpAnyH_ready (rs := [8]) (by kernel_rfl) (by simp) (AllReadyH.cons rfl (fun K8 hK8 => ?_) AllReadyH.nil)
        refine branchS ((wq29.setCell ⟨wc28.heap.size, 0, none⟩ (.slice (some ⟨gm1, 0, none⟩) n n)).setCell ⟨wc28.heap.size, 1, none⟩ (.slice A1 n co1)) rfl (by kernel_rfl) (by go_simp) ?_
        refine hK8.out _ _ HSa (fun _ => ?_)
        refine wpAnyH_ready (rs := [9]) (by kernel_rfl) (by simp) (AllReadyH.cons rfl (fun K9 hK9 => ?_) AllReadyH.nil)
        refine branchS ((((wq29.setCell ⟨wc28.heap.size, 0, none⟩ (.slice (some ⟨gm1, 0, none⟩) n n)).setCell ⟨wc28.heap.size, 1, none⟩ (.slice A1 n co1)).setCell ⟨w0.heap.size, 0, none⟩ (.slice (some ⟨gm2, 0, none⟩) n n)).setCell ⟨w0.heap.size, 1, none⟩ (.slice A2 n co2)) rfl (by kernel_rfl) (by go_simp) ?_
        refine hK9.out _ _ HSb (fun _ => ?_)
        refine wpAnyH_done (by kernel_rfl) ?_ _
        simp only [Act.put]
        exact REST.out _ _ _ _ _ _ _ _ _ (Lib.hid HP)
      · refine branchG (some 4) (.pointer (some ⟨wc27.heap.size, 0, none⟩)) (wc27.alloc (.cells #[.slice none 0 0, .slice none 0 0] 82)) rfl (by kernel_rfl) (by go_simp) ?_
        have hb : Below wc27.heap.size wc27 (wc27.alloc (.cells #[.slice none 0 0, .slice none 0 0] 82)) := (Below.refl _ _).alloc (Nat.le_refl _) _
        have F4 : Hid (Bx0 (wc27.alloc (.cells #[.slice none 0 0, .slice none 0 0] 82)) wc27.heap.size) := Lib.hid (heap_alloc_new wc27 _)
        have hz4 : wc27.heap.size < (wc27.alloc (.cells #[.slice none 0 0, .slice none 0 0] 82)).heap.size := by simp
        have HNE : Hid (wc27.heap.size ≠ w0.heap.size) := Lib.hid (by have := F5.out.lt; omega)
        have HB := Lib.hid (HB.out.trans (hb.mono HB.out.size))
        have HS : Hid ((wc27.alloc (.cells #[.slice none 0 0, .slice none 0 0] 82)).cell? ⟨w.heap.size, 0, none⟩ = some (.slice (some ⟨gO, 0, none⟩) n cO) ∧ (wc27.alloc (.cells #[.slice none 0 0, .slice none 0 0] 82)).cell? ⟨w.heap.size, 1, none⟩ = some (.slice (some ⟨gI, 0, none⟩) n cI)) := Lib.hid (boxG hb hz HS.out)
        have hz : (w.heap.size + 1 ≤ (wc27.alloc (.cells #[.slice none 0 0, .slice none 0 0] 82)).heap.size) := Nat.le_trans hz hb.size
        have F5 := Lib.hid (F5.out.keep hb)
        have N1 := Lib.hid (N1.out.keep hb (by omega))
        clear hb
        generalize wc27.alloc (.cells #[.slice none 0 0, .slice none 0 0] 82) = wq30 at *
        refine hK6.out _ _ HS.out (fun _ => ?_)
        simp only [Act.put, List.setIfInBounds_toArray, List.set_cons_zero, List.set_cons_succ]
        refine wpAnyH_ready (rs := [5]) (by kernel_rfl) (by simp) (AllReadyH.cons rfl (fun K5 hK5 => ?_) AllReadyH.nil)
        rw [if_pos (by kernel_rfl)]
        go_simp
        go_at_call 38
        refine (newWalk_any (HI.out.keep (HB.out.mono hlim)) hgI (Nat.le_trans hlim HB.out.size) hn).mono ?_
        rintro e wc31 ⟨gm2, A2, co2, rfl, hg, hm, ho, hb⟩
        have HD : Hid (Apt n gm1 gm2 A1 A2) := Lib.hid (N1.out.apt hg ho)
        have N2 : Hid (Nw wc31 wq30.heap.size lim n (inN G) gm2 A2) := Lib.hid ⟨hg, hm, ho⟩
        have HB := Lib.hid (HB.out.trans (hb.mono HB.out.size))
        have HS : Hid (wc31.cell? ⟨w.heap.size, 0, none⟩ = some (.slice (some ⟨gO, 0, none⟩) n cO) ∧ wc31.cell? ⟨w.heap.size, 1, none⟩ = some (.slice (some ⟨gI, 0, none⟩) n cI)) := Lib.hid (boxG hb hz HS.out)
        have hz : (w.heap.size + 1 ≤ wc31.heap.size) := Nat.le_trans hz hb.size
        have F4 := Lib.hid (F4.out.keep hb)
        have F5 := Lib.hid (F5.out.keep hb)
        have N1 := Lib.hid (N1.out.keep hb (by omega))
        clear hg hm ho hb
        refine hK5.out _ _ HS.out (fun _ => ?_)
        obtain ⟨⟨c40, c41⟩, f40, f41, c50, c51, f50, f51, HSa, HSb, HP⟩ := Pz.made (co1 := co1) (co2 := co2) hlim F4.out F5.out HNE.out N1.out N2.out HD.out HB.out HS.out (by omega)
        refine wpAnyH_ready (rs := [8]) (by kernel_rfl) (by simp) (AllReadyH.cons rfl (fun K8 hK8 => ?_) AllReadyH.nil)
        refine branchS ((wc31.setCell ⟨wc27.heap.size, 0, none⟩ (.slice (some ⟨gm1, 0, none⟩) n n)).setCell ⟨wc27.heap.size, 1, none⟩ (.slice A1 n co1)) rfl (by kernel_rfl) (by go_simp) ?_
        refine hK8.out _ _ HSa (fun _ => ?_)
        refine wpAnyH_ready (rs := [9]) (by kernel_rfl) (by simp) (AllReadyH.cons rfl (fun K9 hK9 => ?_) AllReadyH.nil)
        refine branchS ((((wc31.setCell ⟨wc27.heap.size, 0, none⟩ (.slice (some ⟨gm1, 0, none⟩) n n)).setCell ⟨wc27.heap.size, 1, none⟩ (.slice A1 n co1)).setCell ⟨w0.heap.size, 0, none⟩ (.slice (some ⟨gm2, 0, none⟩) n n)).setCell ⟨w0.heap.size, 1, none⟩ (.slice A2 n co2)) rfl (by kernel_rfl) (by go_simp) ?_
        refine hK9.out _ _ HSb (fun _ => ?_)
        refine wpAnyH_done (by kernel_rfl) ?_ _
        simp only [Act.put]
        exact REST.out _ _ _ _ _ _ _ _ _ (Lib.hid HP)
    · refine branchG (some 4) (.pointer (some ⟨wq26.heap.size, 0, none⟩)) (wq26.alloc (.cells #[.slice none 0 0, .slice none 0 0] 82)) rfl (by kernel_rfl) (by go_simp) ?_
      have hb : Below wq26.heap.size wq26 (wq26.alloc (.cells #[.slice none 0 0, .slice none 0 0] 82)) := (Below.refl _ _).alloc (Nat.le_refl _) _
      have F4 : Hid (Bx0 (wq26.alloc (.cells #[.slice none 0 0, .slice none 0 0] 82)) wq26.heap.size) := Lib.hid (heap_alloc_new wq26 _)
      have hz4 : wq26.heap.size < (wq26.alloc (.cells #[.slice none 0 0, .slice none 0 0] 82)).heap.size := by simp
      have HNE : Hid (wq26.heap.size ≠ w0.heap.size) := Lib.hid (by have := F5.out.lt; omega)
      have HB := Lib.hid (HB.out.trans (hb.mono HB.out.size))
      have HS : Hid ((wq26.alloc (.cells #[.slice none 0 0, .slice none 0 0] 82)).cell? ⟨w.heap.size, 0, none⟩ = some (.slice (some ⟨gO, 0, none⟩) n cO) ∧ (wq26.alloc (.cells #[.slice none 0 0, .slice none 0 0] 82)).cell? ⟨w.heap.size, 1, none⟩ = some (.slice (some ⟨gI, 0, none⟩) n cI)) := Lib.hid (boxG hb hz HS.out)
      have hz : (w.heap.size + 1 ≤ (wq26.alloc (.cells #[.slice none 0 0, .slice none 0 0] 82)).heap.size) := Nat.le_trans hz hb.size
      have F5 := Lib.hid (F5.out.keep hb)
      clear hb
      generalize wq26.alloc (.cells #[.slice none 0 0, .slice none 0 0] 82) = wq32 at *
      refine hK6.out _ _ HS.out (fun _ => ?_)
      simp only [Act.put, List.setIfInBounds_toArray, List.set_cons_zero, List.set_cons_succ]
      refine wpAnyH_ready (rs := [2]) (by kernel_rfl) (by simp) (AllReadyH.cons rfl (fun K2 hK2 => ?_) AllReadyH.nil)
      rw [if_pos (by kernel_rfl)]
      go_simp
      go_at_call 38
      refine (newWalk_any (HO.out.keep (HB.out.mono hlim)) hgO (Nat.le_trans hlim HB.out.size) hn).mono ?_
      rintro e wc33 ⟨gm1, A1, co1, rfl, hg, hm, ho, hb⟩
      have N1 : Hid (Nw wc33 wq32.heap.size lim n (outN G) gm1 A1) := Lib.hid ⟨hg, hm, ho⟩
      have HB := Lib.hid (HB.out.trans (hb.mono HB.out.size))
      have HS : Hid (wc33.cell? ⟨w.heap.size, 0, none⟩ = some (.slice (some ⟨gO, 0, none⟩) n cO) ∧ wc33.cell? ⟨w.heap.size, 1, none⟩ = some (.slice (some ⟨gI, 0, none⟩) n cI)) := Lib.hid (boxG hb hz HS.out)
      have hz : (w.heap.size + 1 ≤ wc33.heap.size) := Nat.le_trans hz hb.size
      have F4 := Lib.hid (F4.out.keep hb)
      have F5 := Lib.hid (F5.out.keep hb)
      clear hg hm ho hb
      refine hK2.out _ _ HS.out (fun _ => ?_)
      refine wpAnyH_ready (rs := [5]) (by kernel_rfl) (by simp) (AllReadyH.cons rfl (fun K5 hK5 => ?_) AllReadyH.nil)
      rw [if_pos (by kernel_rfl)]
      go_simp
      go_at_call 38
      refine (newWalk_any (HI.out.keep (HB.out.mono hlim)) hgI (Nat.le_trans hlim HB.out.size) hn).mono ?_
      rintro e wc34 ⟨gm2, A2, co2, rfl, hg, hm, ho, hb⟩
      have HD : Hid (Apt n gm1 gm2 A1 A2) := Lib.hid (N1.out.apt hg ho)
      have N2 : Hid (Nw wc34 wc33.heap.size lim n (inN G) gm2 A2) := Lib.hid ⟨hg, hm, ho⟩
      have HB := Lib.hid (HB.out.trans (hb.mono HB.out.size))
      have HS : Hid (wc34.cell? ⟨w.heap.size, 0, none⟩ = some (.slice (some ⟨gO, 0, none⟩) n cO) ∧ wc34.cell? ⟨w.heap.size, 1, none⟩ = some (.slice (some ⟨gI, 0, none⟩) n cI)) := Lib.hid (boxG hb hz HS.out)
      have hz : (w.heap.size + 1 ≤ wc34.heap.size) := Nat.le_trans hz hb.size
      have F4 := Lib.hid (F4.out.keep hb)
      have F5 := Lib.hid (F5.out.keep hb)
      have N1 := Lib.hid (N1.out.keep hb (by omega))
      clear hg hm ho hb
      refine hK5.out _ _ HS.out (fun _ => ?_)
      obtain ⟨⟨c40, c41⟩, f40, f41, c50, c51, f50, f51, HSa, HSb, HP⟩ := Pz.made (co1 := co1) (co2 := co2) hlim F4.out F5.out HNE.out N1.out N2.out HD.out HB.out HS.out (by omega)
      refine wpAnyH_ready (rs := [8]) (by kernel_rfl) (by simp) (AllReadyH.cons rfl (fun K8 hK8 => ?_) AllReadyH.nil)
      refine branchS ((wc34.setCell ⟨wq26.heap.size, 0, none⟩ (.slice (some ⟨gm1, 0, none⟩) n n)).setCell ⟨wq26.heap.size, 1, none⟩ (.slice A1 n co1)) rfl (by kernel_rfl) (by go_simp) ?_
      refine hK8.out _ _ HSa (fun _ => ?_)
      refine wpAnyH_ready (rs := [9]) (by kernel_rfl) (by simp) (AllReadyH.cons rfl (fun K9 hK9 => ?_) AllReadyH.nil)
      refine branchS ((((wc34.setCell ⟨wq26.heap.size, 0, none⟩ (.slice (some ⟨gm1, 0, none⟩) n n)).setCell ⟨wq26.heap.size, 1, none⟩ (.slice A1 n co1)).setCell ⟨w0.heap.size, 0, none⟩ (.slice (some ⟨gm2, 0, none⟩) n n)).setCell ⟨w0.heap.size, 1, none⟩ (.slice A2 n co2)) rfl (by kernel_rfl) (by go_simp) ?_
      refine hK9.out _ _ HSb (fun _ => ?_)
      refine wpAnyH_done (by kernel_rfl) ?_ _
      simp only [Act.put]
      exact REST.out _ _ _ _ _ _ _ _ _ (Lib.hid HP)
end Go.Proofs.Ytmbjmibjobpdgaa
