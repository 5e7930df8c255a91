/-
  The document's reader: Type, of records.
-/
import Derived.Test.YteclpehbpicpaaaJdm
namespace Go.Proofs.Yteclpehbpicpaaa
open Go.RowKit

set_option maxRecDepth 20000 in
set_option maxHeartbeats 2000000 in
theorem RType_6 {w : World} {g : Nat} {s : ByteArray} {a p n : Nat} {d : Int} {l0 : List UInt8} {F : Nat → List UInt8 → Except Nat (TT × Nat × List UInt8)} (hd : -1000 ≤ d ∧ d ≤ 1000) (hF : ∀ p l t p' r, F p l = .ok (t, p', r) → p' ≤ 200)
    (ih : ∀ (w : World) (a p : Nat), Rdr w g s a 0 p → a ≤ s.size → p ≤ 200 → Calls Try.prog 65 #[.pointer (some ⟨g, 0, none⟩), .int .i64 (d + 1)] w fun x w' => TEnds s w g (F p (left s a)) x w')
    (hi : mP (left s (a + 1)) = .ok (n, l0)) (hn2 : n ≤ 200) (h : Rdr w g s a 0 p) (hp : ¬ (12 < d ∨ 200 < p + 1)) (ha : a < s.size) (hs : s.size ≤ 1000000000) (hkb : ((s[a].toNat : Nat) : Int) = 6) :
    Calls Try.prog 65 #[.pointer (some ⟨g, 0, none⟩), .int .i64 d] w fun x w' => TEnds s w g (tendP (titemsP F n (p + 1) l0)) x w' := by
  have hW : Past g w (w.alloc (.cells #[.int .i64 0, .slice none 0 0, .slice none 0 0] 30)) := (Past.refl g w).alloc _
  have hR := Bt.new w #[.int .i64 0, .slice none 0 0, .slice none 0 0]
  have hg := h.lt
  have B := begin_ok (d := d) (h.alloc (.cells #[.int .i64 0, .slice none 0 0, .slice none 0 0] 30)) (by omega)
  rw [if_neg (by omega)] at B
  have HR := Lib.hid hR
  have HW := Lib.hid hW
  have HG := Lib.hid hg
  have HP := Lib.hid hp
  have HI := Lib.hid hi
  have HIH := Lib.hid ih
  have HFF := Lib.hid hF
  have SF := float_store
  obtain ⟨i0, hii, hz0, hz1, hz2⟩ := info_parts info30z
  obtain ⟨i9, hi9, hy0, hy1, hy2⟩ := info_parts info9z
  have hn3 : (n : Int) ≤ 200 := by omega
  clear h hR hW hp hi ih hF
  go_enter Try.func65, Try.ntmps65
  go_wp2_with (first
    | (go_at_call 92; refine B.mono ?_; rintro x w1 ⟨rfl, hp1, h1⟩; have Y := Byte_ok h1 ha (by omega); rw [hkb] at Y)
    | (go_at_call 58; refine Y.mono ?_; rintro x w2 ⟨rfl, h2, hp2⟩; obtain ⟨d0, d1, d2, d3, df⟩ := h2.cells; have hg2 : g < w2.heap.size := h2.lt; have hR2 := HR.out.past (hp1.trans hp2) (by have := HG.out; omega); obtain ⟨r0, r1, r2, rf, rl⟩ := hR2.cells; have h2v := h2.alloc (.cells #[.int .i64 6, .slice none 0 0, .slice none 0 0] 30); have I := many_ok h2v ha hs; rw [HI.out] at I)
    | (go_at_call 93; refine I.mono ?_; rintro x w3 ⟨hp3, rfl, a3, ha3, hl3, h3⟩))
  obtain ⟨wv, hwv⟩ : ∃ wv, wv = w2.alloc (.cells #[.int .i64 6, .slice none 0 0, .slice none 0 0] 30) := ⟨_, rfl⟩
  rw [← hwv] at h2v hp3
  have hV0 : Bt wv w2.heap.size #[.int .i64 6, .slice none 0 0, .slice none 0 0] := by rw [hwv]; exact Bt.new _ _
  have hRv : Bt wv w.heap.size #[.int .i64 0, .slice none 0 0, .slice none 0 0] := by rw [hwv]; exact hR2.alloc _
  have hPv : Past g w wv := by rw [hwv]; exact HW.out.trans (hp1.trans (hp2.trans ((Past.refl _ _).alloc _)))
  have hgs : w.heap.size < w2.heap.size ∧ g < w2.heap.size ∧ g + 1 ≤ w.heap.size := ⟨rl, hg2, hg⟩
  have hws : w2.heap.size < wv.heap.size := by rw [hwv]; simp
  have HV3 := Lib.hid (hV0.past hp3 (by omega))
  have HR3 := Lib.hid (hRv.past hp3 (by omega))
  have HP3 := Lib.hid (hPv.trans hp3)
  have H3 := Lib.hid h3
  have HGS := Lib.hid hgs
  have HL3 := Lib.hid hl3
  have HW3 := Lib.hid (show w2.heap.size < w3.heap.size by have := hp3.size; omega)
  have hb3 : w.heap.size ≤ w3.heap.size := by have := hp3.size; omega
  have HB3 := Lib.hid hb3
  clear hb3
  clear hwv hV0 hRv hPv h2v Y B I h1 hp1 hp2 hR2 r0 r1 r2 rf rl d0 d1 d2 d3 df h2 hgs hws h3 hl3 hp3
  go_loopw [7] (fun iv wr => ∃ (i : Nat), i ≤ n ∧ iv = .int .i64 i ∧ Past g w wr ∧ w3.heap.size ≤ wr.heap.size ∧ Bt wr w.heap.size #[.int .i64 0, .slice none 0 0, .slice none 0 0] ∧
    ((∃ (L : List (Array Value × TT)) (N : List ByteArray) (xs : List (ByteArray × TT)) (nv itv : Value) (pp aa : Nat), L.length = i ∧ N.length = i ∧ xs.map (·.2) = L.map (·.2) ∧ xs.map (·.1) = N ∧ Hid (titemsP F n (p + 1) l0 = tpre xs (titemsP F (n - i) pp (left s aa))) ∧ aa ≤ s.size ∧ pp ≤ 200 ∧ Rdr wr g s aa 0 pp ∧ TRc wr w3.heap.size nv N itv L ∧ Bt wr w2.heap.size #[.int .i64 6, nv, itv])
    ∨ (∃ (c aa pp : Nat) (A : Option Addr) (q ca : Nat) (B : Option Addr) (m cb : Nat), Hid (titemsP F n (p + 1) l0 = .error c) ∧ c ≠ 0 ∧ pp ≤ 1000000 ∧ Rdr wr g s aa c pp ∧ Bt wr w2.heap.size #[.int .i64 6, .slice A q ca, .slice B m cb]))) (fun iv _ => n - (intOf iv).toNat)
  case atStart => exact ⟨0, by omega, rfl, HP3.out, Nat.le_refl _, HR3.out, .inl ⟨[], [], [], .slice none 0 0, .slice none 0 0, p + 1, a3, rfl, rfl, rfl, rfl, Lib.hid (by rw [← HL3.out, tpre_nil]; rfl), ha3, by have := HP.out; omega, H3.out, ⟨⟨World.ownsRow_nil _ _ _ _, fun x hx => by cases hx⟩, ⟨World.ownsRow_nil _ _ _ _, fun x hx => by cases hx⟩, fun k hk => by cases hk⟩, HV3.out⟩⟩
  case round =>
    obtain ⟨i, hile, rfl, hpr, hsz, hRb, hst⟩ := hrel
    rcases hst with ⟨L, N, xs, nv, itv, pp, aa, hLi, hNi, hx2, hx1, hit, haa, hpp, hr, hRec, hBx⟩ | ⟨c, aa, pp, A, q, ca, B, m, cb, hit, hc0, hpp, hr, hBx⟩
    · by_cases hlt : i < n
      · obtain ⟨d0, d1, d2, d3, df⟩ := hr.cells
        obtain ⟨v0, v1, v2, vf, vl⟩ := hBx.cells
        have hO := hRec.1.1
        have HBx := Lib.hid hBx
        have HR := Lib.hid hr
        have S := fun W (hW : Rdr W g s aa 0 pp) => Str_ok (most := 30) hW haa hs (by omega)
        have hgw2 : w2.heap.size ≠ g := by have := HGS.out; omega
        have hg3 : g < w3.heap.size := by have := HGS.out; have := HW3.out; omega
        have hgwr : w2.heap.size < wr.heap.size := hBx.lt
        have hnne : nv.ownBlock ≠ some w2.heap.size := fun e => by have := hO.lt _ e; have := HW3.out; omega
        have hL : N.length ≤ 200 := by omega
        have HH := Lib.hid (And.intro hRec (And.intro hit (And.intro hx2 (And.intro hx1 (And.intro hLi hNi)))))
        have HPR := Lib.hid hpr
        have HSZ := Lib.hid hsz
        have HRB := Lib.hid hRb
        have hd1 : IntKind.i64.wrap (d + 1) = d + 1 := by rw [IntKind.wrap_i64]; omega
        clear hRec hBx hit hx2 hx1 hLi hNi hpr hsz hRb hr
        go_wp2_with fail
        go_region_law (first | (refine step_append_lies _ rfl (.tmp 61) (.tmp 64) 24 rfl w3.heap.size 9 i9 _ 1 16 Try.underlying24 hi9 hy0 hy1 hy2 rfl (by decide) nv N.length _ (by simp [Act.eval]) hO4 ⟨w4.heap.size, 0, none⟩ 1 1 [.string t4] (by simp [Act.eval]) rfl hnews4 hone4 (by decide) (by unfold maxLen; omega) (by omega) hbase4 _ rfl ?_; intro g5 cap5 w5 hown5 hgrow5 hat5 hlt5; have hBx5 := (hgrow5.block w2.heap.size hBx4.lt (fun e => hnne e.symm)).trans hBx4; obtain ⟨z0, z1, z2, zf, zl⟩ := Bt.cells hBx5) | (go_simp; go_at_call 30; refine (S _ (by exact HR.out)).mono ?_; rintro x w4 hE4; obtain ⟨t4, rfl, ht4, hp4d, a4, e4, r4, hr4, C4, hstep4, hr200⟩ := TStrEnd HFF.out HIH.out hpp hE4; have hp4 := ((Past.refl g wr).drew).trans hp4d; obtain ⟨y0, y1, y2, yf, yl⟩ := (HBx.out.past hp4 hgw2).cells; have hBx4 := (HBx.out.past hp4 hgw2).alloc (.cells #[.string t4] 9); have hO4 := (owns_past hO hp4 hg3).alloc (.cells #[.string t4] 9); have hnews4 := new1 w4 t4; have hone4 : ∀ u ∈ [Value.string t4], u.oneCell' = true := (by simp [Value.oneCell']); have hbase4 : w3.heap.size ≤ (w4.alloc (.cells #[.string t4] 9)).heap.size := Nat.le_trans (Nat.le_trans HSZ.out hp4.size) (by simp); have HC4 := Lib.hid C4; have HS4 := Lib.hid (And.intro hstep4 hr200); have HR4 := Lib.hid hr4; have HT4 := Lib.hid ht4; clear hE4 C4 hstep4 hr200 hr4 ht4))
        all_goals
          obtain ⟨hRec, hit, hx2, hx1, hLi, hNi⟩ := HH.out
          have hlow : ∀ k, nv.ownBlock = some k → w3.heap.size ≤ k := fun k e => (hO.lt k e).1
          have hwR : w.heap.size ≠ g := by have := HG.out; omega
          have hw2R : w2.heap.size ≠ w.heap.size := by have := HGS.out; omega
          have hw3R : w.heap.size < w3.heap.size := by have := HGS.out; have := HW3.out; omega
          have hP5 := ((HPR.out.trans hp4).alloc (.cells #[.string t4] 9)).grown hgrow5 (fun k e => Nat.le_trans HB3.out (hlow k e))
          have hP6 := hP5.setNew (Nat.le_of_lt HGS.out.1) 1 (.slice (some ⟨g5, 0, none⟩) (N.length + 1) cap5)
          have hR4 : Bt (w4.alloc (.cells #[.string t4] 9)) w.heap.size #[.int .i64 0, .slice none 0 0, .slice none 0 0] := (HRB.out.past hp4 hwR).alloc _
          have hR5 : Bt w5 w.heap.size #[.int .i64 0, .slice none 0 0, .slice none 0 0] := (hgrow5.block w.heap.size hR4.lt (fun e => by have := hlow _ e.symm; omega)).trans hR4
          have hR6 := hR5.other hw2R 1 (.slice (some ⟨g5, 0, none⟩) (N.length + 1) cap5)
          have hV6 : Bt (w5.setCell ⟨w2.heap.size, 1, none⟩ (.slice (some ⟨g5, 0, none⟩) (N.length + 1) cap5)) w2.heap.size #[.int .i64 6, (.slice (some ⟨g5, 0, none⟩) (N.length + 1) cap5), itv] := Bt.set hBx5 1 _
          have hS6 : w3.heap.size ≤ (w5.setCell ⟨w2.heap.size, 1, none⟩ (.slice (some ⟨g5, 0, none⟩) (N.length + 1) cap5)).heap.size := by have := hgrow5.size; simp [World.setCell]; omega
          have hr6 : Rdr (w5.setCell ⟨w2.heap.size, 1, none⟩ (.slice (some ⟨g5, 0, none⟩) (N.length + 1) cap5)) g s a4 e4 pp := by
            have h4a := HR4.out.alloc (.cells #[.string t4] 9)
            exact Rdr.other ((hgrow5.block g h4a.lt (fun e => by have := hlow _ e.symm; omega)).trans h4a) hgw2 _ _
          have hRec6 := hRec.name (u := (.slice (some ⟨g5, 0, none⟩) (N.length + 1) cap5)) hp4 hg3 HW3.out HT4.out hown5 hgrow5 (hat5.imp (fun e => e.symm) (fun e => by rw [← e]; rfl))
          obtain ⟨hStep, hr2⟩ := HS4.out
          have C := HC4.out
          obtain ⟨w6, hw6⟩ : ∃ w6, w6 = w5.setCell ⟨w2.heap.size, 1, none⟩ (.slice (some ⟨g5, 0, none⟩) (N.length + 1) cap5) := ⟨_, rfl⟩
          rw [← hw6] at hP6 hR6 hV6 hS6 hr6 hRec6 ⊢
          clear hP5 hR4 hR5 hgrow5 hown5 hat5 hlt5 hBx5 z0 z1 z2 zf zl y0 y1 y2 yf yl hBx4 hO4 hnews4 hone4 hbase4 v0 v1 v2 vf vl d0 d1 d2 d3 df hO hgwr hw6 hlow hRec
          obtain ⟨v0, v1, v2, vf, vl⟩ := hV6.cells
          have hO := hRec6.2.1.1
          have hitne : itv.ownBlock ≠ some w2.heap.size := fun e => by have := hO.lt _ e; have := HW3.out; omega
          have hgwr : w2.heap.size < w6.heap.size := hV6.lt
          have hL2 : L.length ≤ 200 := by omega
          have HV6 := Lib.hid hV6
          have HR6 := Lib.hid hR6
          have HP6 := Lib.hid hP6
          have HS6 := Lib.hid hS6
          have Hr6 := Lib.hid hr6
          have HREC := Lib.hid hRec6
          have HST := Lib.hid (And.intro hStep hr2)
          have HQ := Lib.hid (And.intro hit (And.intro hx2 (And.intro hx1 (And.intro hLi hNi))))
          clear hV6 hR6 hP6 hS6 hr6 hRec6 hStep hr2 hit hx2 hx1 hLi hNi
          go_wp2_with fail
          go_region_law (first | (refine step_append_lies _ rfl (.tmp 68) (.tmp 73) 28 rfl w3.heap.size 30 i0 _ 3 56 Try.underlying28 hii hz0 hz1 hz2 rfl (by decide) itv L.length _ (by simp [Act.eval]) hO7 ⟨w7.heap.size, 0, none⟩ 1 1 [.int .i64 b0, .slice b1 b2 b3, .slice b4 b5 b6] (by simp [Act.eval]) rfl hnews7 hone7 (by decide) (by unfold maxLen; omega) (by omega) hbase7 _ rfl ?_; intro g8 cap8 w8 hown8 hgrow8 hat8 hlt8; have hBx8 := (hgrow8.block w2.heap.size hBx7.lt (fun e => hitne e.symm)).trans hBx7; obtain ⟨z0, z1, z2, zf, zl⟩ := Bt.cells hBx8) | (go_simp; go_at_call 65; refine (C _ (by exact Hr6.out)).mono ?_; rintro x w7 hE7; have hp7 := ((Past.refl g w6).drew).trans hE7.1; obtain ⟨b0, b1, b2, b3, b4, b5, b6, rfl⟩ := hE7.form; obtain ⟨y0, y1, y2, yf, yl⟩ := (HV6.out.past hp7 hgw2).cells; have hBx7 := (HV6.out.past hp7 hgw2).alloc (.cells #[.int .i64 b0, .slice b1 b2 b3, .slice b4 b5 b6] 30); have hO7 := (owns_past hO hp7 hg3).alloc (.cells #[.int .i64 b0, .slice b1 b2 b3, .slice b4 b5 b6] 30); have hnews7 := new3 w7 b0 b1 b2 b3 b4 b5 b6; have hone7 : ∀ u ∈ [Value.int .i64 b0, .slice b1 b2 b3, .slice b4 b5 b6], u.oneCell' = true := (by simp [Value.oneCell']); have hbase7 : w3.heap.size ≤ (w7.alloc (.cells #[.int .i64 b0, .slice b1 b2 b3, .slice b4 b5 b6] 30)).heap.size := Nat.le_trans (Nat.le_trans HS6.out hp7.size) (by simp); have HE7 := Lib.hid hE7; clear hE7))
          all_goals
            go_wp2_with fail
            go_roundw
            case measure => simp [intOf]; omega
            case rel =>
              have E := HE7.out
              obtain ⟨hit, hx2, hx1, hLi, hNi⟩ := HQ.out
              obtain ⟨hStep, hr2⟩ := HST.out
              have hlow : ∀ k, itv.ownBlock = some k → w3.heap.size ≤ k := fun k e => (hO.lt k e).1
              have hP8 := ((HP6.out.trans hp7).alloc (.cells #[.int .i64 b0, .slice b1 b2 b3, .slice b4 b5 b6] 30)).grown hgrow8 (fun k e => Nat.le_trans HB3.out (hlow k e))
              have hP9 := hP8.setNew (Nat.le_of_lt HGS.out.1) 2 (.slice (some ⟨g8, 0, none⟩) (L.length + 1) cap8)
              have hR7 : Bt (w7.alloc (.cells #[.int .i64 b0, .slice b1 b2 b3, .slice b4 b5 b6] 30)) w.heap.size #[.int .i64 0, .slice none 0 0, .slice none 0 0] := (HR6.out.past hp7 hwR).alloc _
              have hR8 : Bt w8 w.heap.size #[.int .i64 0, .slice none 0 0, .slice none 0 0] := (hgrow8.block w.heap.size hR7.lt (fun e => by have := hlow _ e.symm; omega)).trans hR7
              have hR9 := hR8.other hw2R 2 (.slice (some ⟨g8, 0, none⟩) (L.length + 1) cap8)
              have hV9 : Bt (w8.setCell ⟨w2.heap.size, 2, none⟩ (.slice (some ⟨g8, 0, none⟩) (L.length + 1) cap8)) w2.heap.size #[.int .i64 6, (.slice (some ⟨g5, 0, none⟩) (N.length + 1) cap5), (.slice (some ⟨g8, 0, none⟩) (L.length + 1) cap8)] := Bt.set hBx8 2 _
              have hS9 : w3.heap.size ≤ (w8.setCell ⟨w2.heap.size, 2, none⟩ (.slice (some ⟨g8, 0, none⟩) (L.length + 1) cap8)).heap.size := by have := hgrow8.size; simp [World.setCell]; omega
              have rdr : ∀ {a e p : Int}, Rdr w7 g s a e p → Rdr (w8.setCell ⟨w2.heap.size, 2, none⟩ (.slice (some ⟨g8, 0, none⟩) (L.length + 1) cap8)) g s a e p := fun h4 => by
                have h4a := h4.alloc (.cells #[.int .i64 b0, .slice b1 b2 b3, .slice b4 b5 b6] 30)
                exact Rdr.other ((hgrow8.block g h4a.lt (fun e => by have := hlow _ e.symm; omega)).trans h4a) hgw2 _ _
              have hni : n - i = (n - (i + 1)) + 1 := by omega
              refine ⟨i + 1, by omega, by go_num, hP9, hS9, hR9, ?_⟩
              cases hre : r4 with
              | error c =>
                rw [hre] at E hStep
                obtain ⟨_, _, hc0, a', p', hp', h7⟩ := E
                exact .inr ⟨c, a', p', _, _, _, _, _, _, Lib.hid (by rw [hit.out, hni, hStep]; rfl), hc0, hp', rdr h7, hV9⟩
              | ok q =>
                obtain ⟨t, p1, l1⟩ := q
                rw [hre] at E hStep
                obtain ⟨_, ⟨v, hve, hv⟩, a7, ha7, hl7, h7⟩ := E
                cases hve
                have hv' := hv.imp (Q := fun b => w6.heap.size ≤ b) fun b hb _ => Nat.le_trans ((Past.refl g w6).drew).size hb
                exact .inl ⟨L ++ [(#[.int .i64 b0, .slice b1 b2 b3, .slice b4 b5 b6], t)], N ++ [t4], xs ++ [(t4, t)], _, _, p1, a7, by simp [hLi], by simp [hNi], by simp [hx2], by simp [hx1], Lib.hid (by rw [hit.out, hni, hStep, tstepP_ok, tpre_pre, hl7]), ha7, hr2 _ _ _ hre, rdr h7, HREC.out.item hp7 hg3 HW3.out HS6.out hv' hown8 hgrow8 (hat8.imp (fun e => e.symm) (fun e => by rw [← e]; rfl)), hV9⟩
      · obtain ⟨d0, d1, d2, d3, df⟩ := hr.cells
        obtain rfl : i = n := by omega
        obtain ⟨A, c, ca, B, m, cb, rfl, rfl, hvo⟩ := TOwn.tree (w := wr) (lo := w3.heap.size) (base := w3.heap.size) (Nat.le_refl _) (fun b hb => hb.1) hRec.1 hRec.2.1 (by rw [hNi, hLi]) xs hx2 hx1
        obtain ⟨v0, v1, v2, vf, vl⟩ := hBx.cells
        obtain ⟨r0, r1, r2, rf, rl⟩ := hRb.cells
        have hres : tendP (titemsP F i (p + 1) l0) = .ok (trec xs, pp, left s aa) := by
          rw [hit.out, Nat.sub_self, titemsP]
          simp [tpre, tendP]
        have HRES := Lib.hid hres
        have hwR : w.heap.size ≠ g := by have := HG.out; omega
        have hw3R : w.heap.size < w3.heap.size := by have := HGS.out; have := HW3.out; omega
        have HRb := Lib.hid hRb
        have HPr := Lib.hid hpr
        have HR0 := Lib.hid hr
        have HVO := Lib.hid hvo
        clear hRb hpr hr hvo hit hRec hBx hres hx2 hx1 hNi hLi
        go_wp2_with fail
        refine bodyPost_ret (results_box3 rfl _ _ w.heap.size (.int .i64 6) (.slice A c ca) (.slice B m cb) rfl (HRb.out.put3 _ _ _)) rfl ?_
        show TEnds s w g (tendP (titemsP F i (p + 1) l0)) _ _
        rw [HRES.out]
        refine ⟨?_, ⟨_, rfl, ?_⟩, aa, haa, rfl, ?_⟩
        · exact HPr.out.put3 (Nat.le_refl _) _ _ _
        · exact (HVO.out.put3 (by omega) _ _ _).imp fun b hb _ => by omega
        · exact HR0.out.put3 hwR _ _ _
    · obtain ⟨d0, d1, d2, d3, df⟩ := hr.cells
      obtain ⟨v0, v1, v2, vf, vl⟩ := hBx.cells
      obtain ⟨r0, r1, r2, rf, rl⟩ := hRb.cells
      have tc : ((c : Int) == 0) = false := by simp; omega
      have HIT := Lib.hid hit.out
      have hwR : w.heap.size ≠ g := by have := HG.out; omega
      have HRb := Lib.hid hRb
      have HPr := Lib.hid hpr
      have HR0 := Lib.hid hr
      clear hRb hpr hr hit hBx
      by_cases hlt : i < n
      all_goals
        go_wp2_with fail
        refine bodyPost_ret (results_box3 rfl _ _ w.heap.size (.int .i64 6) (.slice A q ca) (.slice B m cb) rfl (HRb.out.put3 _ _ _)) rfl ?_
        show TEnds s w g (tendP (titemsP F n (p + 1) l0)) _ _
        rw [HIT.out]
        refine ⟨?_, ⟨6, A, q, ca, B, m, cb, rfl⟩, hc0, aa, pp, hpp, ?_⟩
        · exact HPr.out.put3 (Nat.le_refl _) _ _ _
        · exact HR0.out.put3 hwR _ _ _
end Go.Proofs.Yteclpehbpicpaaa
