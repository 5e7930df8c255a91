/-
  The document's reader: Value, of records.
  The document's reader: Value, whole.
  The document's reader: Begin.
  Contract of the program's readUint.
-/
import Derived.Test.YtekojglcbalhnaaGreatDoorM14
import Derived.Test.YtekojglcbalhnaaGreatDoorM12
import Derived.Laws.BitsAllLaws
namespace Go.Proofs.YtekojglcbalhnaaGreatDoor
open Go.RowKit

theorem stepP_ok (nm : ByteArray) (t : VT) (p1 : Nat) (l1 : List UInt8) (K : Nat → List UInt8 → Except Nat (List (ByteArray × VT) × Nat × List UInt8)) : stepP nm (.ok (t, p1, l1)) K = pre [(nm, t)] (K p1 l1) := rfl
set_option maxRecDepth 20000 in
set_option maxHeartbeats 2000000 in
theorem RValue_6 {w : World} {g : Nat} {s : ByteArray} {a p n : Nat} {d : Int} {l0 : List UInt8} {F : Nat → List UInt8 → Except Nat (VT × Nat × List UInt8)} (hd : -1000 ≤ d ∧ d ≤ 1000) (hF : ∀ p l t p' r, F p l = .ok (t, p', r) → p' ≤ 200)
    (ih : ∀ (w : World) (a p : Nat), Rdr w g s a 0 p → a ≤ s.size → p ≤ 200 → Calls Tryz.prog 115 #[.pointer (some ⟨g, 0, none⟩), .int .i64 (d + 1)] w fun x w' => VEnds s w g (F p (left s a)) x w')
    (hi : mP (left s (a + 1)) = .ok (n, l0)) (hn2 : n ≤ 200) (h : Rdr w g s a 0 p) (hp : ¬ (12 < d ∨ 200 < p + 1)) (ha : a < s.size) (hs : s.size ≤ 1000000000) (hkb : ((s[a].toNat : Nat) : Int) = 6) :
    Calls Tryz.prog 115 #[.pointer (some ⟨g, 0, none⟩), .int .i64 d] w fun x w' => VEnds s w g (endP 6 (itemsP F 6 n (p + 1) l0)) x w' := by
  have hW : Past g w (w.alloc (.cells #[.int .i64 0, .int .i64 0, .float .f64 0, .string ⟨#[]⟩, .slice none 0 0, .slice none 0 0] 28)) := (Past.refl g w).alloc _
  have hR := Bx.new w #[.int .i64 0, .int .i64 0, .float .f64 0, .string ⟨#[]⟩, .slice none 0 0, .slice none 0 0]
  have hg := h.lt
  have B := begin_ok (d := d) (h.alloc (.cells #[.int .i64 0, .int .i64 0, .float .f64 0, .string ⟨#[]⟩, .slice none 0 0, .slice none 0 0] 28)) (by omega)
  rw [if_neg (by omega)] at B
  have HR := Lib.hid hR
  have HW := Lib.hid hW
  have HG := Lib.hid hg
  have HP := Lib.hid hp
  have HI := Lib.hid hi
  have HIH := Lib.hid ih
  have HFF := Lib.hid hF
  have SF := float_store
  obtain ⟨i0, hii, hz0, hz1, hz2⟩ := info_parts info27z
  obtain ⟨i9, hi9, hy0, hy1, hy2⟩ := info_parts info9z
  have hn3 : (n : Int) ≤ 200 := by omega
  clear h hR hW hp hi ih hF
  go_enter Tryz.func115, Tryz.ntmps115
  go_wp2_with (first
    | (go_at_call 144; refine B.mono ?_; rintro x w1 ⟨rfl, hp1, h1⟩; have Y := Byte_ok h1 ha (by omega); rw [hkb] at Y)
    | (go_at_call 49; refine Y.mono ?_; rintro x w2 ⟨rfl, h2, hp2⟩; obtain ⟨d0, d1, d2, d3, df⟩ := h2.cells; have hg2 : g < w2.heap.size := h2.lt; have hR2 := HR.out.past (hp1.trans hp2) (by have := HG.out; omega); obtain ⟨r0, r1, r2, r3, r4, r5, rf, rl⟩ := hR2.cells; have h2v := h2.alloc (.cells #[.int .i64 6, .int .i64 0, .float .f64 0, .string ⟨#[]⟩, .slice none 0 0, .slice none 0 0] 28); have I := many_ok h2v ha hs; rw [HI.out] at I)
    | (go_at_call 147; refine I.mono ?_; rintro x w3 ⟨hp3, rfl, a3, ha3, hl3, h3⟩))
  obtain ⟨wv, hwv⟩ : ∃ wv, wv = w2.alloc (.cells #[.int .i64 6, .int .i64 0, .float .f64 0, .string ⟨#[]⟩, .slice none 0 0, .slice none 0 0] 28) := ⟨_, rfl⟩
  rw [← hwv] at h2v hp3
  have hV0 : Bx wv w2.heap.size #[.int .i64 6, .int .i64 0, .float .f64 0, .string ⟨#[]⟩, .slice none 0 0, .slice none 0 0] := by rw [hwv]; exact Bx.new _ _
  have hRv : Bx wv w.heap.size #[.int .i64 0, .int .i64 0, .float .f64 0, .string ⟨#[]⟩, .slice none 0 0, .slice none 0 0] := by rw [hwv]; exact hR2.alloc _
  have hPv : Past g w wv := by rw [hwv]; exact HW.out.trans (hp1.trans (hp2.trans ((Past.refl _ _).alloc _)))
  have hgs : w.heap.size < w2.heap.size ∧ g < w2.heap.size ∧ g + 1 ≤ w.heap.size := ⟨rl, hg2, hg⟩
  have hws : w2.heap.size < wv.heap.size := by rw [hwv]; simp
  have HV3 := Lib.hid (hV0.past hp3 (by omega))
  have HR3 := Lib.hid (hRv.past hp3 (by omega))
  have HP3 := Lib.hid (hPv.trans hp3)
  have H3 := Lib.hid h3
  have HGS := Lib.hid hgs
  have HL3 := Lib.hid hl3
  have HW3 := Lib.hid (show w2.heap.size < w3.heap.size by have := hp3.size; omega)
  have hb3 : w.heap.size ≤ w3.heap.size := by have := hp3.size; omega
  have HB3 := Lib.hid hb3
  clear hb3
  clear hwv hV0 hRv hPv h2v Y B I h1 hp1 hp2 hR2 r0 r1 r2 r3 r4 r5 rf rl d0 d1 d2 d3 df h2 hgs hws h3 hl3 hp3
  go_loopw [9] (fun iv wr => ∃ (i : Nat), i ≤ n ∧ iv = .int .i64 i ∧ Past g w wr ∧ w3.heap.size ≤ wr.heap.size ∧ Bx wr w.heap.size #[.int .i64 0, .int .i64 0, .float .f64 0, .string ⟨#[]⟩, .slice none 0 0, .slice none 0 0] ∧
    ((∃ (L : List (Array Value × VT)) (N : List ByteArray) (xs : List (ByteArray × VT)) (nv itv : Value) (pp aa : Nat), L.length = i ∧ N.length = i ∧ xs.map (·.2) = L.map (·.2) ∧ xs.map (·.1) = N ∧ Hid (itemsP F 6 n (p + 1) l0 = pre xs (itemsP F 6 (n - i) pp (left s aa))) ∧ aa ≤ s.size ∧ pp ≤ 200 ∧ Rdr wr g s aa 0 pp ∧ Rec wr w3.heap.size nv N itv L ∧ Bx wr w2.heap.size #[.int .i64 6, .int .i64 0, .float .f64 0, .string ⟨#[]⟩, nv, itv])
    ∨ (∃ (c aa pp : Nat) (A : Option Addr) (q ca : Nat) (B : Option Addr) (m cb : Nat), Hid (itemsP F 6 n (p + 1) l0 = .error c) ∧ c ≠ 0 ∧ pp ≤ 1000000 ∧ Rdr wr g s aa c pp ∧ Bx wr w2.heap.size #[.int .i64 6, .int .i64 0, .float .f64 0, .string ⟨#[]⟩, .slice A q ca, .slice B m cb]))) (fun iv _ => n - (intOf iv).toNat)
  case atStart => exact ⟨0, by omega, rfl, HP3.out, Nat.le_refl _, HR3.out, .inl ⟨[], [], [], .slice none 0 0, .slice none 0 0, p + 1, a3, rfl, rfl, rfl, rfl, Lib.hid (by rw [← HL3.out, pre_nil]; rfl), ha3, by have := HP.out; omega, H3.out, ⟨⟨World.ownsRow_nil _ _ _ _, fun x hx => by cases hx⟩, ⟨World.ownsRow_nil _ _ _ _, fun x hx => by cases hx⟩, fun k hk => by cases hk⟩, HV3.out⟩⟩
  case round =>
    obtain ⟨i, hile, rfl, hpr, hsz, hRb, hst⟩ := hrel
    rcases hst with ⟨L, N, xs, nv, itv, pp, aa, hLi, hNi, hx2, hx1, hit, haa, hpp, hr, hRec, hBx⟩ | ⟨c, aa, pp, A, q, ca, B, m, cb, hit, hc0, hpp, hr, hBx⟩
    · by_cases hlt : i < n
      · obtain ⟨d0, d1, d2, d3, df⟩ := hr.cells
        obtain ⟨v0, v1, v2, v3, v4, v5, vf, vl⟩ := hBx.cells
        have hO := hRec.1.1
        have HBx := Lib.hid hBx
        have HR := Lib.hid hr
        have S := fun W (hW : Rdr W g s aa 0 pp) => Str_ok (most := 30) hW haa hs (by omega)
        have hgw2 : w2.heap.size ≠ g := by have := HGS.out; omega
        have hg3 : g < w3.heap.size := by have := HGS.out; have := HW3.out; omega
        have hgwr : w2.heap.size < wr.heap.size := hBx.lt
        have hnne : nv.ownBlock ≠ some w2.heap.size := fun e => by have := hO.lt _ e; have := HW3.out; omega
        have hL : N.length ≤ 200 := by omega
        have HH := Lib.hid (And.intro hRec (And.intro hit (And.intro hx2 (And.intro hx1 (And.intro hLi hNi)))))
        have HPR := Lib.hid hpr
        have HSZ := Lib.hid hsz
        have HRB := Lib.hid hRb
        have hd1 : IntKind.i64.wrap (d + 1) = d + 1 := by rw [IntKind.wrap_i64]; omega
        clear hRec hBx hit hx2 hx1 hLi hNi hpr hsz hRb hr
        go_wp2_with fail
        go_region_law (first | (refine step_append_lies _ rfl (.tmp 59) (.tmp 62) 25 rfl w3.heap.size 9 i9 _ 1 16 Tryz.underlying25 hi9 hy0 hy1 hy2 rfl (by decide) nv N.length _ (by simp [Act.eval]) hO4 ⟨w4.heap.size, 0, none⟩ 1 1 [.string t4] (by simp [Act.eval]) rfl hnews4 hone4 (by decide) (by unfold maxLen; omega) (by omega) hbase4 _ rfl ?_; intro g5 cap5 w5 hown5 hgrow5 hat5 hlt5; have hBx5 := (hgrow5.block w2.heap.size hBx4.lt (fun e => hnne e.symm)).trans hBx4; obtain ⟨z0, z1, z2, z3, z4, z5, zf, zl⟩ := Bx.cells hBx5) | (go_simp; go_at_call 146; refine (S _ (by exact HR.out)).mono ?_; rintro x w4 hE4; obtain ⟨t4, rfl, ht4, hp4d, a4, e4, r4, hr4, C4, hstep4, hr200⟩ := StrEnd HFF.out HIH.out hpp hE4; have hp4 := ((Past.refl g wr).drew).trans hp4d; obtain ⟨y0, y1, y2, y3, y4, y5, yf, yl⟩ := (HBx.out.past hp4 hgw2).cells; have hBx4 := (HBx.out.past hp4 hgw2).alloc (.cells #[.string t4] 9); have hO4 := (owns_past hO hp4 hg3).alloc (.cells #[.string t4] 9); have hnews4 := new1 w4 t4; have hone4 : ∀ u ∈ [Value.string t4], u.oneCell' = true := (by simp [Value.oneCell']); have hbase4 : w3.heap.size ≤ (w4.alloc (.cells #[.string t4] 9)).heap.size := Nat.le_trans (Nat.le_trans HSZ.out hp4.size) (by simp); have HC4 := Lib.hid C4; have HS4 := Lib.hid (And.intro hstep4 hr200); have HR4 := Lib.hid hr4; have HT4 := Lib.hid ht4; clear hE4 C4 hstep4 hr200 hr4 ht4))
        all_goals
          obtain ⟨hRec, hit, hx2, hx1, hLi, hNi⟩ := HH.out
          have hlow : ∀ k, nv.ownBlock = some k → w3.heap.size ≤ k := fun k e => (hO.lt k e).1
          have hwR : w.heap.size ≠ g := by have := HG.out; omega
          have hw2R : w2.heap.size ≠ w.heap.size := by have := HGS.out; omega
          have hw3R : w.heap.size < w3.heap.size := by have := HGS.out; have := HW3.out; omega
          have hP5 := ((HPR.out.trans hp4).alloc (.cells #[.string t4] 9)).grown hgrow5 (fun k e => Nat.le_trans HB3.out (hlow k e))
          have hP6 := hP5.setNew (Nat.le_of_lt HGS.out.1) 4 (.slice (some ⟨g5, 0, none⟩) (N.length + 1) cap5)
          have hR4 : Bx (w4.alloc (.cells #[.string t4] 9)) w.heap.size #[.int .i64 0, .int .i64 0, .float .f64 0, .string ⟨#[]⟩, .slice none 0 0, .slice none 0 0] := (HRB.out.past hp4 hwR).alloc _
          have hR5 : Bx w5 w.heap.size #[.int .i64 0, .int .i64 0, .float .f64 0, .string ⟨#[]⟩, .slice none 0 0, .slice none 0 0] := (hgrow5.block w.heap.size hR4.lt (fun e => by have := hlow _ e.symm; omega)).trans hR4
          have hR6 := hR5.other hw2R 4 (.slice (some ⟨g5, 0, none⟩) (N.length + 1) cap5)
          have hV6 : Bx (w5.setCell ⟨w2.heap.size, 4, none⟩ (.slice (some ⟨g5, 0, none⟩) (N.length + 1) cap5)) w2.heap.size #[.int .i64 6, .int .i64 0, .float .f64 0, .string ⟨#[]⟩, (.slice (some ⟨g5, 0, none⟩) (N.length + 1) cap5), itv] := Bx.set hBx5 4 _
          have hS6 : w3.heap.size ≤ (w5.setCell ⟨w2.heap.size, 4, none⟩ (.slice (some ⟨g5, 0, none⟩) (N.length + 1) cap5)).heap.size := by have := hgrow5.size; simp [World.setCell]; omega
          have hr6 : Rdr (w5.setCell ⟨w2.heap.size, 4, none⟩ (.slice (some ⟨g5, 0, none⟩) (N.length + 1) cap5)) g s a4 e4 pp := by
            have h4a := HR4.out.alloc (.cells #[.string t4] 9)
            exact Rdr.other ((hgrow5.block g h4a.lt (fun e => by have := hlow _ e.symm; omega)).trans h4a) hgw2 _ _
          have hRec6 := hRec.name (u := (.slice (some ⟨g5, 0, none⟩) (N.length + 1) cap5)) hp4 hg3 HW3.out HT4.out hown5 hgrow5 (hat5.imp (fun e => e.symm) (fun e => by rw [← e]; rfl))
          obtain ⟨hStep, hr2⟩ := HS4.out
          have C := HC4.out
          obtain ⟨w6, hw6⟩ : ∃ w6, w6 = w5.setCell ⟨w2.heap.size, 4, none⟩ (.slice (some ⟨g5, 0, none⟩) (N.length + 1) cap5) := ⟨_, rfl⟩
          rw [← hw6] at hP6 hR6 hV6 hS6 hr6 hRec6 ⊢
          clear hP5 hR4 hR5 hgrow5 hown5 hat5 hlt5 hBx5 z0 z1 z2 z3 z4 z5 zf zl y0 y1 y2 y3 y4 y5 yf yl hBx4 hO4 hnews4 hone4 hbase4 v0 v1 v2 v3 v4 v5 vf vl d0 d1 d2 d3 df hO hgwr hw6 hlow hRec
          obtain ⟨v0, v1, v2, v3, v4, v5, vf, vl⟩ := hV6.cells
          have hO := hRec6.2.1.1
          have hitne : itv.ownBlock ≠ some w2.heap.size := fun e => by have := hO.lt _ e; have := HW3.out; omega
          have hgwr : w2.heap.size < w6.heap.size := hV6.lt
          have hL2 : L.length ≤ 200 := by omega
          have HV6 := Lib.hid hV6
          have HR6 := Lib.hid hR6
          have HP6 := Lib.hid hP6
          have HS6 := Lib.hid hS6
          have Hr6 := Lib.hid hr6
          have HREC := Lib.hid hRec6
          have HST := Lib.hid (And.intro hStep hr2)
          have HQ := Lib.hid (And.intro hit (And.intro hx2 (And.intro hx1 (And.intro hLi hNi))))
          clear hV6 hR6 hP6 hS6 hr6 hRec6 hStep hr2 hit hx2 hx1 hLi hNi
          go_wp2_with fail
          go_region_law (first | (refine step_append_lies _ rfl (.tmp 66) (.tmp 71) 26 rfl w3.heap.size 28 i0 _ 6 88 Tryz.underlying26 hii hz0 hz1 hz2 rfl (by decide) itv L.length _ (by simp [Act.eval]) hO7 ⟨w7.heap.size, 0, none⟩ 1 1 [.int .i64 b0, .int .i64 b1, .float .f64 b2, .string b3, .slice b4 b5 b6, .slice b7 b8 b9] (by simp [Act.eval]) rfl hnews7 hone7 (by decide) (by unfold maxLen; omega) (by omega) hbase7 _ rfl ?_; intro g8 cap8 w8 hown8 hgrow8 hat8 hlt8; have hBx8 := (hgrow8.block w2.heap.size hBx7.lt (fun e => hitne e.symm)).trans hBx7; obtain ⟨z0, z1, z2, z3, z4, z5, zf, zl⟩ := Bx.cells hBx8) | (go_simp; go_at_call 115; refine (C _ (by exact Hr6.out)).mono ?_; rintro x w7 hE7; have hp7 := ((Past.refl g w6).drew).trans hE7.1; obtain ⟨b0, b1, b2, b3, b4, b5, b6, b7, b8, b9, rfl⟩ := hE7.form; obtain ⟨y0, y1, y2, y3, y4, y5, yf, yl⟩ := (HV6.out.past hp7 hgw2).cells; have hBx7 := (HV6.out.past hp7 hgw2).alloc (.cells #[.int .i64 b0, .int .i64 b1, .float .f64 b2, .string b3, .slice b4 b5 b6, .slice b7 b8 b9] 28); have hO7 := (owns_past hO hp7 hg3).alloc (.cells #[.int .i64 b0, .int .i64 b1, .float .f64 b2, .string b3, .slice b4 b5 b6, .slice b7 b8 b9] 28); have hnews7 := new6 w7 b0 b1 b2 b3 b4 b5 b6 b7 b8 b9; have hone7 : ∀ u ∈ [Value.int .i64 b0, .int .i64 b1, .float .f64 b2, .string b3, .slice b4 b5 b6, .slice b7 b8 b9], u.oneCell' = true := (by simp [Value.oneCell']); have hbase7 : w3.heap.size ≤ (w7.alloc (.cells #[.int .i64 b0, .int .i64 b1, .float .f64 b2, .string b3, .slice b4 b5 b6, .slice b7 b8 b9] 28)).heap.size := Nat.le_trans (Nat.le_trans HS6.out hp7.size) (by simp); have HE7 := Lib.hid hE7; clear hE7))
          all_goals
            go_wp2_with fail
            go_roundw
            case measure => simp [intOf]; omega
            case rel =>
              have E := HE7.out
              obtain ⟨hit, hx2, hx1, hLi, hNi⟩ := HQ.out
              obtain ⟨hStep, hr2⟩ := HST.out
              have hlow : ∀ k, itv.ownBlock = some k → w3.heap.size ≤ k := fun k e => (hO.lt k e).1
              have hP8 := ((HP6.out.trans hp7).alloc (.cells #[.int .i64 b0, .int .i64 b1, .float .f64 b2, .string b3, .slice b4 b5 b6, .slice b7 b8 b9] 28)).grown hgrow8 (fun k e => Nat.le_trans HB3.out (hlow k e))
              have hP9 := hP8.setNew (Nat.le_of_lt HGS.out.1) 5 (.slice (some ⟨g8, 0, none⟩) (L.length + 1) cap8)
              have hR7 : Bx (w7.alloc (.cells #[.int .i64 b0, .int .i64 b1, .float .f64 b2, .string b3, .slice b4 b5 b6, .slice b7 b8 b9] 28)) w.heap.size #[.int .i64 0, .int .i64 0, .float .f64 0, .string ⟨#[]⟩, .slice none 0 0, .slice none 0 0] := (HR6.out.past hp7 hwR).alloc _
              have hR8 : Bx w8 w.heap.size #[.int .i64 0, .int .i64 0, .float .f64 0, .string ⟨#[]⟩, .slice none 0 0, .slice none 0 0] := (hgrow8.block w.heap.size hR7.lt (fun e => by have := hlow _ e.symm; omega)).trans hR7
              have hR9 := hR8.other hw2R 5 (.slice (some ⟨g8, 0, none⟩) (L.length + 1) cap8)
              have hV9 : Bx (w8.setCell ⟨w2.heap.size, 5, none⟩ (.slice (some ⟨g8, 0, none⟩) (L.length + 1) cap8)) w2.heap.size #[.int .i64 6, .int .i64 0, .float .f64 0, .string ⟨#[]⟩, (.slice (some ⟨g5, 0, none⟩) (N.length + 1) cap5), (.slice (some ⟨g8, 0, none⟩) (L.length + 1) cap8)] := Bx.set hBx8 5 _
              have hS9 : w3.heap.size ≤ (w8.setCell ⟨w2.heap.size, 5, none⟩ (.slice (some ⟨g8, 0, none⟩) (L.length + 1) cap8)).heap.size := by have := hgrow8.size; simp [World.setCell]; omega
              have rdr : ∀ {a e p : Int}, Rdr w7 g s a e p → Rdr (w8.setCell ⟨w2.heap.size, 5, none⟩ (.slice (some ⟨g8, 0, none⟩) (L.length + 1) cap8)) g s a e p := fun h4 => by
                have h4a := h4.alloc (.cells #[.int .i64 b0, .int .i64 b1, .float .f64 b2, .string b3, .slice b4 b5 b6, .slice b7 b8 b9] 28)
                exact Rdr.other ((hgrow8.block g h4a.lt (fun e => by have := hlow _ e.symm; omega)).trans h4a) hgw2 _ _
              have hni : n - i = (n - (i + 1)) + 1 := by omega
              refine ⟨i + 1, by omega, by go_num, hP9, hS9, hR9, ?_⟩
              cases hre : r4 with
              | error c =>
                rw [hre] at E hStep
                obtain ⟨_, _, hc0, a', p', hp', h7⟩ := E
                exact .inr ⟨c, a', p', _, _, _, _, _, _, Lib.hid (by rw [hit.out, hni, hStep]; rfl), hc0, hp', rdr h7, hV9⟩
              | ok q =>
                obtain ⟨t, p1, l1⟩ := q
                rw [hre] at E hStep
                obtain ⟨_, ⟨v, hve, hv⟩, a7, ha7, hl7, h7⟩ := E
                cases hve
                have hv' := hv.imp (Q := fun b => w6.heap.size ≤ b) fun b hb _ => Nat.le_trans ((Past.refl g w6).drew).size hb
                exact .inl ⟨L ++ [(#[.int .i64 b0, .int .i64 b1, .float .f64 b2, .string b3, .slice b4 b5 b6, .slice b7 b8 b9], t)], N ++ [t4], xs ++ [(t4, t)], _, _, p1, a7, by simp [hLi], by simp [hNi], by simp [hx2], by simp [hx1], Lib.hid (by rw [hit.out, hni, hStep, stepP_ok, pre_pre, hl7]), ha7, hr2 _ _ _ hre, rdr h7, HREC.out.item hp7 hg3 HW3.out HS6.out hv' hown8 hgrow8 (hat8.imp (fun e => e.symm) (fun e => by rw [← e]; rfl)), hV9⟩
      · obtain ⟨d0, d1, d2, d3, df⟩ := hr.cells
        obtain rfl : i = n := by omega
        obtain ⟨A, c, ca, B, m, cb, rfl, rfl, hvo⟩ := VOwn.tree (w := wr) (lo := w3.heap.size) (base := w3.heap.size) (k := 6) (.inr rfl) (Nat.le_refl _) (fun b hb => hb.1) hRec.1 hRec.2.1 (by rw [if_pos rfl, hNi, hLi]) xs hx2 (fun _ => hx1)
        obtain ⟨v0, v1, v2, v3, v4, v5, vf, vl⟩ := hBx.cells
        obtain ⟨r0, r1, r2, r3, r4, r5, rf, rl⟩ := hRb.cells
        have hres : endP 6 (itemsP F 6 i (p + 1) l0) = .ok (treeOf 6 xs, pp, left s aa) := by
          rw [hit.out, Nat.sub_self, itemsP]
          simp [pre, endP]
        have HRES := Lib.hid hres
        have hwR : w.heap.size ≠ g := by have := HG.out; omega
        have hw3R : w.heap.size < w3.heap.size := by have := HGS.out; have := HW3.out; omega
        have HRb := Lib.hid hRb
        have HPr := Lib.hid hpr
        have HR0 := Lib.hid hr
        have HVO := Lib.hid hvo
        clear hRb hpr hr hvo hit hRec hBx hres hx2 hx1 hNi hLi
        go_wp2_with fail
        refine bodyPost_ret (results_six rfl _ _ w.heap.size (.int .i64 6) (.int .i64 0) (.float .f64 0) (.string ⟨#[]⟩) (.slice A c ca) (.slice B m cb) rfl (HRb.out.six _ _ _ _ _ _)) rfl ?_
        show VEnds s w g (endP 6 (itemsP F 6 i (p + 1) l0)) _ _
        rw [HRES.out]
        refine ⟨?_, ⟨_, rfl, ?_⟩, aa, haa, rfl, ?_⟩
        · exact HPr.out.six (Nat.le_refl _) _ _ _ _ _ _
        · exact (HVO.out.six (by omega) _ _ _ _ _ _).imp fun b hb _ => by omega
        · exact HR0.out.six hwR _ _ _ _ _ _
    · obtain ⟨d0, d1, d2, d3, df⟩ := hr.cells
      obtain ⟨v0, v1, v2, v3, v4, v5, vf, vl⟩ := hBx.cells
      obtain ⟨r0, r1, r2, r3, r4, r5, rf, rl⟩ := hRb.cells
      have tc : ((c : Int) == 0) = false := by simp; omega
      have HIT := Lib.hid hit.out
      have hwR : w.heap.size ≠ g := by have := HG.out; omega
      have HRb := Lib.hid hRb
      have HPr := Lib.hid hpr
      have HR0 := Lib.hid hr
      clear hRb hpr hr hit hBx
      by_cases hlt : i < n
      all_goals
        go_wp2_with fail
        refine bodyPost_ret (results_six rfl _ _ w.heap.size (.int .i64 6) (.int .i64 0) (.float .f64 0) (.string ⟨#[]⟩) (.slice A q ca) (.slice B m cb) rfl (HRb.out.six _ _ _ _ _ _)) rfl ?_
        show VEnds s w g (endP 6 (itemsP F 6 n (p + 1) l0)) _ _
        rw [HIT.out]
        refine ⟨?_, ⟨6, 0, 0, ⟨#[]⟩, A, q, ca, B, m, cb, rfl⟩, hc0, aa, pp, hpp, ?_⟩
        · exact HPr.out.six (Nat.le_refl _) _ _ _ _ _ _
        · exact HR0.out.six hwR _ _ _ _ _ _
end Go.Proofs.YtekojglcbalhnaaGreatDoor
namespace Go.Proofs.YtekojglcbalhnaaGreatDoor
open Go.RowKit

theorem sP_size200 {l r : List UInt8} {t : ByteArray} (h : sP 200 l = .ok (t, r)) : t.size ≤ maxLen := by
  unfold sP at h
  cases hu : uP 0 0 l with
  | error c => rw [hu] at h; cases h
  | ok q =>
    obtain ⟨n, r0⟩ := q
    rw [hu] at h
    dsimp only at h
    by_cases h1 : (200 : Int) < 0 ∨ (200 : Int) < n
    · rw [if_pos h1] at h; cases h
    · rw [if_neg h1] at h
      by_cases h2 : r0.length < n
      · rw [if_pos h2] at h; cases h
      · rw [if_neg h2] at h
        cases h
        have e : (strL (r0.take n)).size = (r0.take n).length := rfl
        rw [e, List.length_take]
        unfold maxLen
        omega
theorem itemsP_parts {F : Nat → List UInt8 → Except Nat (VT × Nat × List UInt8)} {k : Nat} (hF : ∀ p l t p' r, F p l = .ok (t, p', r) → p' ≤ 200) : ∀ (n p : Nat) (l : List UInt8) xs p' r, p ≤ 200 → itemsP F k n p l = .ok (xs, p', r) → p' ≤ 200 := by
  intro n
  induction n with
  | zero => intro p l xs p' r hp h; rw [itemsP] at h; cases h; exact hp
  | succ n ih =>
    intro p l xs p' r hp h
    rw [itemsP] at h
    generalize (if k = 6 then sP 30 l else .ok (⟨#[]⟩, l)) = z at h
    cases z with
    | error c => cases h
    | ok q =>
      obtain ⟨nm, l1⟩ := q
      dsimp only at h
      cases hf : F p l1 with
      | error c => rw [hf] at h; cases h
      | ok q =>
        obtain ⟨t, p1, l2⟩ := q
        rw [hf] at h
        dsimp only at h
        cases hi : itemsP F k n p1 l2 with
        | error c => rw [hi] at h; cases h
        | ok q =>
          obtain ⟨xs2, p2, l3⟩ := q
          rw [hi] at h
          cases h
          exact ih p1 l2 _ _ _ (hF _ _ _ _ _ hf) hi
theorem mP_le {l r : List UInt8} {n : Nat} (h : mP l = .ok (n, r)) : n ≤ 200 := by
  unfold mP at h
  cases hu : uP 0 0 l with
  | error c => rw [hu] at h; cases h
  | ok q =>
    obtain ⟨m, r0⟩ := q
    rw [hu] at h
    dsimp only at h
    by_cases h1 : 200 < m
    · rw [if_pos h1] at h; cases h
    · rw [if_neg h1] at h; cases h; omega
theorem vP_nil (q p : Nat) : vP (q + 1) p [] = if 200 < p + 1 then .error 5 else .error 14 := rfl
theorem vP_cons (q p : Nat) (b : UInt8) (r : List UInt8) : vP (q + 1) p (b :: r) = if 200 < p + 1 then .error 5 else
      if b.toNat < 1 ∨ 6 < b.toNat then .error 5
      else if b.toNat ≤ 4 then (match plainP b.toNat r with | .error c => .error c | .ok (t, r) => .ok (t, p + 1, r))
      else match mP r with
        | .error c => .error c
        | .ok (n, r) => match itemsP (vP q) b.toNat n (p + 1) r with
          | .error c => .error c
          | .ok (xs, p', r) => .ok (treeOf b.toNat xs, p', r) := rfl
theorem vP_parts : ∀ (q p : Nat) (l : List UInt8) t p' r, vP q p l = .ok (t, p', r) → p' ≤ 200 := by
  intro q
  induction q with
  | zero => intro p l t p' r h; rw [vP] at h; cases h
  | succ q ih =>
    intro p l t p' r h
    cases l with
    | nil =>
      rw [vP_nil] at h
      by_cases h1 : 200 < p + 1
      · rw [if_pos h1] at h; cases h
      · rw [if_neg h1] at h; cases h
    | cons b l =>
      rw [vP_cons] at h
      by_cases h1 : 200 < p + 1
      · rw [if_pos h1] at h; cases h
      · rw [if_neg h1] at h
        by_cases h2 : b.toNat < 1 ∨ 6 < b.toNat
        · rw [if_pos h2] at h; cases h
        · rw [if_neg h2] at h
          by_cases h3 : b.toNat ≤ 4
          · rw [if_pos h3] at h
            cases hp : plainP b.toNat l with
            | error c => rw [hp] at h; cases h
            | ok z => obtain ⟨t1, r1⟩ := z; rw [hp] at h; cases h; omega
          · rw [if_neg h3] at h
            cases hm : mP l with
            | error c => rw [hm] at h; cases h
            | ok z =>
              obtain ⟨n, r1⟩ := z
              rw [hm] at h
              dsimp only at h
              cases hi : itemsP (vP q) b.toNat n (p + 1) r1 with
              | error c => rw [hi] at h; cases h
              | ok z =>
                obtain ⟨xs, p2, r2⟩ := z
                rw [hi] at h
                cases h
                exact itemsP_parts ih _ _ _ _ _ _ (by omega) hi
theorem iP_bound {l r : List UInt8} {n : Int} (h : iP l = .ok (n, r)) : -9223372036854775808 ≤ n ∧ n ≤ 9223372036854775807 := by
  unfold iP at h
  cases hu : uP 0 0 l with
  | error c => rw [hu] at h; cases h
  | ok q =>
    obtain ⟨m, r0⟩ := q
    have := uP_lt l 0 0 m r0 (fun _ => by decide) hu
    rw [hu] at h
    cases h
    unfold zag
    split <;> omega
theorem plainP_1 (l : List UInt8) : plainP 1 l = (match l with | [] => .error 14 | c :: r => if 1 < c.toNat then .error 5 else .ok (leaf 1 c.toNat 0 ⟨#[]⟩, r)) := rfl
theorem plainP_2 (l : List UInt8) : plainP 2 l = (match iP l with | .error c => .error c | .ok (n, r) => .ok (leaf 2 n 0 ⟨#[]⟩, r)) := rfl
theorem plainP_3 (l : List UInt8) : plainP 3 l = (match wP 8 0 l with | .error c => .error c | .ok (b, r) => if canonW b = b then .ok (leaf 3 0 b ⟨#[]⟩, r) else .error 5) := rfl
theorem plainP_4 (l : List UInt8) : plainP 4 l = (match sP 200 l with | .error c => .error c | .ok (t, r) => .ok (leaf 4 0 0 t, r)) := rfl
theorem RValue_plain {w : World} {g : Nat} {s : ByteArray} {a p : Nat} {d : Int} (h : Rdr w g s a 0 p) (hp : ¬ (12 < d ∨ 200 < p + 1)) (ha : a < s.size) (hs : s.size ≤ 1000000000) (h1 : 1 ≤ s[a].toNat) (h4 : s[a].toNat ≤ 4) :
    Calls Tryz.prog 115 #[.pointer (some ⟨g, 0, none⟩), .int .i64 d] w fun x w' => VEnds s w g (match plainP s[a].toNat (left s (a + 1)) with | .error c => .error c | .ok (t, r) => .ok (t, p + 1, r)) x w' := by
  obtain hk | hk | hk | hk : s[a].toNat = 1 ∨ s[a].toNat = 2 ∨ s[a].toNat = 3 ∨ s[a].toNat = 4 := by omega
  · rw [hk, plainP_1]
    by_cases hi : a + 1 < s.size
    · rw [left_cons hi]
      dsimp only
      by_cases h1c : 1 < s[a + 1].toNat
      · rw [if_pos h1c]
        exact RValue_1b hi rfl (by omega) h hp ha hs (by rw [hk]; rfl)
      · rw [if_neg h1c]
        exact RValue_1 hi rfl (by omega) h hp ha hs (by rw [hk]; rfl)
    · rw [left_nil (by omega)]
      exact RValue_1t (by omega) h hp ha hs (by rw [hk]; rfl)
  · rw [hk, plainP_2]
    cases hi : iP (left s (a + 1)) with
    | error c => exact RValue_2e hi h hp ha hs (by rw [hk]; rfl)
    | ok q =>
      obtain ⟨n, r⟩ := q
      exact RValue_2 hi (iP_bound hi) h hp ha hs (by rw [hk]; rfl)
  · rw [hk, plainP_3]
    cases hi : wP 8 0 (left s (a + 1)) with
    | error c =>
      obtain ⟨rfl, hl⟩ := wP_err _ _ _ _ hi
      exact RValue_3e hl h hp ha hs (by rw [hk]; rfl)
    | ok q =>
      obtain ⟨b, r⟩ := q
      dsimp only
      by_cases hc : canonW b = b
      · rw [if_pos hc]
        exact RValue_3 hi hc h hp ha hs (by rw [hk]; rfl)
      · rw [if_neg hc]
        exact RValue_3n hi hc h hp ha hs (by rw [hk]; rfl)
  · rw [hk, plainP_4]
    cases hi : sP 200 (left s (a + 1)) with
    | error c => exact RValue_4e hi h hp ha hs (by rw [hk]; rfl)
    | ok q =>
      obtain ⟨t, r⟩ := q
      exact RValue_4 hi (sP_size200 hi) h hp ha hs (by rw [hk]; rfl)
theorem endP_eq (k : Nat) (r : Except Nat (List (ByteArray × VT) × Nat × List UInt8)) : endP k r = (match r with | .error c => .error c | .ok (xs, p', r) => .ok (treeOf k xs, p', r)) := by
  cases r with
  | error c => rfl
  | ok q => obtain ⟨xs, p, l⟩ := q; rfl
/-- The document's reader of a value answers vP. -/
theorem RValue_any {g : Nat} {s : ByteArray} (hs : s.size ≤ 1000000000) : ∀ (q : Nat) (w : World) (a p : Nat), q ≤ 13 → Rdr w g s a 0 p → a ≤ s.size → p ≤ 200 →
    Calls Tryz.prog 115 #[.pointer (some ⟨g, 0, none⟩), .int .i64 (13 - (q : Int))] w fun x w' => VEnds s w g (vP q p (left s a)) x w' := by
  intro q
  induction q with
  | zero =>
    intro w a p hq h ha hp
    exact RValue_begin h (by omega) (.inl (by omega))
  | succ q ih =>
    intro w a p hq h ha hp
    have hd : (13 - ((q + 1 : Nat) : Int)) + 1 = 13 - (q : Int) := by omega
    by_cases ha' : a < s.size
    · rw [left_cons ha', vP_cons]
      by_cases h1 : 200 < p + 1
      · rw [if_pos h1]
        exact RValue_begin h (by omega) (.inr h1)
      · have hb : ¬ (12 < 13 - ((q + 1 : Nat) : Int) ∨ 200 < p + 1) := by omega
        rw [if_neg h1]
        by_cases h2 : s[a].toNat < 1 ∨ 6 < s[a].toNat
        · rw [if_pos h2]
          exact RValue_kind h hb ha' hs rfl (by omega)
        · rw [if_neg h2]
          by_cases h3 : s[a].toNat ≤ 4
          · rw [if_pos h3]
            exact RValue_plain h hb ha' hs (by omega) h3
          · rw [if_neg h3]
            obtain hk | hk : s[a].toNat = 5 ∨ s[a].toNat = 6 := by omega
            · rw [hk]
              cases hm : mP (left s (a + 1)) with
              | error c => exact RValue_5e hm h hb ha' hs (by rw [hk]; rfl)
              | ok z =>
                obtain ⟨n, l0⟩ := z
                have := RValue_5 (F := vP q) (by omega) (vP_parts q) (fun w a p h1 h2 h3 => by rw [hd]; exact ih w a p (by omega) h1 h2 h3) hm (mP_le hm) h hb ha' hs (by rw [hk]; rfl)
                rw [endP_eq] at this
                exact this
            · rw [hk]
              cases hm : mP (left s (a + 1)) with
              | error c => exact RValue_6e hm h hb ha' hs (by rw [hk]; rfl)
              | ok z =>
                obtain ⟨n, l0⟩ := z
                have := RValue_6 (F := vP q) (by omega) (vP_parts q) (fun w a p h1 h2 h3 => by rw [hd]; exact ih w a p (by omega) h1 h2 h3) hm (mP_le hm) h hb ha' hs (by rw [hk]; rfl)
                rw [endP_eq] at this
                exact this
    · rw [left_nil (by omega), vP_nil]
      by_cases h1 : 200 < p + 1
      · rw [if_pos h1]
        exact RValue_begin h (by omega) (.inr h1)
      · rw [if_neg h1]
        exact RValue_end h (by omega) (by omega)
end Go.Proofs.YtekojglcbalhnaaGreatDoor
namespace Go.Proofs.YtekojglcbalhnaaGreatDoor
open Go.RowKit

theorem Begin_any {s : ByteArray} {i : Int} (w : World) :
    Calls Tryz.prog 22 #[.string s, .int .i64 i] w fun x w' => x = .returned (.pointer (some ⟨w.heap.size, 0, none⟩)) ∧ Rdr w' w.heap.size s i (if i < 0 ∨ (s.size : Int) < i then 3 else 0) 0 ∧ Below w.heap.size w w' := by
  by_cases h1 : i < 0
  · rw [if_pos (.inl h1)]
    go_enter Tryz.func22, Tryz.ntmps22
    go_wp2_with fail
    go_ret
    exact ⟨rfl, heap_alloc_new w _, (Below.refl _ _).alloc (Nat.le_refl _) _⟩
  · by_cases h2 : (s.size : Int) < i
    · rw [if_pos (.inr h2)]
      go_enter Tryz.func22, Tryz.ntmps22
      go_wp2_with fail
      go_ret
      exact ⟨rfl, heap_alloc_new w _, (Below.refl _ _).alloc (Nat.le_refl _) _⟩
    · rw [if_neg (by omega)]
      go_enter Tryz.func22, Tryz.ntmps22
      go_wp2_with fail
      go_ret
      exact ⟨rfl, heap_alloc_new w _, (Below.refl _ _).alloc (Nat.le_refl _) _⟩
end Go.Proofs.YtekojglcbalhnaaGreatDoor
namespace Go.Proofs.YtekojglcbalhnaaGreatDoor
open Go.RowKit

/-- How a reading of the program's ends: a panic, or what is read and the place behind it. -/
def DEnds (s : ByteArray) (w : World) (g : Nat) (p : Int) {α : Type} (r : Except Nat (α × List UInt8)) (x : Ending) (w' : World) (val : α → Value) : Prop :=
  Past g w w' ∧ match r with
  | .error c => x = .panicked (errL c)
  | .ok (n, l) => x = .returned (val n) ∧ ∃ a : Nat, a ≤ s.size ∧ l = left s a ∧ Dr w' g s a p
theorem or_add {k n x : Nat} (hn : n < 2 ^ k) : n ||| x * 2 ^ k = n + x * 2 ^ k := by
  have h := Nat.two_pow_add_eq_or_of_lt hn x
  rw [Nat.mul_comm x, Nat.or_comm, ← h, Nat.add_comm]
theorem or_eq {i n b : Nat} (hn : i ≤ 9 → n < 2 ^ (7 * i)) (h : ¬ (9 < i ∨ (i = 9 ∧ 1 < b) ∨ (0 < i ∧ b = 0))) (hb : b < 2 ^ 8) :
    bits .or .u64 (n : Int) (IntKind.u64.wrap ((b : Int) % 128 * 2 ^ (7 * i))) = ((n + b % 128 * 2 ^ (7 * i) : Nat) : Int) ∧ (i + 1 ≤ 9 → n + b % 128 * 2 ^ (7 * i) < 2 ^ (7 * (i + 1))) := by
  refine ⟨?_, (acc_eq hn h hb).2⟩
  have hn := hn (by omega)
  have hx : b % 128 * 2 ^ (7 * i) < 18446744073709551616 ∧ n < 18446744073709551616 := by
    obtain rfl | rfl | rfl | rfl | rfl | rfl | rfl | rfl | rfl | rfl : i = 0 ∨ i = 1 ∨ i = 2 ∨ i = 3 ∨ i = 4 ∨ i = 5 ∨ i = 6 ∨ i = 7 ∨ i = 8 ∨ i = 9 := by omega
    case inr.inr.inr.inr.inr.inr.inr.inr.inr =>
      obtain rfl : b = 1 := by omega
      simp only [Nat.reduceMul, Nat.reducePow] at *
      omega
    all_goals
      simp only [Nat.reduceMul, Nat.reducePow] at *
      omega
  have e : IntKind.u64.wrap ((b : Int) % 128 * 2 ^ (7 * i)) = ((b % 128 * 2 ^ (7 * i) : Nat) : Int) := by
    have e1 : ((b : Int) % 128 * 2 ^ (7 * i)) = ((b % 128 * 2 ^ (7 * i) : Nat) : Int) := by simp
    rw [e1, IntKind.wrap_u64]
    omega
  rw [e, u64_or_nat _ _ hx.2 hx.1, or_add hn]
theorem or_0 {n b : Nat} (hn : n < 2 ^ (7 * 0)) : bits .or .u64 (n : Int) ((b : Int) % 128) = ((n + b % 128 * 2 ^ (7 * 0) : Nat) : Int) := by
  have e : ((b : Int) % 128) = ((b % 128 : Nat) : Int) := by simp
  rw [e, u64_or_nat _ _ (by simp at hn; omega) (by omega)]
  obtain rfl : n = 0 := by simpa using hn
  simp
set_option maxRecDepth 20000 in
set_option maxHeartbeats 4000000 in
theorem readUint_ok {w : World} {g : Nat} {s : ByteArray} {a : Nat} {p : Int} (h : Dr w g s a p) (ha : a ≤ s.size) (hs : s.size ≤ 1000000000) :
    Calls Tryz.prog 112 #[.pointer (some ⟨g, 0, none⟩)] w fun x w' => DEnds s w g p (uP 0 0 (left s a)) x w' (fun n => .int .u64 n) := by
  have HH := Lib.hid h
  clear h
  go_enter Tryz.func112, Tryz.ntmps112
  go_wp2_with fail
  go_loopw [3, 4] (fun nv iv wr => ∃ (i c n : Nat), i ≤ 9 ∧ c ≤ s.size ∧ nv = .int .u64 n ∧ iv = .int .i64 (7 * i : Nat) ∧ (i ≤ 9 → n < 2 ^ (7 * i)) ∧ Hid (uP i n (left s c) = uP 0 0 (left s a)) ∧ Dr wr g s c p ∧ Past g w wr) (fun _ iv _ => 100 - (intOf iv).toNat)
  case atStart => exact ⟨0, a, 0, by omega, ha, rfl, rfl, fun _ => by decide, Lib.hid rfl, HH.out, Past.refl _ _⟩
  case round =>
    obtain ⟨i, c, n, hi, hc, rfl, rfl, hn, hu, hr, hp⟩ := hrel
    by_cases hlt : c < s.size
    · have B := readByte_ok hr hs hlt
      obtain ⟨b, hb0⟩ : ∃ b, s[c] = b := ⟨_, rfl⟩
      have hu' := hu.out
      rw [left_cons hlt, hb0] at hu'
      rw [hb0] at B
      have hb256 := b.toNat_lt
      have Y := insist_yes
      have N := insist_no
      have HY := Lib.hid Y
      have HN := Lib.hid N
      clear Y N
      by_cases hbad : 9 < i ∨ (i = 9 ∧ 1 < b.toNat) ∨ (0 < i ∧ b.toNat = 0)
      · rw [uP_bad hbad] at hu'
        have HU := Lib.hid hu'
        have HP := Lib.hid hp
        clear hu hu' hr hb0 hp hn
        by_cases i9 : i = 9
        · subst i9
          by_cases b1 : 1 < b.toNat
          · have t1 : decide ((b.toNat : Int) ≤ 1) = false := by simp; omega
            go_wp2_with (first | (go_at_call 140; refine B.mono ?_; rintro e w1 ⟨rfl, h1, hp1⟩) | (go_at_call 141; first | ((with_reducible refine (HY.out _).mono ?_); rintro e w2 ⟨rfl, rfl⟩) | ((with_reducible refine (HN.out _).mono ?_); rintro e w2 ⟨rfl, rfl⟩)))
            refine ⟨rfl, HP.out.trans hp1, ?_⟩
            rw [← HU.out]
            rfl
          · have t1 : decide ((b.toNat : Int) ≤ 1) = true := by simp; omega
            have tl : decide ((b.toNat : Int) < 128) = true := by simp; omega
            have t0 : decide ((0 : Int) < (b.toNat : Int)) = false := by simp; omega
            go_wp2_with (first | (go_at_call 140; refine B.mono ?_; rintro e w1 ⟨rfl, h1, hp1⟩) | (go_at_call 141; first | ((with_reducible refine (HY.out _).mono ?_); rintro e w2 ⟨rfl, rfl⟩) | ((with_reducible refine (HN.out _).mono ?_); rintro e w2 ⟨rfl, rfl⟩)))
            refine ⟨rfl, HP.out.trans hp1, ?_⟩
            rw [← HU.out]
            rfl
        · have h63 : 7 * (i : Int) < 63 := by omega
          have tl : decide ((b.toNat : Int) < 128) = true := by simp; omega
          have t0 : decide ((0 : Int) < (b.toNat : Int)) = false := by simp; omega
          have ts : (7 * (i : Int) == 0) = false := by simp; omega
          go_wp2_with (first | (go_at_call 140; refine B.mono ?_; rintro e w1 ⟨rfl, h1, hp1⟩) | (go_at_call 141; first | ((with_reducible refine (HY.out _).mono ?_); rintro e w2 ⟨rfl, rfl⟩) | ((with_reducible refine (HN.out _).mono ?_); rintro e w2 ⟨rfl, rfl⟩)))
          refine ⟨rfl, HP.out.trans hp1, ?_⟩
          rw [← HU.out]
          rfl
      · have hE := or_eq hn hbad hb256
        by_cases hl : b.toNat < 128
        · rw [uP_last hbad hl] at hu'
          have HU := Lib.hid hu'
          have HP := Lib.hid hp
          have HE := Lib.hid hE
          have HNN := Lib.hid hn
          clear hu hu' hr hb0 hp hE hn
          have tl : decide ((b.toNat : Int) < 128) = true := by simp; omega
          by_cases i0 : i = 0
          · subst i0
            have H0 := Lib.hid (or_0 (b := b.toNat) (HNN.out (by omega)))
            go_wp2_with (first | (go_at_call 140; refine B.mono ?_; rintro e w1 ⟨rfl, h1, hp1⟩) | (go_at_call 141; first | ((with_reducible refine (HY.out _).mono ?_); rintro e w2 ⟨rfl, rfl⟩) | ((with_reducible refine (HN.out _).mono ?_); rintro e w2 ⟨rfl, rfl⟩)))
            all_goals
              go_ret
              refine ⟨HP.out.trans hp1, ?_⟩
              rw [← HU.out]
              first
                | exact ⟨congrArg (fun z => Ending.returned (Value.int .u64 z)) H0.out, _, hlt, rfl, h1⟩
                | exact ⟨congrArg (fun z => Ending.returned (Value.int .u64 z)) (by have e : (0 : Int) = (b.toNat : Int) % 128 := by omega
                                                                                    rw [e]; exact H0.out), _, hlt, rfl, h1⟩
          · have t0 : decide ((0 : Int) < (b.toNat : Int)) = true := by simp; omega
            by_cases i9 : i = 9
            · subst i9
              have t1 : decide ((b.toNat : Int) ≤ 1) = true := by simp; omega
              go_wp2_with (first | (go_at_call 140; refine B.mono ?_; rintro e w1 ⟨rfl, h1, hp1⟩) | (go_at_call 141; first | ((with_reducible refine (HY.out _).mono ?_); rintro e w2 ⟨rfl, rfl⟩) | ((with_reducible refine (HN.out _).mono ?_); rintro e w2 ⟨rfl, rfl⟩)))
              go_ret
              refine ⟨HP.out.trans hp1, ?_⟩
              rw [← HU.out]
              exact ⟨congrArg (fun z => Ending.returned (Value.int .u64 z)) HE.out.1, _, hlt, rfl, h1⟩
            · have h63 : 7 * (i : Int) < 63 := by omega
              go_wp2_with (first | (go_at_call 140; refine B.mono ?_; rintro e w1 ⟨rfl, h1, hp1⟩) | (go_at_call 141; first | ((with_reducible refine (HY.out _).mono ?_); rintro e w2 ⟨rfl, rfl⟩) | ((with_reducible refine (HN.out _).mono ?_); rintro e w2 ⟨rfl, rfl⟩)))
              go_ret
              refine ⟨HP.out.trans hp1, ?_⟩
              rw [← HU.out]
              exact ⟨congrArg (fun z => Ending.returned (Value.int .u64 z)) HE.out.1, _, hlt, rfl, h1⟩
        · rw [uP_more hbad hl] at hu'
          have HU := Lib.hid hu'
          have HP := Lib.hid hp
          have HE := Lib.hid hE
          have HNN := Lib.hid hn
          clear hu hu' hr hb0 hp hE hn
          have tl : decide ((b.toNat : Int) < 128) = false := by simp; omega
          have i9 : i < 9 := by omega
          have h63 : 7 * (i : Int) < 63 := by omega
          go_wp2_with (first | (go_at_call 140; refine B.mono ?_; rintro e w1 ⟨rfl, h1, hp1⟩) | (go_at_call 141; first | ((with_reducible refine (HY.out _).mono ?_); rintro e w2 ⟨rfl, rfl⟩) | ((with_reducible refine (HN.out _).mono ?_); rintro e w2 ⟨rfl, rfl⟩)))
          go_roundw
          case rel => exact ⟨i + 1, c + 1, _, by omega, hlt, congrArg (Value.int .u64) HE.out.1, by go_num, HE.out.2, HU, h1, HP.out.trans hp1⟩
          case measure => simp [intOf] <;> omega
    · have B := readByte_end hr hs (by omega)
      have hu' := hu.out
      rw [left_nil (by omega), uP_nil] at hu'
      have HU := Lib.hid hu'
      have HP := Lib.hid hp
      clear hu hu' hr hp
      go_wp2_with (go_at_call 140; refine B.mono ?_; rintro e w1 ⟨rfl, hp1⟩)
      refine ⟨rfl, HP.out.trans hp1, ?_⟩
      rw [← HU.out]
      rfl
end Go.Proofs.YtekojglcbalhnaaGreatDoor
