/-
  The document's reader: Value, of lists.
  The document's reader: Value, of a list or a record whose count can't be read.
-/
import Derived.Test.YteclpehbpicpaaaM17
namespace Go.Proofs.Yteclpehbpicpaaa
open Go.RowKit

theorem VEnds.form {s : ByteArray} {w w' : World} {g : Nat} {r : Except Nat (VT × Nat × List UInt8)} {x : Ending} (h : VEnds s w g r x w') :
    ∃ (b0 b1 : Int) (b2 : Nat) (b3 : ByteArray) (b4 : Option Addr) (b5 b6 : Nat) (b7 : Option Addr) (b8 b9 : Nat), x = .returned (.agg #[.int .i64 b0, .int .i64 b1, .float .f64 b2, .string b3, .slice b4 b5 b6, .slice b7 b8 b9]) := by
  obtain ⟨_, h⟩ := h
  cases r with
  | error c =>
    obtain ⟨⟨k, n, f, t, A, m, ca, B, m', cb, rfl⟩, _⟩ := h
    exact ⟨_, _, _, _, _, _, _, _, _, _, rfl⟩
  | ok q =>
    obtain ⟨t, p, l⟩ := q
    obtain ⟨⟨v, rfl, hv⟩, _⟩ := h
    obtain ⟨b0, b1, b2, b3, b4, b5, b6, b7, b8, b9, rfl⟩ := hv.val.eight
    exact ⟨_, _, _, _, _, _, _, _, _, _, rfl⟩
set_option maxRecDepth 20000 in
set_option maxHeartbeats 600000 in
theorem RValue_5 {w : World} {g : Nat} {s : ByteArray} {a p n : Nat} {d : Int} {l0 : List UInt8} {F : Nat → List UInt8 → Except Nat (VT × Nat × List UInt8)} (hd : -1000 ≤ d ∧ d ≤ 1000) (hF : ∀ p l t p' r, F p l = .ok (t, p', r) → p' ≤ 200)
    (ih : ∀ (w : World) (a p : Nat), Rdr w g s a 0 p → a ≤ s.size → p ≤ 200 → Calls Try.prog 62 #[.pointer (some ⟨g, 0, none⟩), .int .i64 (d + 1)] w fun x w' => VEnds s w g (F p (left s a)) x w')
    (hi : mP (left s (a + 1)) = .ok (n, l0)) (hn2 : n ≤ 200) (h : Rdr w g s a 0 p) (hp : ¬ (12 < d ∨ 200 < p + 1)) (ha : a < s.size) (hs : s.size ≤ 1000000000) (hkb : ((s[a].toNat : Nat) : Int) = 5) :
    Calls Try.prog 62 #[.pointer (some ⟨g, 0, none⟩), .int .i64 d] w fun x w' => VEnds s w g (endP 5 (itemsP F 5 n (p + 1) l0)) x w' := by
  have hW : Past g w (w.alloc (.cells #[.int .i64 0, .int .i64 0, .float .f64 0, .string ⟨#[]⟩, .slice none 0 0, .slice none 0 0] 27)) := (Past.refl g w).alloc _
  have hR := Bx.new w #[.int .i64 0, .int .i64 0, .float .f64 0, .string ⟨#[]⟩, .slice none 0 0, .slice none 0 0]
  have hg := h.lt
  have B := begin_ok (d := d) (h.alloc (.cells #[.int .i64 0, .int .i64 0, .float .f64 0, .string ⟨#[]⟩, .slice none 0 0, .slice none 0 0] 27)) (by omega)
  rw [if_neg (by omega)] at B
  have HR := Lib.hid hR
  have HW := Lib.hid hW
  have HG := Lib.hid hg
  have HP := Lib.hid hp
  have HI := Lib.hid hi
  have HIH := Lib.hid ih
  have HFF := Lib.hid hF
  have SF := float_store
  obtain ⟨i0, hii, hz0, hz1, hz2⟩ := info_parts info27z
  have hn3 : (n : Int) ≤ 200 := by omega
  clear h hR hW hp hi ih hF
  go_enter Try.func62, Try.ntmps62
  go_wp2_with (first
    | (go_at_call 92; refine B.mono ?_; rintro x w1 ⟨rfl, hp1, h1⟩; have Y := Byte_ok h1 ha (by omega); rw [hkb] at Y)
    | (go_at_call 58; refine Y.mono ?_; rintro x w2 ⟨rfl, h2, hp2⟩; obtain ⟨d0, d1, d2, d3, df⟩ := h2.cells; have hg2 : g < w2.heap.size := h2.lt; have hR2 := HR.out.past (hp1.trans hp2) (by have := HG.out; omega); obtain ⟨r0, r1, r2, r3, r4, r5, rf, rl⟩ := hR2.cells; have h2v := h2.alloc (.cells #[.int .i64 5, .int .i64 0, .float .f64 0, .string ⟨#[]⟩, .slice none 0 0, .slice none 0 0] 27); have I := many_ok h2v ha hs; rw [HI.out] at I)
    | (go_at_call 93; refine I.mono ?_; rintro x w3 ⟨hp3, rfl, a3, ha3, hl3, h3⟩))
  obtain ⟨wv, hwv⟩ : ∃ wv, wv = w2.alloc (.cells #[.int .i64 5, .int .i64 0, .float .f64 0, .string ⟨#[]⟩, .slice none 0 0, .slice none 0 0] 27) := ⟨_, rfl⟩
  rw [← hwv] at h2v hp3
  have hV0 : Bx wv w2.heap.size #[.int .i64 5, .int .i64 0, .float .f64 0, .string ⟨#[]⟩, .slice none 0 0, .slice none 0 0] := by rw [hwv]; exact Bx.new _ _
  have hRv : Bx wv w.heap.size #[.int .i64 0, .int .i64 0, .float .f64 0, .string ⟨#[]⟩, .slice none 0 0, .slice none 0 0] := by rw [hwv]; exact hR2.alloc _
  have hPv : Past g w wv := by rw [hwv]; exact HW.out.trans (hp1.trans (hp2.trans ((Past.refl _ _).alloc _)))
  have hgs : w.heap.size < w2.heap.size ∧ g < w2.heap.size ∧ g + 1 ≤ w.heap.size := ⟨rl, hg2, hg⟩
  have hws : w2.heap.size < wv.heap.size := by rw [hwv]; simp
  have HV3 := Lib.hid (hV0.past hp3 (by omega))
  have HR3 := Lib.hid (hRv.past hp3 (by omega))
  have HP3 := Lib.hid (hPv.trans hp3)
  have H3 := Lib.hid h3
  have HGS := Lib.hid hgs
  have HL3 := Lib.hid hl3
  have HW3 := Lib.hid (show w2.heap.size < w3.heap.size by have := hp3.size; omega)
  have hb3 : w.heap.size ≤ w3.heap.size := by have := hp3.size; omega
  have HB3 := Lib.hid hb3
  clear hb3
  clear hwv hV0 hRv hPv h2v Y B I h1 hp1 hp2 hR2 r0 r1 r2 r3 r4 r5 rf rl d0 d1 d2 d3 df h2 hgs hws h3 hl3 hp3
  go_loopw [9] (fun iv wr => ∃ (i : Nat), i ≤ n ∧ iv = .int .i64 i ∧ Past g w wr ∧ w3.heap.size ≤ wr.heap.size ∧ Bx wr w.heap.size #[.int .i64 0, .int .i64 0, .float .f64 0, .string ⟨#[]⟩, .slice none 0 0, .slice none 0 0] ∧
    ((∃ (L : List (Array Value × VT)) (xs : List (ByteArray × VT)) (itv : Value) (pp aa : Nat), L.length = i ∧ xs.map (·.2) = L.map (·.2) ∧ Hid (itemsP F 5 n (p + 1) l0 = pre xs (itemsP F 5 (n - i) pp (left s aa))) ∧ aa ≤ s.size ∧ pp ≤ 200 ∧ Rdr wr g s aa 0 pp ∧ Its wr w3.heap.size (fun b => w3.heap.size ≤ b ∧ itv.ownBlock ≠ some b) itv L ∧ Bx wr w2.heap.size #[.int .i64 5, .int .i64 0, .float .f64 0, .string ⟨#[]⟩, .slice none 0 0, itv])
    ∨ (∃ (c aa pp : Nat) (B : Option Addr) (m cb : Nat), Hid (itemsP F 5 n (p + 1) l0 = .error c) ∧ c ≠ 0 ∧ pp ≤ 1000000 ∧ Rdr wr g s aa c pp ∧ Bx wr w2.heap.size #[.int .i64 5, .int .i64 0, .float .f64 0, .string ⟨#[]⟩, .slice none 0 0, .slice B m cb]))) (fun iv _ => n - (intOf iv).toNat)
  case atStart => exact ⟨0, by omega, rfl, HP3.out, Nat.le_refl _, HR3.out, .inl ⟨[], [], .slice none 0 0, p + 1, a3, rfl, rfl, Lib.hid (by rw [← HL3.out, pre_nil]; rfl), ha3, by have := HP.out; omega, H3.out, ⟨World.ownsRow_nil _ _ _ _, fun x hx => by cases hx⟩, HV3.out⟩⟩
  case round =>
    obtain ⟨i, hile, rfl, hpr, hsz, hRb, hst⟩ := hrel
    rcases hst with ⟨L, xs, itv, pp, aa, hLi, hx2, hit, haa, hpp, hr, hIts, hBx⟩ | ⟨c, aa, pp, B, m, cb, hit, hc0, hpp, hr, hBx⟩
    · by_cases hlt : i < n
      · obtain ⟨d0, d1, d2, d3, df⟩ := hr.cells
        obtain ⟨v0, v1, v2, v3, v4, v5, vf, vl⟩ := hBx.cells
        have ihc := HIH.out
        have hO := hIts.1
        have HBx := Lib.hid hBx
        have HR := Lib.hid hr
        have C := fun W (hW : Rdr W g s aa 0 pp) => ihc W aa pp hW haa hpp
        have hgw2 : w2.heap.size ≠ g := by have := HGS.out; omega
        have hg3 : g < w3.heap.size := by have := HGS.out; have := HW3.out; omega
        have hgwr : w2.heap.size < wr.heap.size := hBx.lt
        have hitne : itv.ownBlock ≠ some w2.heap.size := fun e => by have := hO.lt _ e; have := HW3.out; omega
        have hL : L.length ≤ 200 := by omega
        have HH := Lib.hid (And.intro hIts (And.intro hit (And.intro hx2 hLi)))
        have HPR := Lib.hid hpr
        have HSZ := Lib.hid hsz
        have HRB := Lib.hid hRb
        have hd1 : IntKind.i64.wrap (d + 1) = d + 1 := by rw [IntKind.wrap_i64]; omega
        clear hIts hBx hit hx2 hLi hpr ihc hsz hRb hr
        go_wp2_with fail
        go_region_law (first | (refine step_append_lies _ rfl (.tmp 66) (.tmp 71) 25 rfl w3.heap.size 27 i0 _ 6 88 Try.underlying25 hii hz0 hz1 hz2 rfl (by decide) itv L.length _ (by simp [Act.eval]) hO4 ⟨w4.heap.size, 0, none⟩ 1 1 [.int .i64 b0, .int .i64 b1, .float .f64 b2, .string b3, .slice b4 b5 b6, .slice b7 b8 b9] (by simp [Act.eval]) rfl hnews4 hone4 (by decide) (by unfold maxLen; omega) (by omega) hbase4 _ rfl ?_; intro g5 cap5 w5 hown5 hgrow5 hat5 hlt5; have hBx5 := (hgrow5.block w2.heap.size hBx4.lt (fun e => hitne e.symm)).trans hBx4; obtain ⟨z0, z1, z2, z3, z4, z5, zf, zl⟩ := Bx.cells hBx5) | (go_simp; go_at_call 62; refine (C _ (by exact HR.out)).mono ?_; rintro x w4 hE4; have hp4 := ((Past.refl g wr).drew).trans hE4.1; obtain ⟨b0, b1, b2, b3, b4, b5, b6, b7, b8, b9, rfl⟩ := hE4.form; obtain ⟨y0, y1, y2, y3, y4, y5, yf, yl⟩ := (HBx.out.past hp4 hgw2).cells; have hBx4 := (HBx.out.past hp4 hgw2).alloc (.cells #[.int .i64 b0, .int .i64 b1, .float .f64 b2, .string b3, .slice b4 b5 b6, .slice b7 b8 b9] 27); have hO4 := (owns_past hO hp4 hg3).alloc (.cells #[.int .i64 b0, .int .i64 b1, .float .f64 b2, .string b3, .slice b4 b5 b6, .slice b7 b8 b9] 27); have hnews4 := new6 w4 b0 b1 b2 b3 b4 b5 b6 b7 b8 b9; have hone4 : ∀ u ∈ [Value.int .i64 b0, .int .i64 b1, .float .f64 b2, .string b3, .slice b4 b5 b6, .slice b7 b8 b9], u.oneCell' = true := (by simp [Value.oneCell']); have hbase4 : w3.heap.size ≤ (w4.alloc (.cells #[.int .i64 b0, .int .i64 b1, .float .f64 b2, .string b3, .slice b4 b5 b6, .slice b7 b8 b9] 27)).heap.size := Nat.le_trans (Nat.le_trans HSZ.out hp4.size) (by simp); have HE4 := Lib.hid hE4; clear hE4))
        all_goals
          go_wp2_with fail
          go_roundw
          case measure => simp [intOf]; omega
          case rel =>
            have E := HE4.out
            obtain ⟨hIts, hit, hx2, hLi⟩ := HH.out
            have hlow : ∀ k, itv.ownBlock = some k → w3.heap.size ≤ k := fun k e => (hO.lt k e).1
            have hwR : w.heap.size ≠ g := by have := HG.out; omega
            have hw2R : w2.heap.size ≠ w.heap.size := by have := HGS.out; omega
            have hw3R : w.heap.size < w3.heap.size := by have := HGS.out; have := HW3.out; omega
            have hP5 := ((HPR.out.trans hp4).alloc (.cells #[.int .i64 b0, .int .i64 b1, .float .f64 b2, .string b3, .slice b4 b5 b6, .slice b7 b8 b9] 27)).grown hgrow5 (fun k e => Nat.le_trans HB3.out (hlow k e))
            have hP6 := hP5.setNew (Nat.le_of_lt HGS.out.1) 5 (.slice (some ⟨g5, 0, none⟩) (L.length + 1) cap5)
            have hR4 : Bx (w4.alloc (.cells #[.int .i64 b0, .int .i64 b1, .float .f64 b2, .string b3, .slice b4 b5 b6, .slice b7 b8 b9] 27)) w.heap.size #[.int .i64 0, .int .i64 0, .float .f64 0, .string ⟨#[]⟩, .slice none 0 0, .slice none 0 0] := (HRB.out.past hp4 hwR).alloc _
            have hR5 : Bx w5 w.heap.size #[.int .i64 0, .int .i64 0, .float .f64 0, .string ⟨#[]⟩, .slice none 0 0, .slice none 0 0] := (hgrow5.block w.heap.size hR4.lt (fun e => by have := hlow _ e.symm; omega)).trans hR4
            have hR6 := hR5.other hw2R 5 (.slice (some ⟨g5, 0, none⟩) (L.length + 1) cap5)
            have hV6 : Bx (w5.setCell ⟨w2.heap.size, 5, none⟩ (.slice (some ⟨g5, 0, none⟩) (L.length + 1) cap5)) w2.heap.size #[.int .i64 5, .int .i64 0, .float .f64 0, .string ⟨#[]⟩, .slice none 0 0, .slice (some ⟨g5, 0, none⟩) (L.length + 1) cap5] := Bx.set hBx5 5 _
            have hS6 : w3.heap.size ≤ (w5.setCell ⟨w2.heap.size, 5, none⟩ (.slice (some ⟨g5, 0, none⟩) (L.length + 1) cap5)).heap.size := by have := hgrow5.size; simp [World.setCell]; omega
            have rdr : ∀ {a e p : Int}, Rdr w4 g s a e p → Rdr (w5.setCell ⟨w2.heap.size, 5, none⟩ (.slice (some ⟨g5, 0, none⟩) (L.length + 1) cap5)) g s a e p := fun h4 => by
              have h4a := h4.alloc (.cells #[.int .i64 b0, .int .i64 b1, .float .f64 b2, .string b3, .slice b4 b5 b6, .slice b7 b8 b9] 27)
              exact Rdr.other ((hgrow5.block g h4a.lt (fun e => by have := hlow _ e.symm; omega)).trans h4a) hgw2 _ _
            have hni : n - i = (n - (i + 1)) + 1 := by omega
            refine ⟨i + 1, by omega, by go_num, hP6, hS6, hR6, ?_⟩
            cases hFe : F pp (left s aa) with
            | error c =>
              rw [hFe] at E
              obtain ⟨_, _, hc0, a', p', hp', h4⟩ := E
              exact .inr ⟨c, a', p', _, _, _, Lib.hid (by rw [hit.out, hni, itemsP_err5 hFe]; rfl), hc0, hp', rdr h4, hV6⟩
            | ok q =>
              obtain ⟨t, p1, l1⟩ := q
              rw [hFe] at E
              obtain ⟨_, ⟨v, hve, hv⟩, a4, ha4, hl4, h4⟩ := E
              cases hve
              have hv' := hv.imp (Q := fun b => wr.heap.size ≤ b) fun b hb _ => Nat.le_trans ((Past.refl g wr).drew).size hb
              exact .inl ⟨L ++ [(#[.int .i64 b0, .int .i64 b1, .float .f64 b2, .string b3, .slice b4 b5 b6, .slice b7 b8 b9], t)], xs ++ [(⟨#[]⟩, t)], _, p1, a4, by simp [hLi], by simp [hx2], Lib.hid (by rw [hit.out, hni, itemsP_ok5 hFe, pre_pre, hl4]), ha4, HFF.out _ _ _ _ _ hFe, rdr h4, hIts.step hp4 hg3 HW3.out HSZ.out hv' hown5 hgrow5 (hat5.imp (fun e => e.symm) (fun e => by rw [← e]; rfl)), hV6⟩
      · obtain ⟨d0, d1, d2, d3, df⟩ := hr.cells
        obtain rfl : i = n := by omega
        obtain ⟨A, c, ca, B, m, cb, e1, rfl, hvo⟩ := VOwn.tree (w := wr) (lo := w3.heap.size) (base := w3.heap.size) (k := 5) (nv := .slice none 0 0) (N := []) (.inl rfl) (Nat.le_refl _) (fun b hb => hb.1) ⟨World.ownsRow_nil _ _ _ _, fun x hx => by cases hx⟩ hIts rfl xs hx2 (fun h => by cases h)
        cases e1
        obtain ⟨v0, v1, v2, v3, v4, v5, vf, vl⟩ := hBx.cells
        obtain ⟨r0, r1, r2, r3, r4, r5, rf, rl⟩ := hRb.cells
        have hres : endP 5 (itemsP F 5 i (p + 1) l0) = .ok (treeOf 5 xs, pp, left s aa) := by
          rw [hit.out, Nat.sub_self, itemsP]
          simp [pre, endP]
        have HRES := Lib.hid hres
        have hwR : w.heap.size ≠ g := by have := HG.out; omega
        have hw3R : w.heap.size < w3.heap.size := by have := HGS.out; have := HW3.out; omega
        have HRb := Lib.hid hRb
        have HPr := Lib.hid hpr
        have HR0 := Lib.hid hr
        have HVO := Lib.hid hvo
        clear hRb hpr hr hvo hit hIts hBx hres
        go_wp2_with fail
        refine bodyPost_ret (results_six rfl _ _ w.heap.size (.int .i64 5) (.int .i64 0) (.float .f64 0) (.string ⟨#[]⟩) (.slice none 0 0) (.slice B m cb) rfl (HRb.out.six _ _ _ _ _ _)) rfl ?_
        show VEnds s w g (endP 5 (itemsP F 5 i (p + 1) l0)) _ _
        rw [HRES.out]
        refine ⟨?_, ⟨_, rfl, ?_⟩, aa, haa, rfl, ?_⟩
        · exact HPr.out.six (Nat.le_refl _) _ _ _ _ _ _
        · exact (HVO.out.six (by omega) _ _ _ _ _ _).imp fun b hb _ => by omega
        · exact HR0.out.six hwR _ _ _ _ _ _
    · obtain ⟨d0, d1, d2, d3, df⟩ := hr.cells
      obtain ⟨v0, v1, v2, v3, v4, v5, vf, vl⟩ := hBx.cells
      obtain ⟨r0, r1, r2, r3, r4, r5, rf, rl⟩ := hRb.cells
      have tc : ((c : Int) == 0) = false := by simp; omega
      have HIT := Lib.hid hit.out
      have hwR : w.heap.size ≠ g := by have := HG.out; omega
      have HRb := Lib.hid hRb
      have HPr := Lib.hid hpr
      have HR0 := Lib.hid hr
      clear hRb hpr hr hit hBx
      by_cases hlt : i < n
      all_goals
        go_wp2_with fail
        refine bodyPost_ret (results_six rfl _ _ w.heap.size (.int .i64 5) (.int .i64 0) (.float .f64 0) (.string ⟨#[]⟩) (.slice none 0 0) (.slice B m cb) rfl (HRb.out.six _ _ _ _ _ _)) rfl ?_
        show VEnds s w g (endP 5 (itemsP F 5 n (p + 1) l0)) _ _
        rw [HIT.out]
        refine ⟨?_, ⟨5, 0, 0, ⟨#[]⟩, none, 0, 0, B, m, cb, rfl⟩, hc0, aa, pp, hpp, ?_⟩
        · exact HPr.out.six (Nat.le_refl _) _ _ _ _ _ _
        · exact HR0.out.six hwR _ _ _ _ _ _
end Go.Proofs.Yteclpehbpicpaaa
namespace Go.Proofs.Yteclpehbpicpaaa
open Go.RowKit

set_option maxRecDepth 20000 in
set_option maxHeartbeats 4000000 in
theorem RValue_5e {w : World} {g : Nat} {s : ByteArray} {a p : Nat} {d : Int} {c : Nat} (hi : mP (left s (a + 1)) = .error c) (h : Rdr w g s a 0 p) (hp : ¬ (12 < d ∨ 200 < p + 1)) (ha : a < s.size) (hs : s.size ≤ 1000000000) (hkb : ((s[a].toNat : Nat) : Int) = 5) :
    Calls Try.prog 62 #[.pointer (some ⟨g, 0, none⟩), .int .i64 d] w fun x w' => VEnds s w g (.error c) x w' := by
  have hW : Past g w (w.alloc (.cells #[.int .i64 0, .int .i64 0, .float .f64 0, .string ⟨#[]⟩, .slice none 0 0, .slice none 0 0] 27)) := (Past.refl g w).alloc _
  have hR := Bx.new w #[.int .i64 0, .int .i64 0, .float .f64 0, .string ⟨#[]⟩, .slice none 0 0, .slice none 0 0]
  have hg := h.lt
  have B := begin_ok (d := d) (h.alloc (.cells #[.int .i64 0, .int .i64 0, .float .f64 0, .string ⟨#[]⟩, .slice none 0 0, .slice none 0 0] 27)) (by omega)
  rw [if_neg (by omega)] at B
  have HR := Lib.hid hR
  have HW := Lib.hid hW
  have HG := Lib.hid hg
  have HP := Lib.hid hp
  have SF := float_store
  clear h hR hW hp
  go_enter Try.func62, Try.ntmps62
  go_wp2_with (first
    | (go_at_call 92; refine B.mono ?_; rintro x w1 ⟨rfl, hp1, h1⟩; have Y := Byte_ok h1 ha (by omega); rw [hkb] at Y)
    | (go_at_call 58; refine Y.mono ?_; rintro x w2 ⟨rfl, h2, hp2⟩; obtain ⟨d0, d1, d2, d3, df⟩ := h2.cells; have hg2 : g < w2.heap.size := h2.lt; have hR2 := HR.out.past (hp1.trans hp2) (by have := HG.out; omega); obtain ⟨r0, r1, r2, r3, r4, r5, rf, rl⟩ := hR2.cells; have h2v := h2.alloc (.cells #[.int .i64 5, .int .i64 0, .float .f64 0, .string ⟨#[]⟩, .slice none 0 0, .slice none 0 0] 27); have I := many_ok h2v ha hs; rw [hi] at I)
    | (go_at_call 93; refine I.mono ?_; rintro x w3 ⟨hp3, rfl, hc, a3, h3⟩))
  obtain ⟨wv, hwv⟩ : ∃ wv, wv = w2.alloc (.cells #[.int .i64 5, .int .i64 0, .float .f64 0, .string ⟨#[]⟩, .slice none 0 0, .slice none 0 0] 27) := ⟨_, rfl⟩
  rw [← hwv] at h2v hp3
  have hV0 : Bx wv w2.heap.size #[.int .i64 5, .int .i64 0, .float .f64 0, .string ⟨#[]⟩, .slice none 0 0, .slice none 0 0] := by rw [hwv]; exact Bx.new _ _
  have hRv : Bx wv w.heap.size #[.int .i64 0, .int .i64 0, .float .f64 0, .string ⟨#[]⟩, .slice none 0 0, .slice none 0 0] := by rw [hwv]; exact hR2.alloc _
  have hPv : Past g w wv := by rw [hwv]; exact HW.out.trans (hp1.trans (hp2.trans ((Past.refl _ _).alloc _)))
  have HV3 := Lib.hid (hV0.past hp3 (by omega))
  have HR3 := Lib.hid (hRv.past hp3 (by have := HG.out; omega))
  have HP3 := Lib.hid (hPv.trans hp3)
  have H3 := Lib.hid h3
  have hwR : w.heap.size ≠ g := by have := HG.out; omega
  have tc : ((c : Int) == 0) = false := by simp; omega
  clear hwv hV0 hRv hPv h2v Y B I h1 hp1 hp2 hR2 r0 r1 r2 r3 r4 r5 rf rl d0 d1 d2 d3 df h2 h3 hp3
  go_loopw [9] (fun iv wr => iv = .int .i64 0 ∧ wr = w3) (fun _ _ => 0)
  case atStart => exact ⟨rfl, rfl⟩
  case round =>
    obtain ⟨rfl, rfl⟩ := hrel
    obtain ⟨d0, d1, d2, d3, df⟩ := H3.out.cells
    obtain ⟨v0, v1, v2, v3, v4, v5, vf, vl⟩ := HV3.out.cells
    obtain ⟨r0, r1, r2, r3, r4, r5, rf, rl⟩ := HR3.out.cells
    go_wp2_with fail
    refine bodyPost_ret (results_six rfl _ _ w.heap.size (.int .i64 5) (.int .i64 0) (.float .f64 0) (.string ⟨#[]⟩) (.slice none 0 0) (.slice none 0 0) rfl (HR3.out.six _ _ _ _ _ _)) rfl ⟨?_, ⟨5, 0, 0, ⟨#[]⟩, none, 0, 0, none, 0, 0, rfl⟩, hc, a3, p + 1, by have := HP.out; omega, ?_⟩
    · exact HP3.out.six (Nat.le_refl _) _ _ _ _ _ _
    · exact H3.out.six hwR _ _ _ _ _ _
set_option maxRecDepth 20000 in
set_option maxHeartbeats 4000000 in
theorem RValue_6e {w : World} {g : Nat} {s : ByteArray} {a p : Nat} {d : Int} {c : Nat} (hi : mP (left s (a + 1)) = .error c) (h : Rdr w g s a 0 p) (hp : ¬ (12 < d ∨ 200 < p + 1)) (ha : a < s.size) (hs : s.size ≤ 1000000000) (hkb : ((s[a].toNat : Nat) : Int) = 6) :
    Calls Try.prog 62 #[.pointer (some ⟨g, 0, none⟩), .int .i64 d] w fun x w' => VEnds s w g (.error c) x w' := by
  have hW : Past g w (w.alloc (.cells #[.int .i64 0, .int .i64 0, .float .f64 0, .string ⟨#[]⟩, .slice none 0 0, .slice none 0 0] 27)) := (Past.refl g w).alloc _
  have hR := Bx.new w #[.int .i64 0, .int .i64 0, .float .f64 0, .string ⟨#[]⟩, .slice none 0 0, .slice none 0 0]
  have hg := h.lt
  have B := begin_ok (d := d) (h.alloc (.cells #[.int .i64 0, .int .i64 0, .float .f64 0, .string ⟨#[]⟩, .slice none 0 0, .slice none 0 0] 27)) (by omega)
  rw [if_neg (by omega)] at B
  have HR := Lib.hid hR
  have HW := Lib.hid hW
  have HG := Lib.hid hg
  have HP := Lib.hid hp
  have SF := float_store
  clear h hR hW hp
  go_enter Try.func62, Try.ntmps62
  go_wp2_with (first
    | (go_at_call 92; refine B.mono ?_; rintro x w1 ⟨rfl, hp1, h1⟩; have Y := Byte_ok h1 ha (by omega); rw [hkb] at Y)
    | (go_at_call 58; refine Y.mono ?_; rintro x w2 ⟨rfl, h2, hp2⟩; obtain ⟨d0, d1, d2, d3, df⟩ := h2.cells; have hg2 : g < w2.heap.size := h2.lt; have hR2 := HR.out.past (hp1.trans hp2) (by have := HG.out; omega); obtain ⟨r0, r1, r2, r3, r4, r5, rf, rl⟩ := hR2.cells; have h2v := h2.alloc (.cells #[.int .i64 6, .int .i64 0, .float .f64 0, .string ⟨#[]⟩, .slice none 0 0, .slice none 0 0] 27); have I := many_ok h2v ha hs; rw [hi] at I)
    | (go_at_call 93; refine I.mono ?_; rintro x w3 ⟨hp3, rfl, hc, a3, h3⟩))
  obtain ⟨wv, hwv⟩ : ∃ wv, wv = w2.alloc (.cells #[.int .i64 6, .int .i64 0, .float .f64 0, .string ⟨#[]⟩, .slice none 0 0, .slice none 0 0] 27) := ⟨_, rfl⟩
  rw [← hwv] at h2v hp3
  have hV0 : Bx wv w2.heap.size #[.int .i64 6, .int .i64 0, .float .f64 0, .string ⟨#[]⟩, .slice none 0 0, .slice none 0 0] := by rw [hwv]; exact Bx.new _ _
  have hRv : Bx wv w.heap.size #[.int .i64 0, .int .i64 0, .float .f64 0, .string ⟨#[]⟩, .slice none 0 0, .slice none 0 0] := by rw [hwv]; exact hR2.alloc _
  have hPv : Past g w wv := by rw [hwv]; exact HW.out.trans (hp1.trans (hp2.trans ((Past.refl _ _).alloc _)))
  have HV3 := Lib.hid (hV0.past hp3 (by omega))
  have HR3 := Lib.hid (hRv.past hp3 (by have := HG.out; omega))
  have HP3 := Lib.hid (hPv.trans hp3)
  have H3 := Lib.hid h3
  have hwR : w.heap.size ≠ g := by have := HG.out; omega
  have tc : ((c : Int) == 0) = false := by simp; omega
  clear hwv hV0 hRv hPv h2v Y B I h1 hp1 hp2 hR2 r0 r1 r2 r3 r4 r5 rf rl d0 d1 d2 d3 df h2 h3 hp3
  go_loopw [9] (fun iv wr => iv = .int .i64 0 ∧ wr = w3) (fun _ _ => 0)
  case atStart => exact ⟨rfl, rfl⟩
  case round =>
    obtain ⟨rfl, rfl⟩ := hrel
    obtain ⟨d0, d1, d2, d3, df⟩ := H3.out.cells
    obtain ⟨v0, v1, v2, v3, v4, v5, vf, vl⟩ := HV3.out.cells
    obtain ⟨r0, r1, r2, r3, r4, r5, rf, rl⟩ := HR3.out.cells
    go_wp2_with fail
    refine bodyPost_ret (results_six rfl _ _ w.heap.size (.int .i64 6) (.int .i64 0) (.float .f64 0) (.string ⟨#[]⟩) (.slice none 0 0) (.slice none 0 0) rfl (HR3.out.six _ _ _ _ _ _)) rfl ⟨?_, ⟨6, 0, 0, ⟨#[]⟩, none, 0, 0, none, 0, 0, rfl⟩, hc, a3, p + 1, by have := HP.out; omega, ?_⟩
    · exact HP3.out.six (Nat.le_refl _) _ _ _ _ _ _
    · exact H3.out.six hwR _ _ _ _ _ _
end Go.Proofs.Yteclpehbpicpaaa
