/-
  The document's reader: Type, of lists.
-/
import Derived.Test.YteclpehbpicpaaaJdm
namespace Go.Proofs.Yteclpehbpicpaaa
open Go.RowKit

theorem TOwn.lone {w : World} {lo base : Nat} {v : Array Value} {t : TT} {itv : Value} (hl : lo ≤ base) (hI : w.ownsRow base 30 3 itv 1 v.toList) (hv : TOwn w (fun b => lo ≤ b) v t) :
    ∃ B cb, itv = .slice B 1 cb ∧ TOwn w (fun b => lo ≤ b) (tfields 5 none 0 0 B 1 cb) (tlist t) := by
  obtain ⟨A, cap, rfl, h1, h2, hA⟩ := owns_form hI
  obtain ⟨g, rfl, hg, hlt, hx⟩ := hA (by decide)
  refine ⟨_, cap, rfl, .mk 5 none 0 0 _ 1 cap _ _ (fun _ => v) (by omega) ⟨Nat.le_refl _, Nat.zero_le _⟩ ⟨h1, h2⟩ (fun h => absurd h (Nat.lt_irrefl 0)) (fun _ => ⟨g, 0, rfl, Nat.le_trans hl hg, hlt, fun i hi j hj => ?_⟩) (fun i hi => hv)⟩
  obtain rfl : i = 0 := by omega
  have hsz := hv.size
  have := hx j (v[j]'(by omega)) (by rw [Array.getElem?_toList]; exact Array.getElem?_eq_getElem (by omega))
  rw [Nat.zero_mul, Nat.add_zero, Nat.zero_add, this, Array.getElem?_eq_getElem]
/-- What reading a list's one item answers. -/
def tlP (r : Except Nat (TT × Nat × List UInt8)) : Except Nat (TT × Nat × List UInt8) := match r with | .error c => .error c | .ok (t, p, l) => .ok (tlist t, p, l)
set_option maxRecDepth 20000 in
set_option maxHeartbeats 600000 in
theorem RType_5 {w : World} {g : Nat} {s : ByteArray} {a p : Nat} {d : Int} {F : Nat → List UInt8 → Except Nat (TT × Nat × List UInt8)} (hd : -1000 ≤ d ∧ d ≤ 1000) (hF : ∀ p l t p' r, F p l = .ok (t, p', r) → p' ≤ 200)
    (ih : ∀ (w : World) (a p : Nat), Rdr w g s a 0 p → a ≤ s.size → p ≤ 200 → Calls Try.prog 65 #[.pointer (some ⟨g, 0, none⟩), .int .i64 (d + 1)] w fun x w' => TEnds s w g (F p (left s a)) x w')
    (h : Rdr w g s a 0 p) (hp : ¬ (12 < d ∨ 200 < p + 1)) (ha : a < s.size) (hs : s.size ≤ 1000000000) (hkb : ((s[a].toNat : Nat) : Int) = 5) :
    Calls Try.prog 65 #[.pointer (some ⟨g, 0, none⟩), .int .i64 d] w fun x w' => TEnds s w g (tlP (F (p + 1) (left s (a + 1)))) x w' := by
  have hW : Past g w (w.alloc (.cells #[.int .i64 0, .slice none 0 0, .slice none 0 0] 30)) := (Past.refl g w).alloc _
  have hR := Bt.new w #[.int .i64 0, .slice none 0 0, .slice none 0 0]
  have hg := h.lt
  have B := begin_ok (d := d) (h.alloc (.cells #[.int .i64 0, .slice none 0 0, .slice none 0 0] 30)) (by omega)
  rw [if_neg (by omega)] at B
  have HR := Lib.hid hR
  have HW := Lib.hid hW
  have HG := Lib.hid hg
  have HP := Lib.hid hp
  have HIH := Lib.hid ih
  have HFF := Lib.hid hF
  have SF := float_store
  obtain ⟨i0, hii, hz0, hz1, hz2⟩ := info_parts info30z
  clear h hR hW hp ih hF
  go_enter Try.func65, Try.ntmps65
  go_wp2_with (first
    | (go_at_call 92; refine B.mono ?_; rintro x w1 ⟨rfl, hp1, h1⟩; have Y := Byte_ok h1 ha (by omega); rw [hkb] at Y)
    | (go_at_call 58; refine Y.mono ?_; rintro x w2 ⟨rfl, h2, hp2⟩; obtain ⟨d0, d1, d2, d3, df⟩ := h2.cells; have hg2 : g < w2.heap.size := h2.lt; have hR2 := HR.out.past (hp1.trans hp2) (by have := HG.out; omega); obtain ⟨r0, r1, r2, rf, rl⟩ := hR2.cells; have h2v := h2.alloc (.cells #[.int .i64 5, .slice none 0 0, .slice none 0 0] 30)))
  obtain ⟨w3, hw3⟩ : ∃ w3, w3 = w2.alloc (.cells #[.int .i64 5, .slice none 0 0, .slice none 0 0] 30) := ⟨_, rfl⟩
  rw [← hw3] at h2v
  have hV0 : Bt w3 w2.heap.size #[.int .i64 5, .slice none 0 0, .slice none 0 0] := by rw [hw3]; exact Bt.new _ _
  have hRv : Bt w3 w.heap.size #[.int .i64 0, .slice none 0 0, .slice none 0 0] := by rw [hw3]; exact hR2.alloc _
  have hPv : Past g w w3 := by rw [hw3]; exact HW.out.trans (hp1.trans (hp2.trans ((Past.refl _ _).alloc _)))
  have hgs : w.heap.size < w2.heap.size ∧ g < w2.heap.size ∧ g + 1 ≤ w.heap.size := ⟨rl, hg2, hg⟩
  have hws : w2.heap.size < w3.heap.size := by rw [hw3]; simp
  have HV3 := Lib.hid hV0
  have HR3 := Lib.hid hRv
  have HP3 := Lib.hid hPv
  have H3 := Lib.hid h2v
  have HGS := Lib.hid hgs
  have HW3 := Lib.hid hws
  have HEQ := Lib.hid hw3
  have hb3 : w.heap.size ≤ w3.heap.size := by omega
  have HB3 := Lib.hid hb3
  have HA := Lib.hid ha
  clear hb3
  clear hw3 hV0 hRv hPv h2v Y B h1 hp1 hp2 hR2 r0 r1 r2 rf rl d0 d1 d2 d3 df h2 hgs hws
  rw [← HEQ.out]
  go_loopw [7] (fun iv wr => ∃ (i : Nat), i ≤ 1 ∧ iv = .int .i64 i ∧ Past g w wr ∧ w3.heap.size ≤ wr.heap.size ∧ Bt wr w.heap.size #[.int .i64 0, .slice none 0 0, .slice none 0 0] ∧
    ((i = 0 ∧ Rdr wr g s (a + 1 : Nat) 0 (p + 1 : Nat) ∧ Bt wr w2.heap.size #[.int .i64 5, .slice none 0 0, .slice none 0 0])
    ∨ (i = 1 ∧ ∃ (t : TT) (pp aa : Nat) (B : Option Addr) (cb : Nat), Hid (F (p + 1) (left s (a + 1)) = .ok (t, pp, left s aa)) ∧ aa ≤ s.size ∧ Rdr wr g s aa 0 pp ∧ TOwn wr (fun b => w3.heap.size ≤ b) #[.int .i64 5, .slice none 0 0, .slice B 1 cb] (tlist t) ∧ Bt wr w2.heap.size #[.int .i64 5, .slice none 0 0, .slice B 1 cb])
    ∨ (i = 1 ∧ ∃ (c aa pp : Nat) (B : Option Addr) (m cb : Nat), Hid (F (p + 1) (left s (a + 1)) = .error c) ∧ c ≠ 0 ∧ pp ≤ 1000000 ∧ Rdr wr g s aa c pp ∧ Bt wr w2.heap.size #[.int .i64 5, .slice none 0 0, .slice B m cb]))) (fun iv _ => 1 - (intOf iv).toNat)
  case atStart => exact ⟨0, by omega, rfl, HP3.out, Nat.le_refl _, HR3.out, .inl ⟨rfl, H3.out, HV3.out⟩⟩
  case round =>
    obtain ⟨i, hile, rfl, hpr, hsz, hRb, hst⟩ := hrel
    rcases hst with ⟨rfl, hr, hBx⟩ | ⟨rfl, t, pp, aa, B, cb, hFe, haa, hr, hvo, hBx⟩ | ⟨rfl, c, aa, pp, B, m, cb, hFe, hc0, hpp, hr, hBx⟩
    · obtain ⟨d0, d1, d2, d3, df⟩ := hr.cells
      obtain ⟨v0, v1, v2, vf, vl⟩ := hBx.cells
      have ihc := HIH.out
      have hO : wr.ownsRow w3.heap.size 30 3 (.slice none 0 0) 0 [] := World.ownsRow_nil _ _ _ _
      have HBx := Lib.hid hBx
      have HR := Lib.hid hr
      have hpl := HP.out
      have C := fun W (hW : Rdr W g s (a + 1 : Nat) 0 (p + 1 : Nat)) => ihc W (a + 1) (p + 1) hW HA.out (by omega)
      have hgw2 : w2.heap.size ≠ g := by have := HGS.out; omega
      have hg3 : g < w3.heap.size := by have := HGS.out; have := HW3.out; omega
      have hgwr : w2.heap.size < wr.heap.size := hBx.lt
      have HPR := Lib.hid hpr
      have HSZ := Lib.hid hsz
      have HRB := Lib.hid hRb
      have hd1 : IntKind.i64.wrap (d + 1) = d + 1 := by rw [IntKind.wrap_i64]; omega
      clear hBx hpr ihc hsz hRb hr hpl
      go_wp2_with fail
      go_region_law (first | (refine step_append_lies _ rfl (.tmp 68) (.tmp 73) 28 rfl w3.heap.size 30 i0 _ 3 56 Try.underlying28 hii hz0 hz1 hz2 rfl (by decide) (.slice none 0 0) 0 _ (by simp [Act.eval]) hO4 ⟨w4.heap.size, 0, none⟩ 1 1 [.int .i64 b0, .slice b1 b2 b3, .slice b4 b5 b6] (by simp [Act.eval]) rfl hnews4 hone4 (by decide) (by unfold maxLen; omega) (by omega) hbase4 _ rfl ?_; intro g5 cap5 w5 hown5 hgrow5 hat5 hlt5; have hBx5 := (hgrow5.block w2.heap.size hBx4.lt (fun e => by cases e)).trans hBx4; obtain ⟨z0, z1, z2, zf, zl⟩ := Bt.cells hBx5) | (go_simp; go_at_call 65; refine (C _ (by exact HR.out)).mono ?_; rintro x w4 hE4; have hp4 := ((Past.refl g wr).drew).trans hE4.1; obtain ⟨b0, b1, b2, b3, b4, b5, b6, rfl⟩ := hE4.form; obtain ⟨y0, y1, y2, yf, yl⟩ := (HBx.out.past hp4 hgw2).cells; have hBx4 := (HBx.out.past hp4 hgw2).alloc (.cells #[.int .i64 b0, .slice b1 b2 b3, .slice b4 b5 b6] 30); have hO4 := (owns_past hO hp4 hg3).alloc (.cells #[.int .i64 b0, .slice b1 b2 b3, .slice b4 b5 b6] 30); have hnews4 := new3 w4 b0 b1 b2 b3 b4 b5 b6; have hone4 : ∀ u ∈ [Value.int .i64 b0, .slice b1 b2 b3, .slice b4 b5 b6], u.oneCell' = true := (by simp [Value.oneCell']); have hbase4 : w3.heap.size ≤ (w4.alloc (.cells #[.int .i64 b0, .slice b1 b2 b3, .slice b4 b5 b6] 30)).heap.size := Nat.le_trans (Nat.le_trans HSZ.out hp4.size) (by simp); have HE4 := Lib.hid hE4; clear hE4))
      all_goals
        go_wp2_with fail
        go_roundw
        case measure => simp [intOf]
        case rel =>
          have E := HE4.out
          have hwR : w.heap.size ≠ g := by have := HG.out; omega
          have hw2R : w2.heap.size ≠ w.heap.size := by have := HGS.out; omega
          have hw3R : w.heap.size < w3.heap.size := by have := HGS.out; have := HW3.out; omega
          have hP5 := ((HPR.out.trans hp4).alloc (.cells #[.int .i64 b0, .slice b1 b2 b3, .slice b4 b5 b6] 30)).grown hgrow5 (fun k e => by cases e)
          have hP6 := hP5.setNew (Nat.le_of_lt HGS.out.1) 2 (.slice (some ⟨g5, 0, none⟩) 1 cap5)
          have hR4 : Bt (w4.alloc (.cells #[.int .i64 b0, .slice b1 b2 b3, .slice b4 b5 b6] 30)) w.heap.size #[.int .i64 0, .slice none 0 0, .slice none 0 0] := (HRB.out.past hp4 hwR).alloc _
          have hR5 : Bt w5 w.heap.size #[.int .i64 0, .slice none 0 0, .slice none 0 0] := (hgrow5.block w.heap.size hR4.lt (fun e => by cases e)).trans hR4
          have hR6 := hR5.other hw2R 2 (.slice (some ⟨g5, 0, none⟩) 1 cap5)
          have hV6 : Bt (w5.setCell ⟨w2.heap.size, 2, none⟩ (.slice (some ⟨g5, 0, none⟩) 1 cap5)) w2.heap.size #[.int .i64 5, .slice none 0 0, .slice (some ⟨g5, 0, none⟩) 1 cap5] := Bt.set hBx5 2 _
          have hS6 : w3.heap.size ≤ (w5.setCell ⟨w2.heap.size, 2, none⟩ (.slice (some ⟨g5, 0, none⟩) 1 cap5)).heap.size := by have := hgrow5.size; simp [World.setCell]; omega
          have rdr : ∀ {a e p : Int}, Rdr w4 g s a e p → Rdr (w5.setCell ⟨w2.heap.size, 2, none⟩ (.slice (some ⟨g5, 0, none⟩) 1 cap5)) g s a e p := fun h4 => by
            have h4a := h4.alloc (.cells #[.int .i64 b0, .slice b1 b2 b3, .slice b4 b5 b6] 30)
            exact Rdr.other ((hgrow5.block g h4a.lt (fun e => by cases e)).trans h4a) hgw2 _ _
          refine ⟨1, by omega, by go_num, hP6, hS6, hR6, ?_⟩
          cases hFe : F (p + 1) (left s (a + 1)) with
          | error c =>
            rw [hFe] at E
            obtain ⟨_, _, hc0, a', p', hp', h4⟩ := E
            exact .inr (.inr ⟨rfl, c, a', p', _, _, _, Lib.hid rfl, hc0, hp', rdr h4, hV6⟩)
          | ok q =>
            obtain ⟨t, p1, l1⟩ := q
            rw [hFe] at E
            obtain ⟨_, ⟨v, hve, hv⟩, a4, ha4, hl4, h4⟩ := E
            cases hve
            have hv' := hv.imp (Q := fun b => wr.heap.size ≤ b) fun b hb _ => Nat.le_trans ((Past.refl g wr).drew).size hb
            have hsz4 := HSZ.out
            have hws3 := HW3.out
            have hv5 : TOwn (w5.setCell ⟨w2.heap.size, 2, none⟩ (.slice (some ⟨g5, 0, none⟩) 1 cap5)) (fun b => w3.heap.size ≤ b) #[.int .i64 b0, .slice b1 b2 b3, .slice b4 b5 b6] t :=
              (hv'.keep (by have := hgrow5.size; simp at this; simp [World.setCell]; omega) fun k hk hlt => by
                rw [Below.heap_setCell _ _ _ _ (by simp; omega), hgrow5.block k (by simp; omega) (fun e => by cases e), Below.heap_alloc _ _ _ hlt]).imp fun b hb _ => by omega
            obtain ⟨B, cb, e1, hl⟩ := TOwn.lone (Nat.le_refl _) (ownsRow_setCell_below (by simpa using hown5) hws3 _) hv5
            cases e1
            exact .inr (.inl ⟨rfl, t, p1, a4, _, _, Lib.hid (by rw [hl4]), ha4, rdr h4, hl, hV6⟩)
    · obtain ⟨d0, d1, d2, d3, df⟩ := hr.cells
      obtain ⟨v0, v1, v2, vf, vl⟩ := hBx.cells
      obtain ⟨r0, r1, r2, rf, rl⟩ := hRb.cells
      have hwR : w.heap.size ≠ g := by have := HG.out; omega
      have hw3R : w.heap.size < w3.heap.size := by have := HGS.out; have := HW3.out; omega
      have HRb := Lib.hid hRb
      have HPr := Lib.hid hpr
      have HR0 := Lib.hid hr
      have HVO := Lib.hid hvo
      clear hRb hpr hr hvo hBx
      go_wp2_with fail
      refine bodyPost_ret (results_box3 rfl _ _ w.heap.size (.int .i64 5) (.slice none 0 0) (.slice B 1 cb) rfl (HRb.out.put3 _ _ _)) rfl ?_
      show TEnds s w g (tlP (F (p + 1) (left s (a + 1)))) _ _
      rw [hFe.out]
      refine ⟨?_, ⟨_, rfl, ?_⟩, aa, haa, rfl, ?_⟩
      · exact HPr.out.put3 (Nat.le_refl _) _ _ _
      · exact (HVO.out.put3 (by omega) _ _ _).imp fun b hb _ => by omega
      · exact HR0.out.put3 hwR _ _ _
    · obtain ⟨d0, d1, d2, d3, df⟩ := hr.cells
      obtain ⟨v0, v1, v2, vf, vl⟩ := hBx.cells
      obtain ⟨r0, r1, r2, rf, rl⟩ := hRb.cells
      have tc : ((c : Int) == 0) = false := by simp; omega
      have hwR : w.heap.size ≠ g := by have := HG.out; omega
      have HRb := Lib.hid hRb
      have HPr := Lib.hid hpr
      have HR0 := Lib.hid hr
      clear hRb hpr hr hBx
      go_wp2_with fail
      refine bodyPost_ret (results_box3 rfl _ _ w.heap.size (.int .i64 5) (.slice none 0 0) (.slice B m cb) rfl (HRb.out.put3 _ _ _)) rfl ?_
      show TEnds s w g (tlP (F (p + 1) (left s (a + 1)))) _ _
      rw [hFe.out]
      refine ⟨?_, ⟨5, none, 0, 0, B, m, cb, rfl⟩, hc0, aa, pp, hpp, ?_⟩
      · exact HPr.out.put3 (Nat.le_refl _) _ _ _
      · exact HR0.out.put3 hwR _ _ _
end Go.Proofs.Yteclpehbpicpaaa
