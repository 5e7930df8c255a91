/-
  The document's reader: Value, of bools and of floats.
  The document's reader: Value, of floats.
  The document's reader: the names and items that a value has gathered.
-/
import Derived.Test.YtekojglcbalhnaaGreatDoorM12
import Derived.Deep.AppendLies
namespace Go.Proofs.YtekojglcbalhnaaGreatDoor
open Go.RowKit

set_option maxRecDepth 20000 in
set_option maxHeartbeats 4000000 in
theorem RValue_1t {w : World} {g : Nat} {s : ByteArray} {a p : Nat} {d : Int} (hi : s.size ≤ a + 1) (h : Rdr w g s a 0 p) (hp : ¬ (12 < d ∨ 200 < p + 1)) (ha : a < s.size) (hs : s.size ≤ 1000000000) (hkb : ((s[a].toNat : Nat) : Int) = 1) :
    Calls Tryz.prog 115 #[.pointer (some ⟨g, 0, none⟩), .int .i64 d] w fun x w' => VEnds s w g (.error 14) x w' := by
  have hW : Past g w (w.alloc (.cells #[.int .i64 0, .int .i64 0, .float .f64 0, .string ⟨#[]⟩, .slice none 0 0, .slice none 0 0] 28)) := (Past.refl g w).alloc _
  have hR := Bx.new w #[.int .i64 0, .int .i64 0, .float .f64 0, .string ⟨#[]⟩, .slice none 0 0, .slice none 0 0]
  have hg := h.lt
  have B := begin_ok (d := d) (h.alloc (.cells #[.int .i64 0, .int .i64 0, .float .f64 0, .string ⟨#[]⟩, .slice none 0 0, .slice none 0 0] 28)) (by omega)
  rw [if_neg (by omega)] at B
  have HR := Lib.hid hR
  have HW := Lib.hid hW
  have HG := Lib.hid hg
  have HP := Lib.hid hp
  have SF := float_store
  clear h hR hW hp
  go_enter Tryz.func115, Tryz.ntmps115
  go_wp2_with (first
    | (go_at_call 144; refine B.mono ?_; rintro x w1 ⟨rfl, hp1, h1⟩; have Y := Byte_ok h1 ha (by omega); rw [hkb] at Y)
    | (go_at_call 49; refine Y.mono ?_; rintro x w2 ⟨rfl, h2, hp2⟩; obtain ⟨d0, d1, d2, d3, df⟩ := h2.cells; have hg2 : g < w2.heap.size := h2.lt; have hR2 := HR.out.past (hp1.trans hp2) (by have := HG.out; omega); obtain ⟨r0, r1, r2, r3, r4, r5, rf, rl⟩ := hR2.cells; have h2v := h2.alloc (.cells #[.int .i64 1, .int .i64 0, .float .f64 0, .string ⟨#[]⟩, .slice none 0 0, .slice none 0 0] 28); have Y2 := Byte_end h2v hi)
    | (go_at_call 49; with_reducible refine Y2.mono ?_; rintro x w3 ⟨rfl, h3, hp3⟩; obtain ⟨e0, e1, e2, e3, ef⟩ := h3.cells; have hR3 := (hR2.alloc _).past hp3 (by have := HG.out; omega); obtain ⟨q0, q1, q2, q3, q4, q5, qf, ql⟩ := hR3.cells; have hV3 := (Bx.new w2 #[.int .i64 1, .int .i64 0, .float .f64 0, .string ⟨#[]⟩, .slice none 0 0, .slice none 0 0]).past hp3 (by omega); obtain ⟨v0, v1, v2, v3, v4, v5, vf, vl⟩ := hV3.cells))
  refine bodyPost_ret (results_six rfl _ _ w.heap.size (.int .i64 1) (.int .i64 0) (.float .f64 0) (.string ⟨#[]⟩) (.slice none 0 0) (.slice none 0 0) rfl ((hR3.other (by omega) _ _).six _ _ _ _ _ _)) rfl ⟨?_, ⟨1, 0, 0, ⟨#[]⟩, none, 0, 0, none, 0, 0, rfl⟩, by decide, a + 1, p + 1, by have := HP.out; omega, ?_⟩
  · exact (((HW.out.trans (hp1.trans (hp2.trans (((Past.refl _ _).alloc _).trans hp3)))).setNew (by have := hp1.size; have := hp2.size; have := HW.out.size; omega) _ _).six (Nat.le_refl _) _ _ _ _ _ _)
  · exact ((h3.other (by omega) _ _).six (by have := HG.out; omega) _ _ _ _ _ _)
set_option maxRecDepth 20000 in
set_option maxHeartbeats 4000000 in
theorem RValue_1 {w : World} {g : Nat} {s : ByteArray} {a p : Nat} {d : Int} {c : Int} (hi : a + 1 < s.size) (hc : ((s[a + 1].toNat : Nat) : Int) = c) (h1c : c ≤ 1) (h : Rdr w g s a 0 p) (hp : ¬ (12 < d ∨ 200 < p + 1)) (ha : a < s.size) (hs : s.size ≤ 1000000000) (hkb : ((s[a].toNat : Nat) : Int) = 1) :
    Calls Tryz.prog 115 #[.pointer (some ⟨g, 0, none⟩), .int .i64 d] w fun x w' => VEnds s w g (.ok (leaf 1 c 0 ⟨#[]⟩, p + 1, left s (a + 2))) x w' := by
  have hW : Past g w (w.alloc (.cells #[.int .i64 0, .int .i64 0, .float .f64 0, .string ⟨#[]⟩, .slice none 0 0, .slice none 0 0] 28)) := (Past.refl g w).alloc _
  have hR := Bx.new w #[.int .i64 0, .int .i64 0, .float .f64 0, .string ⟨#[]⟩, .slice none 0 0, .slice none 0 0]
  have hg := h.lt
  have B := begin_ok (d := d) (h.alloc (.cells #[.int .i64 0, .int .i64 0, .float .f64 0, .string ⟨#[]⟩, .slice none 0 0, .slice none 0 0] 28)) (by omega)
  rw [if_neg (by omega)] at B
  have HR := Lib.hid hR
  have HW := Lib.hid hW
  have HG := Lib.hid hg
  have HP := Lib.hid hp
  have SF := float_store
  clear h hR hW hp
  go_enter Tryz.func115, Tryz.ntmps115
  go_wp2_with (first
    | (go_at_call 144; refine B.mono ?_; rintro x w1 ⟨rfl, hp1, h1⟩; have Y := Byte_ok h1 ha (by omega); rw [hkb] at Y)
    | (go_at_call 49; refine Y.mono ?_; rintro x w2 ⟨rfl, h2, hp2⟩; obtain ⟨d0, d1, d2, d3, df⟩ := h2.cells; have hg2 : g < w2.heap.size := h2.lt; have hR2 := HR.out.past (hp1.trans hp2) (by have := HG.out; omega); obtain ⟨r0, r1, r2, r3, r4, r5, rf, rl⟩ := hR2.cells; have h2v := h2.alloc (.cells #[.int .i64 1, .int .i64 0, .float .f64 0, .string ⟨#[]⟩, .slice none 0 0, .slice none 0 0] 28); have Y2 := Byte_ok h2v hi (by omega); rw [hc] at Y2)
    | (go_at_call 49; with_reducible refine Y2.mono ?_; rintro x w3 ⟨rfl, h3, hp3⟩; obtain ⟨e0, e1, e2, e3, ef⟩ := h3.cells; have hR3 := (hR2.alloc _).past hp3 (by have := HG.out; omega); obtain ⟨q0, q1, q2, q3, q4, q5, qf, ql⟩ := hR3.cells; have hV3 := (Bx.new w2 #[.int .i64 1, .int .i64 0, .float .f64 0, .string ⟨#[]⟩, .slice none 0 0, .slice none 0 0]).past hp3 (by omega); obtain ⟨v0, v1, v2, v3, v4, v5, vf, vl⟩ := hV3.cells))
  refine bodyPost_ret (results_six rfl _ _ w.heap.size (.int .i64 1) (.int .i64 c) (.float .f64 0) (.string ⟨#[]⟩) (.slice none 0 0) (.slice none 0 0) rfl ((hR3.other (by omega) _ _).six _ _ _ _ _ _)) rfl ⟨?_, ⟨_, rfl, VOwn.leaf (by omega) (by omega) (by decide) (by decide)⟩, a + 2, by omega, rfl, ?_⟩
  · exact (((HW.out.trans (hp1.trans (hp2.trans (((Past.refl _ _).alloc _).trans hp3)))).setNew (by have := hp1.size; have := hp2.size; have := HW.out.size; omega) _ _).six (Nat.le_refl _) _ _ _ _ _ _)
  · exact ((h3.other (by omega) _ _).six (by have := HG.out; omega) _ _ _ _ _ _)
set_option maxRecDepth 20000 in
set_option maxHeartbeats 4000000 in
theorem RValue_1b {w : World} {g : Nat} {s : ByteArray} {a p : Nat} {d : Int} {c : Int} (hi : a + 1 < s.size) (hc : ((s[a + 1].toNat : Nat) : Int) = c) (h1c : 1 < c) (h : Rdr w g s a 0 p) (hp : ¬ (12 < d ∨ 200 < p + 1)) (ha : a < s.size) (hs : s.size ≤ 1000000000) (hkb : ((s[a].toNat : Nat) : Int) = 1) :
    Calls Tryz.prog 115 #[.pointer (some ⟨g, 0, none⟩), .int .i64 d] w fun x w' => VEnds s w g (.error 5) x w' := by
  have hW : Past g w (w.alloc (.cells #[.int .i64 0, .int .i64 0, .float .f64 0, .string ⟨#[]⟩, .slice none 0 0, .slice none 0 0] 28)) := (Past.refl g w).alloc _
  have hR := Bx.new w #[.int .i64 0, .int .i64 0, .float .f64 0, .string ⟨#[]⟩, .slice none 0 0, .slice none 0 0]
  have hg := h.lt
  have B := begin_ok (d := d) (h.alloc (.cells #[.int .i64 0, .int .i64 0, .float .f64 0, .string ⟨#[]⟩, .slice none 0 0, .slice none 0 0] 28)) (by omega)
  rw [if_neg (by omega)] at B
  have HR := Lib.hid hR
  have HW := Lib.hid hW
  have HG := Lib.hid hg
  have HP := Lib.hid hp
  have SF := float_store
  clear h hR hW hp
  go_enter Tryz.func115, Tryz.ntmps115
  go_wp2_with (first
    | (go_at_call 144; refine B.mono ?_; rintro x w1 ⟨rfl, hp1, h1⟩; have Y := Byte_ok h1 ha (by omega); rw [hkb] at Y)
    | (go_at_call 49; refine Y.mono ?_; rintro x w2 ⟨rfl, h2, hp2⟩; obtain ⟨d0, d1, d2, d3, df⟩ := h2.cells; have hg2 : g < w2.heap.size := h2.lt; have hR2 := HR.out.past (hp1.trans hp2) (by have := HG.out; omega); obtain ⟨r0, r1, r2, r3, r4, r5, rf, rl⟩ := hR2.cells; have h2v := h2.alloc (.cells #[.int .i64 1, .int .i64 0, .float .f64 0, .string ⟨#[]⟩, .slice none 0 0, .slice none 0 0] 28); have Y2 := Byte_ok h2v hi (by omega); rw [hc] at Y2)
    | (go_at_call 49; with_reducible refine Y2.mono ?_; rintro x w3 ⟨rfl, h3, hp3⟩; obtain ⟨e0, e1, e2, e3, ef⟩ := h3.cells; have hR3 := (hR2.alloc _).past hp3 (by have := HG.out; omega); obtain ⟨q0, q1, q2, q3, q4, q5, qf, ql⟩ := hR3.cells; have hV3 := (Bx.new w2 #[.int .i64 1, .int .i64 0, .float .f64 0, .string ⟨#[]⟩, .slice none 0 0, .slice none 0 0]).past hp3 (by omega); obtain ⟨v0, v1, v2, v3, v4, v5, vf, vl⟩ := hV3.cells; have F := fail_0 (h3.other (R := w2.heap.size) (by omega) 1 (.int .i64 c)) 5; have hV4 := hV3.set 1 (.int .i64 c); have hR4 := hR3.other (S := w2.heap.size) (by omega) 1 (.int .i64 c))
    | (go_at_call 84; refine F.mono ?_; rintro x w4 ⟨rfl, h4, hp4⟩; have hR5 := hR4.past hp4 (by have := HG.out; omega); have hV5 := hV4.past hp4 (by omega); obtain ⟨x0, x1, x2, x3, x4, x5, xf, xl⟩ := hR5.cells; obtain ⟨y0, y1, y2, y3, y4, y5, yf, yl⟩ := hV5.cells))
  refine bodyPost_ret (results_six rfl _ _ w.heap.size (.int .i64 1) (.int .i64 c) (.float .f64 0) (.string ⟨#[]⟩) (.slice none 0 0) (.slice none 0 0) rfl (hR5.six _ _ _ _ _ _)) rfl ⟨?_, ⟨1, c, 0, ⟨#[]⟩, none, 0, 0, none, 0, 0, rfl⟩, by decide, a + 1 + 1, p + 1, by have := HP.out; omega, ?_⟩
  · exact ((((HW.out.trans (hp1.trans (hp2.trans (((Past.refl _ _).alloc _).trans hp3)))).setNew (by have := hp1.size; have := hp2.size; have := HW.out.size; omega) _ _).trans hp4).six (Nat.le_refl _) _ _ _ _ _ _)
  · exact (h4.six (by have := HG.out; omega) _ _ _ _ _ _)
end Go.Proofs.YtekojglcbalhnaaGreatDoor
namespace Go.Proofs.YtekojglcbalhnaaGreatDoor
open Go.RowKit

theorem wacc {j q c : Nat} (hj : j < 8) (hq : q < 256 ^ j) (hc : c < 256) : IntKind.u64.wrap ((q : Int) * 256) = (q : Int) * 256 ∧ IntKind.u64.wrap ((q : Int) * 256 + c) = ((q * 256 + c : Nat) : Int) ∧ q * 256 + c < 256 ^ (j + 1) := by
  rw [IntKind.wrap_u64, IntKind.wrap_u64]
  obtain rfl | rfl | rfl | rfl | rfl | rfl | rfl | rfl : j = 0 ∨ j = 1 ∨ j = 2 ∨ j = 3 ∨ j = 4 ∨ j = 5 ∨ j = 6 ∨ j = 7 := by omega
  all_goals
    simp only [Nat.reduceAdd, Nat.reducePow] at *
    refine ⟨?_, ?_, ?_⟩ <;> omega
theorem wP_lt : ∀ (j q b : Nat) (l r : List UInt8) (i : Nat), i + j = 8 → q < 256 ^ i → wP j q l = .ok (b, r) → b < 18446744073709551616 := by
  intro j
  induction j with
  | zero =>
    intro q b l r i hi hq h
    rw [wP] at h
    cases h
    obtain rfl : i = 8 := by omega
    exact hq
  | succ j ih =>
    intro q b l r i hi hq h
    cases l with
    | nil => rw [wP] at h; cases h
    | cons c l =>
      rw [wP] at h
      exact ih _ b l r (i + 1) (by omega) (wacc (by omega) hq c.toNat_lt).2.2 h
set_option maxRecDepth 20000 in
set_option maxHeartbeats 4000000 in
theorem RValue_3 {w : World} {g : Nat} {s : ByteArray} {a p b : Nat} {d : Int} {l : List UInt8} (hi : wP 8 0 (left s (a + 1)) = .ok (b, l)) (hcan : canonW b = b) (h : Rdr w g s a 0 p) (hp : ¬ (12 < d ∨ 200 < p + 1)) (ha : a < s.size) (hs : s.size ≤ 1000000000) (hkb : ((s[a].toNat : Nat) : Int) = 3) :
    Calls Tryz.prog 115 #[.pointer (some ⟨g, 0, none⟩), .int .i64 d] w fun x w' => VEnds s w g (.ok (leaf 3 0 b ⟨#[]⟩, p + 1, l)) x w' := by
  have hW : Past g w (w.alloc (.cells #[.int .i64 0, .int .i64 0, .float .f64 0, .string ⟨#[]⟩, .slice none 0 0, .slice none 0 0] 28)) := (Past.refl g w).alloc _
  have hR := Bx.new w #[.int .i64 0, .int .i64 0, .float .f64 0, .string ⟨#[]⟩, .slice none 0 0, .slice none 0 0]
  have hg := h.lt
  have B := begin_ok (d := d) (h.alloc (.cells #[.int .i64 0, .int .i64 0, .float .f64 0, .string ⟨#[]⟩, .slice none 0 0, .slice none 0 0] 28)) (by omega)
  rw [if_neg (by omega)] at B
  have HB := Lib.hid (wP_lt 8 0 b _ l 0 rfl (by decide) hi)
  have HR := Lib.hid hR
  have HW := Lib.hid hW
  have HG := Lib.hid hg
  have HP := Lib.hid hp
  have HI := Lib.hid hi
  have SF := float_store
  have FR := float_run
  have BR := bits_run
  have CN := Canon_any b
  have tc : ((canonW b : Int) != (b : Int)) = false := by simp; omega
  clear h hR hW hp hi hcan
  go_enter Tryz.func115, Tryz.ntmps115
  go_wp2_with (first
    | (go_at_call 144; refine B.mono ?_; rintro x w1 ⟨rfl, hp1, h1⟩; have Y := Byte_ok h1 ha (by omega); rw [hkb] at Y)
    | (go_at_call 49; refine Y.mono ?_; rintro x w2 ⟨rfl, h2, hp2⟩; obtain ⟨d0, d1, d2, d3, df⟩ := h2.cells; have hg2 : g < w2.heap.size := h2.lt; have hR2 := HR.out.past (hp1.trans hp2) (by have := HG.out; omega); obtain ⟨r0, r1, r2, r3, r4, r5, rf, rl⟩ := hR2.cells; have h2v := h2.alloc (.cells #[.int .i64 3, .int .i64 0, .float .f64 0, .string ⟨#[]⟩, .slice none 0 0, .slice none 0 0] 28)))
  obtain ⟨wv, hwv⟩ : ∃ wv, wv = w2.alloc (.cells #[.int .i64 3, .int .i64 0, .float .f64 0, .string ⟨#[]⟩, .slice none 0 0, .slice none 0 0] 28) := ⟨_, rfl⟩
  rw [← hwv] at h2v ⊢
  have hV0 : Bx wv w2.heap.size #[.int .i64 3, .int .i64 0, .float .f64 0, .string ⟨#[]⟩, .slice none 0 0, .slice none 0 0] := by rw [hwv]; exact Bx.new _ _
  have hRv : Bx wv w.heap.size #[.int .i64 0, .int .i64 0, .float .f64 0, .string ⟨#[]⟩, .slice none 0 0, .slice none 0 0] := by rw [hwv]; exact hR2.alloc _
  have hPv : Past g w wv := by rw [hwv]; exact HW.out.trans (hp1.trans (hp2.trans ((Past.refl _ _).alloc _)))
  have HV0 := Lib.hid hV0
  have HRv := Lib.hid hRv
  have HPv := Lib.hid hPv
  have H2 := Lib.hid h2v
  have HV2 := Lib.hid (show w.heap.size < w2.heap.size ∧ g < w2.heap.size from ⟨rl, hg2⟩)
  clear hwv hV0 hRv hPv h2v Y B h1 hp1 hp2 hR2 r0 r1 r2 r3 r4 r5 rf rl d0 d1 d2 d3 df h2
  go_loopw [6, 7] (fun bv iv wr => ∃ (j q : Nat), j ≤ 8 ∧ iv = .int .i64 j ∧ bv = .int .u64 q ∧ q < 256 ^ j ∧ Hid (wP (8 - j) q (left s (a + 1 + j)) = .ok (b, l)) ∧ a + 1 + j ≤ s.size ∧ Rdr wr g s ((a + 1 + j : Nat) : Int) 0 (p + 1) ∧ Past g wv wr) (fun _ iv _ => 8 - (intOf iv).toNat)
  case atStart => exact ⟨0, 0, by omega, rfl, rfl, by decide, Lib.hid HI.out, by omega, H2.out, Past.refl _ _⟩
  case round =>
    obtain ⟨j, q, hj, rfl, rfl, hq, hw, haj, hr, hpr⟩ := hrel
    by_cases h8 : j = 8
    · subst h8
      have hw' := hw.out
      rw [show 8 - 8 = 0 from rfl, wP] at hw'
      cases hw'
      obtain ⟨d0, d1, d2, d3, df⟩ := hr.cells
      have hV := HV0.out.past hpr (by have := HV2.out; omega)
      have hRr := HRv.out.past hpr (by have := HG.out; omega)
      obtain ⟨v0, v1, v2, v3, v4, v5, vf, vl⟩ := hV.cells
      obtain ⟨r0, r1, r2, r3, r4, r5, rf, rl⟩ := hRr.cells
      have HV := Lib.hid hV
      have HRr := Lib.hid hRr
      have HR0 := Lib.hid hr
      have HQ := Lib.hid hq
      have HPr := Lib.hid (HPv.out.trans hpr)
      have hne : g ≠ w2.heap.size := by have := HV2.out; omega
      have hne2 : w.heap.size ≠ w2.heap.size := by have := HV2.out; omega
      have hne3 : g ≠ w.heap.size := by have := HG.out; omega
      clear hV hRr hr hq hpr hw
      go_wp2_with (first | (go_at_call 109; refine (CN _).mono ?_; rintro e w4 ⟨rfl, rfl⟩))
      refine bodyPost_ret (results_six rfl _ _ w.heap.size (.int .i64 3) (.int .i64 0) (.float .f64 b) (.string ⟨#[]⟩) (.slice none 0 0) (.slice none 0 0) rfl ((HRr.out.other hne2.symm _ _).six _ _ _ _ _ _)) rfl ⟨?_, ⟨_, rfl, VOwn.leaf (by omega) (by omega) HB.out (by decide)⟩, a + 1 + 8, haj, rfl, ?_⟩
      · exact (HPr.out.setNew (Nat.le_of_lt HV2.out.1) _ _).six (Nat.le_refl _) _ _ _ _ _ _
      · exact (HR0.out.other hne.symm _ _).six hne3.symm _ _ _ _ _ _

    · have hlt : a + 1 + j < s.size := by
        by_cases e : a + 1 + j < s.size
        · exact e
        · have hw' := hw.out
          rw [left_nil (by omega), show 8 - j = (7 - j) + 1 by omega, wP] at hw'
          cases hw'
      obtain ⟨c, hc0⟩ : ∃ c, s[a + 1 + j] = c := ⟨_, rfl⟩
      have Y := Byte_ok hr hlt (by omega)
      rw [hc0] at Y
      have hw' := hw.out
      rw [left_cons hlt, hc0, show 8 - j = (7 - j) + 1 by omega, wP] at hw'
      obtain ⟨E1, E2, E3⟩ := wacc (j := j) (by omega) hq c.toNat_lt
      have E0 : IntKind.u64.wrap ((c.toNat : Nat) : Int) = c.toNat := by have := c.toNat_lt; rw [IntKind.wrap_u64]; omega
      have HE2 := Lib.hid E2
      have HE3 := Lib.hid E3
      have HW' := Lib.hid hw'
      have HPr := Lib.hid hpr
      clear hw hw' hc0 hr E3 hq hpr
      go_wp2_with (go_at_call 49; refine Y.mono ?_; rintro x w3 ⟨rfl, h3, hp3⟩)
      go_roundw
      case rel => exact ⟨j + 1, q * 256 + c.toNat, by omega, by go_num, by first | rfl | (congr 1) | (rw [HE2.out]), HE3.out, Lib.hid (by rw [show 8 - (j + 1) = 7 - j by omega, show a + 1 + (j + 1) = a + 1 + j + 1 by omega]; exact HW'.out), by omega, by rw [show a + 1 + (j + 1) = a + 1 + j + 1 by omega]; exact h3, HPr.out.trans hp3⟩
      case measure => simp [intOf]; omega
set_option maxRecDepth 20000 in
set_option maxHeartbeats 4000000 in
theorem RValue_3n {w : World} {g : Nat} {s : ByteArray} {a p b : Nat} {d : Int} {l : List UInt8} (hi : wP 8 0 (left s (a + 1)) = .ok (b, l)) (hcan : canonW b ≠ b) (h : Rdr w g s a 0 p) (hp : ¬ (12 < d ∨ 200 < p + 1)) (ha : a < s.size) (hs : s.size ≤ 1000000000) (hkb : ((s[a].toNat : Nat) : Int) = 3) :
    Calls Tryz.prog 115 #[.pointer (some ⟨g, 0, none⟩), .int .i64 d] w fun x w' => VEnds s w g (.error 5) x w' := by
  have hW : Past g w (w.alloc (.cells #[.int .i64 0, .int .i64 0, .float .f64 0, .string ⟨#[]⟩, .slice none 0 0, .slice none 0 0] 28)) := (Past.refl g w).alloc _
  have hR := Bx.new w #[.int .i64 0, .int .i64 0, .float .f64 0, .string ⟨#[]⟩, .slice none 0 0, .slice none 0 0]
  have hg := h.lt
  have B := begin_ok (d := d) (h.alloc (.cells #[.int .i64 0, .int .i64 0, .float .f64 0, .string ⟨#[]⟩, .slice none 0 0, .slice none 0 0] 28)) (by omega)
  rw [if_neg (by omega)] at B
  have HB := Lib.hid (wP_lt 8 0 b _ l 0 rfl (by decide) hi)
  have HR := Lib.hid hR
  have HW := Lib.hid hW
  have HG := Lib.hid hg
  have HP := Lib.hid hp
  have HI := Lib.hid hi
  have SF := float_store
  have FR := float_run
  have BR := bits_run
  have CN := Canon_any b
  have tc : ((canonW b : Int) != (b : Int)) = true := by simp; omega
  clear h hR hW hp hi hcan
  go_enter Tryz.func115, Tryz.ntmps115
  go_wp2_with (first
    | (go_at_call 144; refine B.mono ?_; rintro x w1 ⟨rfl, hp1, h1⟩; have Y := Byte_ok h1 ha (by omega); rw [hkb] at Y)
    | (go_at_call 49; refine Y.mono ?_; rintro x w2 ⟨rfl, h2, hp2⟩; obtain ⟨d0, d1, d2, d3, df⟩ := h2.cells; have hg2 : g < w2.heap.size := h2.lt; have hR2 := HR.out.past (hp1.trans hp2) (by have := HG.out; omega); obtain ⟨r0, r1, r2, r3, r4, r5, rf, rl⟩ := hR2.cells; have h2v := h2.alloc (.cells #[.int .i64 3, .int .i64 0, .float .f64 0, .string ⟨#[]⟩, .slice none 0 0, .slice none 0 0] 28)))
  obtain ⟨wv, hwv⟩ : ∃ wv, wv = w2.alloc (.cells #[.int .i64 3, .int .i64 0, .float .f64 0, .string ⟨#[]⟩, .slice none 0 0, .slice none 0 0] 28) := ⟨_, rfl⟩
  rw [← hwv] at h2v ⊢
  have hV0 : Bx wv w2.heap.size #[.int .i64 3, .int .i64 0, .float .f64 0, .string ⟨#[]⟩, .slice none 0 0, .slice none 0 0] := by rw [hwv]; exact Bx.new _ _
  have hRv : Bx wv w.heap.size #[.int .i64 0, .int .i64 0, .float .f64 0, .string ⟨#[]⟩, .slice none 0 0, .slice none 0 0] := by rw [hwv]; exact hR2.alloc _
  have hPv : Past g w wv := by rw [hwv]; exact HW.out.trans (hp1.trans (hp2.trans ((Past.refl _ _).alloc _)))
  have HV0 := Lib.hid hV0
  have HRv := Lib.hid hRv
  have HPv := Lib.hid hPv
  have H2 := Lib.hid h2v
  have HV2 := Lib.hid (show w.heap.size < w2.heap.size ∧ g < w2.heap.size from ⟨rl, hg2⟩)
  clear hwv hV0 hRv hPv h2v Y B h1 hp1 hp2 hR2 r0 r1 r2 r3 r4 r5 rf rl d0 d1 d2 d3 df h2
  go_loopw [6, 7] (fun bv iv wr => ∃ (j q : Nat), j ≤ 8 ∧ iv = .int .i64 j ∧ bv = .int .u64 q ∧ q < 256 ^ j ∧ Hid (wP (8 - j) q (left s (a + 1 + j)) = .ok (b, l)) ∧ a + 1 + j ≤ s.size ∧ Rdr wr g s ((a + 1 + j : Nat) : Int) 0 (p + 1) ∧ Past g wv wr) (fun _ iv _ => 8 - (intOf iv).toNat)
  case atStart => exact ⟨0, 0, by omega, rfl, rfl, by decide, Lib.hid HI.out, by omega, H2.out, Past.refl _ _⟩
  case round =>
    obtain ⟨j, q, hj, rfl, rfl, hq, hw, haj, hr, hpr⟩ := hrel
    by_cases h8 : j = 8
    · subst h8
      have hw' := hw.out
      rw [show 8 - 8 = 0 from rfl, wP] at hw'
      cases hw'
      obtain ⟨d0, d1, d2, d3, df⟩ := hr.cells
      have hV := HV0.out.past hpr (by have := HV2.out; omega)
      have hRr := HRv.out.past hpr (by have := HG.out; omega)
      obtain ⟨v0, v1, v2, v3, v4, v5, vf, vl⟩ := hV.cells
      obtain ⟨r0, r1, r2, r3, r4, r5, rf, rl⟩ := hRr.cells
      have HV := Lib.hid hV
      have HRr := Lib.hid hRr
      have HR0 := Lib.hid hr
      have HQ := Lib.hid hq
      have HPr := Lib.hid (HPv.out.trans hpr)
      have hne : g ≠ w2.heap.size := by have := HV2.out; omega
      have hne2 : w.heap.size ≠ w2.heap.size := by have := HV2.out; omega
      have hne3 : g ≠ w.heap.size := by have := HG.out; omega
      clear hV hRr hr hq hpr hw
      have F := fail_0 (HR0.out.other hne.symm 2 (.float .f64 b)) 5
      have hV4 := HV.out.set 2 (.float .f64 b)
      have hR4 := HRr.out.other hne2.symm 2 (.float .f64 b)
      go_wp2_with (first | (go_at_call 109; refine (CN _).mono ?_; rintro e w4 ⟨rfl, rfl⟩) | (go_at_call 84; refine F.mono ?_; rintro x w5 ⟨rfl, h5, hp5⟩; have hR5 := hR4.past hp5 hne3.symm; have hV5 := hV4.past hp5 hne.symm; obtain ⟨x0, x1, x2, x3, x4, x5, xf, xl⟩ := hR5.cells; obtain ⟨y0, y1, y2, y3, y4, y5, yf, yl⟩ := hV5.cells))
      refine bodyPost_ret (results_six rfl _ _ w.heap.size (.int .i64 3) (.int .i64 0) (.float .f64 b) (.string ⟨#[]⟩) (.slice none 0 0) (.slice none 0 0) rfl (hR5.six _ _ _ _ _ _)) rfl ⟨?_, ⟨3, 0, b, ⟨#[]⟩, none, 0, 0, none, 0, 0, rfl⟩, by decide, a + 1 + 8, p + 1, by have := HP.out; omega, ?_⟩
      · exact ((HPr.out.setNew (Nat.le_of_lt HV2.out.1) _ _).trans hp5).six (Nat.le_refl _) _ _ _ _ _ _
      · exact h5.six hne3.symm _ _ _ _ _ _

    · have hlt : a + 1 + j < s.size := by
        by_cases e : a + 1 + j < s.size
        · exact e
        · have hw' := hw.out
          rw [left_nil (by omega), show 8 - j = (7 - j) + 1 by omega, wP] at hw'
          cases hw'
      obtain ⟨c, hc0⟩ : ∃ c, s[a + 1 + j] = c := ⟨_, rfl⟩
      have Y := Byte_ok hr hlt (by omega)
      rw [hc0] at Y
      have hw' := hw.out
      rw [left_cons hlt, hc0, show 8 - j = (7 - j) + 1 by omega, wP] at hw'
      obtain ⟨E1, E2, E3⟩ := wacc (j := j) (by omega) hq c.toNat_lt
      have E0 : IntKind.u64.wrap ((c.toNat : Nat) : Int) = c.toNat := by have := c.toNat_lt; rw [IntKind.wrap_u64]; omega
      have HE2 := Lib.hid E2
      have HE3 := Lib.hid E3
      have HW' := Lib.hid hw'
      have HPr := Lib.hid hpr
      clear hw hw' hc0 hr E3 hq hpr
      go_wp2_with (go_at_call 49; refine Y.mono ?_; rintro x w3 ⟨rfl, h3, hp3⟩)
      go_roundw
      case rel => exact ⟨j + 1, q * 256 + c.toNat, by omega, by go_num, by first | rfl | (congr 1) | (rw [HE2.out]), HE3.out, Lib.hid (by rw [show 8 - (j + 1) = 7 - j by omega, show a + 1 + (j + 1) = a + 1 + j + 1 by omega]; exact HW'.out), by omega, by rw [show a + 1 + (j + 1) = a + 1 + j + 1 by omega]; exact h3, HPr.out.trans hp3⟩
      case measure => simp [intOf]; omega
theorem wP_err : ∀ (j q c : Nat) (l : List UInt8), wP j q l = .error c → c = 14 ∧ l.length < j := by
  intro j
  induction j with
  | zero => intro q c l h; rw [wP] at h; cases h
  | succ j ih =>
    intro q c l h
    cases l with
    | nil => rw [wP] at h; cases h; exact ⟨rfl, Nat.succ_pos _⟩
    | cons x l =>
      rw [wP] at h
      have := ih _ _ _ h
      exact ⟨this.1, by simp; omega⟩
set_option maxRecDepth 20000 in
set_option maxHeartbeats 4000000 in
theorem RValue_3e {w : World} {g : Nat} {s : ByteArray} {a p : Nat} {d : Int} (hi : (left s (a + 1)).length < 8) (h : Rdr w g s a 0 p) (hp : ¬ (12 < d ∨ 200 < p + 1)) (ha : a < s.size) (hs : s.size ≤ 1000000000) (hkb : ((s[a].toNat : Nat) : Int) = 3) :
    Calls Tryz.prog 115 #[.pointer (some ⟨g, 0, none⟩), .int .i64 d] w fun x w' => VEnds s w g (.error 14) x w' := by
  have hW : Past g w (w.alloc (.cells #[.int .i64 0, .int .i64 0, .float .f64 0, .string ⟨#[]⟩, .slice none 0 0, .slice none 0 0] 28)) := (Past.refl g w).alloc _
  have hR := Bx.new w #[.int .i64 0, .int .i64 0, .float .f64 0, .string ⟨#[]⟩, .slice none 0 0, .slice none 0 0]
  have hg := h.lt
  have B := begin_ok (d := d) (h.alloc (.cells #[.int .i64 0, .int .i64 0, .float .f64 0, .string ⟨#[]⟩, .slice none 0 0, .slice none 0 0] 28)) (by omega)
  rw [if_neg (by omega)] at B
  have HR := Lib.hid hR
  have HW := Lib.hid hW
  have HG := Lib.hid hg
  have HP := Lib.hid hp
  have HI := Lib.hid hi
  have SF := float_store
  have FR := float_run
  clear h hR hW hp hi
  go_enter Tryz.func115, Tryz.ntmps115
  go_wp2_with (first
    | (go_at_call 144; refine B.mono ?_; rintro x w1 ⟨rfl, hp1, h1⟩; have Y := Byte_ok h1 ha (by omega); rw [hkb] at Y)
    | (go_at_call 49; refine Y.mono ?_; rintro x w2 ⟨rfl, h2, hp2⟩; obtain ⟨d0, d1, d2, d3, df⟩ := h2.cells; have hg2 : g < w2.heap.size := h2.lt; have hR2 := HR.out.past (hp1.trans hp2) (by have := HG.out; omega); obtain ⟨r0, r1, r2, r3, r4, r5, rf, rl⟩ := hR2.cells; have h2v := h2.alloc (.cells #[.int .i64 3, .int .i64 0, .float .f64 0, .string ⟨#[]⟩, .slice none 0 0, .slice none 0 0] 28)))
  obtain ⟨wv, hwv⟩ : ∃ wv, wv = w2.alloc (.cells #[.int .i64 3, .int .i64 0, .float .f64 0, .string ⟨#[]⟩, .slice none 0 0, .slice none 0 0] 28) := ⟨_, rfl⟩
  rw [← hwv] at h2v ⊢
  have hV0 : Bx wv w2.heap.size #[.int .i64 3, .int .i64 0, .float .f64 0, .string ⟨#[]⟩, .slice none 0 0, .slice none 0 0] := by rw [hwv]; exact Bx.new _ _
  have hRv : Bx wv w.heap.size #[.int .i64 0, .int .i64 0, .float .f64 0, .string ⟨#[]⟩, .slice none 0 0, .slice none 0 0] := by rw [hwv]; exact hR2.alloc _
  have hPv : Past g w wv := by rw [hwv]; exact HW.out.trans (hp1.trans (hp2.trans ((Past.refl _ _).alloc _)))
  have HV0 := Lib.hid hV0
  have HRv := Lib.hid hRv
  have HPv := Lib.hid hPv
  have H2 := Lib.hid h2v
  have HV2 := Lib.hid (show w.heap.size < w2.heap.size ∧ g < w2.heap.size from ⟨rl, hg2⟩)
  clear hwv hV0 hRv hPv h2v Y B h1 hp1 hp2 hR2 r0 r1 r2 r3 r4 r5 rf rl d0 d1 d2 d3 df h2
  go_loopw [6, 7] (fun bv iv wr => ∃ (j : Nat) (z : Int), j ≤ 8 ∧ iv = .int .i64 j ∧ bv = .int .u64 z ∧ ((∃ a' : Nat, a' ≤ s.size ∧ (left s a').length < 8 - j ∧ Rdr wr g s a' 0 (p + 1)) ∨ (∃ a' : Nat, Rdr wr g s a' 14 (p + 1))) ∧ Past g wv wr) (fun _ iv _ => 8 - (intOf iv).toNat)
  case atStart => exact ⟨0, 0, by omega, rfl, rfl, .inl ⟨a + 1, by omega, HI.out, H2.out⟩, Past.refl _ _⟩
  case round =>
    obtain ⟨j, z, hj, rfl, rfl, hst, hpr⟩ := hrel
    by_cases h8 : j = 8
    · subst h8
      obtain ⟨a', hr⟩ : ∃ a' : Nat, Rdr wr g s a' 14 (p + 1) := by
        rcases hst with ⟨a', _, h, _⟩ | h
        · exact absurd h (by omega)
        · exact h
      obtain ⟨d0, d1, d2, d3, df⟩ := hr.cells
      have hV := HV0.out.past hpr (by have := HV2.out; omega)
      have hRr := HRv.out.past hpr (by have := HG.out; omega)
      obtain ⟨v0, v1, v2, v3, v4, v5, vf, vl⟩ := hV.cells
      obtain ⟨r0, r1, r2, r3, r4, r5, rf, rl⟩ := hRr.cells
      have HRr := Lib.hid hRr
      have HR0 := Lib.hid hr
      have HPr := Lib.hid (HPv.out.trans hpr)
      have hne : g ≠ w2.heap.size := by have := HV2.out; omega
      have hne2 : w.heap.size ≠ w2.heap.size := by have := HV2.out; omega
      have hne3 : g ≠ w.heap.size := by have := HG.out; omega
      clear hV hRr hr hpr hst
      go_wp2_with fail
      refine bodyPost_ret (results_six rfl _ _ w.heap.size (.int .i64 3) (.int .i64 0) (.float .f64 z.toNat) (.string ⟨#[]⟩) (.slice none 0 0) (.slice none 0 0) rfl ((HRr.out.other hne2.symm _ _).six _ _ _ _ _ _)) rfl ⟨?_, ⟨3, 0, z.toNat, ⟨#[]⟩, none, 0, 0, none, 0, 0, rfl⟩, by decide, a', p + 1, by have := HP.out; omega, ?_⟩
      · exact (HPr.out.setNew (Nat.le_of_lt HV2.out.1) _ _).six (Nat.le_refl _) _ _ _ _ _ _
      · exact (HR0.out.other hne.symm _ _).six hne3.symm _ _ _ _ _ _
    · have HPr := Lib.hid hpr
      clear hpr
      rcases hst with ⟨a', ha', hl', hr⟩ | ⟨a', hr⟩
      · by_cases hlt : a' < s.size
        · have Y := Byte_ok hr hlt (by omega)
          obtain ⟨c, hc0⟩ : ∃ c, s[a'] = c := ⟨_, rfl⟩
          rw [hc0] at Y
          have hl2 : (left s (a' + 1)).length < 8 - (j + 1) := by
            rw [left_len] at hl' ⊢; omega
          have HL2 := Lib.hid hl2
          clear hl' hl2 hr hc0
          go_wp2_with (go_at_call 49; refine Y.mono ?_; rintro x w3 ⟨rfl, h3, hp3⟩)
          go_roundw
          case rel => exact ⟨j + 1, _, by omega, by go_num, rfl, .inl ⟨a' + 1, hlt, HL2.out, h3⟩, HPr.out.trans hp3⟩
          case measure => simp [intOf]; omega
        · have Y := Byte_end hr (by omega)
          clear hl' hr
          go_wp2_with (go_at_call 49; refine Y.mono ?_; rintro x w3 ⟨rfl, h3, hp3⟩)
          go_roundw
          case rel => exact ⟨j + 1, _, by omega, by go_num, rfl, .inr ⟨a', h3⟩, HPr.out.trans hp3⟩
          case measure => simp [intOf]; omega
      · have Y := Byte_err hr (by decide)
        clear hr
        go_wp2_with (go_at_call 49; refine Y.mono ?_; rintro x w3 ⟨rfl, h3, hp3⟩)
        go_roundw
        case rel => exact ⟨j + 1, _, by omega, by go_num, rfl, .inr ⟨a', h3⟩, HPr.out.trans hp3⟩
        case measure => simp [intOf]; omega
end Go.Proofs.YtekojglcbalhnaaGreatDoor
namespace Go.Proofs.YtekojglcbalhnaaGreatDoor
open Go.RowKit

theorem owns_form {w : World} {base : Nat} {e : TypeId} {size : Nat} {v : Value} {n : Nat} {xs : List Value} (h : w.ownsRow base e size v n xs) :
    ∃ A cap, v = .slice A n cap ∧ n ≤ cap ∧ cap ≤ maxLen ∧ (0 < n → ∃ g, A = some ⟨g, 0, none⟩ ∧ base ≤ g ∧ g < w.heap.size ∧ ∀ (j : Nat) u, xs[j]? = some u → w.cell? ⟨g, j, none⟩ = some u) := by
  have h0 := h
  rcases h.2 with ⟨rfl, rfl⟩ | ⟨g, cap, cur, rfl, hg, hh, hn, hm, hc, ht⟩
  · exact ⟨none, 0, rfl, Nat.le_refl _, Nat.zero_le _, fun h => absurd h (Nat.lt_irrefl 0)⟩
  · refine ⟨_, cap, rfl, hn, hm, fun _ => ⟨g, rfl, hg, (h0.lt g rfl).2, fun j u hj => ?_⟩⟩
    have := h0.cells (g := g) rfl j u hj
    rw [Addr.add_lit, Nat.zero_add] at this
    exact this
theorem flat_at : ∀ (L : List (List Value)), (∀ x ∈ L, x.length = 6) → ∀ i j, i < L.length → j < 6 → L.flatten[i * 6 + j]? = (L.getD i [])[j]? := by
  intro L
  induction L with
  | nil => intro _ i j hi; exact absurd hi (Nat.not_lt_zero _)
  | cons x L ih =>
    intro h i j hi hj
    have hx : x.length = 6 := h x (by simp)
    rw [List.flatten_cons]
    cases i with
    | zero =>
      rw [List.getElem?_append_left (by omega)]
      simp
    | succ i =>
      rw [List.getElem?_append_right (by omega)]
      have := ih (fun y hy => h y (by simp [hy])) i j (by simpa using hi) hj
      rw [show (i + 1) * 6 + j - x.length = i * 6 + j by omega, this]
      simp
/-- The items gathered so far: each by value, with its tree. -/
def Its (w : World) (base : Nat) (P : Nat → Prop) (v : Value) (L : List (Array Value × VT)) : Prop :=
  w.ownsRow base 28 6 v L.length (L.map (·.1.toList)).flatten ∧ ∀ x ∈ L, VOwn w P x.1 x.2
def Nms (w : World) (base : Nat) (v : Value) (N : List ByteArray) : Prop :=
  w.ownsRow base 9 1 v N.length (N.map Value.string) ∧ ∀ x ∈ N, x.size ≤ maxLen
theorem VOwn.size {w : World} {P : Nat → Prop} {v : Array Value} {t : VT} (h : VOwn w P v t) : v.size = 6 := by cases h; rfl
theorem VOwn.one {w : World} {P : Nat → Prop} {v : Array Value} {t : VT} (h : VOwn w P v t) : ∀ u ∈ v.toList, u.oneCell' = true := by
  cases h
  intro u hu
  simp [fields] at hu
  rcases hu with rfl | rfl | rfl | rfl | rfl | rfl <;> rfl
/-- A list, or a record, of what was gathered. -/
theorem VOwn.tree {w : World} {lo base : Nat} {P : Nat → Prop} {k : Nat} {nv iv : Value} {N : List ByteArray} {L : List (Array Value × VT)} (hk : k = 5 ∨ k = 6) (hlo : lo ≤ base) (hP : ∀ b, P b → lo ≤ b) (hN : Nms w base nv N) (hL : Its w base P iv L) (hl : N.length = if k = 6 then L.length else 0) (xs : List (ByteArray × VT))
    (h1 : xs.map (·.2) = L.map (·.2)) (h2 : k = 6 → xs.map (·.1) = N) : ∃ A c ca B m cb, nv = .slice A c ca ∧ iv = .slice B m cb ∧ VOwn w (fun b => lo ≤ b) (fields k 0 0 ⟨#[]⟩ A c ca B m cb) (treeOf k xs) := by
  obtain ⟨A, ca, rfl, hc1, hc2, hA⟩ := owns_form hN.1
  obtain ⟨B, cb, rfl, hm1, hm2, hB⟩ := owns_form hL.1
  have hlen : xs.length = L.length := by
    have := congrArg List.length h1
    simpa using this
  have hkb : -9223372036854775808 ≤ (k : Int) ∧ (k : Int) ≤ 9223372036854775807 := by rcases hk with rfl | rfl <;> decide
  refine ⟨A, _, ca, B, _, cb, rfl, rfl, ?_⟩
  unfold treeOf
  have e1 : (if k = 6 then xs.length else 0) = N.length := by rw [hl, hlen]
  rw [e1, hlen]
  refine .mk k 0 0 ⟨#[]⟩ A N.length ca B L.length cb _ _ (fun i => (L.getD i (#[], .bad)).1) hkb (by decide) (by decide) (by decide) ⟨hc1, hc2⟩ ⟨hm1, hm2⟩ (fun h0 => ?_) (fun h0 => ?_) (fun i hi => ?_)
  · obtain ⟨g, rfl, hg, hlt, hx⟩ := hA h0
    refine ⟨g, 0, rfl, Nat.le_trans hlo hg, hlt, fun i hi => ?_⟩
    have h6 : k = 6 := by
      rcases hk with rfl | rfl
      · rw [if_neg (by decide)] at hl; omega
      · rfl
    have hni : (xs.getD i (⟨#[]⟩, .bad)).1 = N[i] := by
      have := h2 h6
      subst this
      simp at hi
      simp [List.getD_eq_getElem?_getD, List.getElem?_eq_getElem hi]
    rw [hni]
    refine ⟨?_, hN.2 _ (List.getElem_mem _)⟩
    have := hx i (.string N[i]) (by simp [hi])
    simpa using this
  · obtain ⟨g, rfl, hg, hlt, hx⟩ := hB h0
    refine ⟨g, 0, rfl, Nat.le_trans hlo hg, hlt, fun i hi j hj => ?_⟩
    have hf := flat_at (L.map (·.1.toList)) (fun x hx => by
      obtain ⟨y, hy, rfl⟩ := List.mem_map.1 hx
      have := (hL.2 _ hy).size
      simpa using this) i j (by simpa using hi) hj
    have hv : (L.getD i (#[], VT.bad)).1 = L[i].1 := by simp [List.getD_eq_getElem?_getD, List.getElem?_eq_getElem hi]
    have hsz := (hL.2 _ (List.getElem_mem hi)).size
    rw [hv]
    have e2 : ((L.map (·.1.toList)).getD i [])[j]? = some (L[i].1[j]'(by omega)) := by
      simp [List.getD_eq_getElem?_getD, hi, hsz, hj]
    rw [e2] at hf
    have := hx (i * 6 + j) _ hf
    rw [Nat.zero_add, this, Array.getElem?_eq_getElem]
  · have hv : L.getD i (#[], VT.bad) = L[i] := by simp [List.getD_eq_getElem?_getD, List.getElem?_eq_getElem hi]
    have hx : (xs.getD i (⟨#[]⟩, VT.bad)).2 = L[i].2 := by
      have hxi : i < xs.length := by omega
      have := congrArg (fun l => l[i]?) h1
      simp [List.getElem?_eq_getElem hxi, List.getElem?_eq_getElem hi] at this
      simp [List.getD_eq_getElem?_getD, List.getElem?_eq_getElem hxi, this]
    rw [hv, hx]
    exact (hL.2 _ (List.getElem_mem hi)).imp fun b hb _ => hP b hb
end Go.Proofs.YtekojglcbalhnaaGreatDoor
