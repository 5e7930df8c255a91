/-
  The document's reader: Value, of plain kinds.
  The document's reader: Value, of bools and of floats.
-/
import Derived.Test.YteclpehbpicpaaaM15
import Derived.Test.YteclpehbpicpaaaM07
namespace Go.Proofs.Yteclpehbpicpaaa
open Go.RowKit

set_option maxHeartbeats 2000000 in
theorem RValue_kind {w : World} {g : Nat} {s : ByteArray} {a p : Nat} {d k : Int} (h : Rdr w g s a 0 p) (hp : ¬ (12 < d ∨ 200 < p + 1)) (ha : a < s.size) (hs : s.size ≤ 1000000000) (hkb : ((s[a].toNat : Nat) : Int) = k) (hk : k < 1 ∨ 6 < k) :
    Calls Try.prog 62 #[.pointer (some ⟨g, 0, none⟩), .int .i64 d] w fun x w' => VEnds s w g (.error 5) x w' := by
  have hW : Past g w (w.alloc (.cells #[.int .i64 0, .int .i64 0, .float .f64 0, .string ⟨#[]⟩, .slice none 0 0, .slice none 0 0] 27)) := (Past.refl g w).alloc _
  have hR := Bx.new w #[.int .i64 0, .int .i64 0, .float .f64 0, .string ⟨#[]⟩, .slice none 0 0, .slice none 0 0]
  have hg := h.lt
  have B := begin_ok (d := d) (h.alloc (.cells #[.int .i64 0, .int .i64 0, .float .f64 0, .string ⟨#[]⟩, .slice none 0 0, .slice none 0 0] 27)) (by omega)
  rw [if_neg (by omega)] at B
  have HR := Lib.hid hR
  have HW := Lib.hid hW
  have HG := Lib.hid hg
  have HP := Lib.hid hp
  have SF := float_store
  clear h hR hW hp
  go_enter Try.func62, Try.ntmps62
  go_wp2_with (first
    | (go_at_call 92; refine B.mono ?_; rintro x w1 ⟨rfl, hp1, h1⟩; have Y := Byte_ok h1 ha (by omega); rw [hkb] at Y)
    | (go_at_call 58; refine Y.mono ?_; rintro x w2 ⟨rfl, h2, hp2⟩; obtain ⟨d0, d1, d2, d3, df⟩ := h2.cells; have hg2 : g < w2.heap.size := h2.lt; have hR2 := HR.out.past (hp1.trans hp2) (by have := HG.out; omega); obtain ⟨r0, r1, r2, r3, r4, r5, rf, rl⟩ := hR2.cells; have F := fail_0 (h2.alloc (.cells #[.int .i64 k, .int .i64 0, .float .f64 0, .string ⟨#[]⟩, .slice none 0 0, .slice none 0 0] 27)) 5)
    | (go_at_call 59; refine F.mono ?_; rintro x w3 ⟨rfl, h3, hp3⟩; obtain ⟨e0, e1, e2, e3, ef⟩ := h3.cells; have hR3 := (hR2.alloc _).past hp3 (by have := HG.out; omega); obtain ⟨q0, q1, q2, q3, q4, q5, qf, ql⟩ := hR3.cells; have hV3 := (Bx.new w2 #[.int .i64 k, .int .i64 0, .float .f64 0, .string ⟨#[]⟩, .slice none 0 0, .slice none 0 0]).past hp3 (by omega); obtain ⟨v0, v1, v2, v3, v4, v5, vf, vl⟩ := hV3.cells))
  all_goals
    refine bodyPost_ret (results_six rfl _ _ w.heap.size (.int .i64 k) (.int .i64 0) (.float .f64 0) (.string ⟨#[]⟩) (.slice none 0 0) (.slice none 0 0) rfl (hR3.six _ _ _ _ _ _)) rfl ⟨?_, ⟨k, 0, 0, ⟨#[]⟩, none, 0, 0, none, 0, 0, rfl⟩, by decide, a + 1, p + 1, by have := HP.out; omega, ?_⟩
    · exact ((HW.out.trans (hp1.trans (hp2.trans (((Past.refl _ _).alloc _).trans hp3)))).six (Nat.le_refl _) _ _ _ _ _ _)
    · exact (h3.six (by have := HG.out; omega) _ _ _ _ _ _)
-- GENERATED
set_option maxRecDepth 20000 in
set_option maxHeartbeats 4000000 in
theorem RValue_2e {w : World} {g : Nat} {s : ByteArray} {a p : Nat} {d : Int} {c : Nat} (hi : iP (left s (a + 1)) = .error c) (h : Rdr w g s a 0 p) (hp : ¬ (12 < d ∨ 200 < p + 1)) (ha : a < s.size) (hs : s.size ≤ 1000000000) (hkb : ((s[a].toNat : Nat) : Int) = 2) :
    Calls Try.prog 62 #[.pointer (some ⟨g, 0, none⟩), .int .i64 d] w fun x w' => VEnds s w g (.error c) x w' := by
  have hW : Past g w (w.alloc (.cells #[.int .i64 0, .int .i64 0, .float .f64 0, .string ⟨#[]⟩, .slice none 0 0, .slice none 0 0] 27)) := (Past.refl g w).alloc _
  have hR := Bx.new w #[.int .i64 0, .int .i64 0, .float .f64 0, .string ⟨#[]⟩, .slice none 0 0, .slice none 0 0]
  have hg := h.lt
  have B := begin_ok (d := d) (h.alloc (.cells #[.int .i64 0, .int .i64 0, .float .f64 0, .string ⟨#[]⟩, .slice none 0 0, .slice none 0 0] 27)) (by omega)
  rw [if_neg (by omega)] at B
  have HR := Lib.hid hR
  have HW := Lib.hid hW
  have HG := Lib.hid hg
  have HP := Lib.hid hp
  have SF := float_store
  clear h hR hW hp
  go_enter Try.func62, Try.ntmps62
  go_wp2_with (first
    | (go_at_call 92; refine B.mono ?_; rintro x w1 ⟨rfl, hp1, h1⟩; have Y := Byte_ok h1 ha (by omega); rw [hkb] at Y)
    | (go_at_call 58; refine Y.mono ?_; rintro x w2 ⟨rfl, h2, hp2⟩; obtain ⟨d0, d1, d2, d3, df⟩ := h2.cells; have hg2 : g < w2.heap.size := h2.lt; have hR2 := HR.out.past (hp1.trans hp2) (by have := HG.out; omega); obtain ⟨r0, r1, r2, r3, r4, r5, rf, rl⟩ := hR2.cells; have h2v := h2.alloc (.cells #[.int .i64 2, .int .i64 0, .float .f64 0, .string ⟨#[]⟩, .slice none 0 0, .slice none 0 0] 27); have I := Int_ok h2v ha hs; rw [hi] at I)
    | (go_at_call 29; refine I.mono ?_; rintro x w3 ⟨hp3, rfl, hc, a3, h3⟩; obtain ⟨e0, e1, e2, e3, ef⟩ := h3.cells; have hR3 := (hR2.alloc _).past hp3 (by have := HG.out; omega); obtain ⟨q0, q1, q2, q3, q4, q5, qf, ql⟩ := hR3.cells; have hV3 := (Bx.new w2 #[.int .i64 2, .int .i64 0, .float .f64 0, .string ⟨#[]⟩, .slice none 0 0, .slice none 0 0]).past hp3 (by omega); obtain ⟨v0, v1, v2, v3, v4, v5, vf, vl⟩ := hV3.cells))
  refine bodyPost_ret (results_six rfl _ _ w.heap.size (.int .i64 2) (.int .i64 0) (.float .f64 0) (.string ⟨#[]⟩) (.slice none 0 0) (.slice none 0 0) rfl ((hR3.other (by omega) _ _).six _ _ _ _ _ _)) rfl ⟨?_, ⟨2, 0, 0, ⟨#[]⟩, none, 0, 0, none, 0, 0, rfl⟩, hc, a3, p + 1, by have := HP.out; omega, ?_⟩
  · exact (((HW.out.trans (hp1.trans (hp2.trans (((Past.refl _ _).alloc _).trans hp3)))).setNew (by have := hp1.size; have := hp2.size; have := HW.out.size; omega) _ _).six (Nat.le_refl _) _ _ _ _ _ _)
  · exact ((h3.other (by omega) _ _).six (by have := HG.out; omega) _ _ _ _ _ _)
set_option maxRecDepth 20000 in
set_option maxHeartbeats 4000000 in
theorem RValue_2 {w : World} {g : Nat} {s : ByteArray} {a p : Nat} {d : Int} {n : Int} {l : List UInt8} (hi : iP (left s (a + 1)) = .ok (n, l)) (hn : -9223372036854775808 ≤ n ∧ n ≤ 9223372036854775807) (h : Rdr w g s a 0 p) (hp : ¬ (12 < d ∨ 200 < p + 1)) (ha : a < s.size) (hs : s.size ≤ 1000000000) (hkb : ((s[a].toNat : Nat) : Int) = 2) :
    Calls Try.prog 62 #[.pointer (some ⟨g, 0, none⟩), .int .i64 d] w fun x w' => VEnds s w g (.ok (leaf 2 n 0 ⟨#[]⟩, p + 1, l)) x w' := by
  have hW : Past g w (w.alloc (.cells #[.int .i64 0, .int .i64 0, .float .f64 0, .string ⟨#[]⟩, .slice none 0 0, .slice none 0 0] 27)) := (Past.refl g w).alloc _
  have hR := Bx.new w #[.int .i64 0, .int .i64 0, .float .f64 0, .string ⟨#[]⟩, .slice none 0 0, .slice none 0 0]
  have hg := h.lt
  have B := begin_ok (d := d) (h.alloc (.cells #[.int .i64 0, .int .i64 0, .float .f64 0, .string ⟨#[]⟩, .slice none 0 0, .slice none 0 0] 27)) (by omega)
  rw [if_neg (by omega)] at B
  have HR := Lib.hid hR
  have HW := Lib.hid hW
  have HG := Lib.hid hg
  have HP := Lib.hid hp
  have SF := float_store
  clear h hR hW hp
  go_enter Try.func62, Try.ntmps62
  go_wp2_with (first
    | (go_at_call 92; refine B.mono ?_; rintro x w1 ⟨rfl, hp1, h1⟩; have Y := Byte_ok h1 ha (by omega); rw [hkb] at Y)
    | (go_at_call 58; refine Y.mono ?_; rintro x w2 ⟨rfl, h2, hp2⟩; obtain ⟨d0, d1, d2, d3, df⟩ := h2.cells; have hg2 : g < w2.heap.size := h2.lt; have hR2 := HR.out.past (hp1.trans hp2) (by have := HG.out; omega); obtain ⟨r0, r1, r2, r3, r4, r5, rf, rl⟩ := hR2.cells; have h2v := h2.alloc (.cells #[.int .i64 2, .int .i64 0, .float .f64 0, .string ⟨#[]⟩, .slice none 0 0, .slice none 0 0] 27); have I := Int_ok h2v ha hs; rw [hi] at I)
    | (go_at_call 29; refine I.mono ?_; rintro x w3 ⟨hp3, rfl, a3, ha3, hl3, h3⟩; obtain ⟨e0, e1, e2, e3, ef⟩ := h3.cells; have hR3 := (hR2.alloc _).past hp3 (by have := HG.out; omega); obtain ⟨q0, q1, q2, q3, q4, q5, qf, ql⟩ := hR3.cells; have hV3 := (Bx.new w2 #[.int .i64 2, .int .i64 0, .float .f64 0, .string ⟨#[]⟩, .slice none 0 0, .slice none 0 0]).past hp3 (by omega); obtain ⟨v0, v1, v2, v3, v4, v5, vf, vl⟩ := hV3.cells))
  refine bodyPost_ret (results_six rfl _ _ w.heap.size (.int .i64 2) (.int .i64 n) (.float .f64 0) (.string ⟨#[]⟩) (.slice none 0 0) (.slice none 0 0) rfl ((hR3.other (by omega) _ _).six _ _ _ _ _ _)) rfl ⟨?_, ⟨_, rfl, VOwn.leaf (by omega) hn (by decide) (by decide)⟩, a3, ha3, hl3, ?_⟩
  · exact (((HW.out.trans (hp1.trans (hp2.trans (((Past.refl _ _).alloc _).trans hp3)))).setNew (by have := hp1.size; have := hp2.size; have := HW.out.size; omega) _ _).six (Nat.le_refl _) _ _ _ _ _ _)
  · exact ((h3.other (by omega) _ _).six (by have := HG.out; omega) _ _ _ _ _ _)
set_option maxRecDepth 20000 in
set_option maxHeartbeats 4000000 in
theorem RValue_4e {w : World} {g : Nat} {s : ByteArray} {a p : Nat} {d : Int} {c : Nat} (hi : sP 200 (left s (a + 1)) = .error c) (h : Rdr w g s a 0 p) (hp : ¬ (12 < d ∨ 200 < p + 1)) (ha : a < s.size) (hs : s.size ≤ 1000000000) (hkb : ((s[a].toNat : Nat) : Int) = 4) :
    Calls Try.prog 62 #[.pointer (some ⟨g, 0, none⟩), .int .i64 d] w fun x w' => VEnds s w g (.error c) x w' := by
  have hW : Past g w (w.alloc (.cells #[.int .i64 0, .int .i64 0, .float .f64 0, .string ⟨#[]⟩, .slice none 0 0, .slice none 0 0] 27)) := (Past.refl g w).alloc _
  have hR := Bx.new w #[.int .i64 0, .int .i64 0, .float .f64 0, .string ⟨#[]⟩, .slice none 0 0, .slice none 0 0]
  have hg := h.lt
  have B := begin_ok (d := d) (h.alloc (.cells #[.int .i64 0, .int .i64 0, .float .f64 0, .string ⟨#[]⟩, .slice none 0 0, .slice none 0 0] 27)) (by omega)
  rw [if_neg (by omega)] at B
  have HR := Lib.hid hR
  have HW := Lib.hid hW
  have HG := Lib.hid hg
  have HP := Lib.hid hp
  have SF := float_store
  clear h hR hW hp
  go_enter Try.func62, Try.ntmps62
  go_wp2_with (first
    | (go_at_call 92; refine B.mono ?_; rintro x w1 ⟨rfl, hp1, h1⟩; have Y := Byte_ok h1 ha (by omega); rw [hkb] at Y)
    | (go_at_call 58; refine Y.mono ?_; rintro x w2 ⟨rfl, h2, hp2⟩; obtain ⟨d0, d1, d2, d3, df⟩ := h2.cells; have hg2 : g < w2.heap.size := h2.lt; have hR2 := HR.out.past (hp1.trans hp2) (by have := HG.out; omega); obtain ⟨r0, r1, r2, r3, r4, r5, rf, rl⟩ := hR2.cells; have h2v := h2.alloc (.cells #[.int .i64 4, .int .i64 0, .float .f64 0, .string ⟨#[]⟩, .slice none 0 0, .slice none 0 0] 27); have I := Str_ok (most := 200) h2v ha hs (by omega); rw [hi] at I)
    | (go_at_call 30; refine I.mono ?_; rintro x w3 ⟨hp3, rfl, hc, a3, h3⟩; obtain ⟨e0, e1, e2, e3, ef⟩ := h3.cells; have hR3 := (hR2.alloc _).past hp3 (by have := HG.out; omega); obtain ⟨q0, q1, q2, q3, q4, q5, qf, ql⟩ := hR3.cells; have hV3 := (Bx.new w2 #[.int .i64 4, .int .i64 0, .float .f64 0, .string ⟨#[]⟩, .slice none 0 0, .slice none 0 0]).past hp3 (by omega); obtain ⟨v0, v1, v2, v3, v4, v5, vf, vl⟩ := hV3.cells))
  refine bodyPost_ret (results_six rfl _ _ w.heap.size (.int .i64 4) (.int .i64 0) (.float .f64 0) (.string ⟨#[]⟩) (.slice none 0 0) (.slice none 0 0) rfl ((hR3.other (by omega) _ _).six _ _ _ _ _ _)) rfl ⟨?_, ⟨4, 0, 0, ⟨#[]⟩, none, 0, 0, none, 0, 0, rfl⟩, hc, a3, p + 1, by have := HP.out; omega, ?_⟩
  · exact (((HW.out.trans (hp1.trans (hp2.trans (((Past.refl _ _).alloc _).trans hp3)))).setNew (by have := hp1.size; have := hp2.size; have := HW.out.size; omega) _ _).six (Nat.le_refl _) _ _ _ _ _ _)
  · exact ((h3.other (by omega) _ _).six (by have := HG.out; omega) _ _ _ _ _ _)
set_option maxRecDepth 20000 in
set_option maxHeartbeats 4000000 in
theorem RValue_4 {w : World} {g : Nat} {s : ByteArray} {a p : Nat} {d : Int} {t : ByteArray} {l : List UInt8} (hi : sP 200 (left s (a + 1)) = .ok (t, l)) (ht : t.size ≤ maxLen) (h : Rdr w g s a 0 p) (hp : ¬ (12 < d ∨ 200 < p + 1)) (ha : a < s.size) (hs : s.size ≤ 1000000000) (hkb : ((s[a].toNat : Nat) : Int) = 4) :
    Calls Try.prog 62 #[.pointer (some ⟨g, 0, none⟩), .int .i64 d] w fun x w' => VEnds s w g (.ok (leaf 4 0 0 t, p + 1, l)) x w' := by
  have hW : Past g w (w.alloc (.cells #[.int .i64 0, .int .i64 0, .float .f64 0, .string ⟨#[]⟩, .slice none 0 0, .slice none 0 0] 27)) := (Past.refl g w).alloc _
  have hR := Bx.new w #[.int .i64 0, .int .i64 0, .float .f64 0, .string ⟨#[]⟩, .slice none 0 0, .slice none 0 0]
  have hg := h.lt
  have B := begin_ok (d := d) (h.alloc (.cells #[.int .i64 0, .int .i64 0, .float .f64 0, .string ⟨#[]⟩, .slice none 0 0, .slice none 0 0] 27)) (by omega)
  rw [if_neg (by omega)] at B
  have HR := Lib.hid hR
  have HW := Lib.hid hW
  have HG := Lib.hid hg
  have HP := Lib.hid hp
  have SF := float_store
  clear h hR hW hp
  go_enter Try.func62, Try.ntmps62
  go_wp2_with (first
    | (go_at_call 92; refine B.mono ?_; rintro x w1 ⟨rfl, hp1, h1⟩; have Y := Byte_ok h1 ha (by omega); rw [hkb] at Y)
    | (go_at_call 58; refine Y.mono ?_; rintro x w2 ⟨rfl, h2, hp2⟩; obtain ⟨d0, d1, d2, d3, df⟩ := h2.cells; have hg2 : g < w2.heap.size := h2.lt; have hR2 := HR.out.past (hp1.trans hp2) (by have := HG.out; omega); obtain ⟨r0, r1, r2, r3, r4, r5, rf, rl⟩ := hR2.cells; have h2v := h2.alloc (.cells #[.int .i64 4, .int .i64 0, .float .f64 0, .string ⟨#[]⟩, .slice none 0 0, .slice none 0 0] 27); have I := Str_ok (most := 200) h2v ha hs (by omega); rw [hi] at I)
    | (go_at_call 30; refine I.mono ?_; rintro x w3 ⟨hp3, rfl, a3, ha3, hl3, h3⟩; obtain ⟨e0, e1, e2, e3, ef⟩ := h3.cells; have hR3 := (hR2.alloc _).past hp3 (by have := HG.out; omega); obtain ⟨q0, q1, q2, q3, q4, q5, qf, ql⟩ := hR3.cells; have hV3 := (Bx.new w2 #[.int .i64 4, .int .i64 0, .float .f64 0, .string ⟨#[]⟩, .slice none 0 0, .slice none 0 0]).past hp3 (by omega); obtain ⟨v0, v1, v2, v3, v4, v5, vf, vl⟩ := hV3.cells))
  refine bodyPost_ret (results_six rfl _ _ w.heap.size (.int .i64 4) (.int .i64 0) (.float .f64 0) (.string t) (.slice none 0 0) (.slice none 0 0) rfl ((hR3.other (by omega) _ _).six _ _ _ _ _ _)) rfl ⟨?_, ⟨_, rfl, VOwn.leaf (by omega) (by omega) (by decide) ht⟩, a3, ha3, hl3, ?_⟩
  · exact (((HW.out.trans (hp1.trans (hp2.trans (((Past.refl _ _).alloc _).trans hp3)))).setNew (by have := hp1.size; have := hp2.size; have := HW.out.size; omega) _ _).six (Nat.le_refl _) _ _ _ _ _ _)
  · exact ((h3.other (by omega) _ _).six (by have := HG.out; omega) _ _ _ _ _ _)
end Go.Proofs.Yteclpehbpicpaaa
namespace Go.Proofs.Yteclpehbpicpaaa
open Go.RowKit

set_option maxRecDepth 20000 in
set_option maxHeartbeats 4000000 in
theorem RValue_1t {w : World} {g : Nat} {s : ByteArray} {a p : Nat} {d : Int} (hi : s.size ≤ a + 1) (h : Rdr w g s a 0 p) (hp : ¬ (12 < d ∨ 200 < p + 1)) (ha : a < s.size) (hs : s.size ≤ 1000000000) (hkb : ((s[a].toNat : Nat) : Int) = 1) :
    Calls Try.prog 62 #[.pointer (some ⟨g, 0, none⟩), .int .i64 d] w fun x w' => VEnds s w g (.error 14) x w' := by
  have hW : Past g w (w.alloc (.cells #[.int .i64 0, .int .i64 0, .float .f64 0, .string ⟨#[]⟩, .slice none 0 0, .slice none 0 0] 27)) := (Past.refl g w).alloc _
  have hR := Bx.new w #[.int .i64 0, .int .i64 0, .float .f64 0, .string ⟨#[]⟩, .slice none 0 0, .slice none 0 0]
  have hg := h.lt
  have B := begin_ok (d := d) (h.alloc (.cells #[.int .i64 0, .int .i64 0, .float .f64 0, .string ⟨#[]⟩, .slice none 0 0, .slice none 0 0] 27)) (by omega)
  rw [if_neg (by omega)] at B
  have HR := Lib.hid hR
  have HW := Lib.hid hW
  have HG := Lib.hid hg
  have HP := Lib.hid hp
  have SF := float_store
  clear h hR hW hp
  go_enter Try.func62, Try.ntmps62
  go_wp2_with (first
    | (go_at_call 92; refine B.mono ?_; rintro x w1 ⟨rfl, hp1, h1⟩; have Y := Byte_ok h1 ha (by omega); rw [hkb] at Y)
    | (go_at_call 58; refine Y.mono ?_; rintro x w2 ⟨rfl, h2, hp2⟩; obtain ⟨d0, d1, d2, d3, df⟩ := h2.cells; have hg2 : g < w2.heap.size := h2.lt; have hR2 := HR.out.past (hp1.trans hp2) (by have := HG.out; omega); obtain ⟨r0, r1, r2, r3, r4, r5, rf, rl⟩ := hR2.cells; have h2v := h2.alloc (.cells #[.int .i64 1, .int .i64 0, .float .f64 0, .string ⟨#[]⟩, .slice none 0 0, .slice none 0 0] 27); have Y2 := Byte_end h2v hi)
    | (go_at_call 58; with_reducible refine Y2.mono ?_; rintro x w3 ⟨rfl, h3, hp3⟩; obtain ⟨e0, e1, e2, e3, ef⟩ := h3.cells; have hR3 := (hR2.alloc _).past hp3 (by have := HG.out; omega); obtain ⟨q0, q1, q2, q3, q4, q5, qf, ql⟩ := hR3.cells; have hV3 := (Bx.new w2 #[.int .i64 1, .int .i64 0, .float .f64 0, .string ⟨#[]⟩, .slice none 0 0, .slice none 0 0]).past hp3 (by omega); obtain ⟨v0, v1, v2, v3, v4, v5, vf, vl⟩ := hV3.cells))
  refine bodyPost_ret (results_six rfl _ _ w.heap.size (.int .i64 1) (.int .i64 0) (.float .f64 0) (.string ⟨#[]⟩) (.slice none 0 0) (.slice none 0 0) rfl ((hR3.other (by omega) _ _).six _ _ _ _ _ _)) rfl ⟨?_, ⟨1, 0, 0, ⟨#[]⟩, none, 0, 0, none, 0, 0, rfl⟩, by decide, a + 1, p + 1, by have := HP.out; omega, ?_⟩
  · exact (((HW.out.trans (hp1.trans (hp2.trans (((Past.refl _ _).alloc _).trans hp3)))).setNew (by have := hp1.size; have := hp2.size; have := HW.out.size; omega) _ _).six (Nat.le_refl _) _ _ _ _ _ _)
  · exact ((h3.other (by omega) _ _).six (by have := HG.out; omega) _ _ _ _ _ _)
set_option maxRecDepth 20000 in
set_option maxHeartbeats 4000000 in
theorem RValue_1 {w : World} {g : Nat} {s : ByteArray} {a p : Nat} {d : Int} {c : Int} (hi : a + 1 < s.size) (hc : ((s[a + 1].toNat : Nat) : Int) = c) (h1c : c ≤ 1) (h : Rdr w g s a 0 p) (hp : ¬ (12 < d ∨ 200 < p + 1)) (ha : a < s.size) (hs : s.size ≤ 1000000000) (hkb : ((s[a].toNat : Nat) : Int) = 1) :
    Calls Try.prog 62 #[.pointer (some ⟨g, 0, none⟩), .int .i64 d] w fun x w' => VEnds s w g (.ok (leaf 1 c 0 ⟨#[]⟩, p + 1, left s (a + 2))) x w' := by
  have hW : Past g w (w.alloc (.cells #[.int .i64 0, .int .i64 0, .float .f64 0, .string ⟨#[]⟩, .slice none 0 0, .slice none 0 0] 27)) := (Past.refl g w).alloc _
  have hR := Bx.new w #[.int .i64 0, .int .i64 0, .float .f64 0, .string ⟨#[]⟩, .slice none 0 0, .slice none 0 0]
  have hg := h.lt
  have B := begin_ok (d := d) (h.alloc (.cells #[.int .i64 0, .int .i64 0, .float .f64 0, .string ⟨#[]⟩, .slice none 0 0, .slice none 0 0] 27)) (by omega)
  rw [if_neg (by omega)] at B
  have HR := Lib.hid hR
  have HW := Lib.hid hW
  have HG := Lib.hid hg
  have HP := Lib.hid hp
  have SF := float_store
  clear h hR hW hp
  go_enter Try.func62, Try.ntmps62
  go_wp2_with (first
    | (go_at_call 92; refine B.mono ?_; rintro x w1 ⟨rfl, hp1, h1⟩; have Y := Byte_ok h1 ha (by omega); rw [hkb] at Y)
    | (go_at_call 58; refine Y.mono ?_; rintro x w2 ⟨rfl, h2, hp2⟩; obtain ⟨d0, d1, d2, d3, df⟩ := h2.cells; have hg2 : g < w2.heap.size := h2.lt; have hR2 := HR.out.past (hp1.trans hp2) (by have := HG.out; omega); obtain ⟨r0, r1, r2, r3, r4, r5, rf, rl⟩ := hR2.cells; have h2v := h2.alloc (.cells #[.int .i64 1, .int .i64 0, .float .f64 0, .string ⟨#[]⟩, .slice none 0 0, .slice none 0 0] 27); have Y2 := Byte_ok h2v hi (by omega); rw [hc] at Y2)
    | (go_at_call 58; with_reducible refine Y2.mono ?_; rintro x w3 ⟨rfl, h3, hp3⟩; obtain ⟨e0, e1, e2, e3, ef⟩ := h3.cells; have hR3 := (hR2.alloc _).past hp3 (by have := HG.out; omega); obtain ⟨q0, q1, q2, q3, q4, q5, qf, ql⟩ := hR3.cells; have hV3 := (Bx.new w2 #[.int .i64 1, .int .i64 0, .float .f64 0, .string ⟨#[]⟩, .slice none 0 0, .slice none 0 0]).past hp3 (by omega); obtain ⟨v0, v1, v2, v3, v4, v5, vf, vl⟩ := hV3.cells))
  refine bodyPost_ret (results_six rfl _ _ w.heap.size (.int .i64 1) (.int .i64 c) (.float .f64 0) (.string ⟨#[]⟩) (.slice none 0 0) (.slice none 0 0) rfl ((hR3.other (by omega) _ _).six _ _ _ _ _ _)) rfl ⟨?_, ⟨_, rfl, VOwn.leaf (by omega) (by omega) (by decide) (by decide)⟩, a + 2, by omega, rfl, ?_⟩
  · exact (((HW.out.trans (hp1.trans (hp2.trans (((Past.refl _ _).alloc _).trans hp3)))).setNew (by have := hp1.size; have := hp2.size; have := HW.out.size; omega) _ _).six (Nat.le_refl _) _ _ _ _ _ _)
  · exact ((h3.other (by omega) _ _).six (by have := HG.out; omega) _ _ _ _ _ _)
set_option maxRecDepth 20000 in
set_option maxHeartbeats 4000000 in
theorem RValue_1b {w : World} {g : Nat} {s : ByteArray} {a p : Nat} {d : Int} {c : Int} (hi : a + 1 < s.size) (hc : ((s[a + 1].toNat : Nat) : Int) = c) (h1c : 1 < c) (h : Rdr w g s a 0 p) (hp : ¬ (12 < d ∨ 200 < p + 1)) (ha : a < s.size) (hs : s.size ≤ 1000000000) (hkb : ((s[a].toNat : Nat) : Int) = 1) :
    Calls Try.prog 62 #[.pointer (some ⟨g, 0, none⟩), .int .i64 d] w fun x w' => VEnds s w g (.error 5) x w' := by
  have hW : Past g w (w.alloc (.cells #[.int .i64 0, .int .i64 0, .float .f64 0, .string ⟨#[]⟩, .slice none 0 0, .slice none 0 0] 27)) := (Past.refl g w).alloc _
  have hR := Bx.new w #[.int .i64 0, .int .i64 0, .float .f64 0, .string ⟨#[]⟩, .slice none 0 0, .slice none 0 0]
  have hg := h.lt
  have B := begin_ok (d := d) (h.alloc (.cells #[.int .i64 0, .int .i64 0, .float .f64 0, .string ⟨#[]⟩, .slice none 0 0, .slice none 0 0] 27)) (by omega)
  rw [if_neg (by omega)] at B
  have HR := Lib.hid hR
  have HW := Lib.hid hW
  have HG := Lib.hid hg
  have HP := Lib.hid hp
  have SF := float_store
  clear h hR hW hp
  go_enter Try.func62, Try.ntmps62
  go_wp2_with (first
    | (go_at_call 92; refine B.mono ?_; rintro x w1 ⟨rfl, hp1, h1⟩; have Y := Byte_ok h1 ha (by omega); rw [hkb] at Y)
    | (go_at_call 58; refine Y.mono ?_; rintro x w2 ⟨rfl, h2, hp2⟩; obtain ⟨d0, d1, d2, d3, df⟩ := h2.cells; have hg2 : g < w2.heap.size := h2.lt; have hR2 := HR.out.past (hp1.trans hp2) (by have := HG.out; omega); obtain ⟨r0, r1, r2, r3, r4, r5, rf, rl⟩ := hR2.cells; have h2v := h2.alloc (.cells #[.int .i64 1, .int .i64 0, .float .f64 0, .string ⟨#[]⟩, .slice none 0 0, .slice none 0 0] 27); have Y2 := Byte_ok h2v hi (by omega); rw [hc] at Y2)
    | (go_at_call 58; with_reducible refine Y2.mono ?_; rintro x w3 ⟨rfl, h3, hp3⟩; obtain ⟨e0, e1, e2, e3, ef⟩ := h3.cells; have hR3 := (hR2.alloc _).past hp3 (by have := HG.out; omega); obtain ⟨q0, q1, q2, q3, q4, q5, qf, ql⟩ := hR3.cells; have hV3 := (Bx.new w2 #[.int .i64 1, .int .i64 0, .float .f64 0, .string ⟨#[]⟩, .slice none 0 0, .slice none 0 0]).past hp3 (by omega); obtain ⟨v0, v1, v2, v3, v4, v5, vf, vl⟩ := hV3.cells; have F := fail_0 (h3.other (R := w2.heap.size) (by omega) 1 (.int .i64 c)) 5; have hV4 := hV3.set 1 (.int .i64 c); have hR4 := hR3.other (S := w2.heap.size) (by omega) 1 (.int .i64 c))
    | (go_at_call 59; refine F.mono ?_; rintro x w4 ⟨rfl, h4, hp4⟩; have hR5 := hR4.past hp4 (by have := HG.out; omega); have hV5 := hV4.past hp4 (by omega); obtain ⟨x0, x1, x2, x3, x4, x5, xf, xl⟩ := hR5.cells; obtain ⟨y0, y1, y2, y3, y4, y5, yf, yl⟩ := hV5.cells))
  refine bodyPost_ret (results_six rfl _ _ w.heap.size (.int .i64 1) (.int .i64 c) (.float .f64 0) (.string ⟨#[]⟩) (.slice none 0 0) (.slice none 0 0) rfl (hR5.six _ _ _ _ _ _)) rfl ⟨?_, ⟨1, c, 0, ⟨#[]⟩, none, 0, 0, none, 0, 0, rfl⟩, by decide, a + 1 + 1, p + 1, by have := HP.out; omega, ?_⟩
  · exact ((((HW.out.trans (hp1.trans (hp2.trans (((Past.refl _ _).alloc _).trans hp3)))).setNew (by have := hp1.size; have := hp2.size; have := HW.out.size; omega) _ _).trans hp4).six (Nat.le_refl _) _ _ _ _ _ _)
  · exact (h4.six (by have := HG.out; omega) _ _ _ _ _ _)
end Go.Proofs.Yteclpehbpicpaaa
