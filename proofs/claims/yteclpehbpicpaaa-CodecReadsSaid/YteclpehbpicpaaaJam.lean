/-
  The document's reader: Type, amid an error, where it stops, and of no kind.
-/
import Derived.Test.YteclpehbpicpaaaRhm
import Derived.Test.YteclpehbpicpaaaM34
namespace Go.Proofs.Yteclpehbpicpaaa
open Go.RowKit

theorem Rdr.put3 {w : World} {g : Nat} {s : ByteArray} {a e p : Int} (h : Rdr w g s a e p) {R : Nat} (hR : R ≠ g) (v0 v1 v2 : Value) :
    Rdr (((w.setCell ⟨R, 0, none⟩ v0).setCell ⟨R, 1, none⟩ v1).setCell ⟨R, 2, none⟩ v2) g s a e p := ((h.other hR 0 v0).other hR 1 v1).other hR 2 v2
def tbare (k : Int) : Array Value := tfields k none 0 0 none 0 0
/-- How the document's reading of a type ends. -/
def TEnds (s : ByteArray) (w : World) (g : Nat) (r : Except Nat (TT × Nat × List UInt8)) (x : Ending) (w' : World) : Prop :=
  Past g w w' ∧ match r with
  | .error c => (∃ k A m ca B m' cb, x = .returned (.agg (tfields k A m ca B m' cb))) ∧ c ≠ 0 ∧ ∃ a p : Nat, p ≤ 1000000 ∧ Rdr w' g s a c p
  | .ok (t, p, l) => (∃ v, x = .returned (.agg v) ∧ TOwn w' (fun b => w.heap.size ≤ b) v t) ∧ ∃ a : Nat, a ≤ s.size ∧ l = left s a ∧ Rdr w' g s a 0 p
set_option maxHeartbeats 2000000 in
theorem RType_err {w : World} {g : Nat} {s : ByteArray} {a e p d : Int} (h : Rdr w g s a e p) (he : e ≠ 0) (hp : 0 ≤ p ∧ p ≤ 1000000) :
    Calls Try.prog 65 #[.pointer (some ⟨g, 0, none⟩), .int .i64 d] w fun x w' => x = .returned (.agg (tbare 0)) ∧ Past g w w' ∧ Rdr w' g s a e (p + 1) := by
  have hW : Past g w (w.alloc (.cells #[.int .i64 0, .slice none 0 0, .slice none 0 0] 30)) := (Past.refl g w).alloc _
  have hR := Bt.new w #[.int .i64 0, .slice none 0 0, .slice none 0 0]
  have hg := h.lt
  have B := begin_err (d := d) (h.alloc (.cells #[.int .i64 0, .slice none 0 0, .slice none 0 0] 30)) he hp
  have te : (e == 0) = false := by simpa using he
  have te' : (e != 0) = true := by simpa using he
  have HR := Lib.hid hR
  have HW := Lib.hid hW
  have HG := Lib.hid hg
  have SF := float_store
  unfold tbare tfields
  clear h hR hW
  go_enter Try.func65, Try.ntmps65
  go_wp2_with (first | (go_at_call 92; refine B.mono ?_; rintro x w1 ⟨rfl, hp1, h1⟩; have Y := Byte_err h1 he) | (go_at_call 58; refine Y.mono ?_; rintro x w2 ⟨rfl, h2, hp2⟩; obtain ⟨d0, d1, d2, d3, df⟩ := h2.cells; have hg2 : g < w2.heap.size := h2.lt; have hR2 := HR.out.past (hp1.trans hp2) (by have := HG.out; omega); obtain ⟨r0, r1, r2, rf, rl⟩ := hR2.cells))
  refine bodyPost_ret (results_box3 rfl _ _ w.heap.size (.int .i64 0) (.slice none 0 0) (.slice none 0 0) rfl ((hR2.put3 _ _ _).alloc _)) rfl ⟨rfl, ?_, ?_⟩
  · exact ((HW.out.trans (hp1.trans hp2)).put3 (Nat.le_refl _) _ _ _).alloc _
  · exact (h2.put3 (by have := HG.out; omega) _ _ _).alloc _
set_option maxHeartbeats 2000000 in
theorem RType_begin {w : World} {g : Nat} {s : ByteArray} {a p : Nat} {d : Int} (h : Rdr w g s a 0 p) (hp : p ≤ 1000) (hd : 12 < d ∨ 200 < p + 1) :
    Calls Try.prog 65 #[.pointer (some ⟨g, 0, none⟩), .int .i64 d] w fun x w' => TEnds s w g (.error 5) x w' := by
  have hW : Past g w (w.alloc (.cells #[.int .i64 0, .slice none 0 0, .slice none 0 0] 30)) := (Past.refl g w).alloc _
  have hR := Bt.new w #[.int .i64 0, .slice none 0 0, .slice none 0 0]
  have hg := h.lt
  have B := begin_ok (d := d) (h.alloc (.cells #[.int .i64 0, .slice none 0 0, .slice none 0 0] 30)) (by omega)
  rw [if_pos (by omega)] at B
  have HR := Lib.hid hR
  have HW := Lib.hid hW
  have HG := Lib.hid hg
  have SF := float_store
  clear h hR hW
  go_enter Try.func65, Try.ntmps65
  go_wp2_with (first | (go_at_call 92; refine B.mono ?_; rintro x w1 ⟨rfl, hp1, h1⟩; have Y := Byte_err h1 (by decide)) | (go_at_call 58; refine Y.mono ?_; rintro x w2 ⟨rfl, h2, hp2⟩; obtain ⟨d0, d1, d2, d3, df⟩ := h2.cells; have hg2 : g < w2.heap.size := h2.lt; have hR2 := HR.out.past (hp1.trans hp2) (by have := HG.out; omega); obtain ⟨r0, r1, r2, rf, rl⟩ := hR2.cells))
  refine bodyPost_ret (results_box3 rfl _ _ w.heap.size (.int .i64 0) (.slice none 0 0) (.slice none 0 0) rfl ((hR2.put3 _ _ _).alloc _)) rfl ⟨?_, ⟨0, none, 0, 0, none, 0, 0, rfl⟩, by decide, a, p + 1, by omega, ?_⟩
  · exact ((HW.out.trans (hp1.trans hp2)).put3 (Nat.le_refl _) _ _ _).alloc _
  · exact (h2.put3 (by have := HG.out; omega) _ _ _).alloc _
set_option maxHeartbeats 2000000 in
theorem RType_end {w : World} {g : Nat} {s : ByteArray} {a p : Nat} {d : Int} (h : Rdr w g s a 0 p) (hp : ¬ (12 < d ∨ 200 < p + 1)) (ha : s.size ≤ a) :
    Calls Try.prog 65 #[.pointer (some ⟨g, 0, none⟩), .int .i64 d] w fun x w' => TEnds s w g (.error 14) x w' := by
  have hW : Past g w (w.alloc (.cells #[.int .i64 0, .slice none 0 0, .slice none 0 0] 30)) := (Past.refl g w).alloc _
  have hR := Bt.new w #[.int .i64 0, .slice none 0 0, .slice none 0 0]
  have hg := h.lt
  have B := begin_ok (d := d) (h.alloc (.cells #[.int .i64 0, .slice none 0 0, .slice none 0 0] 30)) (by omega)
  rw [if_neg (by omega)] at B
  have HR := Lib.hid hR
  have HW := Lib.hid hW
  have HG := Lib.hid hg
  have SF := float_store
  clear h hR hW
  go_enter Try.func65, Try.ntmps65
  go_wp2_with (first | (go_at_call 92; refine B.mono ?_; rintro x w1 ⟨rfl, hp1, h1⟩; have Y := Byte_end h1 ha) | (go_at_call 58; refine Y.mono ?_; rintro x w2 ⟨rfl, h2, hp2⟩; obtain ⟨d0, d1, d2, d3, df⟩ := h2.cells; have hg2 : g < w2.heap.size := h2.lt; have hR2 := HR.out.past (hp1.trans hp2) (by have := HG.out; omega); obtain ⟨r0, r1, r2, rf, rl⟩ := hR2.cells))
  refine bodyPost_ret (results_box3 rfl _ _ w.heap.size (.int .i64 0) (.slice none 0 0) (.slice none 0 0) rfl ((hR2.put3 _ _ _).alloc _)) rfl ⟨?_, ⟨0, none, 0, 0, none, 0, 0, rfl⟩, by decide, a, p + 1, by omega, ?_⟩
  · exact ((HW.out.trans (hp1.trans hp2)).put3 (Nat.le_refl _) _ _ _).alloc _
  · exact (h2.put3 (by have := HG.out; omega) _ _ _).alloc _
set_option maxHeartbeats 2000000 in
theorem RType_kind {w : World} {g : Nat} {s : ByteArray} {a p : Nat} {d k : Int} (h : Rdr w g s a 0 p) (hp : ¬ (12 < d ∨ 200 < p + 1)) (ha : a < s.size) (hs : s.size ≤ 1000000000) (hkb : ((s[a].toNat : Nat) : Int) = k) (hk : k < 1 ∨ 7 < k) :
    Calls Try.prog 65 #[.pointer (some ⟨g, 0, none⟩), .int .i64 d] w fun x w' => TEnds s w g (.error 5) x w' := by
  have hW : Past g w (w.alloc (.cells #[.int .i64 0, .slice none 0 0, .slice none 0 0] 30)) := (Past.refl g w).alloc _
  have hR := Bt.new w #[.int .i64 0, .slice none 0 0, .slice none 0 0]
  have hg := h.lt
  have B := begin_ok (d := d) (h.alloc (.cells #[.int .i64 0, .slice none 0 0, .slice none 0 0] 30)) (by omega)
  rw [if_neg (by omega)] at B
  have HR := Lib.hid hR
  have HW := Lib.hid hW
  have HG := Lib.hid hg
  have HP := Lib.hid hp
  have SF := float_store
  clear h hR hW hp
  go_enter Try.func65, Try.ntmps65
  go_wp2_with (first
    | (go_at_call 92; refine B.mono ?_; rintro x w1 ⟨rfl, hp1, h1⟩; have Y := Byte_ok h1 ha (by omega); rw [hkb] at Y)
    | (go_at_call 58; refine Y.mono ?_; rintro x w2 ⟨rfl, h2, hp2⟩; obtain ⟨d0, d1, d2, d3, df⟩ := h2.cells; have hg2 : g < w2.heap.size := h2.lt; have hR2 := HR.out.past (hp1.trans hp2) (by have := HG.out; omega); obtain ⟨r0, r1, r2, rf, rl⟩ := hR2.cells; have F := fail_0 (h2.alloc (.cells #[.int .i64 k, .slice none 0 0, .slice none 0 0] 30)) 5)
    | (go_at_call 59; refine F.mono ?_; rintro x w3 ⟨rfl, h3, hp3⟩; obtain ⟨e0, e1, e2, e3, ef⟩ := h3.cells; have hR3 := (hR2.alloc _).past hp3 (by have := HG.out; omega); obtain ⟨q0, q1, q2, qf, ql⟩ := hR3.cells; have hV3 := (Bt.new w2 #[.int .i64 k, .slice none 0 0, .slice none 0 0]).past hp3 (by omega); obtain ⟨v0, v1, v2, vf, vl⟩ := hV3.cells))
  all_goals
    refine bodyPost_ret (results_box3 rfl _ _ w.heap.size (.int .i64 k) (.slice none 0 0) (.slice none 0 0) rfl (hR3.put3 _ _ _)) rfl ⟨?_, ⟨k, none, 0, 0, none, 0, 0, rfl⟩, by decide, a + 1, p + 1, by have := HP.out; omega, ?_⟩
    · exact ((HW.out.trans (hp1.trans (hp2.trans (((Past.refl _ _).alloc _).trans hp3)))).put3 (Nat.le_refl _) _ _ _)
    · exact (h3.put3 (by have := HG.out; omega) _ _ _)
end Go.Proofs.Yteclpehbpicpaaa
