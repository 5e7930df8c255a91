/-
  The document's reader: Type, of plain kinds.
-/
import Derived.Test.YteclpehbpicpaaaJam
namespace Go.Proofs.Yteclpehbpicpaaa
open Go.RowKit

set_option maxRecDepth 20000 in
set_option maxHeartbeats 4000000 in
theorem RType_leaf {w : World} {g : Nat} {s : ByteArray} {a p : Nat} {d : Int} {k : Nat} (hk1 : 1 ≤ k) (hk7 : k ≤ 7) (hk5 : k ≠ 5) (hk6 : k ≠ 6) (h : Rdr w g s a 0 p) (hp : ¬ (12 < d ∨ 200 < p + 1)) (ha : a < s.size) (hs : s.size ≤ 1000000000) (hkb : ((s[a].toNat : Nat) : Int) = k) :
    Calls Try.prog 65 #[.pointer (some ⟨g, 0, none⟩), .int .i64 d] w fun x w' => TEnds s w g (.ok (tleaf k, p + 1, left s (a + 1))) x w' := by
  have hW : Past g w (w.alloc (.cells #[.int .i64 0, .slice none 0 0, .slice none 0 0] 30)) := (Past.refl g w).alloc _
  have hR := Bt.new w #[.int .i64 0, .slice none 0 0, .slice none 0 0]
  have hg := h.lt
  have B := begin_ok (d := d) (h.alloc (.cells #[.int .i64 0, .slice none 0 0, .slice none 0 0] 30)) (by omega)
  rw [if_neg (by omega)] at B
  have HR := Lib.hid hR
  have HW := Lib.hid hW
  have HG := Lib.hid hg
  have HP := Lib.hid hp
  have t5 : ((k : Int) == 5) = false := by simp; omega
  have t6 : ((k : Int) == 6) = false := by simp; omega
  have t1 : decide ((k : Int) < 1) = false := by simp; omega
  have t7 : decide ((7 : Int) < (k : Int)) = false := by simp; omega
  clear h hR hW hp
  go_enter Try.func65, Try.ntmps65
  go_wp2_with (first
    | (go_at_call 92; refine B.mono ?_; rintro x w1 ⟨rfl, hp1, h1⟩; have Y := Byte_ok h1 ha (by omega); rw [hkb] at Y)
    | (go_at_call 58; refine Y.mono ?_; rintro x w2 ⟨rfl, h2, hp2⟩; obtain ⟨d0, d1, d2, d3, df⟩ := h2.cells; have hg2 : g < w2.heap.size := h2.lt; have hR2 := HR.out.past (hp1.trans hp2) (by have := HG.out; omega); obtain ⟨r0, r1, r2, rf, rl⟩ := hR2.cells; have h2v := h2.alloc (.cells #[.int .i64 k, .slice none 0 0, .slice none 0 0] 30)))
  obtain ⟨wv, hwv⟩ : ∃ wv, wv = w2.alloc (.cells #[.int .i64 k, .slice none 0 0, .slice none 0 0] 30) := ⟨_, rfl⟩
  rw [← hwv] at h2v
  have hV0 : Bt wv w2.heap.size #[.int .i64 k, .slice none 0 0, .slice none 0 0] := by rw [hwv]; exact Bt.new _ _
  have hRv : Bt wv w.heap.size #[.int .i64 0, .slice none 0 0, .slice none 0 0] := by rw [hwv]; exact hR2.alloc _
  have hPv : Past g w wv := by rw [hwv]; exact HW.out.trans (hp1.trans (hp2.trans ((Past.refl _ _).alloc _)))
  have HV3 := Lib.hid hV0
  have HR3 := Lib.hid hRv
  have HP3 := Lib.hid hPv
  have H3 := Lib.hid h2v
  have HWV := Lib.hid hwv
  have HK := Lib.hid hk7
  have hwR : w.heap.size ≠ g := by have := HG.out; omega
  clear hwv hV0 hRv hPv h2v Y B h1 hp1 hp2 hR2 r0 r1 r2 rf rl d0 d1 d2 d3 df h2 hk1 hk7 hk5 hk6
  go_loopw [7] (fun iv wr => iv = .int .i64 0 ∧ wr = wv) (fun _ _ => 0)
  case atStart => exact ⟨rfl, HWV.out.symm⟩
  case round =>
    obtain ⟨rfl, rfl⟩ := hrel
    obtain ⟨d0, d1, d2, d3, df⟩ := H3.out.cells
    obtain ⟨v0, v1, v2, vf, vl⟩ := HV3.out.cells
    obtain ⟨r0, r1, r2, rf, rl⟩ := HR3.out.cells
    go_wp2_with fail
    refine bodyPost_ret (results_box3 rfl _ _ w.heap.size (.int .i64 k) (.slice none 0 0) (.slice none 0 0) rfl (HR3.out.put3 _ _ _)) rfl ⟨?_, ⟨_, rfl, TOwn.leaf (by have := HK.out; omega)⟩, a + 1, ha, rfl, ?_⟩
    · exact HP3.out.put3 (Nat.le_refl _) _ _ _
    · exact H3.out.put3 hwR _ _ _
end Go.Proofs.Yteclpehbpicpaaa
