/-
  The document's reader: Type, of a record whose count can't be read.
-/
import Derived.Test.YteclpehbpicpaaaJbm
namespace Go.Proofs.Yteclpehbpicpaaa
open Go.RowKit

set_option maxRecDepth 20000 in
set_option maxHeartbeats 4000000 in
theorem RType_6e {w : World} {g : Nat} {s : ByteArray} {a p : Nat} {d : Int} {c : Nat} (hi : mP (left s (a + 1)) = .error c) (h : Rdr w g s a 0 p) (hp : ¬ (12 < d ∨ 200 < p + 1)) (ha : a < s.size) (hs : s.size ≤ 1000000000) (hkb : ((s[a].toNat : Nat) : Int) = 6) :
    Calls Try.prog 65 #[.pointer (some ⟨g, 0, none⟩), .int .i64 d] w fun x w' => TEnds s w g (.error c) x w' := by
  have hW : Past g w (w.alloc (.cells #[.int .i64 0, .slice none 0 0, .slice none 0 0] 30)) := (Past.refl g w).alloc _
  have hR := Bt.new w #[.int .i64 0, .slice none 0 0, .slice none 0 0]
  have hg := h.lt
  have B := begin_ok (d := d) (h.alloc (.cells #[.int .i64 0, .slice none 0 0, .slice none 0 0] 30)) (by omega)
  rw [if_neg (by omega)] at B
  have HR := Lib.hid hR
  have HW := Lib.hid hW
  have HG := Lib.hid hg
  have HP := Lib.hid hp
  have SF := float_store
  clear h hR hW hp
  go_enter Try.func65, Try.ntmps65
  go_wp2_with (first
    | (go_at_call 92; refine B.mono ?_; rintro x w1 ⟨rfl, hp1, h1⟩; have Y := Byte_ok h1 ha (by omega); rw [hkb] at Y)
    | (go_at_call 58; refine Y.mono ?_; rintro x w2 ⟨rfl, h2, hp2⟩; obtain ⟨d0, d1, d2, d3, df⟩ := h2.cells; have hg2 : g < w2.heap.size := h2.lt; have hR2 := HR.out.past (hp1.trans hp2) (by have := HG.out; omega); obtain ⟨r0, r1, r2, rf, rl⟩ := hR2.cells; have h2v := h2.alloc (.cells #[.int .i64 6, .slice none 0 0, .slice none 0 0] 30); have I := many_ok h2v ha hs; rw [hi] at I)
    | (go_at_call 93; refine I.mono ?_; rintro x w3 ⟨hp3, rfl, hc, a3, h3⟩))
  obtain ⟨wv, hwv⟩ : ∃ wv, wv = w2.alloc (.cells #[.int .i64 6, .slice none 0 0, .slice none 0 0] 30) := ⟨_, rfl⟩
  rw [← hwv] at h2v hp3
  have hV0 : Bt wv w2.heap.size #[.int .i64 6, .slice none 0 0, .slice none 0 0] := by rw [hwv]; exact Bt.new _ _
  have hRv : Bt wv w.heap.size #[.int .i64 0, .slice none 0 0, .slice none 0 0] := by rw [hwv]; exact hR2.alloc _
  have hPv : Past g w wv := by rw [hwv]; exact HW.out.trans (hp1.trans (hp2.trans ((Past.refl _ _).alloc _)))
  have HV3 := Lib.hid (hV0.past hp3 (by omega))
  have HR3 := Lib.hid (hRv.past hp3 (by have := HG.out; omega))
  have HP3 := Lib.hid (hPv.trans hp3)
  have H3 := Lib.hid h3
  have hwR : w.heap.size ≠ g := by have := HG.out; omega
  have tc : ((c : Int) == 0) = false := by simp; omega
  clear hwv hV0 hRv hPv h2v Y B I h1 hp1 hp2 hR2 r0 r1 r2 rf rl d0 d1 d2 d3 df h2 h3 hp3
  go_loopw [7] (fun iv wr => iv = .int .i64 0 ∧ wr = w3) (fun _ _ => 0)
  case atStart => exact ⟨rfl, rfl⟩
  case round =>
    obtain ⟨rfl, rfl⟩ := hrel
    obtain ⟨d0, d1, d2, d3, df⟩ := H3.out.cells
    obtain ⟨v0, v1, v2, vf, vl⟩ := HV3.out.cells
    obtain ⟨r0, r1, r2, rf, rl⟩ := HR3.out.cells
    go_wp2_with fail
    refine bodyPost_ret (results_box3 rfl _ _ w.heap.size (.int .i64 6) (.slice none 0 0) (.slice none 0 0) rfl (HR3.out.put3 _ _ _)) rfl ⟨?_, ⟨6, none, 0, 0, none, 0, 0, rfl⟩, hc, a3, p + 1, by have := HP.out; omega, ?_⟩
    · exact HP3.out.put3 (Nat.le_refl _) _ _ _
    · exact H3.out.put3 hwR _ _ _
end Go.Proofs.Yteclpehbpicpaaa
