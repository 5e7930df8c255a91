/-
  Contracts of basculeref05's Value, of plain values.
-/
import Derived.Test.YtdmbfajhcihfgaaBf
import Derived.Test.YtdmbfajhcihfgaaVk
namespace Go.Proofs.Ytdmbfajhcihfgaa
open Go.RowKit

theorem size_cat (a b : ByteArray) : (a ++ b).size = a.size + b.size := by simp
def byteB (n : Nat) : ByteArray := strL [UInt8.ofNat n]
theorem byte_conv (w : World) {z : Int} {n : Nat} (hz : z = n) (hn : n < 256) (g : Nat) (hg : g = w.heap.size) : (convert 67 9 (.slice (some ⟨g, 0, none⟩) 1 1)).run Try.prog (w.alloc (.cells #[.int .u8 z] 5)) = .ok (.string (byteB n)) (w.alloc (.cells #[.int .u8 z] 5)) := by
  subst hz hg
  have h := run_convert_bytes_back (P := Try.prog) (w.alloc (.cells #[.int .u8 (n : Int)] 5)) 67 9 5 ⟨w.heap.size, 0, none⟩ 1 [UInt8.ofNat n] Try.underlying67 Try.underlying5 Try.underlying9
  refine h ?_
  intro j hj
  have hj0 : j = 0 := by simpa using hj
  subst hj0
  have e : (⟨w.heap.size, 0, none⟩ : Addr).add (0 : Nat) = ⟨w.heap.size, 0, none⟩ := rfl
  have c := World.cell?_alloc_mark w #[.int .u8 (n : Int)] 5 (0, 0) 0
  rw [e, c]
  simp
  omega
/-- The eight bytes of a word, the highest first: j of them. -/
def wordL (b : Nat) : Nat → List UInt8
  | 0 => []
  | j + 1 => wordL b j ++ [UInt8.ofNat (b / 2 ^ (56 - 8 * j) % 256)]
theorem wordL_len (b : Nat) : ∀ j, (wordL b j).length = j := by
  intro j
  induction j with
  | zero => rfl
  | succ j ih => unfold wordL; rw [List.length_append, ih]; rfl
/-- Bytes of a plain value behind its kind's. -/
def plainC (k n : Int) (f : Nat) (s : ByteArray) : ByteArray :=
  if k = 1 then byteB n.toNat else if k = 2 then strL (uintL (zig n)) else if k = 3 then strL (wordL (canonW f) 8) else strB s
set_option maxRecDepth 20000 in
set_option maxHeartbeats 2000000 in
theorem value_1 {n : Int} {f : Nat} {s : ByteArray} {A : Option Addr} {c ca : Nat} {B : Option Addr} {m cb : Nat} {w : World} (hn : n = 0 ∨ n = 1) :
    Calls Try.prog 15 #[.agg (fields 1 n f s A c ca B m cb)] w fun e w' => e = .returned (.string (byteB 1 ++ plainC 1 n f s)) ∧ Below w.heap.size w w' := by
  have hbW : Below w.heap.size w (w.alloc (.cells (fields 1 n f s A c ca B m cb) 27)) := (Below.refl _ _).alloc (Nat.le_refl _) _
  unfold fields at *
  have C1 := fun w => byte_conv w (z := 1) (n := 1) rfl (by omega)
  have C2 := fun w => byte_conv w (z := n) (n := n.toNat) (by omega) (by omega)
  have E2 : IntKind.u8.wrap n = n := by rw [IntKind.wrap_u8]; omega
  have hz : ¬ 9223372036854775807 < (byteB 1).size + (byteB n.toNat).size := by
    have : ∀ n, (byteB n).size = 1 := fun _ => rfl
    rw [this, this]; omega
  have R : Hid (plainC 1 n f s = byteB n.toNat) := Lib.hid (by unfold plainC; rfl)
  clear hn
  go_enter Try.func15, Try.ntmps15
  go_wp2_with fail
  go_ret
  exact ⟨by rw [R.out]; rfl, ((hbW.alloc (by first | (simp; done) | (simp; omega)) _).alloc (by first | (simp; done) | (simp; omega)) _)⟩
set_option maxRecDepth 20000 in
set_option maxHeartbeats 2000000 in
theorem value_2 {n : Int} {f : Nat} {s : ByteArray} {A : Option Addr} {c ca : Nat} {B : Option Addr} {m cb : Nat} {w : World} (hn : -9223372036854775808 ≤ n ∧ n ≤ 9223372036854775807) :
    Calls Try.prog 15 #[.agg (fields 2 n f s A c ca B m cb)] w fun e w' => e = .returned (.string (byteB 2 ++ plainC 2 n f s)) ∧ Below w.heap.size w w' := by
  have hbW : Below w.heap.size w ((w.alloc (.cells (fields 2 n f s A c ca B m cb) 27)).alloc (.cells #[.int .u8 2] 5)) := ((Below.refl _ _).alloc (Nat.le_refl _) _).alloc (by simp) _
  unfold fields at *
  have C1 := fun w => byte_conv w (z := 2) (n := 2) rfl (by omega)
  have I := Int_any hn
  have hz : ¬ 9223372036854775807 < (byteB 2).size + (strL (uintL (zig n))).size := by
    have h1 : ∀ n, (byteB n).size = 1 := fun _ => rfl
    have h2 : (strL (uintL (zig n))).size = (uintL (zig n)).length := rfl
    have h3 := uintL_len10 (zig_lt hn)
    rw [h1, h2]; omega
  have R : Hid (plainC 2 n f s = strL (uintL (zig n))) := Lib.hid (by unfold plainC; rfl)
  clear hn
  go_enter Try.func15, Try.ntmps15
  go_wp2_with (go_at_call 20; refine (I _).mono ?_; rintro e w1 ⟨rfl, hb1⟩)
  go_ret
  exact ⟨by rw [R.out]; rfl, hbW.trans (hb1.mono hbW.size)⟩
set_option maxRecDepth 20000 in
set_option maxHeartbeats 2000000 in
theorem value_4 {n : Int} {f : Nat} {s : ByteArray} {A : Option Addr} {c ca : Nat} {B : Option Addr} {m cb : Nat} {w : World} (hs : s.size ≤ 1000000) :
    Calls Try.prog 15 #[.agg (fields 4 n f s A c ca B m cb)] w fun e w' => e = .returned (.string (byteB 4 ++ plainC 4 n f s)) ∧ Below w.heap.size w w' := by
  have hbW : Below w.heap.size w ((w.alloc (.cells (fields 4 n f s A c ca B m cb) 27)).alloc (.cells #[.int .u8 4] 5)) := ((Below.refl _ _).alloc (Nat.le_refl _) _).alloc (by simp) _
  unfold fields at *
  have C1 := fun w => byte_conv w (z := 4) (n := 4) rfl (by omega)
  have I := Str_any (t := s) (by omega)
  have hz : ¬ 9223372036854775807 < (byteB 4).size + (strB s).size := by
    have h1 : ∀ n, (byteB n).size = 1 := fun _ => rfl
    have h2 : (strL (uintL s.size)).size = (uintL s.size).length := rfl
    have h3 := uintL_len10 (n := s.size) (by omega)
    unfold strB
    rw [h1, size_cat, h2]; omega
  have R : Hid (plainC 4 n f s = strB s) := Lib.hid (by unfold plainC; rfl)
  clear hs
  go_enter Try.func15, Try.ntmps15
  go_wp2_with (go_at_call 22; refine (I _).mono ?_; rintro e w1 ⟨rfl, hb1⟩)
  go_ret
  exact ⟨by rw [R.out]; rfl, hbW.trans (hb1.mono hbW.size)⟩
set_option maxRecDepth 20000 in
set_option maxHeartbeats 4000000 in
theorem value_3 {n : Int} {f : Nat} {s : ByteArray} {A : Option Addr} {c ca : Nat} {B : Option Addr} {m cb : Nat} {w : World} :
    Calls Try.prog 15 #[.agg (fields 3 n f s A c ca B m cb)] w fun e w' => e = .returned (.string (byteB 3 ++ plainC 3 n f s)) ∧ Below w.heap.size w w' := by
  obtain ⟨W1, hW1⟩ : ∃ W1, W1 = ((w.alloc (.cells (fields 3 n f s A c ca B m cb) 27)).alloc (.cells #[.int .u8 3] 5)) := ⟨_, rfl⟩
  have hbW : Below w.heap.size w W1 := by rw [hW1]; exact ((Below.refl _ _).alloc (Nat.le_refl _) _).alloc (by simp) _
  obtain ⟨v0, w0, hrun, hbuf, hb0⟩ := conv_buf (byteB 3) W1
  rw [hW1] at hrun
  have hbuf0 := Lib.hid hbuf
  have HB0 := Lib.hid (hbW.trans (hb0.mono hbW.size))
  have HW := Lib.hid hbW.size
  unfold fields at *
  have C1 := fun w => byte_conv w (z := 3) (n := 3) rfl (by omega)
  have CN := Canon_any f
  have BR := bits_run
  have R : Hid (plainC 3 n f s = strL (wordL (canonW f) 8)) := Lib.hid (by unfold plainC; rfl)
  generalize canonW f = q at *
  clear hW1 hbW hbuf hb0
  go_enter Try.func15, Try.ntmps15
  go_wp2_with (go_at_call 42; refine (CN _).mono ?_; rintro e w1 ⟨rfl, rfl⟩)
  clear C1 CN BR hrun
  go_loopw [5, 6] (fun v iv wr => ∃ (j : Nat), j ≤ 8 ∧ iv = .int .i64 (56 - 8 * (j : Int)) ∧ Buf wr w.heap.size v (UInt8.ofNat 3 :: wordL q j) ∧ Below w.heap.size w wr) (fun _ iv _ => (intOf iv + 8).toNat)
  case atStart => exact ⟨0, by omega, rfl, by
    obtain ⟨g, cap, e1, e2, e3⟩ := hbuf0.out
    exact ⟨g, cap, e1, by have := HW.out; omega, e3⟩, HB0.out⟩
  case round =>
    obtain ⟨j, hj, rfl, hbuf, hb⟩ := hrel
    have hsz := hb.size
    by_cases h8 : j = 8
    · subst h8
      obtain ⟨g, cap, rfl, hg, hlt, hcell, hfree⟩ := hbuf
      obtain ⟨M, hM⟩ : ∃ M, M = UInt8.ofNat 3 :: wordL q 8 := ⟨_, rfl⟩
      rw [← hM] at hcell
      have hcv := run_convert_bytes_back (P := Try.prog) wr 67 9 5 ⟨g, 0, none⟩ cap M Try.underlying67 Try.underlying5 Try.underlying9 (fun j hj => by
        rw [Addr.add_lit, Nat.zero_add]
        exact hcell j _ (by simp [Lib.byteCells, hj]))
      have hF : Hid (byteB 3 ++ strL (wordL q 8) = ⟨M.toArray⟩) := Lib.hid (by rw [hM]; exact strL_append [UInt8.ofNat 3] (wordL q 8))
      rw [← hM]
      clear hcell hfree hM
      go_wp2_with fail
      go_ret
      exact ⟨by rw [R.out, hF.out]; rfl, hb⟩
    · have hstep : Hid (UInt8.ofNat 3 :: wordL q (j + 1) = (UInt8.ofNat 3 :: wordL q j) ++ [UInt8.ofNat (q / 2 ^ (56 - 8 * j) % 256)]) := Lib.hid rfl
      have hlen := wordL_len q j
      generalize wordL q j = L at *
      obtain rfl | rfl | rfl | rfl | rfl | rfl | rfl | rfl : j = 0 ∨ j = 1 ∨ j = 2 ∨ j = 3 ∨ j = 4 ∨ j = 5 ∨ j = 6 ∨ j = 7 := by omega
      · go_wp2_with (at_builtin; refine wpList_push (base := w.heap.size) rfl (.tmp 43) (.tmp 48) rfl _ _ (UInt8.ofNat (q / 2 ^ (56 - 8 * 0) % 256)) rfl (hbuf.alloc _) (by simp; omega) (by simp [hlen]) ⟨wr.heap.size, 0, none⟩ rfl ((World.cell?_alloc_new _ _ _ _).trans (by simp)) ?_; intro v' w3 hbuf3 hb3; refine Hid.out ?_)
        refine Lib.hid ?_
        have HBU := Lib.hid hbuf3
        have HB3 := Lib.hid (show Below w.heap.size w w3 from (hb.alloc hsz _).trans hb3)
        clear hbuf3 hb3 hbuf hb
        go_wp2_with fail
        go_roundw
        case rel => exact ⟨1, by omega, by go_num, by rw [hstep.out]; exact HBU.out, HB3.out⟩
        case measure => simp [intOf]
      · go_wp2_with (at_builtin; refine wpList_push (base := w.heap.size) rfl (.tmp 43) (.tmp 48) rfl _ _ (UInt8.ofNat (q / 2 ^ (56 - 8 * 1) % 256)) rfl (hbuf.alloc _) (by simp; omega) (by simp [hlen]) ⟨wr.heap.size, 0, none⟩ rfl ((World.cell?_alloc_new _ _ _ _).trans (by simp)) ?_; intro v' w3 hbuf3 hb3; refine Hid.out ?_)
        refine Lib.hid ?_
        have HBU := Lib.hid hbuf3
        have HB3 := Lib.hid (show Below w.heap.size w w3 from (hb.alloc hsz _).trans hb3)
        clear hbuf3 hb3 hbuf hb
        go_wp2_with fail
        go_roundw
        case rel => exact ⟨2, by omega, by go_num, by rw [hstep.out]; exact HBU.out, HB3.out⟩
        case measure => simp [intOf]
      · go_wp2_with (at_builtin; refine wpList_push (base := w.heap.size) rfl (.tmp 43) (.tmp 48) rfl _ _ (UInt8.ofNat (q / 2 ^ (56 - 8 * 2) % 256)) rfl (hbuf.alloc _) (by simp; omega) (by simp [hlen]) ⟨wr.heap.size, 0, none⟩ rfl ((World.cell?_alloc_new _ _ _ _).trans (by simp)) ?_; intro v' w3 hbuf3 hb3; refine Hid.out ?_)
        refine Lib.hid ?_
        have HBU := Lib.hid hbuf3
        have HB3 := Lib.hid (show Below w.heap.size w w3 from (hb.alloc hsz _).trans hb3)
        clear hbuf3 hb3 hbuf hb
        go_wp2_with fail
        go_roundw
        case rel => exact ⟨3, by omega, by go_num, by rw [hstep.out]; exact HBU.out, HB3.out⟩
        case measure => simp [intOf]
      · go_wp2_with (at_builtin; refine wpList_push (base := w.heap.size) rfl (.tmp 43) (.tmp 48) rfl _ _ (UInt8.ofNat (q / 2 ^ (56 - 8 * 3) % 256)) rfl (hbuf.alloc _) (by simp; omega) (by simp [hlen]) ⟨wr.heap.size, 0, none⟩ rfl ((World.cell?_alloc_new _ _ _ _).trans (by simp)) ?_; intro v' w3 hbuf3 hb3; refine Hid.out ?_)
        refine Lib.hid ?_
        have HBU := Lib.hid hbuf3
        have HB3 := Lib.hid (show Below w.heap.size w w3 from (hb.alloc hsz _).trans hb3)
        clear hbuf3 hb3 hbuf hb
        go_wp2_with fail
        go_roundw
        case rel => exact ⟨4, by omega, by go_num, by rw [hstep.out]; exact HBU.out, HB3.out⟩
        case measure => simp [intOf]
      · go_wp2_with (at_builtin; refine wpList_push (base := w.heap.size) rfl (.tmp 43) (.tmp 48) rfl _ _ (UInt8.ofNat (q / 2 ^ (56 - 8 * 4) % 256)) rfl (hbuf.alloc _) (by simp; omega) (by simp [hlen]) ⟨wr.heap.size, 0, none⟩ rfl ((World.cell?_alloc_new _ _ _ _).trans (by simp)) ?_; intro v' w3 hbuf3 hb3; refine Hid.out ?_)
        refine Lib.hid ?_
        have HBU := Lib.hid hbuf3
        have HB3 := Lib.hid (show Below w.heap.size w w3 from (hb.alloc hsz _).trans hb3)
        clear hbuf3 hb3 hbuf hb
        go_wp2_with fail
        go_roundw
        case rel => exact ⟨5, by omega, by go_num, by rw [hstep.out]; exact HBU.out, HB3.out⟩
        case measure => simp [intOf]
      · go_wp2_with (at_builtin; refine wpList_push (base := w.heap.size) rfl (.tmp 43) (.tmp 48) rfl _ _ (UInt8.ofNat (q / 2 ^ (56 - 8 * 5) % 256)) rfl (hbuf.alloc _) (by simp; omega) (by simp [hlen]) ⟨wr.heap.size, 0, none⟩ rfl ((World.cell?_alloc_new _ _ _ _).trans (by simp)) ?_; intro v' w3 hbuf3 hb3; refine Hid.out ?_)
        refine Lib.hid ?_
        have HBU := Lib.hid hbuf3
        have HB3 := Lib.hid (show Below w.heap.size w w3 from (hb.alloc hsz _).trans hb3)
        clear hbuf3 hb3 hbuf hb
        go_wp2_with fail
        go_roundw
        case rel => exact ⟨6, by omega, by go_num, by rw [hstep.out]; exact HBU.out, HB3.out⟩
        case measure => simp [intOf]
      · go_wp2_with (at_builtin; refine wpList_push (base := w.heap.size) rfl (.tmp 43) (.tmp 48) rfl _ _ (UInt8.ofNat (q / 2 ^ (56 - 8 * 6) % 256)) rfl (hbuf.alloc _) (by simp; omega) (by simp [hlen]) ⟨wr.heap.size, 0, none⟩ rfl ((World.cell?_alloc_new _ _ _ _).trans (by simp)) ?_; intro v' w3 hbuf3 hb3; refine Hid.out ?_)
        refine Lib.hid ?_
        have HBU := Lib.hid hbuf3
        have HB3 := Lib.hid (show Below w.heap.size w w3 from (hb.alloc hsz _).trans hb3)
        clear hbuf3 hb3 hbuf hb
        go_wp2_with fail
        go_roundw
        case rel => exact ⟨7, by omega, by go_num, by rw [hstep.out]; exact HBU.out, HB3.out⟩
        case measure => simp [intOf]
      · go_wp2_with (at_builtin; refine wpList_push (base := w.heap.size) rfl (.tmp 43) (.tmp 48) rfl _ _ (UInt8.ofNat (q / 2 ^ (56 - 8 * 7) % 256)) rfl (hbuf.alloc _) (by simp; omega) (by simp [hlen]) ⟨wr.heap.size, 0, none⟩ rfl ((World.cell?_alloc_new _ _ _ _).trans (by simp)) ?_; intro v' w3 hbuf3 hb3; refine Hid.out ?_)
        refine Lib.hid ?_
        have HBU := Lib.hid hbuf3
        have HB3 := Lib.hid (show Below w.heap.size w w3 from (hb.alloc hsz _).trans hb3)
        clear hbuf3 hb3 hbuf hb
        go_wp2_with fail
        go_roundw
        case rel => exact ⟨8, by omega, by go_num, by rw [hstep.out]; exact HBU.out, HB3.out⟩
        case measure => simp [intOf]
end Go.Proofs.Ytdmbfajhcihfgaa
