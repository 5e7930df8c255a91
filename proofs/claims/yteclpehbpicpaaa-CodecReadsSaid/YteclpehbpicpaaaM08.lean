/-
  Contracts of basculeref05's Value, of plain values.
  Contract of basculeref05's Value.
-/
import Derived.Test.YteclpehbpicpaaaM04
import Derived.Test.YteclpehbpicpaaaM07
namespace Go.Proofs.Yteclpehbpicpaaa
open Go.RowKit

theorem size_cat (a b : ByteArray) : (a ++ b).size = a.size + b.size := by simp
def byteB (n : Nat) : ByteArray := strL [UInt8.ofNat n]
theorem byte_conv (w : World) {z : Int} {n : Nat} (hz : z = n) (hn : n < 256) (g : Nat) (hg : g = w.heap.size) : (convert 77 9 (.slice (some ⟨g, 0, none⟩) 1 1)).run Try.prog (w.alloc (.cells #[.int .u8 z] 5)) = .ok (.string (byteB n)) (w.alloc (.cells #[.int .u8 z] 5)) := by
  subst hz hg
  have h := run_convert_bytes_back (P := Try.prog) (w.alloc (.cells #[.int .u8 (n : Int)] 5)) 77 9 5 ⟨w.heap.size, 0, none⟩ 1 [UInt8.ofNat n] Try.underlying77 Try.underlying5 Try.underlying9
  refine h ?_
  intro j hj
  have hj0 : j = 0 := by simpa using hj
  subst hj0
  have e : (⟨w.heap.size, 0, none⟩ : Addr).add (0 : Nat) = ⟨w.heap.size, 0, none⟩ := rfl
  have c := World.cell?_alloc_mark w #[.int .u8 (n : Int)] 5 (0, 0) 0
  rw [e, c]
  simp
  omega
/-- The eight bytes of a word, the highest first: j of them. -/
def wordL (b : Nat) : Nat → List UInt8
  | 0 => []
  | j + 1 => wordL b j ++ [UInt8.ofNat (b / 2 ^ (56 - 8 * j) % 256)]
theorem wordL_len (b : Nat) : ∀ j, (wordL b j).length = j := by
  intro j
  induction j with
  | zero => rfl
  | succ j ih => unfold wordL; rw [List.length_append, ih]; rfl
/-- Bytes of a plain value behind its kind's. -/
def plainC (k n : Int) (f : Nat) (s : ByteArray) : ByteArray :=
  if k = 1 then byteB n.toNat else if k = 2 then strL (uintL (zig n)) else if k = 3 then strL (wordL (canonW f) 8) else strB s
set_option maxRecDepth 20000 in
set_option maxHeartbeats 2000000 in
theorem value_1 {n : Int} {f : Nat} {s : ByteArray} {A : Option Addr} {c ca : Nat} {B : Option Addr} {m cb : Nat} {w : World} (hn : n = 0 ∨ n = 1) :
    Calls Try.prog 16 #[.agg (fields 1 n f s A c ca B m cb)] w fun e w' => e = .returned (.string (byteB 1 ++ plainC 1 n f s)) ∧ Below w.heap.size w w' := by
  have hbW : Below w.heap.size w (w.alloc (.cells (fields 1 n f s A c ca B m cb) 27)) := (Below.refl _ _).alloc (Nat.le_refl _) _
  unfold fields at *
  have C1 := fun w => byte_conv w (z := 1) (n := 1) rfl (by omega)
  have C2 := fun w => byte_conv w (z := n) (n := n.toNat) (by omega) (by omega)
  have E2 : IntKind.u8.wrap n = n := by rw [IntKind.wrap_u8]; omega
  have hz : ¬ 9223372036854775807 < (byteB 1).size + (byteB n.toNat).size := by
    have : ∀ n, (byteB n).size = 1 := fun _ => rfl
    rw [this, this]; omega
  have R : Hid (plainC 1 n f s = byteB n.toNat) := Lib.hid (by unfold plainC; rfl)
  clear hn
  go_enter Try.func16, Try.ntmps16
  go_wp2_with fail
  go_ret
  exact ⟨by rw [R.out]; rfl, ((hbW.alloc (by first | (simp; done) | (simp; omega)) _).alloc (by first | (simp; done) | (simp; omega)) _)⟩
set_option maxRecDepth 20000 in
set_option maxHeartbeats 2000000 in
theorem value_2 {n : Int} {f : Nat} {s : ByteArray} {A : Option Addr} {c ca : Nat} {B : Option Addr} {m cb : Nat} {w : World} (hn : -9223372036854775808 ≤ n ∧ n ≤ 9223372036854775807) :
    Calls Try.prog 16 #[.agg (fields 2 n f s A c ca B m cb)] w fun e w' => e = .returned (.string (byteB 2 ++ plainC 2 n f s)) ∧ Below w.heap.size w w' := by
  have hbW : Below w.heap.size w ((w.alloc (.cells (fields 2 n f s A c ca B m cb) 27)).alloc (.cells #[.int .u8 2] 5)) := ((Below.refl _ _).alloc (Nat.le_refl _) _).alloc (by simp) _
  unfold fields at *
  have C1 := fun w => byte_conv w (z := 2) (n := 2) rfl (by omega)
  have I := Int_any hn
  have hz : ¬ 9223372036854775807 < (byteB 2).size + (strL (uintL (zig n))).size := by
    have h1 : ∀ n, (byteB n).size = 1 := fun _ => rfl
    have h2 : (strL (uintL (zig n))).size = (uintL (zig n)).length := rfl
    have h3 := uintL_len10 (zig_lt hn)
    rw [h1, h2]; omega
  have R : Hid (plainC 2 n f s = strL (uintL (zig n))) := Lib.hid (by unfold plainC; rfl)
  clear hn
  go_enter Try.func16, Try.ntmps16
  go_wp2_with (go_at_call 21; refine (I _).mono ?_; rintro e w1 ⟨rfl, hb1⟩)
  go_ret
  exact ⟨by rw [R.out]; rfl, hbW.trans (hb1.mono hbW.size)⟩
set_option maxRecDepth 20000 in
set_option maxHeartbeats 2000000 in
theorem value_4 {n : Int} {f : Nat} {s : ByteArray} {A : Option Addr} {c ca : Nat} {B : Option Addr} {m cb : Nat} {w : World} (hs : s.size ≤ 1000000) :
    Calls Try.prog 16 #[.agg (fields 4 n f s A c ca B m cb)] w fun e w' => e = .returned (.string (byteB 4 ++ plainC 4 n f s)) ∧ Below w.heap.size w w' := by
  have hbW : Below w.heap.size w ((w.alloc (.cells (fields 4 n f s A c ca B m cb) 27)).alloc (.cells #[.int .u8 4] 5)) := ((Below.refl _ _).alloc (Nat.le_refl _) _).alloc (by simp) _
  unfold fields at *
  have C1 := fun w => byte_conv w (z := 4) (n := 4) rfl (by omega)
  have I := Str_any (t := s) (by omega)
  have hz : ¬ 9223372036854775807 < (byteB 4).size + (strB s).size := by
    have h1 : ∀ n, (byteB n).size = 1 := fun _ => rfl
    have h2 : (strL (uintL s.size)).size = (uintL s.size).length := rfl
    have h3 := uintL_len10 (n := s.size) (by omega)
    unfold strB
    rw [h1, size_cat, h2]; omega
  have R : Hid (plainC 4 n f s = strB s) := Lib.hid (by unfold plainC; rfl)
  clear hs
  go_enter Try.func16, Try.ntmps16
  go_wp2_with (go_at_call 23; refine (I _).mono ?_; rintro e w1 ⟨rfl, hb1⟩)
  go_ret
  exact ⟨by rw [R.out]; rfl, hbW.trans (hb1.mono hbW.size)⟩
set_option maxRecDepth 20000 in
set_option maxHeartbeats 4000000 in
theorem value_3 {n : Int} {f : Nat} {s : ByteArray} {A : Option Addr} {c ca : Nat} {B : Option Addr} {m cb : Nat} {w : World} :
    Calls Try.prog 16 #[.agg (fields 3 n f s A c ca B m cb)] w fun e w' => e = .returned (.string (byteB 3 ++ plainC 3 n f s)) ∧ Below w.heap.size w w' := by
  obtain ⟨W1, hW1⟩ : ∃ W1, W1 = ((w.alloc (.cells (fields 3 n f s A c ca B m cb) 27)).alloc (.cells #[.int .u8 3] 5)) := ⟨_, rfl⟩
  have hbW : Below w.heap.size w W1 := by rw [hW1]; exact ((Below.refl _ _).alloc (Nat.le_refl _) _).alloc (by simp) _
  obtain ⟨v0, w0, hrun, hbuf, hb0⟩ := conv_buf (byteB 3) W1
  rw [hW1] at hrun
  have hbuf0 := Lib.hid hbuf
  have HB0 := Lib.hid (hbW.trans (hb0.mono hbW.size))
  have HW := Lib.hid hbW.size
  unfold fields at *
  have C1 := fun w => byte_conv w (z := 3) (n := 3) rfl (by omega)
  have CN := Canon_any f
  have BR := bits_run
  have R : Hid (plainC 3 n f s = strL (wordL (canonW f) 8)) := Lib.hid (by unfold plainC; rfl)
  generalize canonW f = q at *
  clear hW1 hbW hbuf hb0
  go_enter Try.func16, Try.ntmps16
  go_wp2_with (go_at_call 48; refine (CN _).mono ?_; rintro e w1 ⟨rfl, rfl⟩)
  clear C1 CN BR hrun
  go_loopw [5, 6] (fun v iv wr => ∃ (j : Nat), j ≤ 8 ∧ iv = .int .i64 (56 - 8 * (j : Int)) ∧ Buf wr w.heap.size v (UInt8.ofNat 3 :: wordL q j) ∧ Below w.heap.size w wr) (fun _ iv _ => (intOf iv + 8).toNat)
  case atStart => exact ⟨0, by omega, rfl, by
    obtain ⟨g, cap, e1, e2, e3⟩ := hbuf0.out
    exact ⟨g, cap, e1, by have := HW.out; omega, e3⟩, HB0.out⟩
  case round =>
    obtain ⟨j, hj, rfl, hbuf, hb⟩ := hrel
    have hsz := hb.size
    by_cases h8 : j = 8
    · subst h8
      obtain ⟨g, cap, rfl, hg, hlt, hcell, hfree⟩ := hbuf
      obtain ⟨M, hM⟩ : ∃ M, M = UInt8.ofNat 3 :: wordL q 8 := ⟨_, rfl⟩
      rw [← hM] at hcell
      have hcv := run_convert_bytes_back (P := Try.prog) wr 77 9 5 ⟨g, 0, none⟩ cap M Try.underlying77 Try.underlying5 Try.underlying9 (fun j hj => by
        rw [Addr.add_lit, Nat.zero_add]
        exact hcell j _ (by simp [Lib.byteCells, hj]))
      have hF : Hid (byteB 3 ++ strL (wordL q 8) = ⟨M.toArray⟩) := Lib.hid (by rw [hM]; exact strL_append [UInt8.ofNat 3] (wordL q 8))
      rw [← hM]
      clear hcell hfree hM
      go_wp2_with fail
      go_ret
      exact ⟨by rw [R.out, hF.out]; rfl, hb⟩
    · have hstep : Hid (UInt8.ofNat 3 :: wordL q (j + 1) = (UInt8.ofNat 3 :: wordL q j) ++ [UInt8.ofNat (q / 2 ^ (56 - 8 * j) % 256)]) := Lib.hid rfl
      have hlen := wordL_len q j
      generalize wordL q j = L at *
      obtain rfl | rfl | rfl | rfl | rfl | rfl | rfl | rfl : j = 0 ∨ j = 1 ∨ j = 2 ∨ j = 3 ∨ j = 4 ∨ j = 5 ∨ j = 6 ∨ j = 7 := by omega
      · go_wp2_with (at_builtin; refine wpList_push (base := w.heap.size) rfl (.tmp 43) (.tmp 48) rfl _ _ (UInt8.ofNat (q / 2 ^ (56 - 8 * 0) % 256)) rfl (hbuf.alloc _) (by simp; omega) (by simp [hlen]) ⟨wr.heap.size, 0, none⟩ rfl ((World.cell?_alloc_new _ _ _ _).trans (by simp)) ?_; intro v' w3 hbuf3 hb3; refine Hid.out ?_)
        refine Lib.hid ?_
        have HBU := Lib.hid hbuf3
        have HB3 := Lib.hid (show Below w.heap.size w w3 from (hb.alloc hsz _).trans hb3)
        clear hbuf3 hb3 hbuf hb
        go_wp2_with fail
        go_roundw
        case rel => exact ⟨1, by omega, by go_num, by rw [hstep.out]; exact HBU.out, HB3.out⟩
        case measure => simp [intOf]
      · go_wp2_with (at_builtin; refine wpList_push (base := w.heap.size) rfl (.tmp 43) (.tmp 48) rfl _ _ (UInt8.ofNat (q / 2 ^ (56 - 8 * 1) % 256)) rfl (hbuf.alloc _) (by simp; omega) (by simp [hlen]) ⟨wr.heap.size, 0, none⟩ rfl ((World.cell?_alloc_new _ _ _ _).trans (by simp)) ?_; intro v' w3 hbuf3 hb3; refine Hid.out ?_)
        refine Lib.hid ?_
        have HBU := Lib.hid hbuf3
        have HB3 := Lib.hid (show Below w.heap.size w w3 from (hb.alloc hsz _).trans hb3)
        clear hbuf3 hb3 hbuf hb
        go_wp2_with fail
        go_roundw
        case rel => exact ⟨2, by omega, by go_num, by rw [hstep.out]; exact HBU.out, HB3.out⟩
        case measure => simp [intOf]
      · go_wp2_with (at_builtin; refine wpList_push (base := w.heap.size) rfl (.tmp 43) (.tmp 48) rfl _ _ (UInt8.ofNat (q / 2 ^ (56 - 8 * 2) % 256)) rfl (hbuf.alloc _) (by simp; omega) (by simp [hlen]) ⟨wr.heap.size, 0, none⟩ rfl ((World.cell?_alloc_new _ _ _ _).trans (by simp)) ?_; intro v' w3 hbuf3 hb3; refine Hid.out ?_)
        refine Lib.hid ?_
        have HBU := Lib.hid hbuf3
        have HB3 := Lib.hid (show Below w.heap.size w w3 from (hb.alloc hsz _).trans hb3)
        clear hbuf3 hb3 hbuf hb
        go_wp2_with fail
        go_roundw
        case rel => exact ⟨3, by omega, by go_num, by rw [hstep.out]; exact HBU.out, HB3.out⟩
        case measure => simp [intOf]
      · go_wp2_with (at_builtin; refine wpList_push (base := w.heap.size) rfl (.tmp 43) (.tmp 48) rfl _ _ (UInt8.ofNat (q / 2 ^ (56 - 8 * 3) % 256)) rfl (hbuf.alloc _) (by simp; omega) (by simp [hlen]) ⟨wr.heap.size, 0, none⟩ rfl ((World.cell?_alloc_new _ _ _ _).trans (by simp)) ?_; intro v' w3 hbuf3 hb3; refine Hid.out ?_)
        refine Lib.hid ?_
        have HBU := Lib.hid hbuf3
        have HB3 := Lib.hid (show Below w.heap.size w w3 from (hb.alloc hsz _).trans hb3)
        clear hbuf3 hb3 hbuf hb
        go_wp2_with fail
        go_roundw
        case rel => exact ⟨4, by omega, by go_num, by rw [hstep.out]; exact HBU.out, HB3.out⟩
        case measure => simp [intOf]
      · go_wp2_with (at_builtin; refine wpList_push (base := w.heap.size) rfl (.tmp 43) (.tmp 48) rfl _ _ (UInt8.ofNat (q / 2 ^ (56 - 8 * 4) % 256)) rfl (hbuf.alloc _) (by simp; omega) (by simp [hlen]) ⟨wr.heap.size, 0, none⟩ rfl ((World.cell?_alloc_new _ _ _ _).trans (by simp)) ?_; intro v' w3 hbuf3 hb3; refine Hid.out ?_)
        refine Lib.hid ?_
        have HBU := Lib.hid hbuf3
        have HB3 := Lib.hid (show Below w.heap.size w w3 from (hb.alloc hsz _).trans hb3)
        clear hbuf3 hb3 hbuf hb
        go_wp2_with fail
        go_roundw
        case rel => exact ⟨5, by omega, by go_num, by rw [hstep.out]; exact HBU.out, HB3.out⟩
        case measure => simp [intOf]
      · go_wp2_with (at_builtin; refine wpList_push (base := w.heap.size) rfl (.tmp 43) (.tmp 48) rfl _ _ (UInt8.ofNat (q / 2 ^ (56 - 8 * 5) % 256)) rfl (hbuf.alloc _) (by simp; omega) (by simp [hlen]) ⟨wr.heap.size, 0, none⟩ rfl ((World.cell?_alloc_new _ _ _ _).trans (by simp)) ?_; intro v' w3 hbuf3 hb3; refine Hid.out ?_)
        refine Lib.hid ?_
        have HBU := Lib.hid hbuf3
        have HB3 := Lib.hid (show Below w.heap.size w w3 from (hb.alloc hsz _).trans hb3)
        clear hbuf3 hb3 hbuf hb
        go_wp2_with fail
        go_roundw
        case rel => exact ⟨6, by omega, by go_num, by rw [hstep.out]; exact HBU.out, HB3.out⟩
        case measure => simp [intOf]
      · go_wp2_with (at_builtin; refine wpList_push (base := w.heap.size) rfl (.tmp 43) (.tmp 48) rfl _ _ (UInt8.ofNat (q / 2 ^ (56 - 8 * 6) % 256)) rfl (hbuf.alloc _) (by simp; omega) (by simp [hlen]) ⟨wr.heap.size, 0, none⟩ rfl ((World.cell?_alloc_new _ _ _ _).trans (by simp)) ?_; intro v' w3 hbuf3 hb3; refine Hid.out ?_)
        refine Lib.hid ?_
        have HBU := Lib.hid hbuf3
        have HB3 := Lib.hid (show Below w.heap.size w w3 from (hb.alloc hsz _).trans hb3)
        clear hbuf3 hb3 hbuf hb
        go_wp2_with fail
        go_roundw
        case rel => exact ⟨7, by omega, by go_num, by rw [hstep.out]; exact HBU.out, HB3.out⟩
        case measure => simp [intOf]
      · go_wp2_with (at_builtin; refine wpList_push (base := w.heap.size) rfl (.tmp 43) (.tmp 48) rfl _ _ (UInt8.ofNat (q / 2 ^ (56 - 8 * 7) % 256)) rfl (hbuf.alloc _) (by simp; omega) (by simp [hlen]) ⟨wr.heap.size, 0, none⟩ rfl ((World.cell?_alloc_new _ _ _ _).trans (by simp)) ?_; intro v' w3 hbuf3 hb3; refine Hid.out ?_)
        refine Lib.hid ?_
        have HBU := Lib.hid hbuf3
        have HB3 := Lib.hid (show Below w.heap.size w w3 from (hb.alloc hsz _).trans hb3)
        clear hbuf3 hb3 hbuf hb
        go_wp2_with fail
        go_roundw
        case rel => exact ⟨8, by omega, by go_num, by rw [hstep.out]; exact HBU.out, HB3.out⟩
        case measure => simp [intOf]
end Go.Proofs.Yteclpehbpicpaaa
namespace Go.Proofs.Yteclpehbpicpaaa
open Go.RowKit

/-- Items' bytes behind S, each with its name ahead in a record. -/
def joinC (S : ByteArray) (k : Int) (ns : Nat → ByteArray) (G : Nat → ByteArray) : Nat → ByteArray
  | 0 => S
  | i + 1 => (if k = 6 then joinC S k ns G i ++ strB (ns i) else joinC S k ns G i) ++ G i
/-- The names that count. -/
def nz (k : Int) (ns : Nat → ByteArray) (i : Nat) : ByteArray := if k = 6 then ns i else ByteArray.empty
theorem nz_6 (ns : Nat → ByteArray) : nz 6 ns = ns := by funext i; unfold nz; rw [if_pos rfl]
def valB : VT → ByteArray
  | .bad => ByteArray.empty
  | .mk k n f s _ ns m xs =>
    if k = 1 ∨ k = 2 ∨ k = 3 ∨ k = 4 then byteB k.toNat ++ plainC k n f s else joinC (byteB k.toNat ++ strL (uintL m)) k (nz k ns) (fun i => valB (xs i)) m
def sumTo (g : Nat → Nat) : Nat → Nat
  | 0 => 0
  | i + 1 => sumTo g i + g i
theorem sumTo_mono (g : Nat → Nat) {i m : Nat} (h : i ≤ m) : sumTo g i ≤ sumTo g m := by
  induction m with
  | zero => obtain rfl : i = 0 := by omega
            exact Nat.le_refl _
  | succ m ih =>
    by_cases e : i = m + 1
    · subst e; exact Nat.le_refl _
    · have := ih (by omega)
      show _ ≤ sumTo g m + g m
      omega
/-- What bytes a value may take. -/
def wtC : VT → Nat
  | .bad => 0
  | .mk k _ _ s _ ns m xs => 100 + s.size + sumTo (fun i => wtC (xs i) + (nz k ns i).size + 20) m
theorem strL_size (l : List UInt8) : (strL l).size = l.length := rfl
theorem strB_size {t : ByteArray} (h : t.size ≤ 1000000000) : (strB t).size ≤ t.size + 10 := by
  unfold strB
  rw [size_cat, strL_size]
  have := uintL_len10 (n := t.size) (by omega)
  omega
theorem joinC_size (S : ByteArray) (k : Int) (ns G : Nat → ByteArray) (W : Nat → Nat) (m : Nat) (h : ∀ i, i < m → (G i).size ≤ W i) (hn : ∀ i, i < m → (ns i).size ≤ 1000000000) :
    ∀ i, i ≤ m → (joinC S k ns G i).size ≤ S.size + sumTo (fun i => W i + (ns i).size + 20) i := by
  intro i
  induction i with
  | zero => intro _; exact Nat.le_refl _
  | succ i ih =>
    intro hi
    have ih := ih (by omega)
    unfold joinC sumTo
    have h2 := h i (by omega)
    have h3 := strB_size (hn i (by omega))
    split <;> simp only [size_cat] <;> omega
set_option maxRecDepth 20000 in
set_option maxHeartbeats 4000000 in
theorem value_5 {n : Int} {f : Nat} {s : ByteArray} {A : Option Addr} {c ca : Nat} {B : Option Addr} {m cb : Nat} {w : World} {ns : Nat → ByteArray} {vs : Nat → Array Value} {xs : Nat → VT} {G : Nat → ByteArray} {W : Nat → Nat}
    (hmx : m ≤ 1000000000) (hnm : ∀ i, i < m → (ns i).size ≤ 1000000000)
    (hW : ∀ i, i < m → (G i).size ≤ W i) (hT : 100 + sumTo (fun i => W i + (ns i).size + 20) m ≤ 1000000000)
    (hB : 0 < m → ∃ g o, B = some ⟨g, o, none⟩ ∧ g < w.heap.size ∧ ∀ i, i < m → SixAt w g (o + i * 6) (vs i)) (hxs : ∀ i, i < m → Val w w.heap.size (vs i) (xs i))
    (ih : ∀ (i : Nat), i < m → ∀ (v : Array Value) (w : World), Val w w.heap.size v (xs i) → Calls Try.prog 16 #[.agg v] w fun e w' => e = .returned (.string (G i)) ∧ Below w.heap.size w w') :
    Calls Try.prog 16 #[.agg (fields 5 n f s A c ca B m cb)] w fun e w' => e = .returned (.string (joinC (byteB 5 ++ strL (uintL m)) 5 ns G m)) ∧ Below w.heap.size w w' := by
  obtain ⟨S0, hS0⟩ : ∃ S0, S0 = byteB 5 ++ strL (uintL m) := ⟨_, rfl⟩
  have hS0s : S0.size ≤ 11 := by
    rw [hS0, size_cat, strL_size]
    have h1 : ∀ n, (byteB n).size = 1 := fun _ => rfl
    have := uintL_len10 (n := m) (by omega)
    rw [h1]; omega
  have hz0 : ¬ 9223372036854775807 < (byteB 5).size + (strL (uintL m)).size := by
    rw [hS0, size_cat] at hS0s; omega
  rw [← hS0]
  have U := Uint_any (n := m) (by omega)
  have hj0 : Hid (joinC S0 5 ns G 0 = S0) := Lib.hid rfl
  have hjs : Hid (∀ i, i ≤ m → (joinC S0 5 ns G i).size ≤ S0.size + sumTo (fun i => W i + (ns i).size + 20) i) := Lib.hid (joinC_size S0 5 ns G W m hW hnm)
  have hmono : Hid (∀ i, i < m → (joinC S0 5 ns G i).size + W i + (ns i).size + 20 ≤ 1000000000) := Lib.hid fun i hi => by
    have h1 := hjs.out i (by omega)
    have h2 := sumTo_mono (fun i => W i + (ns i).size + 20) (show i + 1 ≤ m by omega)
    have h3 : sumTo (fun i => W i + (ns i).size + 20) (i + 1) = sumTo (fun i => W i + (ns i).size + 20) i + (W i + (ns i).size + 20) := rfl
    omega
  have HWt := Lib.hid hW
  have HNm := Lib.hid hnm
  have HS0 := Lib.hid hS0
  clear hW hT hjs hS0s hnm
  obtain ⟨W1, hW1⟩ : ∃ W1, W1 = ((w.alloc (.cells (fields 5 n f s A c ca B m cb) 27)).alloc (.cells #[.int .u8 5] 5)) := ⟨_, rfl⟩
  have hbW : Below w.heap.size w W1 := by rw [hW1]; exact ((Below.refl _ _).alloc (Nat.le_refl _) _).alloc (by simp) _
  have C1 := fun w => byte_conv w (z := 5) (n := 5) (by omega) (by omega)
  unfold fields at *
  have HK1 : Hid (∀ w', Below W1.heap.size W1 w' → w'.cell? ⟨w.heap.size, 0, none⟩ = some (.int .i64 5) ∧ w'.cell? ⟨w.heap.size, 4, none⟩ = some (.slice A c ca) ∧ w'.cell? ⟨w.heap.size, 5, none⟩ = some (.slice B m cb)) := Lib.hid fun w' h => by
    have K := fun o => (h.cell (p := ⟨w.heap.size, o, none⟩) (by rw [hW1]; simp; omega))
    refine ⟨?_, ?_, ?_⟩ <;> (rw [K, hW1]; simp)
  have HBW := Lib.hid hbW
  clear hbW
  go_enter Try.func16, Try.ntmps16
  go_wp2_with (go_at_call 19; rw [← hW1]; refine (U _).mono ?_; rintro e w1 ⟨rfl, hb1⟩)
  rw [← HS0.out]
  clear hW1 U C1 hz0 hS0
  go_loopw [3, 7] (fun sv iv wr => ∃ (i : Nat) (S : ByteArray), i ≤ m ∧ iv = .int .i64 i ∧ sv = .string S ∧ Hid (S = joinC S0 5 ns G i) ∧ Below W1.heap.size W1 wr) (fun _ iv _ => m - (intOf iv).toNat)
  case atStart => exact ⟨0, _, Nat.zero_le _, rfl, rfl, Lib.hid hj0.out.symm, hb1⟩
  case round =>
    obtain ⟨i, S, hi, rfl, rfl, hS, hb⟩ := hrel
    obtain ⟨q0, q4, q5⟩ := HK1.out wr hb
    have hfin : Below w.heap.size w wr := HBW.out.trans (hb.mono HBW.out.size)
    by_cases hlt : i < m
    · obtain ⟨g, o, rfl, hg, hx⟩ := hB (by omega)
      have hvr := ((hxs i hlt).stay hfin).mono hfin.size
      have hcall := fun (V : World) (hV : Below wr.heap.size wr V) => ih i hlt (vs i) V ((hvr.stay hV).mono hV.size)
      have hsix := (hx i hlt).keep (w' := wr) fun o => hfin.cell (p := ⟨g, o, none⟩) hg
      have hgr : g < wr.heap.size := by have := hfin.size; omega
      obtain ⟨a0, a1, a2, a3, a4, a5, hv0⟩ := (hxs i hlt).six
      rw [hv0] at hsix hcall
      obtain ⟨e0, e1, e2, e3, e4, e5⟩ := hsix.cells
      have hb1 := hmono.out i hlt
      have hb2 := HWt.out i hlt
      rw [← hS.out] at hb1
      have hnext := Lib.hid (show joinC S0 5 ns G (i + 1) = S ++ G i by
        rw [hS.out]; conv => lhs; unfold joinC
        rw [if_neg (by decide)])
      generalize G i = gi at *
      generalize W i = wi at *
      have HB1 := Lib.hid hb1
      have HB2 := Lib.hid hb2
      have z4 : ¬ 9223372036854775807 < (S : ByteArray).size + gi.size := by omega
      clear hv0 hsix hvr hx hB ih hxs hS hb1 hb2
      go_wp2_with (first | (go_at_call 16; refine (hcall wr (Below.refl _ _)).mono ?_; rintro e w3 ⟨rfl, hb3⟩))
      go_roundw
      case rel => exact ⟨i + 1, _, by omega, by go_num, rfl, Lib.hid hnext.out.symm, hb.trans (hb3.mono hb.size)⟩
      case measure => simp [intOf]; omega
    · have R : Hid (joinC S0 5 ns G m = S) := Lib.hid (by rw [hS.out, show i = m by omega])
      clear hS hB ih hxs
      go_wp2_with fail
      go_ret
      exact ⟨by rw [R.out]; rfl, hfin⟩
set_option maxRecDepth 20000 in
set_option maxHeartbeats 4000000 in
theorem value_6 {n : Int} {f : Nat} {s : ByteArray} {A : Option Addr} {c ca : Nat} {B : Option Addr} {m cb : Nat} {w : World} {ns : Nat → ByteArray} {vs : Nat → Array Value} {xs : Nat → VT} {G : Nat → ByteArray} {W : Nat → Nat}
    (hmx : m ≤ 1000000000) (hns : Strs w w.heap.size A c ns) (hcm : m ≤ c) (hcx : c ≤ 9223372036854775807) (hnm : ∀ i, i < m → (ns i).size ≤ 1000000000)
    (hW : ∀ i, i < m → (G i).size ≤ W i) (hT : 100 + sumTo (fun i => W i + (ns i).size + 20) m ≤ 1000000000)
    (hB : 0 < m → ∃ g o, B = some ⟨g, o, none⟩ ∧ g < w.heap.size ∧ ∀ i, i < m → SixAt w g (o + i * 6) (vs i)) (hxs : ∀ i, i < m → Val w w.heap.size (vs i) (xs i))
    (ih : ∀ (i : Nat), i < m → ∀ (v : Array Value) (w : World), Val w w.heap.size v (xs i) → Calls Try.prog 16 #[.agg v] w fun e w' => e = .returned (.string (G i)) ∧ Below w.heap.size w w') :
    Calls Try.prog 16 #[.agg (fields 6 n f s A c ca B m cb)] w fun e w' => e = .returned (.string (joinC (byteB 6 ++ strL (uintL m)) 6 ns G m)) ∧ Below w.heap.size w w' := by
  obtain ⟨S0, hS0⟩ : ∃ S0, S0 = byteB 6 ++ strL (uintL m) := ⟨_, rfl⟩
  have hS0s : S0.size ≤ 11 := by
    rw [hS0, size_cat, strL_size]
    have h1 : ∀ n, (byteB n).size = 1 := fun _ => rfl
    have := uintL_len10 (n := m) (by omega)
    rw [h1]; omega
  have hz0 : ¬ 9223372036854775807 < (byteB 6).size + (strL (uintL m)).size := by
    rw [hS0, size_cat] at hS0s; omega
  rw [← hS0]
  have U := Uint_any (n := m) (by omega)
  have hj0 : Hid (joinC S0 6 ns G 0 = S0) := Lib.hid rfl
  have hjs : Hid (∀ i, i ≤ m → (joinC S0 6 ns G i).size ≤ S0.size + sumTo (fun i => W i + (ns i).size + 20) i) := Lib.hid (joinC_size S0 6 ns G W m hW hnm)
  have hmono : Hid (∀ i, i < m → (joinC S0 6 ns G i).size + W i + (ns i).size + 20 ≤ 1000000000) := Lib.hid fun i hi => by
    have h1 := hjs.out i (by omega)
    have h2 := sumTo_mono (fun i => W i + (ns i).size + 20) (show i + 1 ≤ m by omega)
    have h3 : sumTo (fun i => W i + (ns i).size + 20) (i + 1) = sumTo (fun i => W i + (ns i).size + 20) i + (W i + (ns i).size + 20) := rfl
    omega
  have HWt := Lib.hid hW
  have HNm := Lib.hid hnm
  have HS0 := Lib.hid hS0
  clear hW hT hjs hS0s hnm
  obtain ⟨W1, hW1⟩ : ∃ W1, W1 = ((w.alloc (.cells (fields 6 n f s A c ca B m cb) 27)).alloc (.cells #[.int .u8 6] 5)) := ⟨_, rfl⟩
  have hbW : Below w.heap.size w W1 := by rw [hW1]; exact ((Below.refl _ _).alloc (Nat.le_refl _) _).alloc (by simp) _
  have C1 := fun w => byte_conv w (z := 6) (n := 6) (by omega) (by omega)
  unfold fields at *
  have HK1 : Hid (∀ w', Below W1.heap.size W1 w' → w'.cell? ⟨w.heap.size, 0, none⟩ = some (.int .i64 6) ∧ w'.cell? ⟨w.heap.size, 4, none⟩ = some (.slice A c ca) ∧ w'.cell? ⟨w.heap.size, 5, none⟩ = some (.slice B m cb)) := Lib.hid fun w' h => by
    have K := fun o => (h.cell (p := ⟨w.heap.size, o, none⟩) (by rw [hW1]; simp; omega))
    refine ⟨?_, ?_, ?_⟩ <;> (rw [K, hW1]; simp)
  have HBW := Lib.hid hbW
  clear hbW
  go_enter Try.func16, Try.ntmps16
  go_wp2_with (go_at_call 19; rw [← hW1]; refine (U _).mono ?_; rintro e w1 ⟨rfl, hb1⟩)
  rw [← HS0.out]
  clear hW1 U C1 hz0 hS0
  go_loopw [3, 7] (fun sv iv wr => ∃ (i : Nat) (S : ByteArray), i ≤ m ∧ iv = .int .i64 i ∧ sv = .string S ∧ Hid (S = joinC S0 6 ns G i) ∧ Below W1.heap.size W1 wr) (fun _ iv _ => m - (intOf iv).toNat)
  case atStart => exact ⟨0, _, Nat.zero_le _, rfl, rfl, Lib.hid hj0.out.symm, hb1⟩
  case round =>
    obtain ⟨i, S, hi, rfl, rfl, hS, hb⟩ := hrel
    obtain ⟨q0, q4, q5⟩ := HK1.out wr hb
    have hfin : Below w.heap.size w wr := HBW.out.trans (hb.mono HBW.out.size)
    by_cases hlt : i < m
    · obtain ⟨g, o, rfl, hg, hx⟩ := hB (by omega)
      have hvr := ((hxs i hlt).stay hfin).mono hfin.size
      have hcall := fun (V : World) (hV : Below wr.heap.size wr V) => ih i hlt (vs i) V ((hvr.stay hV).mono hV.size)
      have hsix := (hx i hlt).keep (w' := wr) fun o => hfin.cell (p := ⟨g, o, none⟩) hg
      have hgr : g < wr.heap.size := by have := hfin.size; omega
      obtain ⟨a0, a1, a2, a3, a4, a5, hv0⟩ := (hxs i hlt).six
      rw [hv0] at hsix hcall
      obtain ⟨e0, e1, e2, e3, e4, e5⟩ := hsix.cells
      have hb1 := hmono.out i hlt
      have hb2 := HWt.out i hlt
      rw [← hS.out] at hb1
      have hnext := Lib.hid (show joinC S0 6 ns G (i + 1) = (S ++ strB (ns i)) ++ G i by
        rw [hS.out]; conv => lhs; unfold joinC
        rw [if_pos rfl])
      obtain ⟨gn, on, rfl, hgn, hxn⟩ := hns (by omega)
      have hnm : wr.cell? ⟨gn, on + i, none⟩ = some (.string (ns i)) := (hfin.cell (p := ⟨gn, on + i, none⟩) hgn).trans (hxn i (by omega)).1
      have hsb := strB_size (HNm.out i hlt)
      have hstr := Str_any (HNm.out i hlt)
      generalize ns i = nm at *
      generalize strB nm = sb at *
      generalize G i = gi at *
      generalize W i = wi at *
      have HB1 := Lib.hid hb1
      have HB2 := Lib.hid hb2
      have z3 : ¬ 9223372036854775807 < S.size + sb.size := by omega
      have z4 : ¬ 9223372036854775807 < (S ++ sb : ByteArray).size + gi.size := by simp only [size_cat]; omega
      have HSB := Lib.hid hsb
      have stay : ∀ w2, Below wr.heap.size wr w2 → w2.cell? ⟨w.heap.size, 5, none⟩ = some (.slice (some ⟨g, o, none⟩) m cb) ∧ w2.cell? ⟨g, o + i * 6, none⟩ = some a0 ∧ w2.cell? ⟨g, o + i * 6 + 1, none⟩ = some a1 ∧ w2.cell? ⟨g, o + i * 6 + 2, none⟩ = some a2 ∧ w2.cell? ⟨g, o + i * 6 + 3, none⟩ = some a3 ∧ w2.cell? ⟨g, o + i * 6 + 4, none⟩ = some a4 ∧ w2.cell? ⟨g, o + i * 6 + 5, none⟩ = some a5 := fun w2 h2 => by
        have K := fun o => h2.cell (p := ⟨g, o, none⟩) hgr
        exact ⟨(HK1.out w2 (hb.trans (h2.mono hb.size))).2.2, (K _).trans e0, (K _).trans e1, (K _).trans e2, (K _).trans e3, (K _).trans e4, (K _).trans e5⟩
      have HST := Lib.hid stay
      clear hv0 hsix hvr hx hB ih hxs hS hb1 hb2 hns hgn hxn hsb stay
      go_wp2_with (first | (go_at_call 23; refine (hstr _).mono ?_; rintro e w2 ⟨rfl, hb2⟩; obtain ⟨p5, f0, f1, f2, f3, f4, f5⟩ := HST.out w2 hb2) | (go_at_call 16; refine (hcall w2 hb2).mono ?_; rintro e w3 ⟨rfl, hb3⟩))
      go_roundw
      case rel => exact ⟨i + 1, _, by omega, by go_num, rfl, Lib.hid hnext.out.symm, hb.trans ((hb2.trans (hb3.mono hb2.size)).mono hb.size)⟩
      case measure => simp [intOf]; omega
    · have R : Hid (joinC S0 6 ns G m = S) := Lib.hid (by rw [hS.out, show i = m by omega])
      clear hS hB ih hxs hns
      go_wp2_with fail
      go_ret
      exact ⟨by rw [R.out]; rfl, hfin⟩
end Go.Proofs.Yteclpehbpicpaaa
