/-
  Contracts of basculeref05's Value, of plain values.
  Contract of basculeref05's Value.
  How many parts a value has, and the program's own count.
-/
import Derived.Test.YtekojglcbalhnaaGreatDoorM02
import Derived.Test.YtekojglcbalhnaaGreatDoorM04
namespace Go.Proofs.YtekojglcbalhnaaGreatDoor
open Go.RowKit

theorem size_cat (a b : ByteArray) : (a ++ b).size = a.size + b.size := by simp
def byteB (n : Nat) : ByteArray := strL [UInt8.ofNat n]
theorem byte_conv (w : World) {z : Int} {n : Nat} (hz : z = n) (hn : n < 256) (g : Nat) (hg : g = w.heap.size) : (convert 103 9 (.slice (some ⟨g, 0, none⟩) 1 1)).run Tryz.prog (w.alloc (.cells #[.int .u8 z] 5)) = .ok (.string (byteB n)) (w.alloc (.cells #[.int .u8 z] 5)) := by
  subst hz hg
  have h := run_convert_bytes_back (P := Tryz.prog) (w.alloc (.cells #[.int .u8 (n : Int)] 5)) 103 9 5 ⟨w.heap.size, 0, none⟩ 1 [UInt8.ofNat n] Tryz.underlying103 Tryz.underlying5 Tryz.underlying9
  refine h ?_
  intro j hj
  have hj0 : j = 0 := by simpa using hj
  subst hj0
  have e : (⟨w.heap.size, 0, none⟩ : Addr).add (0 : Nat) = ⟨w.heap.size, 0, none⟩ := rfl
  have c := World.cell?_alloc_mark w #[.int .u8 (n : Int)] 5 (0, 0) 0
  rw [e, c]
  simp
  omega
/-- The eight bytes of a word, the highest first: j of them. -/
def wordL (b : Nat) : Nat → List UInt8
  | 0 => []
  | j + 1 => wordL b j ++ [UInt8.ofNat (b / 2 ^ (56 - 8 * j) % 256)]
theorem wordL_len (b : Nat) : ∀ j, (wordL b j).length = j := by
  intro j
  induction j with
  | zero => rfl
  | succ j ih => unfold wordL; rw [List.length_append, ih]; rfl
/-- Bytes of a plain value behind its kind's. -/
def plainC (k n : Int) (f : Nat) (s : ByteArray) : ByteArray :=
  if k = 1 then byteB n.toNat else if k = 2 then strL (uintL (zig n)) else if k = 3 then strL (wordL (canonW f) 8) else strB s
set_option maxRecDepth 20000 in
set_option maxHeartbeats 2000000 in
theorem value_1 {n : Int} {f : Nat} {s : ByteArray} {A : Option Addr} {c ca : Nat} {B : Option Addr} {m cb : Nat} {w : World} (hn : n = 0 ∨ n = 1) :
    Calls Tryz.prog 75 #[.agg (fields 1 n f s A c ca B m cb)] w fun e w' => e = .returned (.string (byteB 1 ++ plainC 1 n f s)) ∧ Below w.heap.size w w' := by
  have hbW : Below w.heap.size w (w.alloc (.cells (fields 1 n f s A c ca B m cb) 28)) := (Below.refl _ _).alloc (Nat.le_refl _) _
  unfold fields at *
  have C1 := fun w => byte_conv w (z := 1) (n := 1) rfl (by omega)
  have C2 := fun w => byte_conv w (z := n) (n := n.toNat) (by omega) (by omega)
  have E2 : IntKind.u8.wrap n = n := by rw [IntKind.wrap_u8]; omega
  have hz : ¬ 9223372036854775807 < (byteB 1).size + (byteB n.toNat).size := by
    have : ∀ n, (byteB n).size = 1 := fun _ => rfl
    rw [this, this]; omega
  have R : Hid (plainC 1 n f s = byteB n.toNat) := Lib.hid (by unfold plainC; rfl)
  clear hn
  go_enter Tryz.func75, Tryz.ntmps75
  go_wp2_with fail
  go_ret
  exact ⟨by rw [R.out]; rfl, ((hbW.alloc (by first | (simp; done) | (simp; omega)) _).alloc (by first | (simp; done) | (simp; omega)) _)⟩
set_option maxRecDepth 20000 in
set_option maxHeartbeats 2000000 in
theorem value_2 {n : Int} {f : Nat} {s : ByteArray} {A : Option Addr} {c ca : Nat} {B : Option Addr} {m cb : Nat} {w : World} (hn : -9223372036854775808 ≤ n ∧ n ≤ 9223372036854775807) :
    Calls Tryz.prog 75 #[.agg (fields 2 n f s A c ca B m cb)] w fun e w' => e = .returned (.string (byteB 2 ++ plainC 2 n f s)) ∧ Below w.heap.size w w' := by
  have hbW : Below w.heap.size w ((w.alloc (.cells (fields 2 n f s A c ca B m cb) 28)).alloc (.cells #[.int .u8 2] 5)) := ((Below.refl _ _).alloc (Nat.le_refl _) _).alloc (by simp) _
  unfold fields at *
  have C1 := fun w => byte_conv w (z := 2) (n := 2) rfl (by omega)
  have I := Int_any hn
  have hz : ¬ 9223372036854775807 < (byteB 2).size + (strL (uintL (zig n))).size := by
    have h1 : ∀ n, (byteB n).size = 1 := fun _ => rfl
    have h2 : (strL (uintL (zig n))).size = (uintL (zig n)).length := rfl
    have h3 := uintL_len10 (zig_lt hn)
    rw [h1, h2]; omega
  have R : Hid (plainC 2 n f s = strL (uintL (zig n))) := Lib.hid (by unfold plainC; rfl)
  clear hn
  go_enter Tryz.func75, Tryz.ntmps75
  go_wp2_with (go_at_call 108; refine (I _).mono ?_; rintro e w1 ⟨rfl, hb1⟩)
  go_ret
  exact ⟨by rw [R.out]; rfl, hbW.trans (hb1.mono hbW.size)⟩
set_option maxRecDepth 20000 in
set_option maxHeartbeats 2000000 in
theorem value_4 {n : Int} {f : Nat} {s : ByteArray} {A : Option Addr} {c ca : Nat} {B : Option Addr} {m cb : Nat} {w : World} (hs : s.size ≤ 1000000) :
    Calls Tryz.prog 75 #[.agg (fields 4 n f s A c ca B m cb)] w fun e w' => e = .returned (.string (byteB 4 ++ plainC 4 n f s)) ∧ Below w.heap.size w w' := by
  have hbW : Below w.heap.size w ((w.alloc (.cells (fields 4 n f s A c ca B m cb) 28)).alloc (.cells #[.int .u8 4] 5)) := ((Below.refl _ _).alloc (Nat.le_refl _) _).alloc (by simp) _
  unfold fields at *
  have C1 := fun w => byte_conv w (z := 4) (n := 4) rfl (by omega)
  have I := Str_any (t := s) (by omega)
  have hz : ¬ 9223372036854775807 < (byteB 4).size + (strB s).size := by
    have h1 : ∀ n, (byteB n).size = 1 := fun _ => rfl
    have h2 : (strL (uintL s.size)).size = (uintL s.size).length := rfl
    have h3 := uintL_len10 (n := s.size) (by omega)
    unfold strB
    rw [h1, size_cat, h2]; omega
  have R : Hid (plainC 4 n f s = strB s) := Lib.hid (by unfold plainC; rfl)
  clear hs
  go_enter Tryz.func75, Tryz.ntmps75
  go_wp2_with (go_at_call 110; refine (I _).mono ?_; rintro e w1 ⟨rfl, hb1⟩)
  go_ret
  exact ⟨by rw [R.out]; rfl, hbW.trans (hb1.mono hbW.size)⟩
set_option maxRecDepth 20000 in
set_option maxHeartbeats 4000000 in
theorem value_3 {n : Int} {f : Nat} {s : ByteArray} {A : Option Addr} {c ca : Nat} {B : Option Addr} {m cb : Nat} {w : World} :
    Calls Tryz.prog 75 #[.agg (fields 3 n f s A c ca B m cb)] w fun e w' => e = .returned (.string (byteB 3 ++ plainC 3 n f s)) ∧ Below w.heap.size w w' := by
  obtain ⟨W1, hW1⟩ : ∃ W1, W1 = ((w.alloc (.cells (fields 3 n f s A c ca B m cb) 28)).alloc (.cells #[.int .u8 3] 5)) := ⟨_, rfl⟩
  have hbW : Below w.heap.size w W1 := by rw [hW1]; exact ((Below.refl _ _).alloc (Nat.le_refl _) _).alloc (by simp) _
  obtain ⟨v0, w0, hrun, hbuf, hb0⟩ := conv_buf (byteB 3) W1
  rw [hW1] at hrun
  have hbuf0 := Lib.hid hbuf
  have HB0 := Lib.hid (hbW.trans (hb0.mono hbW.size))
  have HW := Lib.hid hbW.size
  unfold fields at *
  have C1 := fun w => byte_conv w (z := 3) (n := 3) rfl (by omega)
  have CN := Canon_any f
  have BR := bits_run
  have R : Hid (plainC 3 n f s = strL (wordL (canonW f) 8)) := Lib.hid (by unfold plainC; rfl)
  generalize canonW f = q at *
  clear hW1 hbW hbuf hb0
  go_enter Tryz.func75, Tryz.ntmps75
  go_wp2_with (go_at_call 109; refine (CN _).mono ?_; rintro e w1 ⟨rfl, rfl⟩)
  clear C1 CN BR hrun
  go_loopw [5, 6] (fun v iv wr => ∃ (j : Nat), j ≤ 8 ∧ iv = .int .i64 (56 - 8 * (j : Int)) ∧ Buf wr w.heap.size v (UInt8.ofNat 3 :: wordL q j) ∧ Below w.heap.size w wr) (fun _ iv _ => (intOf iv + 8).toNat)
  case atStart => exact ⟨0, by omega, rfl, by
    obtain ⟨g, cap, e1, e2, e3⟩ := hbuf0.out
    exact ⟨g, cap, e1, by have := HW.out; omega, e3⟩, HB0.out⟩
  case round =>
    obtain ⟨j, hj, rfl, hbuf, hb⟩ := hrel
    have hsz := hb.size
    by_cases h8 : j = 8
    · subst h8
      obtain ⟨g, cap, rfl, hg, hlt, hcell, hfree⟩ := hbuf
      obtain ⟨M, hM⟩ : ∃ M, M = UInt8.ofNat 3 :: wordL q 8 := ⟨_, rfl⟩
      rw [← hM] at hcell
      have hcv := run_convert_bytes_back (P := Tryz.prog) wr 103 9 5 ⟨g, 0, none⟩ cap M Tryz.underlying103 Tryz.underlying5 Tryz.underlying9 (fun j hj => by
        rw [Addr.add_lit, Nat.zero_add]
        exact hcell j _ (by simp [Lib.byteCells, hj]))
      have hF : Hid (byteB 3 ++ strL (wordL q 8) = ⟨M.toArray⟩) := Lib.hid (by rw [hM]; exact strL_append [UInt8.ofNat 3] (wordL q 8))
      rw [← hM]
      clear hcell hfree hM
      go_wp2_with fail
      go_ret
      exact ⟨by rw [R.out, hF.out]; rfl, hb⟩
    · have hstep : Hid (UInt8.ofNat 3 :: wordL q (j + 1) = (UInt8.ofNat 3 :: wordL q j) ++ [UInt8.ofNat (q / 2 ^ (56 - 8 * j) % 256)]) := Lib.hid rfl
      have hlen := wordL_len q j
      generalize wordL q j = L at *
      obtain rfl | rfl | rfl | rfl | rfl | rfl | rfl | rfl : j = 0 ∨ j = 1 ∨ j = 2 ∨ j = 3 ∨ j = 4 ∨ j = 5 ∨ j = 6 ∨ j = 7 := by omega
      · go_wp2_with (at_builtin; refine wpList_push (base := w.heap.size) rfl (.tmp 43) (.tmp 48) rfl _ _ (UInt8.ofNat (q / 2 ^ (56 - 8 * 0) % 256)) rfl (hbuf.alloc _) (by simp; omega) (by simp [hlen]) ⟨wr.heap.size, 0, none⟩ rfl ((World.cell?_alloc_new _ _ _ _).trans (by simp)) ?_; intro v' w3 hbuf3 hb3; refine Hid.out ?_)
        refine Lib.hid ?_
        have HBU := Lib.hid hbuf3
        have HB3 := Lib.hid (show Below w.heap.size w w3 from (hb.alloc hsz _).trans hb3)
        clear hbuf3 hb3 hbuf hb
        go_wp2_with fail
        go_roundw
        case rel => exact ⟨1, by omega, by go_num, by rw [hstep.out]; exact HBU.out, HB3.out⟩
        case measure => simp [intOf]
      · go_wp2_with (at_builtin; refine wpList_push (base := w.heap.size) rfl (.tmp 43) (.tmp 48) rfl _ _ (UInt8.ofNat (q / 2 ^ (56 - 8 * 1) % 256)) rfl (hbuf.alloc _) (by simp; omega) (by simp [hlen]) ⟨wr.heap.size, 0, none⟩ rfl ((World.cell?_alloc_new _ _ _ _).trans (by simp)) ?_; intro v' w3 hbuf3 hb3; refine Hid.out ?_)
        refine Lib.hid ?_
        have HBU := Lib.hid hbuf3
        have HB3 := Lib.hid (show Below w.heap.size w w3 from (hb.alloc hsz _).trans hb3)
        clear hbuf3 hb3 hbuf hb
        go_wp2_with fail
        go_roundw
        case rel => exact ⟨2, by omega, by go_num, by rw [hstep.out]; exact HBU.out, HB3.out⟩
        case measure => simp [intOf]
      · go_wp2_with (at_builtin; refine wpList_push (base := w.heap.size) rfl (.tmp 43) (.tmp 48) rfl _ _ (UInt8.ofNat (q / 2 ^ (56 - 8 * 2) % 256)) rfl (hbuf.alloc _) (by simp; omega) (by simp [hlen]) ⟨wr.heap.size, 0, none⟩ rfl ((World.cell?_alloc_new _ _ _ _).trans (by simp)) ?_; intro v' w3 hbuf3 hb3; refine Hid.out ?_)
        refine Lib.hid ?_
        have HBU := Lib.hid hbuf3
        have HB3 := Lib.hid (show Below w.heap.size w w3 from (hb.alloc hsz _).trans hb3)
        clear hbuf3 hb3 hbuf hb
        go_wp2_with fail
        go_roundw
        case rel => exact ⟨3, by omega, by go_num, by rw [hstep.out]; exact HBU.out, HB3.out⟩
        case measure => simp [intOf]
      · go_wp2_with (at_builtin; refine wpList_push (base := w.heap.size) rfl (.tmp 43) (.tmp 48) rfl _ _ (UInt8.ofNat (q / 2 ^ (56 - 8 * 3) % 256)) rfl (hbuf.alloc _) (by simp; omega) (by simp [hlen]) ⟨wr.heap.size, 0, none⟩ rfl ((World.cell?_alloc_new _ _ _ _).trans (by simp)) ?_; intro v' w3 hbuf3 hb3; refine Hid.out ?_)
        refine Lib.hid ?_
        have HBU := Lib.hid hbuf3
        have HB3 := Lib.hid (show Below w.heap.size w w3 from (hb.alloc hsz _).trans hb3)
        clear hbuf3 hb3 hbuf hb
        go_wp2_with fail
        go_roundw
        case rel => exact ⟨4, by omega, by go_num, by rw [hstep.out]; exact HBU.out, HB3.out⟩
        case measure => simp [intOf]
      · go_wp2_with (at_builtin; refine wpList_push (base := w.heap.size) rfl (.tmp 43) (.tmp 48) rfl _ _ (UInt8.ofNat (q / 2 ^ (56 - 8 * 4) % 256)) rfl (hbuf.alloc _) (by simp; omega) (by simp [hlen]) ⟨wr.heap.size, 0, none⟩ rfl ((World.cell?_alloc_new _ _ _ _).trans (by simp)) ?_; intro v' w3 hbuf3 hb3; refine Hid.out ?_)
        refine Lib.hid ?_
        have HBU := Lib.hid hbuf3
        have HB3 := Lib.hid (show Below w.heap.size w w3 from (hb.alloc hsz _).trans hb3)
        clear hbuf3 hb3 hbuf hb
        go_wp2_with fail
        go_roundw
        case rel => exact ⟨5, by omega, by go_num, by rw [hstep.out]; exact HBU.out, HB3.out⟩
        case measure => simp [intOf]
      · go_wp2_with (at_builtin; refine wpList_push (base := w.heap.size) rfl (.tmp 43) (.tmp 48) rfl _ _ (UInt8.ofNat (q / 2 ^ (56 - 8 * 5) % 256)) rfl (hbuf.alloc _) (by simp; omega) (by simp [hlen]) ⟨wr.heap.size, 0, none⟩ rfl ((World.cell?_alloc_new _ _ _ _).trans (by simp)) ?_; intro v' w3 hbuf3 hb3; refine Hid.out ?_)
        refine Lib.hid ?_
        have HBU := Lib.hid hbuf3
        have HB3 := Lib.hid (show Below w.heap.size w w3 from (hb.alloc hsz _).trans hb3)
        clear hbuf3 hb3 hbuf hb
        go_wp2_with fail
        go_roundw
        case rel => exact ⟨6, by omega, by go_num, by rw [hstep.out]; exact HBU.out, HB3.out⟩
        case measure => simp [intOf]
      · go_wp2_with (at_builtin; refine wpList_push (base := w.heap.size) rfl (.tmp 43) (.tmp 48) rfl _ _ (UInt8.ofNat (q / 2 ^ (56 - 8 * 6) % 256)) rfl (hbuf.alloc _) (by simp; omega) (by simp [hlen]) ⟨wr.heap.size, 0, none⟩ rfl ((World.cell?_alloc_new _ _ _ _).trans (by simp)) ?_; intro v' w3 hbuf3 hb3; refine Hid.out ?_)
        refine Lib.hid ?_
        have HBU := Lib.hid hbuf3
        have HB3 := Lib.hid (show Below w.heap.size w w3 from (hb.alloc hsz _).trans hb3)
        clear hbuf3 hb3 hbuf hb
        go_wp2_with fail
        go_roundw
        case rel => exact ⟨7, by omega, by go_num, by rw [hstep.out]; exact HBU.out, HB3.out⟩
        case measure => simp [intOf]
      · go_wp2_with (at_builtin; refine wpList_push (base := w.heap.size) rfl (.tmp 43) (.tmp 48) rfl _ _ (UInt8.ofNat (q / 2 ^ (56 - 8 * 7) % 256)) rfl (hbuf.alloc _) (by simp; omega) (by simp [hlen]) ⟨wr.heap.size, 0, none⟩ rfl ((World.cell?_alloc_new _ _ _ _).trans (by simp)) ?_; intro v' w3 hbuf3 hb3; refine Hid.out ?_)
        refine Lib.hid ?_
        have HBU := Lib.hid hbuf3
        have HB3 := Lib.hid (show Below w.heap.size w w3 from (hb.alloc hsz _).trans hb3)
        clear hbuf3 hb3 hbuf hb
        go_wp2_with fail
        go_roundw
        case rel => exact ⟨8, by omega, by go_num, by rw [hstep.out]; exact HBU.out, HB3.out⟩
        case measure => simp [intOf]
end Go.Proofs.YtekojglcbalhnaaGreatDoor
namespace Go.Proofs.YtekojglcbalhnaaGreatDoor
open Go.RowKit

/-- Items' bytes behind S, each with its name ahead in a record. -/
def joinC (S : ByteArray) (k : Int) (ns : Nat → ByteArray) (G : Nat → ByteArray) : Nat → ByteArray
  | 0 => S
  | i + 1 => (if k = 6 then joinC S k ns G i ++ strB (ns i) else joinC S k ns G i) ++ G i
/-- The names that count. -/
def nz (k : Int) (ns : Nat → ByteArray) (i : Nat) : ByteArray := if k = 6 then ns i else ByteArray.empty
theorem nz_6 (ns : Nat → ByteArray) : nz 6 ns = ns := by funext i; unfold nz; rw [if_pos rfl]
def valB : VT → ByteArray
  | .bad => ByteArray.empty
  | .mk k n f s _ ns m xs =>
    if k = 1 ∨ k = 2 ∨ k = 3 ∨ k = 4 then byteB k.toNat ++ plainC k n f s else joinC (byteB k.toNat ++ strL (uintL m)) k (nz k ns) (fun i => valB (xs i)) m
def sumTo (g : Nat → Nat) : Nat → Nat
  | 0 => 0
  | i + 1 => sumTo g i + g i
theorem sumTo_mono (g : Nat → Nat) {i m : Nat} (h : i ≤ m) : sumTo g i ≤ sumTo g m := by
  induction m with
  | zero => obtain rfl : i = 0 := by omega
            exact Nat.le_refl _
  | succ m ih =>
    by_cases e : i = m + 1
    · subst e; exact Nat.le_refl _
    · have := ih (by omega)
      show _ ≤ sumTo g m + g m
      omega
/-- What bytes a value may take. -/
def wtC : VT → Nat
  | .bad => 0
  | .mk k _ _ s _ ns m xs => 100 + s.size + sumTo (fun i => wtC (xs i) + (nz k ns i).size + 20) m
theorem strL_size (l : List UInt8) : (strL l).size = l.length := rfl
theorem strB_size {t : ByteArray} (h : t.size ≤ 1000000000) : (strB t).size ≤ t.size + 10 := by
  unfold strB
  rw [size_cat, strL_size]
  have := uintL_len10 (n := t.size) (by omega)
  omega
theorem joinC_size (S : ByteArray) (k : Int) (ns G : Nat → ByteArray) (W : Nat → Nat) (m : Nat) (h : ∀ i, i < m → (G i).size ≤ W i) (hn : ∀ i, i < m → (ns i).size ≤ 1000000000) :
    ∀ i, i ≤ m → (joinC S k ns G i).size ≤ S.size + sumTo (fun i => W i + (ns i).size + 20) i := by
  intro i
  induction i with
  | zero => intro _; exact Nat.le_refl _
  | succ i ih =>
    intro hi
    have ih := ih (by omega)
    unfold joinC sumTo
    have h2 := h i (by omega)
    have h3 := strB_size (hn i (by omega))
    split <;> simp only [size_cat] <;> omega
set_option maxRecDepth 20000 in
set_option maxHeartbeats 4000000 in
theorem value_5 {n : Int} {f : Nat} {s : ByteArray} {A : Option Addr} {c ca : Nat} {B : Option Addr} {m cb : Nat} {w : World} {ns : Nat → ByteArray} {vs : Nat → Array Value} {xs : Nat → VT} {G : Nat → ByteArray} {W : Nat → Nat}
    (hmx : m ≤ 1000000000) (hnm : ∀ i, i < m → (ns i).size ≤ 1000000000)
    (hW : ∀ i, i < m → (G i).size ≤ W i) (hT : 100 + sumTo (fun i => W i + (ns i).size + 20) m ≤ 1000000000)
    (hB : 0 < m → ∃ g o, B = some ⟨g, o, none⟩ ∧ g < w.heap.size ∧ ∀ i, i < m → SixAt w g (o + i * 6) (vs i)) (hxs : ∀ i, i < m → Val w w.heap.size (vs i) (xs i))
    (ih : ∀ (i : Nat), i < m → ∀ (v : Array Value) (w : World), Val w w.heap.size v (xs i) → Calls Tryz.prog 75 #[.agg v] w fun e w' => e = .returned (.string (G i)) ∧ Below w.heap.size w w') :
    Calls Tryz.prog 75 #[.agg (fields 5 n f s A c ca B m cb)] w fun e w' => e = .returned (.string (joinC (byteB 5 ++ strL (uintL m)) 5 ns G m)) ∧ Below w.heap.size w w' := by
  obtain ⟨S0, hS0⟩ : ∃ S0, S0 = byteB 5 ++ strL (uintL m) := ⟨_, rfl⟩
  have hS0s : S0.size ≤ 11 := by
    rw [hS0, size_cat, strL_size]
    have h1 : ∀ n, (byteB n).size = 1 := fun _ => rfl
    have := uintL_len10 (n := m) (by omega)
    rw [h1]; omega
  have hz0 : ¬ 9223372036854775807 < (byteB 5).size + (strL (uintL m)).size := by
    rw [hS0, size_cat] at hS0s; omega
  rw [← hS0]
  have U := Uint_any (n := m) (by omega)
  have hj0 : Hid (joinC S0 5 ns G 0 = S0) := Lib.hid rfl
  have hjs : Hid (∀ i, i ≤ m → (joinC S0 5 ns G i).size ≤ S0.size + sumTo (fun i => W i + (ns i).size + 20) i) := Lib.hid (joinC_size S0 5 ns G W m hW hnm)
  have hmono : Hid (∀ i, i < m → (joinC S0 5 ns G i).size + W i + (ns i).size + 20 ≤ 1000000000) := Lib.hid fun i hi => by
    have h1 := hjs.out i (by omega)
    have h2 := sumTo_mono (fun i => W i + (ns i).size + 20) (show i + 1 ≤ m by omega)
    have h3 : sumTo (fun i => W i + (ns i).size + 20) (i + 1) = sumTo (fun i => W i + (ns i).size + 20) i + (W i + (ns i).size + 20) := rfl
    omega
  have HWt := Lib.hid hW
  have HNm := Lib.hid hnm
  have HS0 := Lib.hid hS0
  clear hW hT hjs hS0s hnm
  obtain ⟨W1, hW1⟩ : ∃ W1, W1 = ((w.alloc (.cells (fields 5 n f s A c ca B m cb) 28)).alloc (.cells #[.int .u8 5] 5)) := ⟨_, rfl⟩
  have hbW : Below w.heap.size w W1 := by rw [hW1]; exact ((Below.refl _ _).alloc (Nat.le_refl _) _).alloc (by simp) _
  have C1 := fun w => byte_conv w (z := 5) (n := 5) (by omega) (by omega)
  unfold fields at *
  have HK1 : Hid (∀ w', Below W1.heap.size W1 w' → w'.cell? ⟨w.heap.size, 0, none⟩ = some (.int .i64 5) ∧ w'.cell? ⟨w.heap.size, 4, none⟩ = some (.slice A c ca) ∧ w'.cell? ⟨w.heap.size, 5, none⟩ = some (.slice B m cb)) := Lib.hid fun w' h => by
    have K := fun o => (h.cell (p := ⟨w.heap.size, o, none⟩) (by rw [hW1]; simp; omega))
    refine ⟨?_, ?_, ?_⟩ <;> (rw [K, hW1]; simp)
  have HBW := Lib.hid hbW
  clear hbW
  go_enter Tryz.func75, Tryz.ntmps75
  go_wp2_with (go_at_call 39; rw [← hW1]; refine (U _).mono ?_; rintro e w1 ⟨rfl, hb1⟩)
  rw [← HS0.out]
  clear hW1 U C1 hz0 hS0
  go_loopw [3, 7] (fun sv iv wr => ∃ (i : Nat) (S : ByteArray), i ≤ m ∧ iv = .int .i64 i ∧ sv = .string S ∧ Hid (S = joinC S0 5 ns G i) ∧ Below W1.heap.size W1 wr) (fun _ iv _ => m - (intOf iv).toNat)
  case atStart => exact ⟨0, _, Nat.zero_le _, rfl, rfl, Lib.hid hj0.out.symm, hb1⟩
  case round =>
    obtain ⟨i, S, hi, rfl, rfl, hS, hb⟩ := hrel
    obtain ⟨q0, q4, q5⟩ := HK1.out wr hb
    have hfin : Below w.heap.size w wr := HBW.out.trans (hb.mono HBW.out.size)
    by_cases hlt : i < m
    · obtain ⟨g, o, rfl, hg, hx⟩ := hB (by omega)
      have hvr := ((hxs i hlt).stay hfin).mono hfin.size
      have hcall := fun (V : World) (hV : Below wr.heap.size wr V) => ih i hlt (vs i) V ((hvr.stay hV).mono hV.size)
      have hsix := (hx i hlt).keep (w' := wr) fun o => hfin.cell (p := ⟨g, o, none⟩) hg
      have hgr : g < wr.heap.size := by have := hfin.size; omega
      obtain ⟨a0, a1, a2, a3, a4, a5, hv0⟩ := (hxs i hlt).six
      rw [hv0] at hsix hcall
      obtain ⟨e0, e1, e2, e3, e4, e5⟩ := hsix.cells
      have hb1 := hmono.out i hlt
      have hb2 := HWt.out i hlt
      rw [← hS.out] at hb1
      have hnext := Lib.hid (show joinC S0 5 ns G (i + 1) = S ++ G i by
        rw [hS.out]; conv => lhs; unfold joinC
        rw [if_neg (by decide)])
      generalize G i = gi at *
      generalize W i = wi at *
      have HB1 := Lib.hid hb1
      have HB2 := Lib.hid hb2
      have z4 : ¬ 9223372036854775807 < (S : ByteArray).size + gi.size := by omega
      clear hv0 hsix hvr hx hB ih hxs hS hb1 hb2
      go_wp2_with (first | (go_at_call 75; refine (hcall wr (Below.refl _ _)).mono ?_; rintro e w3 ⟨rfl, hb3⟩))
      go_roundw
      case rel => exact ⟨i + 1, _, by omega, by go_num, rfl, Lib.hid hnext.out.symm, hb.trans (hb3.mono hb.size)⟩
      case measure => simp [intOf]; omega
    · have R : Hid (joinC S0 5 ns G m = S) := Lib.hid (by rw [hS.out, show i = m by omega])
      clear hS hB ih hxs
      go_wp2_with fail
      go_ret
      exact ⟨by rw [R.out]; rfl, hfin⟩
set_option maxRecDepth 20000 in
set_option maxHeartbeats 4000000 in
theorem value_6 {n : Int} {f : Nat} {s : ByteArray} {A : Option Addr} {c ca : Nat} {B : Option Addr} {m cb : Nat} {w : World} {ns : Nat → ByteArray} {vs : Nat → Array Value} {xs : Nat → VT} {G : Nat → ByteArray} {W : Nat → Nat}
    (hmx : m ≤ 1000000000) (hns : Strs w w.heap.size A c ns) (hcm : m ≤ c) (hcx : c ≤ 9223372036854775807) (hnm : ∀ i, i < m → (ns i).size ≤ 1000000000)
    (hW : ∀ i, i < m → (G i).size ≤ W i) (hT : 100 + sumTo (fun i => W i + (ns i).size + 20) m ≤ 1000000000)
    (hB : 0 < m → ∃ g o, B = some ⟨g, o, none⟩ ∧ g < w.heap.size ∧ ∀ i, i < m → SixAt w g (o + i * 6) (vs i)) (hxs : ∀ i, i < m → Val w w.heap.size (vs i) (xs i))
    (ih : ∀ (i : Nat), i < m → ∀ (v : Array Value) (w : World), Val w w.heap.size v (xs i) → Calls Tryz.prog 75 #[.agg v] w fun e w' => e = .returned (.string (G i)) ∧ Below w.heap.size w w') :
    Calls Tryz.prog 75 #[.agg (fields 6 n f s A c ca B m cb)] w fun e w' => e = .returned (.string (joinC (byteB 6 ++ strL (uintL m)) 6 ns G m)) ∧ Below w.heap.size w w' := by
  obtain ⟨S0, hS0⟩ : ∃ S0, S0 = byteB 6 ++ strL (uintL m) := ⟨_, rfl⟩
  have hS0s : S0.size ≤ 11 := by
    rw [hS0, size_cat, strL_size]
    have h1 : ∀ n, (byteB n).size = 1 := fun _ => rfl
    have := uintL_len10 (n := m) (by omega)
    rw [h1]; omega
  have hz0 : ¬ 9223372036854775807 < (byteB 6).size + (strL (uintL m)).size := by
    rw [hS0, size_cat] at hS0s; omega
  rw [← hS0]
  have U := Uint_any (n := m) (by omega)
  have hj0 : Hid (joinC S0 6 ns G 0 = S0) := Lib.hid rfl
  have hjs : Hid (∀ i, i ≤ m → (joinC S0 6 ns G i).size ≤ S0.size + sumTo (fun i => W i + (ns i).size + 20) i) := Lib.hid (joinC_size S0 6 ns G W m hW hnm)
  have hmono : Hid (∀ i, i < m → (joinC S0 6 ns G i).size + W i + (ns i).size + 20 ≤ 1000000000) := Lib.hid fun i hi => by
    have h1 := hjs.out i (by omega)
    have h2 := sumTo_mono (fun i => W i + (ns i).size + 20) (show i + 1 ≤ m by omega)
    have h3 : sumTo (fun i => W i + (ns i).size + 20) (i + 1) = sumTo (fun i => W i + (ns i).size + 20) i + (W i + (ns i).size + 20) := rfl
    omega
  have HWt := Lib.hid hW
  have HNm := Lib.hid hnm
  have HS0 := Lib.hid hS0
  clear hW hT hjs hS0s hnm
  obtain ⟨W1, hW1⟩ : ∃ W1, W1 = ((w.alloc (.cells (fields 6 n f s A c ca B m cb) 28)).alloc (.cells #[.int .u8 6] 5)) := ⟨_, rfl⟩
  have hbW : Below w.heap.size w W1 := by rw [hW1]; exact ((Below.refl _ _).alloc (Nat.le_refl _) _).alloc (by simp) _
  have C1 := fun w => byte_conv w (z := 6) (n := 6) (by omega) (by omega)
  unfold fields at *
  have HK1 : Hid (∀ w', Below W1.heap.size W1 w' → w'.cell? ⟨w.heap.size, 0, none⟩ = some (.int .i64 6) ∧ w'.cell? ⟨w.heap.size, 4, none⟩ = some (.slice A c ca) ∧ w'.cell? ⟨w.heap.size, 5, none⟩ = some (.slice B m cb)) := Lib.hid fun w' h => by
    have K := fun o => (h.cell (p := ⟨w.heap.size, o, none⟩) (by rw [hW1]; simp; omega))
    refine ⟨?_, ?_, ?_⟩ <;> (rw [K, hW1]; simp)
  have HBW := Lib.hid hbW
  clear hbW
  go_enter Tryz.func75, Tryz.ntmps75
  go_wp2_with (go_at_call 39; rw [← hW1]; refine (U _).mono ?_; rintro e w1 ⟨rfl, hb1⟩)
  rw [← HS0.out]
  clear hW1 U C1 hz0 hS0
  go_loopw [3, 7] (fun sv iv wr => ∃ (i : Nat) (S : ByteArray), i ≤ m ∧ iv = .int .i64 i ∧ sv = .string S ∧ Hid (S = joinC S0 6 ns G i) ∧ Below W1.heap.size W1 wr) (fun _ iv _ => m - (intOf iv).toNat)
  case atStart => exact ⟨0, _, Nat.zero_le _, rfl, rfl, Lib.hid hj0.out.symm, hb1⟩
  case round =>
    obtain ⟨i, S, hi, rfl, rfl, hS, hb⟩ := hrel
    obtain ⟨q0, q4, q5⟩ := HK1.out wr hb
    have hfin : Below w.heap.size w wr := HBW.out.trans (hb.mono HBW.out.size)
    by_cases hlt : i < m
    · obtain ⟨g, o, rfl, hg, hx⟩ := hB (by omega)
      have hvr := ((hxs i hlt).stay hfin).mono hfin.size
      have hcall := fun (V : World) (hV : Below wr.heap.size wr V) => ih i hlt (vs i) V ((hvr.stay hV).mono hV.size)
      have hsix := (hx i hlt).keep (w' := wr) fun o => hfin.cell (p := ⟨g, o, none⟩) hg
      have hgr : g < wr.heap.size := by have := hfin.size; omega
      obtain ⟨a0, a1, a2, a3, a4, a5, hv0⟩ := (hxs i hlt).six
      rw [hv0] at hsix hcall
      obtain ⟨e0, e1, e2, e3, e4, e5⟩ := hsix.cells
      have hb1 := hmono.out i hlt
      have hb2 := HWt.out i hlt
      rw [← hS.out] at hb1
      have hnext := Lib.hid (show joinC S0 6 ns G (i + 1) = (S ++ strB (ns i)) ++ G i by
        rw [hS.out]; conv => lhs; unfold joinC
        rw [if_pos rfl])
      obtain ⟨gn, on, rfl, hgn, hxn⟩ := hns (by omega)
      have hnm : wr.cell? ⟨gn, on + i, none⟩ = some (.string (ns i)) := (hfin.cell (p := ⟨gn, on + i, none⟩) hgn).trans (hxn i (by omega)).1
      have hsb := strB_size (HNm.out i hlt)
      have hstr := Str_any (HNm.out i hlt)
      generalize ns i = nm at *
      generalize strB nm = sb at *
      generalize G i = gi at *
      generalize W i = wi at *
      have HB1 := Lib.hid hb1
      have HB2 := Lib.hid hb2
      have z3 : ¬ 9223372036854775807 < S.size + sb.size := by omega
      have z4 : ¬ 9223372036854775807 < (S ++ sb : ByteArray).size + gi.size := by simp only [size_cat]; omega
      have HSB := Lib.hid hsb
      have stay : ∀ w2, Below wr.heap.size wr w2 → w2.cell? ⟨w.heap.size, 5, none⟩ = some (.slice (some ⟨g, o, none⟩) m cb) ∧ w2.cell? ⟨g, o + i * 6, none⟩ = some a0 ∧ w2.cell? ⟨g, o + i * 6 + 1, none⟩ = some a1 ∧ w2.cell? ⟨g, o + i * 6 + 2, none⟩ = some a2 ∧ w2.cell? ⟨g, o + i * 6 + 3, none⟩ = some a3 ∧ w2.cell? ⟨g, o + i * 6 + 4, none⟩ = some a4 ∧ w2.cell? ⟨g, o + i * 6 + 5, none⟩ = some a5 := fun w2 h2 => by
        have K := fun o => h2.cell (p := ⟨g, o, none⟩) hgr
        exact ⟨(HK1.out w2 (hb.trans (h2.mono hb.size))).2.2, (K _).trans e0, (K _).trans e1, (K _).trans e2, (K _).trans e3, (K _).trans e4, (K _).trans e5⟩
      have HST := Lib.hid stay
      clear hv0 hsix hvr hx hB ih hxs hS hb1 hb2 hns hgn hxn hsb stay
      go_wp2_with (first | (go_at_call 110; refine (hstr _).mono ?_; rintro e w2 ⟨rfl, hb2⟩; obtain ⟨p5, f0, f1, f2, f3, f4, f5⟩ := HST.out w2 hb2) | (go_at_call 75; refine (hcall w2 hb2).mono ?_; rintro e w3 ⟨rfl, hb3⟩))
      go_roundw
      case rel => exact ⟨i + 1, _, by omega, by go_num, rfl, Lib.hid hnext.out.symm, hb.trans ((hb2.trans (hb3.mono hb2.size)).mono hb.size)⟩
      case measure => simp [intOf]; omega
    · have R : Hid (joinC S0 6 ns G m = S) := Lib.hid (by rw [hS.out, show i = m by omega])
      clear hS hB ih hxs hns
      go_wp2_with fail
      go_ret
      exact ⟨by rw [R.out]; rfl, hfin⟩
end Go.Proofs.YtekojglcbalhnaaGreatDoor
namespace Go.Proofs.YtekojglcbalhnaaGreatDoor
open Go.RowKit

def sumN (g : Nat → Nat) : Nat → Nat
  | 0 => 0
  | i + 1 => sumN g i + g i
/-- All parts of a value. -/
def tot : VT → Nat
  | .bad => 0
  | .mk _ _ _ _ _ _ m xs => 1 + sumN (fun i => tot (xs i)) m
theorem cntGo_sum (g : Nat → Int → Int) (T : Nat → Nat) (m : Nat) (hg : ∀ i n, i < m → 0 ≤ n → n < 500 → g i n = min (n + T i) 500) :
    ∀ r i n, i + r = m → 0 ≤ n → n ≤ 500 → (500 : Int) ≤ n ∨ n = 1 + sumN T i → cntGo g r i n = min (1 + sumN T m : Int) 500 ∨ (n = 500 ∧ cntGo g r i n = 500) := by
  intro r
  induction r with
  | zero =>
    intro i n hi h0 h5 hn
    obtain rfl : i = m := by omega
    unfold cntGo
    rcases hn with hn | hn
    · right; omega
    · left; omega
  | succ r ih =>
    intro i n hi h0 h5 hn
    unfold cntGo
    by_cases h : n < 500
    · rw [if_pos h]
      have hni : n = 1 + sumN T i := by rcases hn with hn | hn; omega; exact hn
      have hs : sumN T (i + 1) = sumN T i + T i := rfl
      have e := hg i n (by omega) h0 h
      have hmono : ∀ j, j ≤ m → i + 1 ≤ j → sumN T (i + 1) ≤ sumN T j := by
        intro j
        induction j with
        | zero => intro _ h; omega
        | succ j ihj =>
          intro hj h1
          by_cases e : j = i
          · subst e; exact Nat.le_refl _
          · have := ihj (by omega) (by omega)
            show _ ≤ sumN T j + T j
            omega
      have hm := hmono m (Nat.le_refl _) (by omega)
      rw [e]
      rcases ih (i + 1) (min (n + T i) 500) (by omega) (by omega) (by omega) (by omega) with h1 | ⟨h1, h2⟩
      · left; exact h1
      · left; rw [h2]; omega
    · rw [if_neg h]
      right; omega
theorem cnt_tot {w : World} {lim : Nat} {v : Array Value} {t : VT} (h : Val w lim v t) : ∀ n, 0 ≤ n → n < 500 → cntV t n = min (n + tot t) 500 := by
  induction h with
  | mk k n0 f s A c ca B m cb ns xs vs hk hn hf hs hc hm hns hB hxs ih =>
    intro n h0 h5
    unfold cntV tot
    have hin := cntGo_in (fun i n => cntV (xs i) n) (fun i n a b => cntV_in (xs i) n a b) m 0 (n + 1) (by omega) (by omega)
    -- shift: count from n as count from 0
    have key : ∀ r i q, i + r = m → 0 ≤ q → q ≤ 500 → cntGo (fun i n => cntV (xs i) n) r i q = min (q + (sumN (fun i => tot (xs i)) m - sumN (fun i => tot (xs i)) i : Int)) 500 ∧ sumN (fun i => tot (xs i)) i ≤ sumN (fun i => tot (xs i)) m := by
      intro r
      induction r with
      | zero =>
        intro i q hi hq0 hq5
        obtain rfl : i = m := by omega
        unfold cntGo
        exact ⟨by omega, Nat.le_refl _⟩
      | succ r ihr =>
        intro i q hi hq0 hq5
        have hs : sumN (fun i => tot (xs i)) (i + 1) = sumN (fun i => tot (xs i)) i + tot (xs i) := rfl
        unfold cntGo
        by_cases hq : q < 500
        · rw [if_pos hq]
          have e := ih i (by omega) q hq0 hq
          rw [e]
          have := ihr (i + 1) (min (q + tot (xs i)) 500) (by omega) (by omega) (by omega)
          omega
        · rw [if_neg hq]
          have := (ihr (i + 1) q (by omega) hq0 hq5).2
          omega
    have e := (key m 0 (n + 1) (by omega) (by omega) (by omega)).1
    have hz : sumN (fun i => tot (xs i)) 0 = 0 := rfl
    rw [e]
    omega
theorem sumN_mono (g : Nat → Nat) {i m : Nat} (h : i ≤ m) : sumN g i ≤ sumN g m := by
  induction m with
  | zero => obtain rfl : i = 0 := by omega
            exact Nat.le_refl _
  | succ m ih =>
    by_cases e : i = m + 1
    · subst e; exact Nat.le_refl _
    · have := ih (by omega)
      show _ ≤ sumN g m + g m
      omega
theorem Val.eight {w : World} {lim : Nat} {v : Array Value} {t : VT} (h : Val w lim v t) : ∃ k n f s A c ca B m cb, v = #[.int .i64 k, .int .i64 n, .float .f64 f, .string s, .slice A c ca, .slice B m cb] := by
  cases h; exact ⟨_, _, _, _, _, _, _, _, _, _, rfl⟩
theorem float_store (b : Nat) (a : Addr) (w : World) : (store a (.float .f64 b) .plain).run Tryz.prog w = stored Tryz.prog w a (.float .f64 b) .plain := run_store Tryz.prog w a _ .plain rfl
theorem tot_mk (k n : Int) (f : Nat) (s : ByteArray) (c : Nat) (ns : Nat → ByteArray) (m : Nat) (xs : Nat → VT) : ((tot (.mk k n f s c ns m xs) : Nat) : Int) = 1 + (sumN (fun i => tot (xs i)) m : Nat) := by
  rw [tot]; simp
theorem items_any {k n : Int} {f : Nat} {s : ByteArray} {A : Option Addr} {c ca : Nat} {B : Option Addr} {m cb : Nat} (w : World) :
    Calls Tryz.prog 157 #[.agg (fields k n f s A c ca B m cb)] w fun e w' => e = .returned (.slice B m cb) ∧ Below w.heap.size w w' := by
  have hb : Below w.heap.size w (w.alloc (.cells (fields k n f s A c ca B m cb) 28)) := (Below.refl _ _).alloc (Nat.le_refl _) _
  unfold fields at *
  go_enter Tryz.func157, Tryz.ntmps157
  go_wp2_with fail
  go_ret
  exact ⟨rfl, hb⟩
set_option maxHeartbeats 2000000 in
theorem cap_any : ∀ (t : VT) (v : Array Value) (q : Int) (w : World), Val w w.heap.size v t → 1 ≤ q → q ≤ 1000 →
    Calls Tryz.prog 185 #[.agg v, .func (.func 157) #[] #[], .int .i64 q] w fun e w' => e = .returned (.int .i64 (min (tot t) q)) ∧ Below w.heap.size w w' := by
  intro t
  induction t with
  | bad => intro v q w hv; cases hv
  | mk k n0 f s c ns m xs ih =>
    intro v q w hv h1 h9
    cases hv with
    | mk _ _ _ _ A _ ca B _ cb _ _ vs hk hn hf hs hc hm hns hB hxs =>
      have hmx : m ≤ 9223372036854775807 := by have := hm; unfold maxLen at this; omega
      have hbW : Below w.heap.size w (w.alloc (.cells (fields k n0 f s A c ca B m cb) 28)) := (Below.refl _ _).alloc (Nat.le_refl _) _
      have I := fun W => items_any (k := k) (n := n0) (f := f) (s := s) (A := A) (c := c) (ca := ca) (B := B) (m := m) (cb := cb) W
      unfold fields at *
      have SF := float_store
      go_enter Tryz.func185, Tryz.ntmps185
      go_wp2_with (go_at_call 157; refine (I _).mono ?_; rintro e w1 ⟨rfl, hb1⟩)
      have hW1 : Below w.heap.size w w1 := hbW.trans (hb1.mono hbW.size)
      clear hbW hb1 I
      go_loopw [7, 14] (fun nv iv wr => ∃ (i : Nat) (p : Int), i ≤ m ∧ iv = .int .i64 i ∧ nv = .int .i64 p ∧ p = min (1 + sumN (fun i => tot (xs i)) i : Int) q ∧ Below w1.heap.size w1 wr) (fun _ iv _ => m - (intOf iv).toNat)
      case atStart => exact ⟨0, 1, Nat.zero_le _, rfl, rfl, by unfold sumN; omega, Below.refl _ _⟩
      case round =>
        obtain ⟨i, p, hi, rfl, rfl, hp, hb⟩ := hrel
        have hfin : Below w.heap.size w wr := hW1.trans (hb.mono hW1.size)
        have hsum : sumN (fun i => tot (xs i)) (i + 1) = sumN (fun i => tot (xs i)) i + tot (xs i) := rfl
        by_cases hlt : i < m
        · by_cases hq : p = q
          · have R : Hid ((min (tot (.mk k n0 f s c ns m xs)) q : Int) = p) := Lib.hid (by
              have := sumN_mono (fun i => tot (xs i)) (show i ≤ m by omega)
              rw [tot_mk]; omega)
            have tq : (p == q) = true := by simpa using hq
            obtain ⟨g, o, rfl, hg, hx⟩ := hB (by omega)
            have hsix := (hx i hlt).keep (w' := wr) fun o => hfin.cell (p := ⟨g, o, none⟩) hg
            obtain ⟨b0, b1, b2, b3, b4, b5, b6, b7, b8, b9, hv0⟩ := (hxs i hlt).eight
            rw [hv0] at hsix
            obtain ⟨e0, e1, e2, e3, e4, e5⟩ := hsix.cells
            have HF := Lib.hid hfin
            clear hv0 hsix hx hB ih hxs hp hsum hns hb hfin hq
            go_wp2_with fail
            go_ret
            exact ⟨by rw [R.out]; rfl, HF.out.alloc HF.out.size _⟩
          · have tq : (p == q) = false := by simpa using hq
            have hpq : p = 1 + (sumN (fun i => tot (xs i)) i : Nat) ∧ p < q := by omega
            have hN : Hid (p + min (tot (xs i) : Int) (q - p) = min (1 + (sumN (fun i => tot (xs i)) (i + 1) : Nat) : Int) q) := Lib.hid (by omega)
            have hlo : 0 ≤ p + min (tot (xs i) : Int) (q - p) ∧ p + min (tot (xs i) : Int) (q - p) ≤ 1000 := by omega
            obtain ⟨g, o, rfl, hg, hx⟩ := hB (by omega)
            have hsix := (hx i hlt).keep (w' := wr) fun o => hfin.cell (p := ⟨g, o, none⟩) hg
            have hvr := ((hxs i hlt).stay hfin).mono hfin.size
            have hcall := fun (V : World) (hV : Below wr.heap.size wr V) => ih i (vs i) (q - p) V ((hvr.stay hV).mono hV.size) (by omega) (by omega)
            obtain ⟨b0, b1, b2, b3, b4, b5, b6, b7, b8, b9, hv0⟩ := (hxs i hlt).eight
            rw [hv0] at hsix hcall
            obtain ⟨e0, e1, e2, e3, e4, e5⟩ := hsix.cells
            have hbN : ∀ x, Below wr.heap.size wr (wr.alloc x) := fun x => (Below.refl _ _).alloc (Nat.le_refl _) x
            have hwq : 0 ≤ p ∧ p < q ∧ q ≤ 1000 := by omega
            have HF := Lib.hid hfin
            generalize (min (tot (xs i) : Int) (q - p)) = z at *
            clear hv0 hsix hvr hx hB ih hxs hp hsum hns hfin hq hpq
            go_wp2_with (go_at_call 185; refine (hcall _ (hbN _)).mono ?_; rintro e w3 ⟨rfl, hb3⟩)
            go_roundw
            case rel => exact ⟨i + 1, p + z, by omega, by go_num, by go_num, hN.out, hb.trans (((hbN _).trans (hb3.mono (hbN _).size)).mono hb.size)⟩
            case measure => simp [intOf]; omega
        · have R : Hid ((min (tot (.mk k n0 f s c ns m xs)) q : Int) = p) := Lib.hid (by
            obtain rfl : i = m := by omega
            rw [tot_mk]; omega)
          clear hB hxs ih hp hsum hns
          go_wp2_with fail
          go_ret
          exact ⟨by rw [R.out]; rfl, hfin⟩
end Go.Proofs.YtekojglcbalhnaaGreatDoor
