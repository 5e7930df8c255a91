/-
  Contracts of basculeref05's Uint, Int, Str.
  The document's reader: its state in memory; fail, Byte.
  The document's reader: Uint.
-/
import Derived.Test.YteclpehbpicpaaaM01
import Derived.Lib.UnsafeStr
import Derived.OwnWalk
import Derived.Maps.AppendAt
import Derived.Laws.IdiomStrings
import Derived.StillTailTactics
namespace Go.Proofs.Yteclpehbpicpaaa
open Go.RowKit

def strL (l : List UInt8) : ByteArray := ⟨l.toArray⟩
theorem strL_append (a b : List UInt8) : strL a ++ strL b = strL (a ++ b) := by
  apply ByteArray.ext; unfold strL; simp
/-- The groups of seven bits, the lowest first. -/
def uintL (n : Nat) : List UInt8 := if n < 128 then [UInt8.ofNat n] else UInt8.ofNat (n % 128 + 128) :: uintL (n / 128)
termination_by n
decreasing_by omega
theorem uintL_last {n : Nat} (h : n < 128) : uintL n = [UInt8.ofNat n] := by rw [uintL, if_pos h]
theorem uintL_more {n : Nat} (h : ¬ n < 128) : uintL n = UInt8.ofNat (n % 128 + 128) :: uintL (n / 128) := by rw [uintL, if_neg h]
theorem uintL_len : ∀ (k n : Nat), n < 128 ^ k → 1 ≤ k → (uintL n).length ≤ k := by
  intro k
  induction k with
  | zero => intro n _ h; omega
  | succ k ih =>
    intro n hn _
    by_cases hz : n < 128
    · rw [uintL_last hz]; simp
    · rw [uintL_more hz]
      have h10 : n / 128 < 128 ^ k := by rw [Nat.pow_succ] at hn; omega
      have hk : 1 ≤ k := by
        rcases Nat.eq_zero_or_pos k with rfl | h
        · simp at h10; omega
        · exact h
      have := ih _ h10 hk
      simp; omega
theorem uintL_len10 {n : Nat} (h : n < 18446744073709551616) : (uintL n).length ≤ 10 := uintL_len 10 n (by omega) (by omega)
theorem uintL_pos (n : Nat) : 1 ≤ (uintL n).length := by
  rw [uintL]; split <;> simp
theorem info5 : (Try.prog.info? 5).map (fun i => (i.zero, i.size, i.bytes)) = some (some (.int .u8 0), 1, 1) := by kernel_rfl
theorem owns_one (w : World) (x : Value) : (w.alloc (.cells #[x] 5)).ownsRow w.heap.size 5 1 (.slice (some ⟨w.heap.size, 0, none⟩) 1 1) 1 [x] :=
  ⟨rfl, .inr ⟨w.heap.size, 1, #[x], rfl, Nat.le_refl _, by first | exact Array.getElem?_push_size | (simp; rfl) | (unfold World.alloc; exact Array.getElem?_push_size), Nat.le_refl _, by unfold maxLen; omega, rfl, rfl⟩⟩
theorem owns_slice {w : World} {B : Nat} {v : Value} {n : Nat} {xs : List Value} (h : w.ownsRow B 5 1 v n xs) (hn : 0 < n) : ∃ g cap, v = .slice (some ⟨g, 0, none⟩) n cap := by
  rcases h.2 with ⟨_, h⟩ | ⟨g, cap, _, h, _⟩
  · omega
  · exact ⟨g, cap, h⟩
set_option maxRecDepth 20000 in
set_option maxHeartbeats 2000000 in
theorem Uint_any {n : Nat} (hn : n < 18446744073709551616) (w : World) : Calls Try.prog 19 #[.int .u64 n] w fun e w' => e = .returned (.string (strL (uintL n))) ∧ Below w.heap.size w w' := by
  obtain ⟨i0, hi, hz0, hz1, hz2⟩ := info_parts info5
  have hn' := Lib.hid hn
  have hO : (w.alloc (.cells #[] 5)).ownsRow w.heap.size 5 1 (.slice (some ⟨w.heap.size, 0, none⟩) 0 0) 0 [] := World.ownsRow_lit w #[] 0 (Nat.le_refl _) (by unfold maxLen; omega) rfl
  have HO := Lib.hid hO
  have HB := Lib.hid (show Below w.heap.size w (w.alloc (.cells #[] 5)) from (Below.refl _ _).alloc (Nat.le_refl _) _)
  clear hn hO
  go_enter Try.func19, Try.ntmps19
  go_wp2_with fail
  go_loopw [0, 3] (fun nv v wr => ∃ (m g cap : Nat) (L : List UInt8), m ≤ n ∧ nv = .int .u64 m ∧ v = .slice (some ⟨g, 0, none⟩) L.length cap ∧ Hid (L ++ uintL m = uintL n) ∧ wr.ownsRow w.heap.size 5 1 (.slice (some ⟨g, 0, none⟩) L.length cap) L.length (Lib.byteCells L) ∧ Below w.heap.size w wr) (fun nv _ _ => (intOf nv).toNat)
  case atStart => exact ⟨n, w.heap.size, 0, [], Nat.le_refl _, rfl, rfl, Lib.hid (by simp), HO.out, HB.out⟩
  case round =>
    obtain ⟨m, g, cap, L, hm, rfl, rfl, hL, hown, hb⟩ := hrel
    have hsz := hb.size
    have hlen : L.length + 1 ≤ 10 := by
      have h1 := uintL_len10 hn'.out
      rw [← hL.out, List.length_append] at h1
      have := uintL_pos m
      omega
    have hmb : m < 18446744073709551616 := by have := hn'.out; omega
    by_cases h128 : m < 128
    · have hF : Hid (L ++ [UInt8.ofNat m] = uintL n) := Lib.hid (by rw [← hL.out, uintL_last h128])
      clear hL
      have hcell : Hid (([.int .u8 (m : Int)] : List Value) = Lib.byteCells [UInt8.ofNat m]) := Lib.hid (by
        simp [Lib.byteCells]; omega)
      have t1 : decide ((128 : Int) ≤ (m : Int)) = false := by simp; omega
      have HM := Lib.hid hmb
      clear hmb
      go_wp2_with (first | (at_builtin; refine wpList_append_own _ rfl (.tmp 16) (.tmp 19) 77 rfl w.heap.size 5 i0 (.int .u8 0) 1 1 Try.underlying77 hi hz0 hz1 hz2 rfl (by decide) _ _ _ rfl (hown.alloc _) ⟨wr.heap.size, 0, none⟩ 1 1 [.int .u8 (m : Int)] rfl rfl (cell_one_new _ _ _) (fun x hx => by simp at hx; subst hx; rfl) (by unfold maxLen; omega) (by omega) (by simp; omega) ?_; intro v' w3 hown' hgrow3 hnil3; refine Hid.out ?_))
      refine Lib.hid ?_
      obtain ⟨g3, cap3, rfl⟩ := owns_slice hown' (by omega)
      have hb3 : Below w.heap.size w w3 := (hb.alloc hsz _).grown hgrow3 (by simp; omega) (fun q hq => (hown.lt q hq).1)
      obtain ⟨M, hM⟩ : ∃ M, M = L ++ [UInt8.ofNat m] := ⟨_, rfl⟩
      have hMl : L.length + 1 = M.length := by rw [hM]; simp
      have hown3 : w3.ownsRow w.heap.size 5 1 (.slice (some ⟨g3, 0, none⟩) (L.length + 1) cap3) M.length (Lib.byteCells M) := by
        rw [hcell.out, ← Lib.byteCells_append, ← hM, hMl] at hown'
        rw [hMl]; exact hown'
      have hcv := run_convert_bytes_back (P := Try.prog) w3 77 9 5 ⟨g3, 0, none⟩ cap3 M Try.underlying77 Try.underlying5 Try.underlying9 (fun j hj => hown3.cells (g := g3) rfl j _ (by simp [Lib.byteCells, hj]))
      rw [← hM] at hF
      rw [← hMl] at hcv
      have HB3 := Lib.hid hb3
      clear hown' hgrow3 hnil3 hown hb hown3 hb3 hM hMl
      go_wp2_with fail
      go_ret
      exact ⟨by rw [← hF.out]; rfl, HB3.out⟩
    · have hN : Hid ((L ++ [UInt8.ofNat (m % 128 + 128)]) ++ uintL (m / 128) = uintL n) := Lib.hid (by rw [← hL.out, uintL_more h128]; simp)
      have hcell : Hid (([.int .u8 ((m : Int) % 128 + 128)] : List Value) = Lib.byteCells [UInt8.ofNat (m % 128 + 128)]) := Lib.hid (by
        simp [Lib.byteCells]; omega)
      clear hL
      have D : IntKind.u64.wrap ((m : Int) / 128) = ((m / 128 : Nat) : Int) := by rw [IntKind.wrap_u64]; omega
      have HM := Lib.hid hmb
      clear hmb
      have t1 : decide ((128 : Int) ≤ (m : Int)) = true := by simp; omega
      clear h128
      go_wp2_with (first | (at_builtin; refine wpList_append_own _ rfl (.tmp 7) (.tmp 12) 77 rfl w.heap.size 5 i0 (.int .u8 0) 1 1 Try.underlying77 hi hz0 hz1 hz2 rfl (by decide) _ _ _ rfl (hown.alloc _) ⟨wr.heap.size, 0, none⟩ 1 1 [.int .u8 ((m : Int) % 128 + 128)] rfl rfl (cell_one_new _ _ _) (fun x hx => by simp at hx; subst hx; rfl) (by unfold maxLen; omega) (by omega) (by simp; omega) ?_; intro v' w3 hown' hgrow3 hnil3; refine Hid.out ?_))
      refine Lib.hid ?_
      obtain ⟨g3, cap3, rfl⟩ := owns_slice hown' (by omega)
      have hb3 : Below w.heap.size w w3 := (hb.alloc hsz _).grown hgrow3 (by simp; omega) (fun q hq => (hown.lt q hq).1)
      have hown3 : w3.ownsRow w.heap.size 5 1 (.slice (some ⟨g3, 0, none⟩) (L ++ [UInt8.ofNat (m % 128 + 128)]).length cap3) (L ++ [UInt8.ofNat (m % 128 + 128)]).length (Lib.byteCells (L ++ [UInt8.ofNat (m % 128 + 128)])) := by
        rw [hcell.out, ← Lib.byteCells_append] at hown'
        simpa using hown'
      have HO3 := Lib.hid hown3
      have HB3 := Lib.hid hb3
      have hlt : Hid (m / 128 ≤ n ∧ m / 128 < m) := Lib.hid ⟨by omega, by have := t1; simp at this; omega⟩
      clear hown' hgrow3 hnil3 hown hb hown3 hb3
      go_wp2_with fail
      go_roundw
      case rel => exact ⟨m / 128, g3, cap3, _, hlt.out.1, rfl, by simp, hN, HO3.out, HB3.out⟩
      case measure => have := hlt.out.2; simp [intOf]; omega
/-- A number with a sign, as one without. -/
def zig (n : Int) : Nat := if n < 0 then ((-1 - n) * 2 + 1).toNat else (n * 2).toNat
theorem zig_lt {n : Int} (h : -9223372036854775808 ≤ n ∧ n ≤ 9223372036854775807) : zig n < 18446744073709551616 := by unfold zig; split <;> omega
set_option maxRecDepth 20000 in
theorem Int_any {n : Int} (h : -9223372036854775808 ≤ n ∧ n ≤ 9223372036854775807) (w : World) : Calls Try.prog 21 #[.int .i64 n] w fun e w' => e = .returned (.string (strL (uintL (zig n)))) ∧ Below w.heap.size w w' := by
  have U := Uint_any (zig_lt h)
  by_cases h0 : n < 0
  · have hz : ((zig n : Nat) : Int) = (-1 - n) * 2 + 1 := by unfold zig; rw [if_pos h0]; omega
    have HI := Lib.hid hz
    rw [hz] at U
    generalize zig n = z at *
    have E0 : IntKind.i64.wrap (-1 - n) = -1 - n := by rw [IntKind.wrap_i64]; omega
    have E1 : IntKind.u64.wrap (-1 - n) = -1 - n := by rw [IntKind.wrap_u64]; omega
    have E2 : IntKind.u64.wrap ((-1 - n) * 2) = (-1 - n) * 2 := by rw [IntKind.wrap_u64]; omega
    have E3 : IntKind.u64.wrap ((-1 - n) * 2 + 1) = (-1 - n) * 2 + 1 := by rw [IntKind.wrap_u64]; omega
    clear h hz
    go_enter Try.func21, Try.ntmps21
    go_wp2_with (go_at_call 19; refine (U _).mono ?_; rintro e w1 ⟨rfl, hb1⟩)
    go_ret
    exact ⟨rfl, hb1⟩
  · have hz : ((zig n : Nat) : Int) = n * 2 := by unfold zig; rw [if_neg h0]; omega
    have HI := Lib.hid hz
    rw [hz] at U
    generalize zig n = z at *
    have E1 : IntKind.u64.wrap n = n := by rw [IntKind.wrap_u64]; omega
    have E2 : IntKind.u64.wrap (n * 2) = n * 2 := by rw [IntKind.wrap_u64]; omega
    clear h hz
    go_enter Try.func21, Try.ntmps21
    go_wp2_with (go_at_call 19; refine (U _).mono ?_; rintro e w1 ⟨rfl, hb1⟩)
    go_ret
    exact ⟨rfl, hb1⟩
/-- A string's bytes. -/
def strB (t : ByteArray) : ByteArray := strL (uintL t.size) ++ t
theorem Str_any {t : ByteArray} (h : t.size ≤ 1000000000) (w : World) : Calls Try.prog 23 #[.string t] w fun e w' => e = .returned (.string (strB t)) ∧ Below w.heap.size w w' := by
  have U := Uint_any (n := t.size) (by omega)
  have hl := uintL_len10 (n := t.size) (by omega)
  have hz : ¬ 9223372036854775807 < (strL (uintL t.size)).size + t.size := by
    have : (strL (uintL t.size)).size = (uintL t.size).length := rfl
    omega
  unfold strB
  generalize strL (uintL t.size) = x at *
  clear hl
  go_enter Try.func23, Try.ntmps23
  go_wp2_with (go_at_call 19; refine (U _).mono ?_; rintro e w1 ⟨rfl, hb1⟩)
  go_ret
  exact ⟨rfl, hb1⟩
end Go.Proofs.Yteclpehbpicpaaa
namespace Go.Proofs.Yteclpehbpicpaaa
open Go.RowKit

/-- A reader's block: the bytes, the place, the error, the parts. -/
def Rdr (w : World) (g : Nat) (s : ByteArray) (at' e p : Int) : Prop := w.heap[g]? = some (.cells #[.string s, .int .i64 at', .int .i64 e, .int .i64 p] 53 (0, 0))
theorem Rdr.cells {w : World} {g : Nat} {s : ByteArray} {a e p : Int} (h : Rdr w g s a e p) :
    w.cell? ⟨g, 0, none⟩ = some (.string s) ∧ w.cell? ⟨g, 1, none⟩ = some (.int .i64 a) ∧ w.cell? ⟨g, 2, none⟩ = some (.int .i64 e) ∧ w.cell? ⟨g, 3, none⟩ = some (.int .i64 p) ∧ ∀ o, w.frozen? ⟨g, o, none⟩ = false := by
  unfold Rdr at h
  refine ⟨?_, ?_, ?_, ?_, fun o => ?_⟩
  · simp [World.cell?, h]
  · simp [World.cell?, h]
  · simp [World.cell?, h]
  · simp [World.cell?, h]
  · simp [World.frozen?, h]
theorem Rdr.lt {w : World} {g : Nat} {s : ByteArray} {a e p : Int} (h : Rdr w g s a e p) : g < w.heap.size := (Array.getElem?_eq_some_iff.1 h).1
theorem Rdr.set1 {w : World} {g : Nat} {s : ByteArray} {a e p : Int} (h : Rdr w g s a e p) (a' : Int) : Rdr (w.setCell ⟨g, 1, none⟩ (.int .i64 a')) g s a' e p := by
  unfold Rdr at *
  simp [World.setCell, Array.getElem?_modify, h]
theorem Rdr.set2 {w : World} {g : Nat} {s : ByteArray} {a e p : Int} (h : Rdr w g s a e p) (e' : Int) : Rdr (w.setCell ⟨g, 2, none⟩ (.int .i64 e')) g s a e' p := by
  unfold Rdr at *
  simp [World.setCell, Array.getElem?_modify, h]
theorem Rdr.set3 {w : World} {g : Nat} {s : ByteArray} {a e p : Int} (h : Rdr w g s a e p) (p' : Int) : Rdr (w.setCell ⟨g, 3, none⟩ (.int .i64 p')) g s a e p' := by
  unfold Rdr at *
  simp [World.setCell, Array.getElem?_modify, h]
/-- But for block g all that was there is as it was. -/
structure Past (g : Nat) (w w' : World) : Prop where
  os : w'.os = w.os
  tape : w'.tape = w.tape
  output : w'.output = w.output
  size : w.heap.size ≤ w'.heap.size
  block : ∀ k, k < w.heap.size → k ≠ g → w'.heap[k]? = w.heap[k]?
theorem Past.refl (g : Nat) (w : World) : Past g w w := ⟨rfl, rfl, rfl, Nat.le_refl _, fun _ _ _ => rfl⟩
theorem Past.trans {g : Nat} {a b c : World} (h : Past g a b) (k : Past g b c) : Past g a c :=
  ⟨k.os.trans h.os, k.tape.trans h.tape, k.output.trans h.output, Nat.le_trans h.size k.size, fun i hi hn => (k.block i (by have := h.size; omega) hn).trans (h.block i hi hn)⟩
theorem Past.drew {g : Nat} {a w : World} (h : Past g a w) : Past g a w.drew := ⟨h.os, h.tape, h.output, h.size, h.block⟩
theorem Past.set {g : Nat} {a w : World} (h : Past g a w) (o : Nat) (v : Value) : Past g a (w.setCell ⟨g, o, none⟩ v) :=
  h.trans ⟨rfl, rfl, rfl, by simp [World.setCell], fun k _ hn => Below.heap_setCell _ _ _ _ hn⟩
theorem Past.alloc {g : Nat} {a w : World} (h : Past g a w) (x : Obj) : Past g a (w.alloc x) :=
  h.trans ⟨rfl, rfl, rfl, by simp, fun k hk _ => Below.heap_alloc _ _ _ hk⟩
theorem Past.below {g : Nat} {w w' : World} (h : Past g w w') {B : Nat} (hB : B ≤ g) (hg : g < w.heap.size) : Below B w w' :=
  ⟨h.os, h.tape, h.output, h.size, fun k hk => h.block k (by omega) (by omega)⟩
theorem Past.of_below {g : Nat} {w w' : World} (h : Below w.heap.size w w') : Past g w w' := ⟨h.os, h.tape, h.output, h.size, fun k hk _ => h.block k hk⟩
theorem Past.cell {g : Nat} {w w' : World} (h : Past g w w') {p : Addr} (hp : p.block < w.heap.size) (hn : p.block ≠ g) : w'.cell? p = w.cell? p := World.cell?_of_block (w := w) (h.block p.block hp hn)
theorem Past.frozen {g : Nat} {w w' : World} (h : Past g w w') {p : Addr} (hp : p.block < w.heap.size) (hn : p.block ≠ g) : w'.frozen? p = w.frozen? p := World.frozen?_of_block (w := w) (h.block p.block hp hn)
theorem Rdr.past {w w' : World} {g : Nat} {s : ByteArray} {a e p : Int} (h : Rdr w g s a e p) (hb : Below w.heap.size w w') : Rdr w' g s a e p := (hb.block g h.lt).trans h

theorem fail_any {w : World} {g : Nat} {s : ByteArray} {a e p : Int} (h : Rdr w g s a e p) (c : Int) :
    Calls Try.prog 59 #[.pointer (some ⟨g, 0, none⟩), .int .i64 c] w fun x w' => x = .returned (.tuple #[]) ∧ Rdr w' g s a (if e = 0 then c else e) p ∧ Past g w w' := by
  obtain ⟨c0, c1, c2, c3, cf⟩ := h.cells
  have hs2 := h.set2 c
  have HH := Lib.hid h
  clear h
  by_cases he : e = 0
  · rw [if_pos he]
    have t : (e == 0) = true := by simpa using he
    clear he
    go_enter Try.func59, Try.ntmps59
    go_wp2_with fail
    go_end0
    exact ⟨rfl, hs2, (Past.refl _ _).set _ _⟩
  · rw [if_neg he]
    have t : (e == 0) = false := by simpa using he
    clear he
    go_enter Try.func59, Try.ntmps59
    go_wp2_with fail
    go_end0
    exact ⟨rfl, HH.out, Past.refl _ _⟩
theorem fail_0 {w : World} {g : Nat} {s : ByteArray} {a p : Int} (h : Rdr w g s a 0 p) (c : Int) :
    Calls Try.prog 59 #[.pointer (some ⟨g, 0, none⟩), .int .i64 c] w fun x w' => x = .returned (.tuple #[]) ∧ Rdr w' g s a c p ∧ Past g w w' := by
  have := fail_any h c
  rw [if_pos rfl] at this
  exact this
/-- Amid an error no byte is read. -/
theorem Byte_err {w : World} {g : Nat} {s : ByteArray} {a e p : Int} (h : Rdr w g s a e p) (he : e ≠ 0) :
    Calls Try.prog 58 #[.pointer (some ⟨g, 0, none⟩)] w fun x w' => x = .returned (.int .i64 0) ∧ Rdr w' g s a e p ∧ Past g w w' := by
  obtain ⟨c0, c1, c2, c3, cf⟩ := h.cells
  have HH := Lib.hid h
  have t : (e != 0) = true := by simpa using he
  clear h he
  go_enter Try.func58, Try.ntmps58
  go_wp2_with fail
  go_ret
  exact ⟨rfl, HH.out, Past.refl _ _⟩
theorem Byte_end {w : World} {g : Nat} {s : ByteArray} {a : Nat} {p : Int} (h : Rdr w g s a 0 p) (ha : s.size ≤ a) :
    Calls Try.prog 58 #[.pointer (some ⟨g, 0, none⟩)] w fun x w' => x = .returned (.int .i64 0) ∧ Rdr w' g s a 14 p ∧ Past g w w' := by
  obtain ⟨c0, c1, c2, c3, cf⟩ := h.cells
  have F := fun w1 (hb : Below w.heap.size w w1) => fail_0 (h.past hb) 14
  have HF := Lib.hid F
  clear h F
  go_enter Try.func58, Try.ntmps58
  go_wp2_with fail
  go_quiet (fail)
  have hd : Below w.heap.size w (w.drewN nq) := below_drewN (Below.refl _ _) _
  generalize w.drewN nq = w2 at hd ⊢
  have F2 := HF.out w2 hd
  have P2 := Lib.hid (Past.of_below (g := g) hd)
  clear hd
  go_wp2_with (go_at_call 59; refine F2.mono ?_; rintro e w3 ⟨rfl, h3, hp3⟩)
  go_ret
  exact ⟨rfl, h3, P2.out.trans hp3⟩
theorem Byte_ok {w : World} {g : Nat} {s : ByteArray} {a : Nat} {p : Int} (h : Rdr w g s a 0 p) (ha : a < s.size) (hs : s.size ≤ 9223372036854775807) :
    Calls Try.prog 58 #[.pointer (some ⟨g, 0, none⟩)] w fun x w' => x = .returned (.int .i64 (s[a].toNat : Nat)) ∧ Rdr w' g s ((a + 1 : Nat) : Int) 0 p ∧ Past g w w' := by
  obtain ⟨c0, c1, c2, c3, cf⟩ := h.cells
  have HH := Lib.hid h
  obtain ⟨b, hb0⟩ : ∃ b, s[a] = b := ⟨_, rfl⟩
  rw [hb0]
  clear h
  go_enter Try.func58, Try.ntmps58
  go_wp2_with fail
  go_quiet (fail)
  have hd : Below w.heap.size w (w.drewN nq) := below_drewN (Below.refl _ _) _
  generalize w.drewN nq = w2 at hd ⊢
  obtain ⟨d0, d1, d2, d3, df⟩ := (HH.out.past hd).cells
  have h2 := Lib.hid ((HH.out.past hd).set1 ((a : Int) + 1))
  have P2 := Lib.hid ((Past.of_below (g := g) hd).set 1 (.int .i64 ((a : Int) + 1)))
  clear hd c0 c1 c2 c3 cf
  go_wp2_with fail
  obtain ⟨w3, hw3⟩ : ∃ w3, w3 = w2.setCell ⟨g, 1, none⟩ (.int .i64 ((a : Int) + 1)) := ⟨_, rfl⟩
  rw [← hw3]
  have h3 := h2.out
  rw [← hw3] at h3
  have P3 := P2.out
  rw [← hw3] at P3
  obtain ⟨f0, f1, f2, f3, ff⟩ := h3.cells
  have H3 := Lib.hid h3
  have HP3 := Lib.hid P3
  clear hw3 h2 P2 d0 d1 d2 d3 df h3 P3 HH
  have i0 : ((a : Int) + 1 - 1).toNat = a := by omega
  have i1 : (a : Int) + 1 - 1 = a := by omega
  have E : wrap64 ((b.toNat : Nat) : Int) = b.toNat := by
    have := b.toNat_lt
    unfold wrap64; omega
  have HE := Lib.hid E
  clear E
  go_quiet (fail)
  have hd : Below w3.heap.size w3 (w3.drewN nq) := below_drewN (Below.refl _ _) _
  generalize w3.drewN nq = w4 at hd ⊢
  have HD := Lib.hid hd
  clear hd
  go_wp2_with fail
  go_ret
  exact ⟨by show Ending.returned (.int .i64 (wrap64 _)) = _; rw [HE.out], H3.out.past HD.out, HP3.out.trans (Past.of_below HD.out)⟩
end Go.Proofs.Yteclpehbpicpaaa
namespace Go.Proofs.Yteclpehbpicpaaa
open Go.RowKit

/-- The number at the front of these bytes, behind i groups that make n. -/
def uP : Nat → Nat → List UInt8 → Except Nat (Nat × List UInt8)
  | _, _, [] => .error 14
  | i, n, b :: r =>
    if 9 < i ∨ (i = 9 ∧ 1 < b.toNat) ∨ (0 < i ∧ b.toNat = 0) then .error 5
    else if b.toNat < 128 then .ok (n + b.toNat % 128 * 2 ^ (7 * i), r) else uP (i + 1) (n + b.toNat % 128 * 2 ^ (7 * i)) r
theorem uP_nil (i n : Nat) : uP i n [] = .error 14 := by rw [uP]
theorem uP_bad {i n : Nat} {b : UInt8} {r : List UInt8} (h : 9 < i ∨ (i = 9 ∧ 1 < b.toNat) ∨ (0 < i ∧ b.toNat = 0)) : uP i n (b :: r) = .error 5 := by rw [uP, if_pos h]
theorem uP_last {i n : Nat} {b : UInt8} {r : List UInt8} (h : ¬ (9 < i ∨ (i = 9 ∧ 1 < b.toNat) ∨ (0 < i ∧ b.toNat = 0))) (hb : b.toNat < 128) : uP i n (b :: r) = .ok (n + b.toNat % 128 * 2 ^ (7 * i), r) := by rw [uP, if_neg h, if_pos hb]
theorem uP_more {i n : Nat} {b : UInt8} {r : List UInt8} (h : ¬ (9 < i ∨ (i = 9 ∧ 1 < b.toNat) ∨ (0 < i ∧ b.toNat = 0))) (hb : ¬ b.toNat < 128) : uP i n (b :: r) = uP (i + 1) (n + b.toNat % 128 * 2 ^ (7 * i)) r := by rw [uP, if_neg h, if_neg hb]
/-- What is left from a place on. -/
def left (s : ByteArray) (a : Nat) : List UInt8 := s.data.toList.drop a
theorem left_nil {s : ByteArray} {a : Nat} (h : s.size ≤ a) : left s a = [] := by
  unfold left
  rw [List.drop_eq_nil_iff]; simpa using h
theorem left_cons {s : ByteArray} {a : Nat} (h : a < s.size) : left s a = s[a] :: left s (a + 1) := by
  unfold left
  rw [List.drop_eq_getElem_cons (by simpa using h)]
  rfl
theorem left_len (s : ByteArray) (a : Nat) : (left s a).length = s.size - a := by
  unfold left; simp
/-- How a reading ends: an error, or what is read and the place behind it. -/
def Ends (s : ByteArray) (w : World) (g : Nat) (p : Int) {α : Type} (r : Except Nat (α × List UInt8)) (x : Ending) (w' : World) (zero : Value) (val : α → Value) : Prop :=
  Past g w w' ∧ match r with
  | .error c => x = .returned zero ∧ c ≠ 0 ∧ ∃ a : Nat, Rdr w' g s a c p
  | .ok (n, l) => x = .returned (val n) ∧ ∃ a : Nat, a ≤ s.size ∧ l = left s a ∧ Rdr w' g s a 0 p
theorem acc_eq {i n b : Nat} (hn : i ≤ 9 → n < 2 ^ (7 * i)) (h : ¬ (9 < i ∨ (i = 9 ∧ 1 < b) ∨ (0 < i ∧ b = 0))) (hb : b < 2 ^ 8) :
    IntKind.u64.wrap ((n : Int) + IntKind.u64.wrap ((b : Int) % 128 * 2 ^ (7 * i))) = ((n + b % 128 * 2 ^ (7 * i) : Nat) : Int) ∧ (i + 1 ≤ 9 → n + b % 128 * 2 ^ (7 * i) < 2 ^ (7 * (i + 1))) := by
  have hn := hn (by omega)
  rw [IntKind.wrap_u64, IntKind.wrap_u64]
  obtain rfl | rfl | rfl | rfl | rfl | rfl | rfl | rfl | rfl | rfl : i = 0 ∨ i = 1 ∨ i = 2 ∨ i = 3 ∨ i = 4 ∨ i = 5 ∨ i = 6 ∨ i = 7 ∨ i = 8 ∨ i = 9 := by omega
  case inr.inr.inr.inr.inr.inr.inr.inr.inr =>
    obtain rfl : b = 1 := by omega
    simp only [Nat.reduceMul, Nat.reduceAdd, Nat.reducePow, Int.reducePow] at *
    constructor <;> omega
  all_goals
    simp only [Nat.reduceMul, Nat.reduceAdd, Nat.reducePow, Int.reducePow] at *
    constructor <;> omega
theorem acc_0 {n b : Nat} (hn : n < 2 ^ (7 * 0)) : IntKind.u64.wrap ((n : Int) + (b : Int) % 128) = ((n + b % 128 * 2 ^ (7 * 0) : Nat) : Int) := by
  rw [IntKind.wrap_u64]
  simp only [Nat.reduceMul, Nat.reducePow] at *
  omega
theorem acc_9 {n b : Nat} (hn : n < 2 ^ (7 * 9)) (hb : b = 1) : IntKind.u64.wrap ((n : Int) + 9223372036854775808) = ((n + b % 128 * 2 ^ (7 * 9) : Nat) : Int) := by
  subst hb
  rw [IntKind.wrap_u64]
  simp only [Nat.reduceMul, Nat.reducePow] at *
  omega
set_option maxRecDepth 20000 in
set_option maxHeartbeats 4000000 in
theorem Uint_ok {w : World} {g : Nat} {s : ByteArray} {a : Nat} {p : Int} (h : Rdr w g s a 0 p) (ha : a ≤ s.size) (hs : s.size ≤ 1000000000) :
    Calls Try.prog 28 #[.pointer (some ⟨g, 0, none⟩)] w fun x w' => Ends s w g p (uP 0 0 (left s a)) x w' (.int .u64 0) (fun n => .int .u64 n) := by
  have HH := Lib.hid h
  clear h
  go_enter Try.func28, Try.ntmps28
  go_wp2_with fail
  go_loopw [3, 4] (fun nv iv wr => ∃ (i c n : Nat), i ≤ 10 ∧ c ≤ s.size ∧ nv = .int .u64 n ∧ iv = .int .i64 i ∧ (i ≤ 9 → n < 2 ^ (7 * i)) ∧ Hid (uP i n (left s c) = uP 0 0 (left s a)) ∧ Rdr wr g s c 0 p ∧ Past g w wr) (fun _ iv _ => 11 - (intOf iv).toNat)
  case atStart => exact ⟨0, a, 0, by omega, ha, rfl, rfl, fun _ => by decide, Lib.hid rfl, HH.out, Past.refl _ _⟩
  case round =>
    obtain ⟨i, c, n, hi, hc, rfl, rfl, hn, hu, hr, hp⟩ := hrel
    by_cases hlt : c < s.size
    · have B := Byte_ok hr hlt (by omega)
      obtain ⟨b, hb0⟩ : ∃ b, s[c] = b := ⟨_, rfl⟩
      have hu' := hu.out
      rw [left_cons hlt, hb0] at hu'
      rw [hb0] at B
      have hb256 := b.toNat_lt
      by_cases hbad : 9 < i ∨ (i = 9 ∧ 1 < b.toNat) ∨ (0 < i ∧ b.toNat = 0)
      · rw [uP_bad hbad] at hu'
        have HU := Lib.hid hu'
        have HP := Lib.hid hp
        clear hu hu' hr hb0 hp hn
        by_cases i10 : i = 10
        · subst i10
          go_wp2_with (first | (go_at_call 58; refine B.mono ?_; rintro e w1 ⟨rfl, h1, hp1⟩; obtain ⟨d0, d1, d2, d3, df⟩ := h1.cells; have F := fail_0 h1 5) | (go_at_call 59; refine F.mono ?_; rintro e w2 ⟨rfl, h2, hp2⟩))
          go_ret
          refine ⟨(HP.out.trans hp1).trans hp2, ?_⟩
          rw [← HU.out]
          exact ⟨rfl, by decide, _, h2⟩
        · by_cases i9 : i = 9
          · subst i9
            by_cases b1 : 1 < b.toNat
            · have t1 : decide ((1 : Int) < (b.toNat : Int)) = true := by simp; omega
              go_wp2_with (first | (go_at_call 58; refine B.mono ?_; rintro e w1 ⟨rfl, h1, hp1⟩; obtain ⟨d0, d1, d2, d3, df⟩ := h1.cells; have F := fail_0 h1 5) | (go_at_call 59; refine F.mono ?_; rintro e w2 ⟨rfl, h2, hp2⟩))
              go_ret
              refine ⟨(HP.out.trans hp1).trans hp2, ?_⟩
              rw [← HU.out]
              exact ⟨rfl, by decide, _, h2⟩
            · have t1 : decide ((1 : Int) < (b.toNat : Int)) = false := by simp; omega
              have t0 : ((b.toNat : Int) == 0) = true := by simp; omega
              go_wp2_with (first | (go_at_call 58; refine B.mono ?_; rintro e w1 ⟨rfl, h1, hp1⟩; obtain ⟨d0, d1, d2, d3, df⟩ := h1.cells; have F := fail_0 h1 5) | (go_at_call 59; refine F.mono ?_; rintro e w2 ⟨rfl, h2, hp2⟩))
              go_ret
              refine ⟨(HP.out.trans hp1).trans hp2, ?_⟩
              rw [← HU.out]
              exact ⟨rfl, by decide, _, h2⟩
          · have t9 : decide ((9 : Int) < (i : Int)) = false := by simp; omega
            have t9' : ((i : Int) == 9) = false := by simp; omega
            have ti : decide ((0 : Int) < (i : Int)) = true := by simp; omega
            have t0 : ((b.toNat : Int) == 0) = true := by simp; omega
            go_wp2_with (first | (go_at_call 58; refine B.mono ?_; rintro e w1 ⟨rfl, h1, hp1⟩; obtain ⟨d0, d1, d2, d3, df⟩ := h1.cells; have F := fail_0 h1 5) | (go_at_call 59; refine F.mono ?_; rintro e w2 ⟨rfl, h2, hp2⟩))
            go_ret
            refine ⟨(HP.out.trans hp1).trans hp2, ?_⟩
            rw [← HU.out]
            exact ⟨rfl, by decide, _, h2⟩
      · have hE := acc_eq hn hbad hb256
        by_cases hl : b.toNat < 128
        · rw [uP_last hbad hl] at hu'
          have HU := Lib.hid hu'
          have HP := Lib.hid hp
          have HE := Lib.hid hE
          have HN := Lib.hid hn
          clear hu hu' hr hb0 hp hE hn
          by_cases i0 : i = 0
          · subst i0
            have H0 := Lib.hid (acc_0 (b := b.toNat) (HN.out (by omega)))
            have tl : decide ((b.toNat : Int) < 128) = true := by simp; omega
            go_wp2_with (go_at_call 58; refine B.mono ?_; rintro e w1 ⟨rfl, h1, hp1⟩; obtain ⟨d0, d1, d2, d3, df⟩ := h1.cells)
            go_ret
            refine ⟨HP.out.trans hp1, ?_⟩
            rw [← HU.out]
            exact ⟨congrArg (fun z => Ending.returned (Value.int .u64 z)) H0.out, _, hlt, rfl, h1⟩
          · by_cases i9 : i = 9
            · subst i9
              have hb1 : b.toNat = 1 := by omega
              have t1 : decide ((1 : Int) < (b.toNat : Int)) = false := by simp; omega
              have t0 : ((b.toNat : Int) == 0) = false := by simp; omega
              have H9 := Lib.hid (acc_9 (HN.out (by omega)) hb1)
              have tl : decide ((b.toNat : Int) < 128) = true := by simp; omega
              go_wp2_with (go_at_call 58; refine B.mono ?_; rintro e w1 ⟨rfl, h1, hp1⟩; obtain ⟨d0, d1, d2, d3, df⟩ := h1.cells)
              go_ret
              refine ⟨HP.out.trans hp1, ?_⟩
              rw [← HU.out]
              exact ⟨congrArg (fun z => Ending.returned (Value.int .u64 z)) H9.out, _, hlt, rfl, h1⟩
            · have t9 : decide ((9 : Int) < (i : Int)) = false := by simp; omega
              have t9' : ((i : Int) == 9) = false := by simp; omega
              have ti : decide ((0 : Int) < (i : Int)) = true := by simp; omega
              have t0 : ((b.toNat : Int) == 0) = false := by simp; omega
              have tl : decide ((b.toNat : Int) < 128) = true := by simp; omega
              go_wp2_with (go_at_call 58; refine B.mono ?_; rintro e w1 ⟨rfl, h1, hp1⟩; obtain ⟨d0, d1, d2, d3, df⟩ := h1.cells)
              go_ret
              refine ⟨HP.out.trans hp1, ?_⟩
              rw [← HU.out]
              exact ⟨congrArg (fun z => Ending.returned (Value.int .u64 z)) HE.out.1, _, hlt, rfl, h1⟩
        · rw [uP_more hbad hl] at hu'
          have HU := Lib.hid hu'
          have HP := Lib.hid hp
          have HE := Lib.hid hE
          have HN := Lib.hid hn
          clear hu hu' hr hb0 hp hE hn
          by_cases i0 : i = 0
          · subst i0
            have H0 := Lib.hid (acc_0 (b := b.toNat) (HN.out (by omega)))
            have tl : decide ((b.toNat : Int) < 128) = false := by simp; omega
            go_wp2_with (go_at_call 58; refine B.mono ?_; rintro e w1 ⟨rfl, h1, hp1⟩; obtain ⟨d0, d1, d2, d3, df⟩ := h1.cells)
            go_roundw
            case rel => exact ⟨1, c + 1, _, by omega, hlt, congrArg (Value.int .u64) H0.out, by go_num, HE.out.2, HU, h1, HP.out.trans hp1⟩
            case measure => simp [intOf] <;> omega
          · by_cases i9 : i = 9
            · subst i9
              have hb1 : b.toNat = 1 := by omega
              omega
            · have t9 : decide ((9 : Int) < (i : Int)) = false := by simp; omega
              have t9' : ((i : Int) == 9) = false := by simp; omega
              have ti : decide ((0 : Int) < (i : Int)) = true := by simp; omega
              have t0 : ((b.toNat : Int) == 0) = false := by simp; omega
              have tl : decide ((b.toNat : Int) < 128) = false := by simp; omega
              go_wp2_with (go_at_call 58; refine B.mono ?_; rintro e w1 ⟨rfl, h1, hp1⟩; obtain ⟨d0, d1, d2, d3, df⟩ := h1.cells)
              go_roundw
              case rel => exact ⟨i + 1, c + 1, _, by omega, hlt, congrArg (Value.int .u64) HE.out.1, by go_num, HE.out.2, HU, h1, HP.out.trans hp1⟩
              case measure => simp [intOf] <;> omega
    · have B := Byte_end hr (by omega)
      have hu' := hu.out
      rw [left_nil (by omega), uP_nil] at hu'
      have HU := Lib.hid hu'
      have HP := Lib.hid hp
      clear hu hu' hr hp
      go_wp2_with (go_at_call 58; refine B.mono ?_; rintro e w1 ⟨rfl, h1, hp1⟩; obtain ⟨d0, d1, d2, d3, df⟩ := h1.cells)
      go_ret
      refine ⟨HP.out.trans hp1, ?_⟩
      rw [← HU.out]
      exact ⟨rfl, by decide, _, h1⟩
end Go.Proofs.Yteclpehbpicpaaa
