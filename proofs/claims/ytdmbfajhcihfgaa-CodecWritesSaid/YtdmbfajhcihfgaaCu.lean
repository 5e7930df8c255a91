/-
  Contracts of basculeref05's Uint, Int, Str.
-/
import Derived.Test.YtdmbfajhcihfgaaVn
import Derived.Lib.UnsafeStr
import Derived.OwnWalk
import Derived.Maps.AppendAt
import Derived.Laws.IdiomStrings
namespace Go.Proofs.Ytdmbfajhcihfgaa
open Go.RowKit

def strL (l : List UInt8) : ByteArray := ⟨l.toArray⟩
theorem strL_append (a b : List UInt8) : strL a ++ strL b = strL (a ++ b) := by
  apply ByteArray.ext; unfold strL; simp
/-- The groups of seven bits, the lowest first. -/
def uintL (n : Nat) : List UInt8 := if n < 128 then [UInt8.ofNat n] else UInt8.ofNat (n % 128 + 128) :: uintL (n / 128)
termination_by n
decreasing_by omega
theorem uintL_last {n : Nat} (h : n < 128) : uintL n = [UInt8.ofNat n] := by rw [uintL, if_pos h]
theorem uintL_more {n : Nat} (h : ¬ n < 128) : uintL n = UInt8.ofNat (n % 128 + 128) :: uintL (n / 128) := by rw [uintL, if_neg h]
theorem uintL_len : ∀ (k n : Nat), n < 128 ^ k → 1 ≤ k → (uintL n).length ≤ k := by
  intro k
  induction k with
  | zero => intro n _ h; omega
  | succ k ih =>
    intro n hn _
    by_cases hz : n < 128
    · rw [uintL_last hz]; simp
    · rw [uintL_more hz]
      have h10 : n / 128 < 128 ^ k := by rw [Nat.pow_succ] at hn; omega
      have hk : 1 ≤ k := by
        rcases Nat.eq_zero_or_pos k with rfl | h
        · simp at h10; omega
        · exact h
      have := ih _ h10 hk
      simp; omega
theorem uintL_len10 {n : Nat} (h : n < 18446744073709551616) : (uintL n).length ≤ 10 := uintL_len 10 n (by omega) (by omega)
theorem uintL_pos (n : Nat) : 1 ≤ (uintL n).length := by
  rw [uintL]; split <;> simp
theorem info5 : (Try.prog.info? 5).map (fun i => (i.zero, i.size, i.bytes)) = some (some (.int .u8 0), 1, 1) := by kernel_rfl
theorem owns_one (w : World) (x : Value) : (w.alloc (.cells #[x] 5)).ownsRow w.heap.size 5 1 (.slice (some ⟨w.heap.size, 0, none⟩) 1 1) 1 [x] :=
  ⟨rfl, .inr ⟨w.heap.size, 1, #[x], rfl, Nat.le_refl _, by first | exact Array.getElem?_push_size | (simp; rfl) | (unfold World.alloc; exact Array.getElem?_push_size), Nat.le_refl _, by unfold maxLen; omega, rfl, rfl⟩⟩
theorem owns_slice {w : World} {B : Nat} {v : Value} {n : Nat} {xs : List Value} (h : w.ownsRow B 5 1 v n xs) (hn : 0 < n) : ∃ g cap, v = .slice (some ⟨g, 0, none⟩) n cap := by
  rcases h.2 with ⟨_, h⟩ | ⟨g, cap, _, h, _⟩
  · omega
  · exact ⟨g, cap, h⟩
set_option maxRecDepth 20000 in
set_option maxHeartbeats 2000000 in
theorem Uint_any {n : Nat} (hn : n < 18446744073709551616) (w : World) : Calls Try.prog 18 #[.int .u64 n] w fun e w' => e = .returned (.string (strL (uintL n))) ∧ Below w.heap.size w w' := by
  obtain ⟨i0, hi, hz0, hz1, hz2⟩ := info_parts info5
  have hn' := Lib.hid hn
  have hO : (w.alloc (.cells #[] 5)).ownsRow w.heap.size 5 1 (.slice (some ⟨w.heap.size, 0, none⟩) 0 0) 0 [] := World.ownsRow_lit w #[] 0 (Nat.le_refl _) (by unfold maxLen; omega) rfl
  have HO := Lib.hid hO
  have HB := Lib.hid (show Below w.heap.size w (w.alloc (.cells #[] 5)) from (Below.refl _ _).alloc (Nat.le_refl _) _)
  clear hn hO
  go_enter Try.func18, Try.ntmps18
  go_wp2_with fail
  go_loopw [0, 3] (fun nv v wr => ∃ (m g cap : Nat) (L : List UInt8), m ≤ n ∧ nv = .int .u64 m ∧ v = .slice (some ⟨g, 0, none⟩) L.length cap ∧ Hid (L ++ uintL m = uintL n) ∧ wr.ownsRow w.heap.size 5 1 (.slice (some ⟨g, 0, none⟩) L.length cap) L.length (Lib.byteCells L) ∧ Below w.heap.size w wr) (fun nv _ _ => (intOf nv).toNat)
  case atStart => exact ⟨n, w.heap.size, 0, [], Nat.le_refl _, rfl, rfl, Lib.hid (by simp), HO.out, HB.out⟩
  case round =>
    obtain ⟨m, g, cap, L, hm, rfl, rfl, hL, hown, hb⟩ := hrel
    have hsz := hb.size
    have hlen : L.length + 1 ≤ 10 := by
      have h1 := uintL_len10 hn'.out
      rw [← hL.out, List.length_append] at h1
      have := uintL_pos m
      omega
    have hmb : m < 18446744073709551616 := by have := hn'.out; omega
    by_cases h128 : m < 128
    · have hF : Hid (L ++ [UInt8.ofNat m] = uintL n) := Lib.hid (by rw [← hL.out, uintL_last h128])
      clear hL
      have hcell : Hid (([.int .u8 (m : Int)] : List Value) = Lib.byteCells [UInt8.ofNat m]) := Lib.hid (by
        simp [Lib.byteCells]; omega)
      have t1 : decide ((128 : Int) ≤ (m : Int)) = false := by simp; omega
      have HM := Lib.hid hmb
      clear hmb
      go_wp2_with (first | (at_builtin; refine wpList_append_own _ rfl (.tmp 16) (.tmp 19) 67 rfl w.heap.size 5 i0 (.int .u8 0) 1 1 Try.underlying67 hi hz0 hz1 hz2 rfl (by decide) _ _ _ rfl (hown.alloc _) ⟨wr.heap.size, 0, none⟩ 1 1 [.int .u8 (m : Int)] rfl rfl (cell_one_new _ _ _) (fun x hx => by simp at hx; subst hx; rfl) (by unfold maxLen; omega) (by omega) (by simp; omega) ?_; intro v' w3 hown' hgrow3 hnil3; refine Hid.out ?_))
      refine Lib.hid ?_
      obtain ⟨g3, cap3, rfl⟩ := owns_slice hown' (by omega)
      have hb3 : Below w.heap.size w w3 := (hb.alloc hsz _).grown hgrow3 (by simp; omega) (fun q hq => (hown.lt q hq).1)
      obtain ⟨M, hM⟩ : ∃ M, M = L ++ [UInt8.ofNat m] := ⟨_, rfl⟩
      have hMl : L.length + 1 = M.length := by rw [hM]; simp
      have hown3 : w3.ownsRow w.heap.size 5 1 (.slice (some ⟨g3, 0, none⟩) (L.length + 1) cap3) M.length (Lib.byteCells M) := by
        rw [hcell.out, ← Lib.byteCells_append, ← hM, hMl] at hown'
        rw [hMl]; exact hown'
      have hcv := run_convert_bytes_back (P := Try.prog) w3 67 9 5 ⟨g3, 0, none⟩ cap3 M Try.underlying67 Try.underlying5 Try.underlying9 (fun j hj => hown3.cells (g := g3) rfl j _ (by simp [Lib.byteCells, hj]))
      rw [← hM] at hF
      rw [← hMl] at hcv
      have HB3 := Lib.hid hb3
      clear hown' hgrow3 hnil3 hown hb hown3 hb3 hM hMl
      go_wp2_with fail
      go_ret
      exact ⟨by rw [← hF.out]; rfl, HB3.out⟩
    · have hN : Hid ((L ++ [UInt8.ofNat (m % 128 + 128)]) ++ uintL (m / 128) = uintL n) := Lib.hid (by rw [← hL.out, uintL_more h128]; simp)
      have hcell : Hid (([.int .u8 ((m : Int) % 128 + 128)] : List Value) = Lib.byteCells [UInt8.ofNat (m % 128 + 128)]) := Lib.hid (by
        simp [Lib.byteCells]; omega)
      clear hL
      have D : IntKind.u64.wrap ((m : Int) / 128) = ((m / 128 : Nat) : Int) := by rw [IntKind.wrap_u64]; omega
      have HM := Lib.hid hmb
      clear hmb
      have t1 : decide ((128 : Int) ≤ (m : Int)) = true := by simp; omega
      clear h128
      go_wp2_with (first | (at_builtin; refine wpList_append_own _ rfl (.tmp 7) (.tmp 12) 67 rfl w.heap.size 5 i0 (.int .u8 0) 1 1 Try.underlying67 hi hz0 hz1 hz2 rfl (by decide) _ _ _ rfl (hown.alloc _) ⟨wr.heap.size, 0, none⟩ 1 1 [.int .u8 ((m : Int) % 128 + 128)] rfl rfl (cell_one_new _ _ _) (fun x hx => by simp at hx; subst hx; rfl) (by unfold maxLen; omega) (by omega) (by simp; omega) ?_; intro v' w3 hown' hgrow3 hnil3; refine Hid.out ?_))
      refine Lib.hid ?_
      obtain ⟨g3, cap3, rfl⟩ := owns_slice hown' (by omega)
      have hb3 : Below w.heap.size w w3 := (hb.alloc hsz _).grown hgrow3 (by simp; omega) (fun q hq => (hown.lt q hq).1)
      have hown3 : w3.ownsRow w.heap.size 5 1 (.slice (some ⟨g3, 0, none⟩) (L ++ [UInt8.ofNat (m % 128 + 128)]).length cap3) (L ++ [UInt8.ofNat (m % 128 + 128)]).length (Lib.byteCells (L ++ [UInt8.ofNat (m % 128 + 128)])) := by
        rw [hcell.out, ← Lib.byteCells_append] at hown'
        simpa using hown'
      have HO3 := Lib.hid hown3
      have HB3 := Lib.hid hb3
      have hlt : Hid (m / 128 ≤ n ∧ m / 128 < m) := Lib.hid ⟨by omega, by have := t1; simp at this; omega⟩
      clear hown' hgrow3 hnil3 hown hb hown3 hb3
      go_wp2_with fail
      go_roundw
      case rel => exact ⟨m / 128, g3, cap3, _, hlt.out.1, rfl, by simp, hN, HO3.out, HB3.out⟩
      case measure => have := hlt.out.2; simp [intOf]; omega
/-- A number with a sign, as one without. -/
def zig (n : Int) : Nat := if n < 0 then ((-1 - n) * 2 + 1).toNat else (n * 2).toNat
theorem zig_lt {n : Int} (h : -9223372036854775808 ≤ n ∧ n ≤ 9223372036854775807) : zig n < 18446744073709551616 := by unfold zig; split <;> omega
set_option maxRecDepth 20000 in
theorem Int_any {n : Int} (h : -9223372036854775808 ≤ n ∧ n ≤ 9223372036854775807) (w : World) : Calls Try.prog 20 #[.int .i64 n] w fun e w' => e = .returned (.string (strL (uintL (zig n)))) ∧ Below w.heap.size w w' := by
  have U := Uint_any (zig_lt h)
  by_cases h0 : n < 0
  · have hz : ((zig n : Nat) : Int) = (-1 - n) * 2 + 1 := by unfold zig; rw [if_pos h0]; omega
    have HI := Lib.hid hz
    rw [hz] at U
    generalize zig n = z at *
    have E0 : IntKind.i64.wrap (-1 - n) = -1 - n := by rw [IntKind.wrap_i64]; omega
    have E1 : IntKind.u64.wrap (-1 - n) = -1 - n := by rw [IntKind.wrap_u64]; omega
    have E2 : IntKind.u64.wrap ((-1 - n) * 2) = (-1 - n) * 2 := by rw [IntKind.wrap_u64]; omega
    have E3 : IntKind.u64.wrap ((-1 - n) * 2 + 1) = (-1 - n) * 2 + 1 := by rw [IntKind.wrap_u64]; omega
    clear h hz
    go_enter Try.func20, Try.ntmps20
    go_wp2_with (go_at_call 18; refine (U _).mono ?_; rintro e w1 ⟨rfl, hb1⟩)
    go_ret
    exact ⟨rfl, hb1⟩
  · have hz : ((zig n : Nat) : Int) = n * 2 := by unfold zig; rw [if_neg h0]; omega
    have HI := Lib.hid hz
    rw [hz] at U
    generalize zig n = z at *
    have E1 : IntKind.u64.wrap n = n := by rw [IntKind.wrap_u64]; omega
    have E2 : IntKind.u64.wrap (n * 2) = n * 2 := by rw [IntKind.wrap_u64]; omega
    clear h hz
    go_enter Try.func20, Try.ntmps20
    go_wp2_with (go_at_call 18; refine (U _).mono ?_; rintro e w1 ⟨rfl, hb1⟩)
    go_ret
    exact ⟨rfl, hb1⟩
/-- A string's bytes. -/
def strB (t : ByteArray) : ByteArray := strL (uintL t.size) ++ t
theorem Str_any {t : ByteArray} (h : t.size ≤ 1000000000) (w : World) : Calls Try.prog 22 #[.string t] w fun e w' => e = .returned (.string (strB t)) ∧ Below w.heap.size w w' := by
  have U := Uint_any (n := t.size) (by omega)
  have hl := uintL_len10 (n := t.size) (by omega)
  have hz : ¬ 9223372036854775807 < (strL (uintL t.size)).size + t.size := by
    have : (strL (uintL t.size)).size = (uintL t.size).length := rfl
    omega
  unfold strB
  generalize strL (uintL t.size) = x at *
  clear hl
  go_enter Try.func22, Try.ntmps22
  go_wp2_with (go_at_call 18; refine (U _).mono ?_; rintro e w1 ⟨rfl, hb1⟩)
  go_ret
  exact ⟨rfl, hb1⟩
end Go.Proofs.Ytdmbfajhcihfgaa
