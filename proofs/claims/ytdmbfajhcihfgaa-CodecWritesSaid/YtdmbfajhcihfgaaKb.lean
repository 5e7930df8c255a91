/-
  Contracts of the program's Uint, appendInt, Int, appendStr, Str.
-/
import Derived.Test.YtdmbfajhcihfgaaKa
import Derived.Lib.AppendStr
namespace Go.Proofs.Ytdmbfajhcihfgaa
open Go.RowKit

theorem conv_row {w : World} {B : Nat} {v : Value} {L : List UInt8} (h : Row5 w B v L) (h0 : 0 < L.length) : (convert 67 9 v).run Try.prog w = .ok (.string (strL L)) w := by
  rcases h.2 with ⟨_, h1⟩ | ⟨g, cap, cur, hv, _⟩
  · omega
  · subst hv
    exact run_convert_bytes_back (P := Try.prog) w 67 9 5 ⟨g, 0, none⟩ cap L Try.underlying67 Try.underlying5 Try.underlying9 (fun j hj => World.ownsRow.cells h (g := g) rfl j _ (by simp [Lib.byteCells, hj]))
theorem Uint_f {n : Nat} (hn : n < 18446744073709551616) (w : World) : Calls Try.prog 17 #[.int .u64 n] w fun e w' => e = .returned (.string (strL (uintL n))) ∧ Below w.heap.size w w' := by
  have A := addUint_any hn (w := w) (Row5.nil w w.heap.size) (Nat.le_refl _) (by simp)
  rw [List.nil_append] at A
  have hp := uintL_pos n
  generalize uintL n = L at *
  go_enter Try.func17, Try.ntmps17
  go_wp2_with (go_at_call 43; refine A.mono ?_; rintro e w1 ⟨v', rfl, hr, hk⟩; have hcv := conv_row hr hp; have HR := Lib.hid hr; clear hr)
  go_ret
  exact ⟨rfl, hk.below (Nat.le_refl _)⟩
set_option maxRecDepth 20000 in
theorem addInt_any {n : Int} (h : -9223372036854775808 ≤ n ∧ n ≤ 9223372036854775807) {w : World} {B : Nat} {v : Value} {L0 : List UInt8} (hv : Row5 w B v L0) (hB : B ≤ w.heap.size) (hL0 : L0.length ≤ 1000000000) :
    Calls Try.prog 44 #[v, .int .i64 n] w (AddsTo w B (L0 ++ uintL (zig n))) := by
  have U := addUint_any (zig_lt h) hv hB hL0
  obtain ⟨A, cap, rfl⟩ := hv.slice
  by_cases h0 : n < 0
  · have hz : ((zig n : Nat) : Int) = (-(n + 1)) * 2 + 1 := by unfold zig; rw [if_pos h0]; omega
    rw [hz] at U
    generalize uintL (zig n) = M at *
    have E0 : IntKind.i64.wrap (n + 1) = n + 1 := by rw [IntKind.wrap_i64]; omega
    have E00 : IntKind.i64.wrap (-(n + 1)) = -(n + 1) := by rw [IntKind.wrap_i64]; omega
    have E1 : IntKind.u64.wrap (-(n + 1)) = -(n + 1) := by rw [IntKind.wrap_u64]; omega
    have E2 : IntKind.u64.wrap (-(n + 1) * 2) = -(n + 1) * 2 := by rw [IntKind.wrap_u64]; omega
    have E3 : IntKind.u64.wrap (-(n + 1) * 2 + 1) = -(n + 1) * 2 + 1 := by rw [IntKind.wrap_u64]; omega
    clear hz hv
    go_enter Try.func44, Try.ntmps44
    go_wp2_with (go_at_call 43; refine U.mono ?_; rintro e w1 ⟨v', rfl, hr, hk⟩; have HR := Lib.hid hr; clear hr)
    go_ret
    exact ⟨_, rfl, HR.out, hk⟩
  · have hz : ((zig n : Nat) : Int) = n * 2 := by unfold zig; rw [if_neg h0]; omega
    rw [hz] at U
    generalize uintL (zig n) = M at *
    have E1 : IntKind.u64.wrap n = n := by rw [IntKind.wrap_u64]; omega
    have E2 : IntKind.u64.wrap (n * 2) = n * 2 := by rw [IntKind.wrap_u64]; omega
    clear hz hv
    go_enter Try.func44, Try.ntmps44
    go_wp2_with (go_at_call 43; refine U.mono ?_; rintro e w1 ⟨v', rfl, hr, hk⟩; have HR := Lib.hid hr; clear hr)
    go_ret
    exact ⟨_, rfl, HR.out, hk⟩
theorem Int_f {n : Int} (h : -9223372036854775808 ≤ n ∧ n ≤ 9223372036854775807) (w : World) : Calls Try.prog 19 #[.int .i64 n] w fun e w' => e = .returned (.string (strL (uintL (zig n)))) ∧ Below w.heap.size w w' := by
  have A := addInt_any h (w := w) (Row5.nil w w.heap.size) (Nat.le_refl _) (by simp)
  rw [List.nil_append] at A
  have hp := uintL_pos (zig n)
  generalize uintL (zig n) = L at *
  clear h
  go_enter Try.func19, Try.ntmps19
  go_wp2_with (go_at_call 44; refine A.mono ?_; rintro e w1 ⟨v', rfl, hr, hk⟩; have hcv := conv_row hr hp; have HR := Lib.hid hr; clear hr)
  go_ret
  exact ⟨rfl, hk.below (Nat.le_refl _)⟩
theorem Str_f {t : ByteArray} (h : t.size ≤ 1000000000) (w : World) : Calls Try.prog 21 #[.string t] w fun e w' => e = .returned (.string (strB t)) ∧ Below w.heap.size w w' := by
  have U := Uint_f (n := t.size) (by omega)
  have hl := uintL_len10 (n := t.size) (by omega)
  have hz : ¬ 9223372036854775807 < (strL (uintL t.size)).size + t.size := by
    have : (strL (uintL t.size)).size = (uintL t.size).length := rfl
    omega
  unfold strB
  generalize strL (uintL t.size) = x at *
  clear hl
  go_enter Try.func21, Try.ntmps21
  go_wp2_with (go_at_call 17; refine (U _).mono ?_; rintro e w1 ⟨rfl, hb1⟩)
  go_ret
  exact ⟨rfl, hb1⟩
/-- A string's bytes, behind how many they are. -/
def strBL (t : ByteArray) : List UInt8 := uintL t.size ++ t.data.toList
theorem strBL_eq (t : ByteArray) : strL (strBL t) = strB t := by
  unfold strBL strB
  rw [← strL_append]
  rfl
set_option maxHeartbeats 1000000 in
theorem addStr_any {t : ByteArray} (h : t.size ≤ 1000000000) {w : World} {B : Nat} {v : Value} {L0 : List UInt8} (hv : Row5 w B v L0) (hB : B ≤ w.heap.size) (hL0 : L0.length ≤ 1000000000) :
    Calls Try.prog 64 #[v, .string t] w (AddsTo w B (L0 ++ strBL t)) := by
  have U := addUint_any (n := t.size) (by omega) hv hB hL0
  have hl := uintL_len10 (n := t.size) (by omega)
  have hU : Hid ((L0 ++ uintL t.size) ++ t.data.toList = L0 ++ strBL t) := Lib.hid (by unfold strBL; simp)
  have hsz : (L0 ++ uintL t.size).length + t.size ≤ 3000000000 := by rw [List.length_append]; omega
  have ht : Hid (t.size = t.data.toList.length) := Lib.hid (by rw [Array.length_toList]; rfl)
  obtain ⟨M, hM⟩ : ∃ M, M = L0 ++ uintL t.size := ⟨_, rfl⟩
  rw [← hM] at U hU hsz
  obtain ⟨i0, hi, hz0, hz1, hz2⟩ := info_parts info5
  have HV := Lib.hid hv
  clear hM hl hv
  go_enter Try.func64, Try.ntmps64
  go_wp2_with (first | (go_at_call 43; refine U.mono ?_; rintro e w1 ⟨v1, rfl, hr, hk⟩; have HR := Lib.hid hr; have HK := Lib.hid hk; have hB1 : B ≤ w1.heap.size := Nat.le_trans hB hk.size; clear hr hk) | (at_builtin; refine Lib.wpList_append_own_string _ rfl (.tmp 9) (.tmp 10) 67 9 rfl B 5 i0 Try.underlying67 Try.underlying9 hi hz0 hz1 hz2 _ _ _ rfl HR.out t rfl (by unfold maxLen; omega) (by omega) hB1 ?_; intro v' w3 hown' hgrow3 hnil3; refine Hid.out ?_))
  refine Lib.hid ?_
  have H2 : Hid (Row5 w3 B v' (M ++ t.data.toList)) := Lib.hid (Row5.more hown' rfl ht.out)
  have HK2 : Hid (Keeps B w w3) := Lib.hid (HK.out.trans (Keeps.grown HR.out hgrow3))
  rw [hU.out] at H2
  clear hown' hgrow3 hnil3
  go_wp2_with fail
  go_ret
  exact ⟨_, rfl, H2.out, HK2.out⟩
end Go.Proofs.Ytdmbfajhcihfgaa
