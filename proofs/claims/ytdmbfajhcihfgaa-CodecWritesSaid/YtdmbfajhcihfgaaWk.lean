/-
  The law's awake: what the document fixes.
-/
import Derived.Test.YtdmbfajhcihfgaaDd
import Derived.Test.YtdmbfajhcihfgaaKf
namespace Go.Proofs.Ytdmbfajhcihfgaa
open Go.RowKit

theorem leaf_val {k n : Int} {f : Nat} {s : ByteArray} (w : World) (hk : -9223372036854775808 ≤ k ∧ k ≤ 9223372036854775807) (hn : -9223372036854775808 ≤ n ∧ n ≤ 9223372036854775807) (hf : f < 18446744073709551616) (hs : s.size ≤ maxLen) :
    Val w w.heap.size (fields k n f s none 0 0 none 0 0) (.mk k n f s 0 (fun _ => ⟨#[]⟩) 0 (fun _ => .bad)) :=
  .mk k n f s none 0 0 none 0 0 _ _ (fun _ => #[]) hk hn hf hs ⟨Nat.le_refl _, by unfold maxLen; omega⟩ ⟨Nat.le_refl _, by unfold maxLen; omega⟩ (fun h => absurd h (by omega)) (fun h => absurd h (by omega)) (fun i hi => absurd hi (by omega))
def tru : VT := .mk 1 1 0 ⟨#[]⟩ 0 (fun _ => ⟨#[]⟩) 0 (fun _ => .bad)
def hlf : VT := .mk 3 0 4609434218613702656 ⟨#[]⟩ 0 (fun _ => ⟨#[]⟩) 0 (fun _ => .bad)
theorem wr_tru : wrV tru = .tuple #[.string ⟨#[1, 1]⟩, .int .i64 0] := by kernel_rfl
theorem wr_half : wrV hlf = .tuple #[.string ⟨#[3, 63, 248, 0, 0, 0, 0, 0, 0]⟩, .int .i64 0] := by kernel_rfl
theorem rd_bad : rdU ⟨#[128, 0]⟩ 0 = .tuple #[.int .u64 0, .int .i64 0, .int .i64 5] := by kernel_rfl
theorem rd_300 : rdU ⟨#[172, 2]⟩ 0 = .tuple #[.int .u64 300, .int .i64 2, .int .i64 0] := by kernel_rfl
theorem u_300 : strL (uintL 300) = ⟨#[172, 2]⟩ := by rw [uintL_more (by omega), uintL_last (by omega)]; decide
theorem u_m3 : strL (uintL (zig (-3))) = ⟨#[5]⟩ := by
  have e : zig (-3) = 5 := by decide
  rw [e, uintL_last (by omega)]; decide
theorem s_ab : strB ⟨#[97, 98]⟩ = ⟨#[2, 97, 98]⟩ := by
  unfold strB
  have e : (⟨#[97, 98]⟩ : ByteArray).size = 2 := by decide
  rw [e, uintL_last (by omega)]; decide
set_option maxRecDepth 100000 in
set_option maxHeartbeats 2000000 in
theorem awake_any (w : World) : Calls Try.prog 8 #[] w fun e w' => e = .returned (.bool true) ∧ Below w.heap.size w w' := by
  have V1 : ∀ W, Calls Try.prog 11 #[.agg #[.int .i64 1, .int .i64 1, .float .f64 0, .string ⟨#[]⟩, .slice none 0 0, .slice none 0 0]] W fun e w' => e = .returned (.tuple #[.string ⟨#[1, 1]⟩, .int .i64 0]) ∧ Below W.heap.size W w' := fun W => by
    have h := Value_f (leaf_val (k := 1) (n := 1) (f := 0) (s := ⟨#[]⟩) W (by omega) (by omega) (by omega) (by decide))
    have e := wr_tru
    unfold tru at e
    rw [e] at h
    exact h
  have V2 : ∀ W, Calls Try.prog 11 #[.agg #[.int .i64 3, .int .i64 0, .float .f64 4609434218613702656, .string ⟨#[]⟩, .slice none 0 0, .slice none 0 0]] W fun e w' => e = .returned (.tuple #[.string ⟨#[3, 63, 248, 0, 0, 0, 0, 0, 0]⟩, .int .i64 0]) ∧ Below W.heap.size W w' := fun W => by
    have h := Value_f (leaf_val (k := 3) (n := 0) (f := 4609434218613702656) (s := ⟨#[]⟩) W (by omega) (by omega) (by omega) (by decide))
    have e := wr_half
    unfold hlf at e
    rw [e] at h
    exact h
  have R1 : ∀ W, Calls Try.prog 29 #[.string ⟨#[128, 0]⟩, .int .i64 0] W fun e w' => e = .returned (.tuple #[.int .u64 0, .int .i64 0, .int .i64 5]) ∧ Below W.heap.size W w' := fun W => by
    have h := ReadUint_f (s := ⟨#[128, 0]⟩) (a := 0) (w := W) (by decide)
    rw [rd_bad] at h
    exact h
  have R2 : ∀ W, Calls Try.prog 29 #[.string ⟨#[172, 2]⟩, .int .i64 0] W fun e w' => e = .returned (.tuple #[.int .u64 300, .int .i64 2, .int .i64 0]) ∧ Below W.heap.size W w' := fun W => by
    have h := ReadUint_f (s := ⟨#[172, 2]⟩) (a := 0) (w := W) (by decide)
    rw [rd_300] at h
    exact h
  have U1 : ∀ W, Calls Try.prog 17 #[.int .u64 300] W fun e w' => e = .returned (.string ⟨#[172, 2]⟩) ∧ Below W.heap.size W w' := fun W => by
    have h := Uint_f (n := 300) (by omega) W
    rw [u_300] at h
    exact h
  have I1 : ∀ W, Calls Try.prog 19 #[.int .i64 (-3)] W fun e w' => e = .returned (.string ⟨#[5]⟩) ∧ Below W.heap.size W w' := fun W => by
    have h := Int_f (n := -3) (by omega) W
    rw [u_m3] at h
    exact h
  have S1 : ∀ W, Calls Try.prog 21 #[.string ⟨#[97, 98]⟩] W fun e w' => e = .returned (.string ⟨#[2, 97, 98]⟩) ∧ Below W.heap.size W w' := fun W => by
    have h := Str_f (t := ⟨#[97, 98]⟩) (by decide) W
    rw [s_ab] at h
    exact h
  have HV1 := Lib.hid V1
  have HV2 := Lib.hid V2
  have HR1 := Lib.hid R1
  have HR2 := Lib.hid R2
  have HU := Lib.hid U1
  have HI := Lib.hid I1
  have HS := Lib.hid S1
  clear V1 V2 R1 R2 U1 I1 S1
  go_enter Try.func8, Try.ntmps8
  have H0 := Lib.hid (Below.refl w.heap.size w)
  go_wp2_with (first
    | (go_at_call 11; first
      | ((with_reducible refine (HV1.out _).mono ?_); rintro e w1 ⟨rfl, hb⟩; have H1 := Lib.hid (H0.out.trans hb); clear hb)
      | ((with_reducible refine (HV2.out _).mono ?_); rintro e w2 ⟨rfl, hb⟩; have H2 := Lib.hid (H1.out.trans (hb.mono H1.out.size)); clear hb))
    | (go_at_call 29; first
      | ((with_reducible refine (HR1.out _).mono ?_); rintro e w3 ⟨rfl, hb⟩; have H3 := Lib.hid (H2.out.trans (hb.mono H2.out.size)); clear hb)
      | ((with_reducible refine (HR2.out _).mono ?_); rintro e w4 ⟨rfl, hb⟩; have H4 := Lib.hid (H3.out.trans (hb.mono H3.out.size)); clear hb))
    | (go_at_call 17; refine (HU.out _).mono ?_; rintro e w5 ⟨rfl, hb⟩; have H5 := Lib.hid (H4.out.trans (hb.mono H4.out.size)); clear hb)
    | (go_at_call 19; refine (HI.out _).mono ?_; rintro e w6 ⟨rfl, hb⟩; have H6 := Lib.hid (H5.out.trans (hb.mono H5.out.size)); clear hb)
    | (go_at_call 21; refine (HS.out _).mono ?_; rintro e w7 ⟨rfl, hb⟩; have H7 := Lib.hid (H6.out.trans (hb.mono H6.out.size)); clear hb))
  go_ret
  exact ⟨rfl, H7.out⟩
end Go.Proofs.Ytdmbfajhcihfgaa
