/-
  Law 6's awake.
-/
import Derived.Test.YtlfeocccjolmpaaGz
namespace Go.Proofs.Ytlfeocccjolmpaa
open Go.RowKit

def frA : ByteArray := strL (frL [97])
theorem sum_nine : sumN [49, 50, 51, 52, 53, 54, 55, 56, 57] = 3421780262 := by decide +kernel
theorem make_a : makeV ⟨#[97]⟩ = .tuple #[.string frA, .int .i64 0] := rfl
theorem next_a : nextV frA 0 = .tuple #[.string ⟨#[97]⟩, .int .i64 7, .int .i64 0] := by
  unfold nextV
  rw [if_neg (by decide)]
  have e : nextL (left frA (0 : Int).toNat) = some ([97], 7) := by
    have := nextL_frame (p := [97]) (by decide) (by decide) []
    rw [List.append_nil] at this
    exact this
  rw [e]
  rfl
theorem next_8 : nextV frA 8 = .tuple #[.string ⟨#[]⟩, .int .i64 0, .int .i64 3] := by
  unfold nextV
  rw [if_pos (by right; show ((7 : Nat) : Int) < 8; decide)]
theorem frA_size : frA.size = 7 := rfl
theorem frA_head : frA.extract 0 3 = ⟨#[0, 1, 97]⟩ := by
  have h := ext_take frA 3
  apply ByteArray.ext
  apply Array.ext'
  rw [h]
  rfl
set_option maxRecDepth 20000 in
theorem awake_any (w : World) : Calls Try.prog 8 #[] w fun e w' => e = .returned (.bool true) ∧ Below w.heap.size w w' := by
  have M := fun W => LMake_any (p := ⟨#[97]⟩) W
  have N0 := fun W => LNext_any (s := frA) (a := 0) (by rw [frA_size]; decide) W
  have N8 := fun W => LNext_any (s := frA) (a := 8) (by rw [frA_size]; decide) W
  have S := fun W => LSum_any (s := ⟨#[49, 50, 51, 52, 53, 54, 55, 56, 57]⟩) (by decide) W
  rw [make_a] at M
  rw [next_a] at N0
  rw [next_8] at N8
  have e9 : (⟨#[49, 50, 51, 52, 53, 54, 55, 56, 57]⟩ : ByteArray).data.toList = [49, 50, 51, 52, 53, 54, 55, 56, 57] := rfl
  rw [e9, sum_nine] at S
  have hz := frA_size
  have hh := frA_head
  generalize frA = f at *
  clear e9
  go_enter Try.func8, Try.ntmps8
  go_wp2_with (first
    | (go_at_call 9; refine (M _).mono ?_; rintro e w1 ⟨rfl, hb⟩; have HC := Lib.hid hb; clear hb)
    | (go_at_call 14; refine (N0 _).mono ?_; clear N0; rintro e w2 ⟨rfl, hb⟩; replace HC := Lib.hid (HC.out.trans (hb.mono HC.out.size)); clear hb)
    | (go_at_call 14; refine (N8 _).mono ?_; clear N8; rintro e w3 ⟨rfl, hb⟩; replace HC := Lib.hid (HC.out.trans (hb.mono HC.out.size)); clear hb)
    | (go_at_call 10; refine (S _).mono ?_; rintro e w4 ⟨rfl, hb⟩; replace HC := Lib.hid (HC.out.trans (hb.mono HC.out.size)); clear hb))
  go_ret
  exact ⟨rfl, HC.out⟩
end Go.Proofs.Ytlfeocccjolmpaa
