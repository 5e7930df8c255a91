/-
  Contract of the program's ReadUint.
-/
import Derived.Test.YtdmbfajhcihfgaaDc
namespace Go.Proofs.Ytdmbfajhcihfgaa
open Go.RowKit

/-- What ReadUint answers. -/
def rdU (s : ByteArray) (a : Int) : Value := if a < 0 ∨ (s.size : Int) < a then .tuple #[.int .u64 0, .int .i64 0, .int .i64 3] else faceV s (fun n : Nat => .int .u64 n) (.int .u64 0) (uP 0 0 (left s a.toNat))
theorem face_three {α : Type} (s : ByteArray) {k : IntKind} (val : α → Int) (r : Except Nat (α × List UInt8)) : ∃ x y z, faceV s (fun n => .int k (val n)) (.int k 0) r = .tuple #[.int k x, .int .i64 y, .int .i64 z] := by
  cases r with
  | error c => exact ⟨_, _, _, rfl⟩
  | ok z => obtain ⟨n, l⟩ := z; exact ⟨_, _, _, rfl⟩
theorem ReadUint_f {s : ByteArray} {a : Int} {w : World} (hs : s.size ≤ 1000000000) :
    Calls Try.prog 29 #[.string s, .int .i64 a] w fun e w' => e = .returned (rdU s a) ∧ Below w.heap.size w w' := by
  by_cases h : a < 0 ∨ (s.size : Int) < a
  · have F := readU_range (f := .func (.func 55) #[] #[]) (w := w) h
    unfold rdU
    rw [if_pos h]
    clear h
    go_enter Try.func29, Try.ntmps29
    go_wp2_with (go_at_call 54; refine F.mono ?_; rintro e w1 ⟨rfl, hb1⟩)
    go_ret3
    exact ⟨rfl, hb1⟩
  · have F := readU_ok (a := a.toNat) (w := w) (show a.toNat ≤ s.size by omega) hs
    have e : ((a.toNat : Nat) : Int) = a := by omega
    rw [e] at F
    unfold rdU
    rw [if_neg h]
    obtain ⟨x, y, z, hv⟩ := face_three s (k := .u64) (fun n : Nat => (n : Int)) (uP 0 0 (left s a.toNat))
    rw [hv] at F ⊢
    clear h e hv
    go_enter Try.func29, Try.ntmps29
    go_wp2_with (go_at_call 54; refine F.mono ?_; rintro e w1 ⟨rfl, hb1⟩)
    go_ret3
    exact ⟨rfl, hb1⟩
end Go.Proofs.Ytdmbfajhcihfgaa
