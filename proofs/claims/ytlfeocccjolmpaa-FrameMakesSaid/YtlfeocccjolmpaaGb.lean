/-
  The document's Sum.
-/
import Derived.Test.YtlfeocccjolmpaaGa
import Derived.Test.YtlfeocccjolmpaaRows
import Derived.WalkKit
import Derived.WalkLawsBesides
import Derived.Laws.Externs
import Derived.Lib.EndianBits
import Derived.Outline
import Derived.Laws.BitsAllLaws
import Derived.OwnWalk
import Derived.Maps.AppendAt
import Derived.Laws.IdiomStrings
import Derived.StillTailTactics
namespace Go.Proofs.Ytlfeocccjolmpaa
open Go.RowKit

def strL (l : List UInt8) : ByteArray := ⟨l.toArray⟩
theorem strL_self (s : ByteArray) : strL s.data.toList = s := rfl
theorem strL_list (l : List UInt8) : (strL l).data.toList = l := rfl
theorem strL_size (l : List UInt8) : (strL l).size = l.length := rfl
theorem strL_append (a b : List UInt8) : strL a ++ strL b = strL (a ++ b) := by
  apply ByteArray.ext; unfold strL; simp
theorem lst_len (s : ByteArray) : s.data.toList.length = s.size := rfl
def left (s : ByteArray) (a : Nat) : List UInt8 := s.data.toList.drop a
theorem left_nil {s : ByteArray} {a : Nat} (h : s.size ≤ a) : left s a = [] := by
  unfold left
  rw [List.drop_eq_nil_iff]; simpa using h
theorem left_cons {s : ByteArray} {a : Nat} (h : a < s.size) : left s a = s[a] :: left s (a + 1) := by
  unfold left
  rw [List.drop_eq_getElem_cons (by simpa using h)]
  rfl
theorem left_len (s : ByteArray) (a : Nat) : (left s a).length = s.size - a := by
  unfold left; simp
theorem left_0 (s : ByteArray) : left s 0 = s.data.toList := List.drop_zero
theorem flip_all {c : Nat} (h : c < 4294967296) : bits .xor .u32 IntKind.u32.max (c : Int) = ((4294967295 - c : Nat) : Int) := by
  have e : IntKind.u32.max = ((4294967295 : Nat) : Int) := by decide
  rw [e, u32_xor_nat 4294967295 c (by decide) h]
  have h1 : (BitVec.allOnes 32 ^^^ BitVec.ofNat 32 c).toNat = (~~~ BitVec.ofNat 32 c).toNat := by rw [BitVec.allOnes_xor]
  rw [BitVec.toNat_xor, BitVec.toNat_not, BitVec.toNat_allOnes, BitVec.toNat_ofNat, Nat.mod_eq_of_lt (show c < 2 ^ 32 by omega)] at h1
  have h2 : (2 : Nat) ^ 32 - 1 = 4294967295 := by decide
  rw [h2] at h1
  rw [h1]
set_option maxRecDepth 20000 in
set_option maxHeartbeats 1000000 in
theorem Sum_any {s : ByteArray} (hs : s.size ≤ 9223372036854775807) (w : World) :
    Calls Try.prog 11 #[.string s] w fun e w' => e = .returned (.int .u32 (sumN s.data.toList)) ∧ w' = w := by
  go_enter Try.func11, Try.ntmps11
  go_wp2_with fail
  go_loopw [3, 4] (fun cv iv wr => ∃ (c i : Nat), i ≤ s.size ∧ cv = .int .u32 c ∧ iv = .int .i64 i ∧ c < 4294967296 ∧ Hid (cl c (left s i) = cl 4294967295 s.data.toList) ∧ wr = w) (fun _ iv _ => s.size - (intOf iv).toNat)
  case atStart => exact ⟨4294967295, 0, Nat.zero_le _, rfl, rfl, by decide, Lib.hid (by rw [left_0]), rfl⟩
  case round =>
    obtain ⟨c, i, hi, rfl, rfl, hc, hl, rfl⟩ := hrel
    by_cases hlt : i < s.size
    · have hl' := hl.out
      rw [left_cons hlt] at hl'
      obtain ⟨b, hb⟩ : ∃ b, s[i] = b := ⟨_, rfl⟩
      rw [hb] at hl'
      have hb256 := u8_lt b
      have hx := u32_xor_nat c b.toNat hc (by omega)
      have hm := mix_lt hc hb256
      have HL := Lib.hid hl'
      clear hl hl'
      go_wp2_with fail
      go_loopw [3, 5] (fun cv kv wq => ∃ (d k : Nat), k ≤ 8 ∧ cv = .int .u32 d ∧ kv = .int .i64 k ∧ d < 4294967296 ∧ Hid (csn (8 - k) d = cb c b.toNat) ∧ wq = wr) (fun _ kv _ => 8 - (intOf kv).toNat)
      case atStart => exact ⟨c ^^^ b.toNat, 0, by omega, rfl, rfl, hm, Lib.hid rfl, rfl⟩
      case round =>
        obtain ⟨d, k, hk, rfl, rfl, hd, hn, rfl⟩ := hrel
        by_cases hk8 : k < 8
        · obtain ⟨j, hj⟩ : ∃ j, 8 - k = j + 1 := ⟨7 - k, by omega⟩
          have hn' := hn.out
          rw [hj] at hn'
          have HN := Lib.hid hn'
          clear hn hn'
          by_cases h1 : d % 2 = 1
          · have hx2 : bits .xor .u32 ((d / 2 : Nat) : Int) 3988292384 = (((d / 2) ^^^ 3988292384 : Nat) : Int) := u32_xor_nat (d / 2) 3988292384 (by omega) (by decide)
            have q0 : ((d : Int)).tmod 2 = (d : Int) % 2 := Int.tmod_eq_emod_of_nonneg (by omega)
            have q1 : ((((d : Int)).tmod 2) == 1) = true := by rw [q0]; simp; omega
            clear q0
            go_wp2_with fail
            go_roundw
            case rel =>
              refine ⟨cs d, k + 1, by omega, ?_, by go_num, cs_lt hd, Lib.hid ?_, trivial⟩
              · have e : cs d = (d / 2) ^^^ 3988292384 := by unfold cs; rw [if_pos h1]
                rw [e, ← hx2]; rfl
              · have e : 8 - (k + 1) = j := by omega
                rw [e]; exact HN.out
            case measure => simp [intOf]; omega
          · have q0 : ((d : Int)).tmod 2 = (d : Int) % 2 := Int.tmod_eq_emod_of_nonneg (by omega)
            have q1 : ((((d : Int)).tmod 2) == 1) = false := by rw [q0]; simp; omega
            clear q0
            go_wp2_with fail
            go_roundw
            case rel =>
              refine ⟨cs d, k + 1, by omega, ?_, by go_num, cs_lt hd, Lib.hid ?_, trivial⟩
              · have e : cs d = d / 2 := by unfold cs; rw [if_neg h1]
                rw [e]; rfl
              · have e : 8 - (k + 1) = j := by omega
                rw [e]; exact HN.out
            case measure => simp [intOf]; omega
        · have hn' := hn.out
          have e0 : 8 - k = 0 := by omega
          rw [e0] at hn'
          have ed : d = cb c b.toNat := hn'
          have HE := Lib.hid ed
          clear hn hn' e0 ed
          go_wp2_with fail
          go_roundw
          case rel => exact ⟨d, i + 1, by omega, rfl, by go_num, hd, Lib.hid (by rw [HE.out]; exact HL.out), trivial⟩
          case measure => simp [intOf]; omega
    · have hl' := hl.out
      rw [left_nil (by omega)] at hl'
      have ec : c = cl 4294967295 s.data.toList := hl'
      have HC := Lib.hid ec
      clear hl hl' ec
      have hm := flip_all hc
      go_wp2_with fail
      go_ret
      refine ⟨?_, rfl⟩
      rw [HC.out]
      rfl
end Go.Proofs.Ytlfeocccjolmpaa
