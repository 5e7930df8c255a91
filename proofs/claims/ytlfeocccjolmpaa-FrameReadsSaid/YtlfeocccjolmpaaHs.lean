/-
  The landed package's Sum.
-/
import Derived.Test.YtlfeocccjolmpaaHt
namespace Go.Proofs.Ytlfeocccjolmpaa
open Go.RowKit

/-- Four bits at once: a look into the table, and a shift. -/
theorem half_word {c : Nat} (h : c < 4294967296) : bits .xor .u32 ((c : Int) / 16) ((tabA 16 (c % 16) : Nat) : Int) = ((csn 4 c : Nat) : Int) := by
  have h1 : tabA 16 (c % 16) = csn 4 (c % 16) := tabA_at 16 (by omega)
  have h2 : csn 4 (c % 16) < 4294967296 := csn_lt 4 (by omega)
  have e := u32_xor_nat (c / 16) (csn 4 (c % 16)) (by omega) h2
  rw [h1, show ((c : Int) / 16) = ((c / 16 : Nat) : Int) by omega, e, csn_half c]
/-- Where the table lies, and what it holds. -/
structure SW (w wr : World) (g : Nat) : Prop where
  below : Below w.heap.size w wr
  acc : wr.heap[g]? = some (.cells (arr16 (tabA 16)) 44 (0, 0))
theorem SW.start {w w1 : World} (h : Below w.heap.size w w1) : SW w ((w1.alloc (.cells (arr16 zeroA) 44)).setRow w1.heap.size (arr16 (tabA 16))) w1.heap.size :=
  ⟨below_setRow (h.alloc h.size _) h.size _, setRow_heap _ _ _ _ 44 (0, 0) (heap_alloc_new _ _ _)⟩
theorem SW.cell {w wr : World} {g : Nat} (h : SW w wr g) (c : Nat) : wr.cell? ⟨g, c % 16, none⟩ = some (.int .u32 (tabA 16 (c % 16))) :=
  (cell_of_heap h.acc _).trans (arr16_at _ _ (by omega))
set_option maxRecDepth 20000 in
set_option maxHeartbeats 2000000 in
theorem LSum_any {s : ByteArray} (hs : s.size ≤ 9223372036854775807) (w : World) : Calls Try.prog 10 #[.string s] w fun e w' => e = .returned (.int .u32 (sumN s.data.toList)) ∧ Below w.heap.size w w' := by
  have hz : ∀ W : World, (zeroValue 44).run Try.prog W = .ok (.agg (arr16 zeroA)) W := zero44
  go_enter Try.func10, Try.ntmps10
  go_wp2_with (first | (go_at_call 19; refine (half_any _).mono ?_; rintro e w1 ⟨rfl, hb1⟩) | (refine st44 rfl _ _ rfl _ _ _ rfl rfl (heap_alloc_new _ _ _) ?_))
  have hS := SW.start hb1
  clear hb1 hz
  generalize w1.heap.size = g at *
  generalize (w1.alloc (.cells (arr16 zeroA) 44)).setRow g (arr16 (tabA 16)) = w2 at *
  go_loopw [4, 9] (fun cv iv wr => ∃ (c i : Nat), i ≤ s.size ∧ cv = .int .u32 c ∧ iv = .int .i64 i ∧ c < 4294967296 ∧ Hid (cl c (left s i) = cl 4294967295 s.data.toList) ∧ wr = w2) (fun _ iv _ => s.size - (intOf iv).toNat)
  case atStart => exact ⟨4294967295, 0, Nat.zero_le _, rfl, rfl, by decide, Lib.hid (by rw [left_0]), rfl⟩
  case round =>
    obtain ⟨c, i, hi, rfl, rfl, hc, hl, rfl⟩ := hrel
    by_cases hlt : i < s.size
    · have hl' := hl.out
      rw [left_cons hlt] at hl'
      obtain ⟨b, hb⟩ : ∃ b, s[i] = b := ⟨_, rfl⟩
      rw [hb] at hl'
      have hb256 := u8_lt b
      have hx := u32_xor_nat c b.toNat hc (by omega)
      have hm := mix_lt hc hb256
      have HL := Lib.hid hl'
      clear hl hl'
      obtain ⟨d, hd⟩ : ∃ d, c ^^^ b.toNat = d := ⟨_, rfl⟩
      rw [hd] at hx hm
      have h4 : csn 4 d < 4294967296 := csn_lt 4 hm
      have hcb : cb c b.toNat = csn 4 (csn 4 d) := by rw [cb_halves, hd]
      obtain ⟨f, hf⟩ : ∃ f, csn 4 d = f := ⟨_, rfl⟩
      have hx1 := half_word hm
      have hx2 := half_word h4
      rw [hf] at hx1 hx2 h4 hcb
      have hc1 := hS.cell d
      have hc2 := hS.cell f
      go_wp2_with fail
      go_roundw
      case rel => exact ⟨csn 4 f, i + 1, by omega, rfl, by go_num, csn_lt 4 h4, Lib.hid (by rw [← hcb]; exact HL.out), trivial⟩
      case measure => simp [intOf]; omega
    · have hl' := hl.out
      rw [left_nil (by omega)] at hl'
      have ec : c = cl 4294967295 s.data.toList := hl'
      have HC := Lib.hid ec
      have HS := Lib.hid hS.below
      clear hl hl' ec hS
      have hm := flip_all hc
      go_wp2_with fail
      go_ret
      refine ⟨?_, HS.out⟩
      rw [HC.out]
      rfl
end Go.Proofs.Ytlfeocccjolmpaa
