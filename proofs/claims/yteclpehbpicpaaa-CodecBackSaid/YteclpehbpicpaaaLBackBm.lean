/-
  What CodecBack calls, in the worlds behind its two boxes.
-/
import Derived.Test.YteclpehbpicpaaaLBackAm
import Derived.Test.YteclpehbpicpaaaM38
import Derived.Test.YteclpehbpicpaaaM23
namespace Go.Proofs.Yteclpehbpicpaaa.codecBack
open Go.RowKit

theorem two_boxes {w : World} {a0 a1 a2 a3 a4 a5 b0 b1 b2 : Value} : Hid (∀ W, Below ((w.alloc (.cells #[a0, a1, a2, a3, a4, a5] 27)).alloc (.cells #[b0, b1, b2] 30)).heap.size ((w.alloc (.cells #[a0, a1, a2, a3, a4, a5] 27)).alloc (.cells #[b0, b1, b2] 30)) W →
    (W.cell? ⟨w.heap.size, 0, none⟩ = some a0 ∧ W.cell? ⟨w.heap.size, 1, none⟩ = some a1 ∧ W.cell? ⟨w.heap.size, 2, none⟩ = some a2 ∧ W.cell? ⟨w.heap.size, 3, none⟩ = some a3 ∧ W.cell? ⟨w.heap.size, 4, none⟩ = some a4 ∧ W.cell? ⟨w.heap.size, 5, none⟩ = some a5) ∧
    W.cell? ⟨w.heap.size + 1, 0, none⟩ = some b0 ∧ W.cell? ⟨w.heap.size + 1, 1, none⟩ = some b1 ∧ W.cell? ⟨w.heap.size + 1, 2, none⟩ = some b2) := Lib.hid fun W hb => by
  have h1 := box_stays (w := w) (a0 := a0) (a1 := a1) (a2 := a2) (a3 := a3) (a4 := a4) (a5 := a5) (t := 27)
  have h2 := box3_stays (w := w.alloc (.cells #[a0, a1, a2, a3, a4, a5] 27)) (a0 := b0) (a1 := b1) (a2 := b2) (t := 30)
  have hs : (w.alloc (.cells #[a0, a1, a2, a3, a4, a5] 27)).heap.size = w.heap.size + 1 := World.size_alloc _ _
  refine ⟨h1.out W (((Below.refl _ _).alloc (Nat.le_refl _) _).trans (hb.mono (by simp))), ?_⟩
  have := h2.out W hb
  rw [hs] at this
  exact this
def Yes (w : World) (e : Ending) (w' : World) : Prop := e = .returned (.bool true) ∧ Below w.heap.size w w'
/-- ReadValue amid other bytes, and Same behind it. -/
theorem call_amid_v {t : VT} {v : Array Value} {W0 : World} (hvW : ∀ W, Below W0.heap.size W0 W → Val W W.heap.size v t) (hok : okV t = true) (hvb : (valB t).size ≤ 130000) (hf : floatsIn t ∧ numsIn t) {A B : ByteArray} (hA : A.size ≤ 200) (hB : B.size ≤ 200) (W : World) (hW : Below W0.heap.size W0 W) :
    Calls Try.prog 31 #[.string (A ++ valB t ++ B), .int .i64 A.size] W fun e w' => ∃ (b0 b1 : Int) (b2 : Nat) (b3 : ByteArray) (b4 : Option Addr) (b5 b6 : Nat) (b7 : Option Addr) (b8 b9 : Nat), e = .returned (.tuple #[.agg #[.int .i64 b0, .int .i64 b1, .float .f64 b2, .string b3, .slice b4 b5 b6, .slice b7 b8 b9], .int .i64 ((A.size : Int) + ((valB t).size : Int)), .int .i64 0]) ∧ Below W.heap.size W w' ∧
      Calls Try.prog 35 #[.agg #[.int .i64 b0, .int .i64 b1, .float .f64 b2, .string b3, .slice b4 b5 b6, .slice b7 b8 b9], .agg v] (w'.alloc (.cells #[.int .i64 b0, .int .i64 b1, .float .f64 b2, .string b3, .slice b4 b5 b6, .slice b7 b8 b9] 27)) fun e w2 => e = .returned (.bool true) ∧ Below W.heap.size W w2 := by
  have hs := size_amid A (valB t) B
  have hr := back_v hok hf.1 hf.2 A B
  refine (ReadValue_ok (w := W) hr (by omega)).mono fun e w' hx => ?_
  obtain ⟨⟨z, rfl, hz⟩, hb⟩ := hx
  obtain ⟨b0, b1, b2, b3, b4, b5, b6, b7, b8, b9, rfl⟩ := hz.val.eight
  refine ⟨b0, b1, b2, b3, b4, b5, b6, b7, b8, b9, ?_, hb, ?_⟩
  · rw [next_amid]; simp
  have h2 : Below W.heap.size W (w'.alloc (.cells #[.int .i64 b0, .int .i64 b1, .float .f64 b2, .string b3, .slice b4 b5 b6, .slice b7 b8 b9] 27)) := hb.alloc hb.size _
  have h3 := hW.trans (h2.mono hW.size)
  have P := same_any (hz.alloc (.cells #[.int .i64 b0, .int .i64 b1, .float .f64 b2, .string b3, .slice b4 b5 b6, .slice b7 b8 b9] 27)).val (hvW _ h3)
  rw [norm_same t 12 (ok_parts hok).1 hf.1] at P
  exact P.mono fun e w2 h => ⟨h.1, h2.trans (h.2.mono h2.size)⟩
/-- ReadValue of bytes that are cut off. -/
theorem call_cut_v {t : VT} (hok : okV t = true) (hvb : (valB t).size ≤ 130000) (hf : floatsIn t ∧ numsIn t) {j : Nat} (hj : j < (valB t).size) (W : World) :
    Calls Try.prog 31 #[.string ((valB t).extract 0 j), .int .i64 0] W fun e w' => e = .returned (.tuple #[.agg #[.int .i64 0, .int .i64 0, .float .f64 0, .string ⟨#[]⟩, .slice none 0 0, .slice none 0 0], .int .i64 0, .int .i64 14]) ∧ Below W.heap.size W w' :=
  ReadValue_err (cut_v hok hf.1 hf.2 hj) (by rw [ByteArray.size_extract]; omega)
/-- ReadType amid other bytes, and SameType behind it, in whatever world comes. -/
theorem call_amid_t {t : TT} {v : Array Value} {W0 : World} (hvW : ∀ W, Below W0.heap.size W0 W → TVal W W.heap.size v t) (hok : tokV t = true) (hvb : (typeB t).size ≤ 130000) {A B : ByteArray} (hA : A.size ≤ 200) (hB : B.size ≤ 200) (W : World) (hW : Below W0.heap.size W0 W) :
    Calls Try.prog 33 #[.string (A ++ typeB t ++ B), .int .i64 A.size] W fun e w' => ∃ (b0 : Int) (b1 : Option Addr) (b2 b3 : Nat) (b4 : Option Addr) (b5 b6 : Nat), e = .returned (.tuple #[.agg #[.int .i64 b0, .slice b1 b2 b3, .slice b4 b5 b6], .int .i64 ((A.size : Int) + ((typeB t).size : Int)), .int .i64 0]) ∧ Below W.heap.size W w' ∧
      ∀ W2, Below w'.heap.size w' W2 → Calls Try.prog 36 #[.agg #[.int .i64 b0, .slice b1 b2 b3, .slice b4 b5 b6], .agg v] W2 fun e w2 => e = .returned (.bool true) ∧ Below W2.heap.size W2 w2 := by
  have hs := size_amid A (typeB t) B
  have hr := back_t hok A B
  refine (ReadType_ok (w := W) hr (by omega)).mono fun e w' hx => ?_
  obtain ⟨⟨z, rfl, hz⟩, hb⟩ := hx
  obtain ⟨b0, b1, b2, b3, b4, b5, b6, rfl⟩ := hz.val.four
  refine ⟨b0, b1, b2, b3, b4, b5, b6, ?_, hb, fun W2 h2 => ?_⟩
  · rw [next_amid]; simp
  have h3 := (hW.trans (hb.mono hW.size)).trans (h2.mono (Nat.le_trans hW.size hb.size))
  exact sameT_any _ _ _ _ W2 ((hz.val.stay h2).mono h2.size) (hvW _ h3) (tnorm_same t 12 (tok_parts hok).1)
theorem call_cut_t {t : TT} (hok : tokV t = true) (hvb : (typeB t).size ≤ 130000) {j : Nat} (hj : j < (typeB t).size) (W : World) :
    Calls Try.prog 33 #[.string ((typeB t).extract 0 j), .int .i64 0] W fun e w' => e = .returned (.tuple #[.agg #[.int .i64 0, .slice none 0 0, .slice none 0 0], .int .i64 0, .int .i64 14]) ∧ Below W.heap.size W w' :=
  ReadType_err (cut_t hok hj) (by rw [ByteArray.size_extract]; omega)
end Go.Proofs.Yteclpehbpicpaaa.codecBack
