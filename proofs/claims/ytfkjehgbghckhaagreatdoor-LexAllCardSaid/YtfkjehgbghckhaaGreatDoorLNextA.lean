/-
  The law LexNext's walk: the token at any place of any text is the document's.
-/
import Derived.Test.YtfkjehgbghckhaaGreatDoorUw
namespace Go.Proofs.YtfkjehgbghckhaaGreatDoor
open Go.RowKit

/-- True comes back, and what was there stays. -/
def Yes (w : World) (e : Ending) (w' : World) : Prop := e = .returned (.bool true) ∧ Below w.heap.size w w'
theorem both_of (N : Nx) : ∃ k a b n f s y wh, lanV N = .tuple #[.agg #[.int .i64 k, .int .i64 a, .int .i64 b, .int .i64 n, .float .f64 f, .string s], .int .i64 y] ∧ refV N = .tuple #[.agg #[.int .i64 k, .int .i64 a, .int .i64 b, .int .i64 n, .float .f64 f, .string s], .int .i64 wh, .int .i64 y] := by
  cases N with
  | range => exact ⟨_, _, _, _, _, _, _, _, rfl, rfl⟩
  | tok b t => exact ⟨_, _, _, _, _, _, _, _, rfl, rfl⟩
  | err b e => exact ⟨_, _, _, _, _, _, _, _, rfl, rfl⟩
namespace lexNext
theorem walk_big {s : ByteArray} {a : Int} (h : 3000 < s.size) {w : World} (ht : Tabs w) : Calls Tryz.prog 3 #[.string s, .int .i64 a] w (Yes w) := by
  have A := awake_any ht
  have A2 := fun (W : World) (hT : Tabs W) => awake_any hT
  have t1 : (3000 : Int) < (s.size : Int) := by omega
  clear h
  go_enter Tryz.func3, Tryz.ntmps3
  go_wp2_with (go_at_call 5; refine A.mono ?_; rintro e w1 ⟨rfl, hb1⟩; refine Hid.out ?_)
  refine Lib.hid ?_
  have ht1 := ht.below hb1
  go_wp2_with (go_at_call 5; refine (A2 _ ht1).mono ?_; rintro e w2 ⟨rfl, hb2⟩)
  go_ret
  exact ⟨rfl, hb1.trans (hb2.mono hb1.size)⟩
set_option maxRecDepth 20000 in
set_option maxHeartbeats 2000000 in
theorem walk_all {s : ByteArray} {a : Int} (h : ¬ 3000 < s.size) {w : World} (ht : Tabs w) : Calls Tryz.prog 3 #[.string s, .int .i64 a] w (Yes w) := by
  have A := awake_any ht
  have L := fun (W : World) (hT : Tabs W) => LNext_any (s := s) (a := a) (by omega) hT
  have R := fun (W : World) => Nextr_any (s := s) (a := a) W
  obtain ⟨k, i, b, n, f, ss, y, wh, h1, h2⟩ := both_of (nextN s a)
  rw [h1] at L
  rw [h2] at R
  have SF := float_store
  have S := SameToken_self k i b n f ss
  have t1 : ¬ (3000 : Int) < (s.size : Int) := by omega
  clear h h1 h2
  go_enter Tryz.func3, Tryz.ntmps3
  go_wp2_with (go_at_call 5; refine A.mono ?_; rintro e w1 ⟨rfl, hb1⟩; refine Hid.out ?_)
  refine Lib.hid ?_
  have ht1 := ht.below hb1
  go_wp2_with (first | (go_at_call 6; refine (L _ ht1).mono ?_; rintro e w2 ⟨rfl, hb2⟩) | (go_at_call 7; refine (R _).mono ?_; rintro e w3 ⟨rfl, hb3⟩; refine Hid.out ?_))
  refine Lib.hid ?_
  have hX : Bx w3 w2.heap.size #[.int .i64 k, .int .i64 i, .int .i64 b, .int .i64 n, .float .f64 f, .string ss] := (Bx.new w2 _).below hb3 (by simp)
  have hB : Below w.heap.size w w3 := by
    have g2 := hb1.trans (hb2.mono hb1.size)
    have g3 := g2.alloc g2.size (.cells #[.int .i64 k, .int .i64 i, .int .i64 b, .int .i64 n, .float .f64 f, .string ss] 25)
    exact g3.trans (hb3.mono g3.size)
  obtain ⟨d0, d1, d2, d3, d4, d5, df⟩ := (hX.alloc (.cells #[.int .i64 k, .int .i64 i, .int .i64 b, .int .i64 n, .float .f64 f, .string ss] 25)).cells
  have hl := hX.lt
  have HB := Lib.hid (hB.alloc hB.size (.cells #[.int .i64 k, .int .i64 i, .int .i64 b, .int .i64 n, .float .f64 f, .string ss] 25))
  clear hX hB hb1 hb2 hb3 ht1 L R A
  go_wp2_with (go_at_call 8; refine (S _).mono ?_; rintro e w4 ⟨rfl, hb4⟩)
  go_ret
  exact ⟨rfl, HB.out.trans (hb4.mono HB.out.size)⟩
theorem walk (s : ByteArray) (a : Int) {w : World} (ht : Tabs w) : Calls Tryz.prog 3 #[.string s, .int .i64 a] w (Yes w) := by
  by_cases h : 3000 < s.size
  · exact walk_big h ht
  · exact walk_all h ht
end lexNext
end Go.Proofs.YtfkjehgbghckhaaGreatDoor
