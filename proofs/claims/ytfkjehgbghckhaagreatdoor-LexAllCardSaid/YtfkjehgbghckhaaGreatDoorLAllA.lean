/-
  The law LexAll's walk: any text's tokens are the document's, or the first error.
-/
import Derived.Test.YtfkjehgbghckhaaGreatDoorLNextA
namespace Go.Proofs.YtfkjehgbghckhaaGreatDoor
open Go.RowKit

namespace lexAll
theorem walk_big {s : ByteArray} (h : 3000 < s.size) {w : World} (ht : Tabs w) : Calls Tryz.prog 4 #[.string s] w (Yes w) := by
  have A := awake_any ht
  have A2 := fun (W : World) (hT : Tabs W) => awake_any hT
  have t1 : (3000 : Int) < (s.size : Int) := by omega
  clear h
  go_enter Tryz.func4, Tryz.ntmps4
  go_wp2_with (go_at_call 5; refine A.mono ?_; rintro e w1 ⟨rfl, hb1⟩; refine Hid.out ?_)
  refine Lib.hid ?_
  have ht1 := ht.below hb1
  go_wp2_with (go_at_call 5; refine (A2 _ ht1).mono ?_; rintro e w2 ⟨rfl, hb2⟩)
  go_ret
  exact ⟨rfl, hb1.trans (hb2.mono hb1.size)⟩
set_option maxRecDepth 20000 in
set_option maxHeartbeats 2000000 in
theorem walk_all {s : ByteArray} (h : ¬ 3000 < s.size) {w : World} (ht : Tabs w) : Calls Tryz.prog 4 #[.string s] w (Yes w) := by
  have A := awake_any ht
  have L := fun (W : World) (hT : Tabs W) => LAll_any (s := s) (by omega) hT
  have R := fun (W : World) => Allr_uni (s := s) (by omega) W
  have V := LWord_any s
  have Z := Word_any s
  have t1 : ¬ (3000 : Int) < (s.size : Int) := by omega
  have t2 : (wordB s.data.toList == wordB s.data.toList) = true := beq_self_eq_true _
  generalize wordB s.data.toList = wb at V Z t2
  clear h
  go_enter Tryz.func4, Tryz.ntmps4
  go_wp2_with (go_at_call 5; refine A.mono ?_; rintro e w1 ⟨rfl, hb1⟩; refine Hid.out ?_)
  refine Lib.hid ?_
  have ht1 := ht.below hb1
  go_wp2_with (first | (go_at_call 9; refine (L _ ht1).mono ?_; rintro e w2 ⟨ts, o, v, hL, hb2, rfl, hO⟩) | (go_at_call 10; refine (R _).mono ?_; rintro e w3 ⟨us, p, v', hL', hb3, rfl, hO'⟩; refine Hid.out ?_))
  refine Lib.hid ?_
  obtain ⟨rfl, rfl⟩ := hL.unique hL'
  have hT := (TAt.of_own hO).stay hb3
  have hT' := TAt.of_own hO'
  have S := SameToks_any hT hT'
  have t3 : (errO o == errO o) = true := beq_self_eq_true _
  have t4 : ((whereO o : Int) == (whereO o : Int)) = true := beq_self_eq_true _
  have HB := Lib.hid ((hb1.trans (hb2.mono hb1.size)).trans (hb3.mono (Nat.le_trans hb1.size hb2.size)))
  clear hT hT' hO hO' hL hL' hb1 hb2 hb3 ht1 L R A
  generalize errO o = y at *
  generalize (whereO o : Int) = wh at *
  go_wp2_with (first | (go_at_call 11; refine S.mono ?_; rintro e w4 ⟨rfl, hb4⟩) | (go_at_call 12; refine (V _).mono ?_; rintro e w5 ⟨rfl, hb5⟩) | (go_at_call 13; refine (Z _).mono ?_; rintro e w6 ⟨rfl, rfl⟩))
  go_ret
  exact ⟨rfl, (HB.out.trans (hb4.mono HB.out.size)).trans (hb5.mono (Nat.le_trans HB.out.size hb4.size))⟩
theorem walk (s : ByteArray) {w : World} (ht : Tabs w) : Calls Tryz.prog 4 #[.string s] w (Yes w) := by
  by_cases h : 3000 < s.size
  · exact walk_big h ht
  · exact walk_all h ht
end lexAll
end Go.Proofs.YtfkjehgbghckhaaGreatDoor
