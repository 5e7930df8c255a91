/-
  The contract of law 2's awake.
-/
import Derived.Test.YtmnbalmihehodaaRaise
import Derived.Test.YtmnbalmihehodaaSee
namespace Go.Proofs.Ytmnbalmihehodaa
open Go.RowKit

theorem good4 : GLat 4 (mkA 4 4 p0 q0) (mkB 4 4 p0 q0) (rcl 4 4 p0 q0) := mk_good (n := 4) aw_mbo aw_lat

def e1p (i : Nat) : Int := if i = 0 then 0 else 1
def e1q (i : Nat) : Int := if i = 0 then 1 else 2

theorem wk_join : foldV 4 (jn 4 (mkA 4 4 p0 q0)) (botK 4 (mkA 4 4 p0 q0) 4) (fOf [1, 2]) 2 = .tuple #[.int .i64 3, .int .i64 0] := by
  have h1 : okL 4 (fOf [1, 2]) 2 = true := by decide +kernel
  have h2 : fo (jn 4 (mkA 4 4 p0 q0)) (botK 4 (mkA 4 4 p0 q0) 4) (fOf [1, 2]) 2 = 3 := by decide +kernel
  rw [foldV, h1, h2]
  rfl
theorem wk_meet (f : Nat → Int) : foldV 4 (jn 4 (mkB 4 4 p0 q0)) (topK 4 (mkA 4 4 p0 q0) 4) f 0 = .tuple #[.int .i64 3, .int .i64 0] := by
  have h1 : okL 4 f 0 = true := rfl
  rw [foldV, h1, fo, aw_top]
  rfl
theorem wk_vis : pick (fun i => leqB 4 (mkA 4 4 p0 q0) (fOf [0, 2, 1, 3] i) 1) 4 = [0, 2] := by decide +kernel
theorem wk_high : pick (fun a => !leqB 4 (mkA 4 4 p0 q0) (a : Int) 1) 4 = [2, 3] := by decide +kernel
theorem wk_ok : okL 4 (fOf [0, 2, 1]) 3 = true := by decide +kernel
theorem wk_okK : okK ((3 : Nat) : Int) e1p e1q 2 = true := by decide +kernel

theorem wk_raised : Raised 4 (mkA 4 4 p0 q0) 3 e1p e1q 2 (fOf [0, 2, 1]) (fOf [0, 2, 3]) where
  low := nat_cases3 (by decide +kernel) (by decide +kernel) (by decide +kernel)
  up := nat_cases2 (by decide +kernel) (by decide +kernel)
  least o ho hl := by
    have l0 := hl 0 (by omega)
    have l1 := hl 1 (by omega)
    have l2 := hl 2 (by omega)
    have u1 : leqB 4 (mkA 4 4 p0 q0) (o 1) (o 2) = true := ho 1 (by omega)
    refine nat_cases3 l0 l1 ?_
    have h3 := good4.jI_least l2 (good4.trans l1 u1)
    have e : jI 4 (mkA 4 4 p0 q0) (fOf [0, 2, 1] 2) (fOf [0, 2, 1] 1) = fOf [0, 2, 3] 2 := by decide +kernel
    rwa [e] at h3

/-- Raised labels, held against the least ones. -/
theorem smK_of {f g : Nat → Int} {k : Nat} (h : ∀ i, i < k → f i = g i) : smK f g k = true := by
  simp only [smK, List.all_eq_true, List.mem_range, beq_iff_eq]
  exact h

theorem lit2 (w : World) (a b : Nat) : Rd (w.alloc (.cells #[.int .i64 (a : Int), .int .i64 (b : Int)] 3)) (w.alloc (.cells #[.int .i64 (a : Int), .int .i64 (b : Int)] 3)).heap.size (some ⟨w.heap.size, 0, none⟩) 2 (fOf [a, b]) := by
  have hc := cell_of_heap (heap_alloc_new w (.cells #[.int .i64 (a : Int), .int .i64 (b : Int)] 3))
  exact fun _ => ⟨w.heap.size, 0, rfl, by simp, nat_cases2 (hc 0) (hc 1)⟩
theorem lit3 (w : World) (a b c : Nat) : Rd (w.alloc (.cells #[.int .i64 (a : Int), .int .i64 (b : Int), .int .i64 (c : Int)] 3)) (w.alloc (.cells #[.int .i64 (a : Int), .int .i64 (b : Int), .int .i64 (c : Int)] 3)).heap.size (some ⟨w.heap.size, 0, none⟩) 3 (fOf [a, b, c]) := by
  have hc := cell_of_heap (heap_alloc_new w (.cells #[.int .i64 (a : Int), .int .i64 (b : Int), .int .i64 (c : Int)] 3))
  exact fun _ => ⟨w.heap.size, 0, rfl, by simp, nat_cases3 (hc 0) (hc 1) (hc 2)⟩
theorem lit4 (w : World) (a b c d : Nat) : Rd (w.alloc (.cells #[.int .i64 (a : Int), .int .i64 (b : Int), .int .i64 (c : Int), .int .i64 (d : Int)] 3)) (w.alloc (.cells #[.int .i64 (a : Int), .int .i64 (b : Int), .int .i64 (c : Int), .int .i64 (d : Int)] 3)).heap.size (some ⟨w.heap.size, 0, none⟩) 4 (fOf [a, b, c, d]) := by
  have hc := cell_of_heap (heap_alloc_new w (.cells #[.int .i64 (a : Int), .int .i64 (b : Int), .int .i64 (c : Int), .int .i64 (d : Int)] 3))
  exact fun _ => ⟨w.heap.size, 0, rfl, by simp, nat_cases4 (hc 0) (hc 1) (hc 2) (hc 3)⟩

def csE : Array Value := #[.int .i64 0, .int .i64 1, .int .i64 1, .int .i64 2]
theorem prsE (w : World) (B : Nat) (hB : w.heap.size < B) : Prs (w.alloc (.cells csE 51)) B (some ⟨w.heap.size, 0, none⟩) 2 e1p e1q := by
  have hc := cell_of_heap (heap_alloc_new w (.cells csE 51))
  exact fun _ => ⟨w.heap.size, 0, rfl, hB, nat_cases2 ⟨hc 0, hc 1⟩ ⟨hc 2, hc 3⟩⟩

set_option maxRecDepth 100000 in
set_option maxHeartbeats 1000000 in
theorem awake_any (w : World) : Calls Try.prog 10 #[] w fun e w' => e = .returned (.bool true) ∧ Below w.heap.size w w' := by
  go_enter Try.func10, Try.ntmps10
  go_wp2_with fail
  refine (Make_ok 4 _ 4 4 p0 q0 _ (prs4 w _ (by simp)) aw_mbo aw_lat).mono ?_
  rintro e w1 ⟨g, rfl, hg, hb1, hL⟩
  have hb : Below w.heap.size w w1 := after ((Below.refl _ _).alloc (Nat.le_refl _) _) hb1
  have hk : (4 : Int).toNat = 4 := rfl
  rw [hk] at hL
  clear hk hg hb1
  go_wp2_with fail
  refine (JoinAll_any good4 _ 2 2 (fOf [1, 2]) _ (by omega) (hL.alloc _) (lit2 w1 1 2)).mono ?_
  rintro e w2 ⟨rfl, hb2⟩
  rw [wk_join]
  have hL2 := (hL.alloc _).keep hb2
  have hbb2 : Below w.heap.size w w2 := after (hb.alloc hb.size _) hb2
  clear hL hb hb2
  go_wp2_with fail
  refine (MeetAll_any good4 none 0 0 (fun _ => 0) _ (by omega) hL2 (fun h => absurd h (Nat.lt_irrefl 0))).mono ?_
  rintro e w3 ⟨rfl, hb3⟩
  rw [wk_meet]
  have hL3 := hL2.keep hb3
  have hbb3 := after hbb2 hb3
  clear hL2 hbb2 hb3
  go_wp2_with fail
  have hbz := (((Below.refl w3.heap.size w3).alloc (Nat.le_refl _) (.cells csE 51)).alloc (by simp) (.cells #[.int .i64 0, .int .i64 2, .int .i64 1] 3))
  have hP4 : Prs ((w3.alloc (.cells csE 51)).alloc (.cells #[.int .i64 0, .int .i64 2, .int .i64 1] 3)) ((w3.alloc (.cells csE 51)).alloc (.cells #[.int .i64 0, .int .i64 2, .int .i64 1] 3)).heap.size (some ⟨w3.heap.size, 0, none⟩) 2 e1p e1q := by
    have h1 := (prsE w3 (w3.heap.size + 1) (by omega)).keep (w' := (w3.alloc (.cells csE 51)).alloc (.cells #[.int .i64 0, .int .i64 2, .int .i64 1] 3)) ((Below.refl _ _).alloc (by simp) _)
    exact h1.mono (by simp)
  have hR4 : Rd ((w3.alloc (.cells csE 51)).alloc (.cells #[.int .i64 0, .int .i64 2, .int .i64 1] 3)) ((w3.alloc (.cells csE 51)).alloc (.cells #[.int .i64 0, .int .i64 2, .int .i64 1] 3)).heap.size (some ⟨w3.heap.size + 1, 0, none⟩) 3 (fOf [0, 2, 1]) := by
    have h := lit3 (w3.alloc (.cells csE 51)) 0 2 1
    rw [show (w3.alloc (.cells csE 51)).heap.size = w3.heap.size + 1 by simp] at h
    exact h
  refine (Raise_any good4 _ 2 2 e1p e1q _ 3 3 (fOf [0, 2, 1]) ((w3.alloc (.cells csE 51)).alloc (.cells #[.int .i64 0, .int .i64 2, .int .i64 1] 3)) (by omega) (by omega) (hL3.keep hbz) hP4 hR4 wk_ok wk_okK).mono ?_
  rintro e w4 ⟨A4, c4, f4, rfl, hR4', hup, hb4⟩
  have hL4 := (hL3.keep hbz).keep hb4
  have hbb4 := after (after hbb3 hbz) hb4
  have hf4 : smK f4 (fOf [0, 2, 3]) 3 = true := smK_of fun i hi => hup.one good4 wk_raised hi
  have HF := Lib.hid hf4
  clear hf4 hup hL3 hbb3 hbz hP4 hR4 hb4
  go_wp2_with fail
  refine (Visible_any 1 _ 4 4 (fOf [0, 2, 1, 3]) _ (by omega) (hL4.alloc _) (lit4 w4 0 2 1 3)).mono ?_
  rintro e w5 ⟨v5, rfl, hown5, hb5⟩
  have hL5 := (hL4.alloc _).keep hb5
  have hbz5 := (Below.refl w4.heap.size w4).alloc (Nat.le_refl _) (.cells #[.int .i64 0, .int .i64 2, .int .i64 1, .int .i64 3] 3)
  have hbb5 := after (after hbb4 hbz5) hb5
  have hR5 := ((hR4'.keep hbz5).mono hbz5.size).keep hb5
  have hR5 := hR5.mono hb5.size
  rw [wk_vis] at hown5
  obtain ⟨A5, cap5, rfl, hV5⟩ := row_read hown5
  clear hL4 hbb4 hb5 hbz5 hR4' hown5
  go_wp2_with fail
  have hbz6 := (Below.refl w5.heap.size w5).alloc (Nat.le_refl _) (.cells #[.int .i64 0, .int .i64 2] 3)
  refine (same_any A5 _ 2 cap5 2 (fOf [0, 2]) (fOf [0, 2]) _ (by omega) ((hV5.keep hbz6).mono hbz6.size) (lit2 w5 0 2)).mono ?_
  rintro e w6 ⟨rfl, hb6⟩
  rw [show smK (fOf [0, 2]) (fOf [0, 2]) 2 = true by decide]
  have hL6 := (hL5.alloc (.cells #[.int .i64 0, .int .i64 2] 3)).keep hb6
  have hbb6 := after (after hbb5 hbz6) hb6
  have hR6 := ((hR5.keep hbz6).mono hbz6.size).keep hb6
  have hR6 := hR6.mono hb6.size
  clear hL5 hbb5 hR5 hV5 hb6 hbz6
  go_wp2_with fail
  have hbz7 := (Below.refl w6.heap.size w6).alloc (Nat.le_refl _) (.cells #[.int .i64 0, .int .i64 2, .int .i64 3] 3)
  refine (same_any A4 _ 3 c4 3 f4 (fOf [0, 2, 3]) _ (by omega) ((hR6.keep hbz7).mono hbz7.size) (lit3 w6 0 2 3)).mono ?_
  rintro e w7 ⟨rfl, hb7⟩
  rw [HF.out]
  have hL7 := (hL6.alloc (.cells #[.int .i64 0, .int .i64 2, .int .i64 3] 3)).keep hb7
  have hbb7 := after (after hbb6 hbz7) hb7
  clear hL6 hbb6 hR6 hb7 hbz7
  go_wp2_with fail
  refine (High_any 1 _ hL7).mono ?_
  rintro e w8 ⟨v8, rfl, hown8, hb8⟩
  rw [wk_high] at hown8
  have hbb8 := after hbb7 hb8
  obtain ⟨A8, cap8, rfl, hV8⟩ := row_read hown8
  clear hL7 hbb7 hb8 hown8
  go_wp2_with fail
  have hbz9 := (Below.refl w8.heap.size w8).alloc (Nat.le_refl _) (.cells #[.int .i64 2, .int .i64 3] 3)
  refine (same_any A8 _ 2 cap8 2 (fOf [2, 3]) (fOf [2, 3]) _ (by omega) ((hV8.keep hbz9).mono hbz9.size) (lit2 w8 2 3)).mono ?_
  rintro e w9 ⟨rfl, hb9⟩
  rw [show smK (fOf [2, 3]) (fOf [2, 3]) 2 = true by decide]
  have hbb9 := after (after hbb8 hbz9) hb9
  clear hbb8 hb9 hbz9 hV8
  go_wp2_with fail
  go_ret
  exact ⟨rfl, hbb9⟩
end Go.Proofs.Ytmnbalmihehodaa
