/-
  The program packs the model that is none: what the opening look asks of Pack.
  The program's lists of a model that is none, read.
  The program reads the model that is none.
  The program reads a whole model: the one that is none, and bytes with another word in front.
-/
import Derived.Test.YtekojglcbalhnaaGreatDoorM32
import Derived.Test.YtekojglcbalhnaaGreatDoorM36
namespace Go.Proofs.YtekojglcbalhnaaGreatDoor
open Go.RowKit

set_option maxRecDepth 20000 in
theorem wlistP {w : World} {g : Nat} {L : List UInt8} (h : Wr w g L) (hL : L.length ≤ 1000) :
    Calls Tryz.prog 53 #[.pointer (some ⟨g, 0, none⟩), .slice none 0 0, .func (.func 54) #[] #[]] w fun e w' => e = .returned (.tuple #[]) ∧ Wr w' g (L ++ [0]) ∧ Wk g w w' := by
  have S := wsmall_ok (n := 0) h (by omega) (by omega)
  rw [uint_0] at S
  have HS := Lib.hid S
  clear S h
  go_enter Tryz.func53, Tryz.ntmps53
  go_wp2_with (first | (go_at_call 63; refine (pinsist_yes _).mono ?_; rintro e w1 ⟨rfl, rfl⟩) | (go_at_call 37; refine HS.out.mono ?_; rintro e w2 ⟨rfl, h2, hk2⟩; have H2 := Lib.hid (And.intro h2 hk2); clear h2 hk2))
  go_loopw [18] (fun iv wr => iv = .int .i64 0 ∧ wr = w2) (fun _ _ => 0)
  case atStart => exact ⟨rfl, rfl⟩
  case round =>
    obtain ⟨rfl, rfl⟩ := hrel
    go_wp2_with fail
    go_end0
    exact ⟨rfl, H2.out⟩

set_option maxRecDepth 20000 in
theorem wlistV {w : World} {g : Nat} {L : List UInt8} (h : Wr w g L) (hL : L.length ≤ 1000) :
    Calls Tryz.prog 55 #[.pointer (some ⟨g, 0, none⟩), .slice none 0 0, .func (.func 56) #[] #[]] w fun e w' => e = .returned (.tuple #[]) ∧ Wr w' g (L ++ [0]) ∧ Wk g w w' := by
  have S := wsmall_ok (n := 0) h (by omega) (by omega)
  rw [uint_0] at S
  have HS := Lib.hid S
  clear S h
  go_enter Tryz.func55, Tryz.ntmps55
  go_wp2_with (first | (go_at_call 63; refine (pinsist_yes _).mono ?_; rintro e w1 ⟨rfl, rfl⟩) | (go_at_call 37; refine HS.out.mono ?_; rintro e w2 ⟨rfl, h2, hk2⟩; have H2 := Lib.hid (And.intro h2 hk2); clear h2 hk2))
  go_loopw [18] (fun iv wr => iv = .int .i64 0 ∧ wr = w2) (fun _ _ => 0)
  case atStart => exact ⟨rfl, rfl⟩
  case round =>
    obtain ⟨rfl, rfl⟩ := hrel
    go_wp2_with fail
    go_end0
    exact ⟨rfl, H2.out⟩

set_option maxRecDepth 20000 in
theorem wlistM {w : World} {g : Nat} {L : List UInt8} (h : Wr w g L) (hL : L.length ≤ 1000) :
    Calls Tryz.prog 57 #[.pointer (some ⟨g, 0, none⟩), .slice none 0 0, .func (.func 58) #[] #[]] w fun e w' => e = .returned (.tuple #[]) ∧ Wr w' g (L ++ [0]) ∧ Wk g w w' := by
  have S := wsmall_ok (n := 0) h (by omega) (by omega)
  rw [uint_0] at S
  have HS := Lib.hid S
  clear S h
  go_enter Tryz.func57, Tryz.ntmps57
  go_wp2_with (first | (go_at_call 63; refine (pinsist_yes _).mono ?_; rintro e w1 ⟨rfl, rfl⟩) | (go_at_call 37; refine HS.out.mono ?_; rintro e w2 ⟨rfl, h2, hk2⟩; have H2 := Lib.hid (And.intro h2 hk2); clear h2 hk2))
  go_loopw [18] (fun iv wr => iv = .int .i64 0 ∧ wr = w2) (fun _ _ => 0)
  case atStart => exact ⟨rfl, rfl⟩
  case round =>
    obtain ⟨rfl, rfl⟩ := hrel
    go_wp2_with fail
    go_end0
    exact ⟨rfl, H2.out⟩

set_option maxRecDepth 20000 in
theorem wlistN {w : World} {g : Nat} {L : List UInt8} (h : Wr w g L) (hL : L.length ≤ 1000) :
    Calls Tryz.prog 59 #[.pointer (some ⟨g, 0, none⟩), .slice none 0 0, .func (.func 60) #[] #[]] w fun e w' => e = .returned (.tuple #[]) ∧ Wr w' g (L ++ [0]) ∧ Wk g w w' := by
  have S := wsmall_ok (n := 0) h (by omega) (by omega)
  rw [uint_0] at S
  have HS := Lib.hid S
  clear S h
  go_enter Tryz.func59, Tryz.ntmps59
  go_wp2_with (first | (go_at_call 63; refine (pinsist_yes _).mono ?_; rintro e w1 ⟨rfl, rfl⟩) | (go_at_call 37; refine HS.out.mono ?_; rintro e w2 ⟨rfl, h2, hk2⟩; have H2 := Lib.hid (And.intro h2 hk2); clear h2 hk2))
  go_loopw [18] (fun iv wr => iv = .int .i64 0 ∧ wr = w2) (fun _ _ => 0)
  case atStart => exact ⟨rfl, rfl⟩
  case round =>
    obtain ⟨rfl, rfl⟩ := hrel
    go_wp2_with fail
    go_end0
    exact ⟨rfl, H2.out⟩

def noModel : Array Value := #[.int .i64 0, .slice none 0 0, .slice none 0 0, .slice none 0 0, .slice none 0 0, .slice none 0 0]
def bpm : List UInt8 := [66, 80, 77, 49, 0, 0, 0, 0, 0, 0]
set_option maxRecDepth 20000 in
set_option maxHeartbeats 2000000 in
theorem wmodel0 {w : World} {g : Nat} (h : Wr w g []) :
    Calls Tryz.prog 27 #[.pointer (some ⟨g, 0, none⟩), .agg noModel] w fun e w' => e = .returned (.tuple #[]) ∧ Wr w' g bpm ∧ Wk g w w' := by
  have hlt := h.lt
  have HK := box_wk (w := w) (V := noModel) (t := 50) hlt (by decide)
  have hW := h.alloc (.cells noModel 50)
  have P := put_any (s := ⟨#[66, 80, 77, 49]⟩) hW (by simp) (by decide)
  have HW := Lib.hid ((Wk.refl g w).alloc (.cells noModel 50))
  have HP := Lib.hid P
  unfold noModel at *
  clear h P hW hlt
  go_enter Tryz.func27, Tryz.ntmps27
  go_wp2_with fail
  refine HP.out.mono ?_
  rintro e w1 ⟨rfl, h1, hk1⟩
  refine Hid.out ?_
  refine Lib.hid ?_
  have HX1 := Lib.hid hk1
  have H1 := Lib.hid (show Wr w1 g [66, 80, 77, 49] from h1)
  clear h1 hk1
  have c0 : w1.cell? ⟨w.heap.size, 0, none⟩ = some (.int .i64 0) := HK.out w1 HX1.out 0
  have S := wsmall_ok (n := 0) H1.out (by simp) (by omega)
  rw [uint_0] at S
  have HS := Lib.hid S
  clear S
  go_wp2_with fail
  refine HS.out.mono ?_
  rintro e w2 ⟨rfl, h, hk⟩
  refine Hid.out ?_
  refine Lib.hid ?_
  have HX2 := Lib.hid (HX1.out.trans hk)
  have H2 := Lib.hid (show Wr w2 g [66, 80, 77, 49, 0] from h)
  clear h hk c0 HS
  have c0 : w2.cell? ⟨w.heap.size, 1, none⟩ = some (.slice none 0 0) := HK.out w2 HX2.out 1
  have S := wlistP H2.out (by simp)
  have HS := Lib.hid S
  clear S
  go_wp2_with fail
  refine HS.out.mono ?_
  rintro e w3 ⟨rfl, h, hk⟩
  refine Hid.out ?_
  refine Lib.hid ?_
  have HX3 := Lib.hid (HX2.out.trans hk)
  have H3 := Lib.hid (show Wr w3 g [66, 80, 77, 49, 0, 0] from h)
  clear h hk c0 HS
  have c0 : w3.cell? ⟨w.heap.size, 2, none⟩ = some (.slice none 0 0) := HK.out w3 HX3.out 2
  have S := wlistP H3.out (by simp)
  have HS := Lib.hid S
  clear S
  go_wp2_with fail
  refine HS.out.mono ?_
  rintro e w4 ⟨rfl, h, hk⟩
  refine Hid.out ?_
  refine Lib.hid ?_
  have HX4 := Lib.hid (HX3.out.trans hk)
  have H4 := Lib.hid (show Wr w4 g [66, 80, 77, 49, 0, 0, 0] from h)
  clear h hk c0 HS
  have c0 : w4.cell? ⟨w.heap.size, 3, none⟩ = some (.slice none 0 0) := HK.out w4 HX4.out 3
  have S := wlistV H4.out (by simp)
  have HS := Lib.hid S
  clear S
  go_wp2_with fail
  refine HS.out.mono ?_
  rintro e w5 ⟨rfl, h, hk⟩
  refine Hid.out ?_
  refine Lib.hid ?_
  have HX5 := Lib.hid (HX4.out.trans hk)
  have H5 := Lib.hid (show Wr w5 g [66, 80, 77, 49, 0, 0, 0, 0] from h)
  clear h hk c0 HS
  have c0 : w5.cell? ⟨w.heap.size, 4, none⟩ = some (.slice none 0 0) := HK.out w5 HX5.out 4
  have S := wlistM H5.out (by simp)
  have HS := Lib.hid S
  clear S
  go_wp2_with fail
  refine HS.out.mono ?_
  rintro e w6 ⟨rfl, h, hk⟩
  refine Hid.out ?_
  refine Lib.hid ?_
  have HX6 := Lib.hid (HX5.out.trans hk)
  have H6 := Lib.hid (show Wr w6 g [66, 80, 77, 49, 0, 0, 0, 0, 0] from h)
  clear h hk c0 HS
  have c0 : w6.cell? ⟨w.heap.size, 5, none⟩ = some (.slice none 0 0) := HK.out w6 HX6.out 5
  have S := wlistN H6.out (by simp)
  have HS := Lib.hid S
  clear S
  go_wp2_with fail
  refine HS.out.mono ?_
  rintro e w7 ⟨rfl, h, hk⟩
  refine Hid.out ?_
  refine Lib.hid ?_
  have HX7 := Lib.hid (HX6.out.trans hk)
  have H7 := Lib.hid (show Wr w7 g [66, 80, 77, 49, 0, 0, 0, 0, 0, 0] from h)
  clear h hk c0 HS
  go_wp2_with fail
  go_end0
  exact ⟨rfl, H7.out, HW.out.trans HX7.out⟩

set_option maxRecDepth 100000 in
theorem caughtM_any {p q : Addr} {S : ByteArray} {ok : Prop} [Decidable ok] {w : World}
    (H : Calls Tryz.prog 51 #[.pointer (some p), .pointer (some q)] (w.alloc (.cells #[.int .i64 0] 33)) fun e w' => (if ok then e = .returned (.string S) else e = .panicked (errL 5)) ∧ Below (w.alloc (.cells #[.int .i64 0] 33)).heap.size (w.alloc (.cells #[.int .i64 0] 33)) w') :
    Calls Tryz.prog 35 #[.func (.func 51) #[] #[.pointer (some p), .pointer (some q)]] w fun e w' => e = .returned (if ok then .tuple #[.string S, .int .i64 0] else .tuple #[.string ⟨#[]⟩, .int .i64 5]) ∧ Below w.heap.size w w' := by
  have hbW : Below w.heap.size w (w.alloc (.cells #[.int .i64 0] 33)) := (Below.refl _ _).alloc (Nat.le_refl _) _
  have hE : (w.alloc (.cells #[.int .i64 0] 33)).heap[w.heap.size]? = some (.cells #[.int .i64 0] 33 (0, 0)) := heap_alloc_new w _
  have hC : ∀ w1, Below (w.alloc (.cells #[.int .i64 0] 33)).heap.size (w.alloc (.cells #[.int .i64 0] 33)) w1 → w1.cell? ⟨w.heap.size, 0, none⟩ = some (.int .i64 0) ∧ w1.frozen? ⟨w.heap.size, 0, none⟩ = false := fun w1 hb => by
    have h := (hb.block w.heap.size (by simp)).trans hE
    exact ⟨by simp [World.cell?, h], by simp [World.frozen?, h]⟩
  have MF := makeFunc_run
  have HB := Lib.hid hbW
  have HC := Lib.hid hC
  clear hbW hE hC
  by_cases ho : ok
  · simp only [ho, reduceIte] at H ⊢
    have HH := Lib.hid H
    clear H
    go_enter_defers Tryz.func35, Tryz.ntmps35
    go_wp2_with (go_at_call 51; refine HH.out.mono ?_; rintro e w1 ⟨rfl, hb1⟩; obtain ⟨q0, q1⟩ := HC.out w1 hb1; have hb2 := Lib.hid (HB.out.trans (hb1.mono HB.out.size)); clear hb1)
    obtain ⟨w2, hw2⟩ : ∃ w2, w2 = w1.setCell ⟨w.heap.size, 0, none⟩ (.int .i64 0) := ⟨_, rfl⟩
    have hb3 : Below w.heap.size w w2 := by rw [hw2]; exact hb2.out.setCell (Nat.le_refl _) _
    have q2 : w2.cell? ⟨w.heap.size, 0, none⟩ = some (.int .i64 0) := by rw [hw2]; exact World.cell?_setCell_same _ _ _ q0
    rw [← hw2]
    clear hw2 q0 q1
    refine leaves_cons (f := 69) (args := #[.pointer (some ⟨w.heap.size, 0, none⟩)]) (by simp) (by simp [go_sem]) ?_
    refine (pcatchS_idle ⟨w.heap.size, 0, none⟩ _).mono ?_
    rintro e u' w3 ⟨rfl, rfl, rfl⟩
    simp [Leaves, settle, results, Tryz.results35, go_sem, q2, hb3]
  · simp only [ho, reduceIte] at H ⊢
    have HH := Lib.hid H
    unfold errL at HH
    clear H
    go_enter_defers Tryz.func35, Tryz.ntmps35
    go_wp2_with (go_at_call 51; refine HH.out.mono ?_; rintro e w1 ⟨rfl, hb1⟩)
    obtain ⟨q0, q1⟩ := HC.out w1 hb1
    have hb2 := HB.out.trans (hb1.mono HB.out.size)
    refine leaves_cons (f := 69) (args := #[.pointer (some ⟨w.heap.size, 0, none⟩)]) (by simp) (by simp [go_sem]) ?_
    refine (pcatchS_panics ⟨w.heap.size, 0, none⟩ 0 5 [] _ q0 q1).mono ?_
    rintro e u' w2 ⟨rfl, rfl, rfl⟩
    have hfin : Below w.heap.size w (w1.setCell ⟨w.heap.size, 0, none⟩ (.int .i64 5)) := hb2.setCell (Nat.le_refl _) _
    simp [Leaves, settle, results, Tryz.results35, go_sem, q0, hfin]

set_option maxRecDepth 20000 in
set_option maxHeartbeats 1000000 in
theorem wclosM {w : World} {bw bc : Nat} (hw : w.heap[bw]? = some (.cells #[.func (.func 27) #[] #[]] 78 (0, 0))) (hc : w.heap[bc]? = some (.cells noModel 50 (0, 0))) :
    Calls Tryz.prog 51 #[.pointer (some ⟨bw, 0, none⟩), .pointer (some ⟨bc, 0, none⟩)] w fun e w' => (if True then e = .returned (.string (strL bpm)) else e = .panicked (errL 5)) ∧ Below w.heap.size w w' := by
  have hb0 : Below w.heap.size w (w.alloc (.cells #[.slice none 0 0] 105)) := (Below.refl _ _).alloc (Nat.le_refl _) _
  have h0 : Wr (w.alloc (.cells #[.slice none 0 0] 105)) w.heap.size [] := ⟨_, heap_alloc_new w _, Row5.nil _ _⟩
  have C := wmodel0 h0
  have hbc : bc < w.heap.size := (Array.getElem?_eq_some_iff.1 hc).1
  unfold noModel at *
  have cc : ∀ j, (w.alloc (.cells #[.slice none 0 0] 105)).cell? ⟨bc, j, none⟩ = (#[.int .i64 0, .slice none 0 0, .slice none 0 0, .slice none 0 0, .slice none 0 0, .slice none 0 0] : Array Value)[j]? := fun j => by
    have := (hb0.block bc hbc).trans hc
    simp [World.cell?, this]
  have c0 : (w.alloc (.cells #[.slice none 0 0] 105)).cell? ⟨bc, 0, none⟩ = some (.int .i64 0) := cc 0
  have c1 : (w.alloc (.cells #[.slice none 0 0] 105)).cell? ⟨bc, 1, none⟩ = some (.slice none 0 0) := cc 1
  have c2 : (w.alloc (.cells #[.slice none 0 0] 105)).cell? ⟨bc, 2, none⟩ = some (.slice none 0 0) := cc 2
  have c3 : (w.alloc (.cells #[.slice none 0 0] 105)).cell? ⟨bc, 3, none⟩ = some (.slice none 0 0) := cc 3
  have c4 : (w.alloc (.cells #[.slice none 0 0] 105)).cell? ⟨bc, 4, none⟩ = some (.slice none 0 0) := cc 4
  have c5 : (w.alloc (.cells #[.slice none 0 0] 105)).cell? ⟨bc, 5, none⟩ = some (.slice none 0 0) := cc 5
  have hw1 : (w.alloc (.cells #[.slice none 0 0] 105)).cell? ⟨bw, 0, none⟩ = some (.func (.func 27) #[] #[]) := by
    have := (hb0.block bw (Array.getElem?_eq_some_iff.1 hw).1).trans hw
    simp [World.cell?, this]
  have HB := Lib.hid hb0
  have CL : 0 < bpm.length := by decide
  simp only [reduceIte]
  generalize bpm = M at *
  have HC := Lib.hid C
  clear cc h0 hb0 hc hw hbc C
  go_enter Tryz.func51, Tryz.ntmps51
  go_wp2_with (go_at_call 27; refine HC.out.mono ?_; rintro e w1 ⟨rfl, h1, hk1⟩; refine Hid.out ?_)
  refine Lib.hid ?_
  obtain ⟨v1, hg1, hr1⟩ := h1
  have hcv := conv_row hr1 CL
  have d0' : w1.cell? ⟨w.heap.size, 0, none⟩ = some v1 := by simp [World.cell?, hg1]
  obtain ⟨A1, cap1, rfl⟩ := hr1.slice
  have HK := Lib.hid hk1
  clear hk1 hg1 hr1 c0 c1 c2 c3 c4 c5 hw1
  go_wp2_with fail
  go_ret
  exact ⟨by first | rfl | simp, HB.out.trans (HK.out.below (by simp))⟩
set_option maxRecDepth 20000 in
set_option maxHeartbeats 1000000 in
theorem writeM {w : World} :
    Calls Tryz.prog 26 #[.agg noModel, .func (.func 27) #[] #[]] w fun e w' => e = .returned (.tuple #[.string (strL bpm), .int .i64 0]) ∧ Below w.heap.size w w' := by
  obtain ⟨W2, hW2⟩ : ∃ W2, W2 = (w.alloc (.cells noModel 50)).alloc (.cells #[.func (.func 27) #[] #[]] 78) := ⟨_, rfl⟩
  have hb2 : Below w.heap.size w W2 := by rw [hW2]; exact ((Below.refl _ _).alloc (Nat.le_refl _) _).alloc (by simp) _
  have hx : W2.heap[w.heap.size]? = some (.cells noModel 50 (0, 0)) := by
    rw [hW2, Below.heap_alloc _ _ _ (by simp)]; exact heap_alloc_new w _
  have hf : W2.heap[w.heap.size + 1]? = some (.cells #[.func (.func 27) #[] #[]] 78 (0, 0)) := by
    rw [hW2]
    have := heap_alloc_new (w.alloc (.cells noModel 50)) (.cells #[.func (.func 27) #[] #[]] 78)
    rw [World.size_alloc] at this; exact this
  have hx3 := (Below.heap_alloc W2 (.cells #[.int .i64 0] 33) _ (Array.getElem?_eq_some_iff.1 hx).1).trans hx
  have hf3 := (Below.heap_alloc W2 (.cells #[.int .i64 0] 33) _ (Array.getElem?_eq_some_iff.1 hf).1).trans hf
  have F := caughtM_any (wclosM (w := W2.alloc (.cells #[.int .i64 0] 33)) (bw := w.heap.size + 1) (bc := w.heap.size) hf3 hx3)
  simp only [reduceIte] at F
  have MF := makeFunc_run
  have HB := Lib.hid hb2
  rw [hW2] at F
  have HW := Lib.hid hW2
  generalize strL bpm = S at *
  unfold noModel at *
  have HF := Lib.hid F
  clear hx hf hx3 hf3 hb2 hW2 F
  go_enter Tryz.func26, Tryz.ntmps26
  go_wp2_with (go_at_call 35; refine HF.out.mono ?_; rintro e w3 ⟨rfl, hb⟩; rw [← HW.out] at hb)
  go_ret2
  exact ⟨rfl, HB.out.trans (hb.mono HB.out.size)⟩
set_option maxRecDepth 20000 in
theorem Pack_0 {w : World} :
    Calls Tryz.prog 11 #[.agg noModel] w fun e w' => e = .returned (.tuple #[.string (strL bpm), .int .i64 0]) ∧ Below w.heap.size w w' := by
  have hb : Below w.heap.size w (w.alloc (.cells noModel 50)) := (Below.refl _ _).alloc (Nat.le_refl _) _
  have C := writeM (w := w.alloc (.cells noModel 50))
  have hz : (strL bpm).size = 10 := by decide
  have HB := Lib.hid hb
  unfold noModel at *
  generalize strL bpm = S at *
  have HC := Lib.hid C
  have t1 : decide ((16384 : Int) < (S.size : Int)) = false := by simp; omega
  clear hb C
  go_enter Tryz.func11, Tryz.ntmps11
  go_wp2_with (go_at_call 26; refine HC.out.mono ?_; rintro e w1 ⟨rfl, hb⟩)
  go_ret2
  exact ⟨rfl, HB.out.trans (hb.mono HB.out.size)⟩
end Go.Proofs.YtekojglcbalhnaaGreatDoor
namespace Go.Proofs.YtekojglcbalhnaaGreatDoor
open Go.RowKit

theorem zero_left {s : ByteArray} {a : Nat} (h0 : left s a = 0 :: left s (a + 1)) : smP (left s a) = some (0, left s (a + 1)) := by
  rw [h0]; unfold smP; rw [uP_byte (by decide)]; rfl
theorem rsmall_0 {w : World} {g : Nat} {s : ByteArray} {a : Nat} (h : Pr w g s a) (ha : a < s.size) (hs : s.size ≤ 1000000000) (h0 : left s a = 0 :: left s (a + 1)) :
    Calls Tryz.prog 44 #[.pointer (some ⟨g, 0, none⟩)] w fun e w' => e = .returned (.int .i64 0) ∧ Pr w' g s ((a + 1 : Nat) : Int) ∧ Past g w w' := by
  refine (rsmall_any h (Nat.le_of_lt ha) hs).mono ?_
  unfold SmEnds
  rw [zero_left h0]
  rintro e w' ⟨hp, rfl, b, hb, hl, h⟩
  have : b = a + 1 := by have := congrArg List.length hl; rw [left_len, left_len] at this; omega
  subst this
  exact ⟨rfl, h, hp⟩
set_option maxRecDepth 20000 in
theorem rlistP {w : World} {g : Nat} {s : ByteArray} {a : Nat} (h : Pr w g s a) (ha : a < s.size) (hs : s.size ≤ 1000000000) (h0 : left s a = 0 :: left s (a + 1)) :
    Calls Tryz.prog 94 #[.pointer (some ⟨g, 0, none⟩), .func (.func 95) #[] #[]] w fun e w' => e = .returned (.slice none 0 0) ∧ Pr w' g s ((a + 1 : Nat) : Int) ∧ Past g w w' := by
  have HS := Lib.hid (rsmall_0 h ha hs h0)
  clear h ha hs h0
  go_enter Tryz.func94, Tryz.ntmps94
  go_wp2_with (first | (go_at_call 63; refine (pinsist_yes _).mono ?_; rintro e w1 ⟨rfl, rfl⟩) | (go_at_call 44; refine HS.out.mono ?_; rintro e w2 ⟨rfl, h2, hk2⟩; have H2 := Lib.hid (And.intro h2 hk2); clear h2 hk2))
  go_loopw [6, 13] (fun lv iv wr => lv = .slice none 0 0 ∧ iv = .int .i64 0 ∧ wr = w2) (fun _ _ _ => 0)
  case atStart => exact ⟨rfl, rfl, rfl⟩
  case round =>
    obtain ⟨rfl, rfl, rfl⟩ := hrel
    go_wp2_with fail
    go_ret
    exact ⟨rfl, H2.out⟩
set_option maxRecDepth 20000 in
theorem rlistV {w : World} {g : Nat} {s : ByteArray} {a : Nat} (h : Pr w g s a) (ha : a < s.size) (hs : s.size ≤ 1000000000) (h0 : left s a = 0 :: left s (a + 1)) :
    Calls Tryz.prog 96 #[.pointer (some ⟨g, 0, none⟩), .func (.func 97) #[] #[]] w fun e w' => e = .returned (.slice none 0 0) ∧ Pr w' g s ((a + 1 : Nat) : Int) ∧ Past g w w' := by
  have HS := Lib.hid (rsmall_0 h ha hs h0)
  clear h ha hs h0
  go_enter Tryz.func96, Tryz.ntmps96
  go_wp2_with (first | (go_at_call 63; refine (pinsist_yes _).mono ?_; rintro e w1 ⟨rfl, rfl⟩) | (go_at_call 44; refine HS.out.mono ?_; rintro e w2 ⟨rfl, h2, hk2⟩; have H2 := Lib.hid (And.intro h2 hk2); clear h2 hk2))
  go_loopw [6, 13] (fun lv iv wr => lv = .slice none 0 0 ∧ iv = .int .i64 0 ∧ wr = w2) (fun _ _ _ => 0)
  case atStart => exact ⟨rfl, rfl, rfl⟩
  case round =>
    obtain ⟨rfl, rfl, rfl⟩ := hrel
    go_wp2_with fail
    go_ret
    exact ⟨rfl, H2.out⟩
set_option maxRecDepth 20000 in
theorem rlistM {w : World} {g : Nat} {s : ByteArray} {a : Nat} (h : Pr w g s a) (ha : a < s.size) (hs : s.size ≤ 1000000000) (h0 : left s a = 0 :: left s (a + 1)) :
    Calls Tryz.prog 98 #[.pointer (some ⟨g, 0, none⟩), .func (.func 99) #[] #[]] w fun e w' => e = .returned (.slice none 0 0) ∧ Pr w' g s ((a + 1 : Nat) : Int) ∧ Past g w w' := by
  have HS := Lib.hid (rsmall_0 h ha hs h0)
  clear h ha hs h0
  go_enter Tryz.func98, Tryz.ntmps98
  go_wp2_with (first | (go_at_call 63; refine (pinsist_yes _).mono ?_; rintro e w1 ⟨rfl, rfl⟩) | (go_at_call 44; refine HS.out.mono ?_; rintro e w2 ⟨rfl, h2, hk2⟩; have H2 := Lib.hid (And.intro h2 hk2); clear h2 hk2))
  go_loopw [6, 13] (fun lv iv wr => lv = .slice none 0 0 ∧ iv = .int .i64 0 ∧ wr = w2) (fun _ _ _ => 0)
  case atStart => exact ⟨rfl, rfl, rfl⟩
  case round =>
    obtain ⟨rfl, rfl, rfl⟩ := hrel
    go_wp2_with fail
    go_ret
    exact ⟨rfl, H2.out⟩
set_option maxRecDepth 20000 in
theorem rlistN {w : World} {g : Nat} {s : ByteArray} {a : Nat} (h : Pr w g s a) (ha : a < s.size) (hs : s.size ≤ 1000000000) (h0 : left s a = 0 :: left s (a + 1)) :
    Calls Tryz.prog 100 #[.pointer (some ⟨g, 0, none⟩), .func (.func 101) #[] #[]] w fun e w' => e = .returned (.slice none 0 0) ∧ Pr w' g s ((a + 1 : Nat) : Int) ∧ Past g w w' := by
  have HS := Lib.hid (rsmall_0 h ha hs h0)
  clear h ha hs h0
  go_enter Tryz.func100, Tryz.ntmps100
  go_wp2_with (first | (go_at_call 63; refine (pinsist_yes _).mono ?_; rintro e w1 ⟨rfl, rfl⟩) | (go_at_call 44; refine HS.out.mono ?_; rintro e w2 ⟨rfl, h2, hk2⟩; have H2 := Lib.hid (And.intro h2 hk2); clear h2 hk2))
  go_loopw [6, 13] (fun lv iv wr => lv = .slice none 0 0 ∧ iv = .int .i64 0 ∧ wr = w2) (fun _ _ _ => 0)
  case atStart => exact ⟨rfl, rfl, rfl⟩
  case round =>
    obtain ⟨rfl, rfl, rfl⟩ := hrel
    go_wp2_with fail
    go_ret
    exact ⟨rfl, H2.out⟩
end Go.Proofs.YtekojglcbalhnaaGreatDoor
namespace Go.Proofs.YtekojglcbalhnaaGreatDoor
open Go.RowKit

theorem infoM : (Tryz.prog.info? 50).map (·.size) = some 6 := by kernel_rfl
theorem stM {ops : Array Oper} {rest : List Oper} {o : Oper} {a : Act} {w : World} {Q : Exit → Act → World → Prop} (hgd : o.guard = none) (x y : Operand) (ho : o.op = .store 50 x y) (hd : o.dst = none)
    (g : Nat) (cs : Array Value) (hx : a.eval x = .pointer (some ⟨g, 0, none⟩)) (hy : a.eval y = .agg cs) (old : Array Value) (hg : w.heap[g]? = some (.cells old 50 (0, 0))) (hold : old.size = 6) (hcs : cs.size = 6) (h1 : cs.all (·.oneCell') = true)
    (h : wpList Tryz.prog ops Q rest a (w.setRow g cs)) : wpList Tryz.prog ops Q (o :: rest) a w :=
  wpList_store_rowTo hgd 50 x y ho hd g cs hx hy 50 old hg (by rw [infoM, hcs]) (by rw [hold, hcs]) h1 h
theorem results_model {fn : Func} {k : Nat} (h : fn.results = #[.cell k 50]) (tmps : Array Value) (w : World) (R : Nat) (cs : Array Value)
    (hp : tmps.getD k undef = .pointer (some ⟨R, 0, none⟩)) (hg : w.heap[R]? = some (.cells cs 50 (0, 0))) (hs : cs.size = 6) :
    (results fn tmps).run Tryz.prog w = .ok (.agg cs) w := by
  have hp' : tmps[k]?.getD undef = .pointer (some ⟨R, 0, none⟩) := by simpa using hp
  simp [results, h, hp', asAddr, run_loadVar_row w R 50 50 cs (0, 0) _ hg Tryz.underlying50 rfl (by rw [hs]; exact infoM)]
theorem one6m : (#[.int .i64 0, .slice none 0 0, .slice none 0 0, .slice none 0 0, .slice none 0 0, .slice none 0 0] : Array Value).all (·.oneCell') = true := by simp [Value.oneCell']
set_option maxRecDepth 20000 in
set_option maxHeartbeats 2000000 in
theorem rmodel0 {w : World} {g : Nat} {s : ByteArray} {a : Nat} (h : Pr w g s a) (hs : s.size ≤ 1000000000) (hz : ∀ k, k < 6 → a + k < s.size ∧ left s (a + k) = 0 :: left s (a + k + 1)) :
    Calls Tryz.prog 65 #[.pointer (some ⟨g, 0, none⟩)] w fun e w' => e = .returned (.agg noModel) ∧ Pr w' g s ((a + 6 : Nat) : Int) ∧ Past g w w' := by
  have hb : Below w.heap.size w (w.alloc (.cells noModel 50)) := (Below.refl _ _).alloc (Nat.le_refl _) _
  have HG := Lib.hid h.lt
  have H0 := Lib.hid (h.past hb)
  have HX := Lib.hid (heap_alloc_new w (.cells noModel 50))
  have HP0 := Lib.hid (Past.of_below (g := g) hb)
  have HL := Lib.hid hs
  have HZ := Lib.hid hz
  unfold noModel at *
  clear h hs hz hb
  go_enter Tryz.func65, Tryz.ntmps65
  go_wp2_with (first
    | (go_at_call 44; refine (rsmall_0 H0.out (HZ.out 0 (by decide)).1 HL.out (HZ.out 0 (by decide)).2).mono ?_; rintro e v1 ⟨rfl, h, hp⟩; have H1 : Hid (Pr v1 g s ((a + 1 : Nat) : Int)) := Lib.hid h; have HP1 := Lib.hid (HP0.out.trans hp); have HX1 := Lib.hid ((hp.block w.heap.size (Array.getElem?_eq_some_iff.1 HX.out).1 (by have := HG.out; omega)).trans HX.out); clear h hp H0 HP0)
    | (go_at_call 94; refine (rlistP H1.out (HZ.out 1 (by decide)).1 HL.out (HZ.out 1 (by decide)).2).mono ?_; rintro e v2 ⟨rfl, h, hp⟩; have H2 : Hid (Pr v2 g s ((a + 2 : Nat) : Int)) := Lib.hid h; have HP2 := Lib.hid (HP1.out.trans hp); have HX2 := Lib.hid ((hp.block w.heap.size (Array.getElem?_eq_some_iff.1 HX1.out).1 (by have := HG.out; omega)).trans HX1.out); clear h hp H1 HP1)
    | (go_at_call 94; refine (rlistP H2.out (HZ.out 2 (by decide)).1 HL.out (HZ.out 2 (by decide)).2).mono ?_; rintro e v3 ⟨rfl, h, hp⟩; have H3 : Hid (Pr v3 g s ((a + 3 : Nat) : Int)) := Lib.hid h; have HP3 := Lib.hid (HP2.out.trans hp); have HX3 := Lib.hid ((hp.block w.heap.size (Array.getElem?_eq_some_iff.1 HX2.out).1 (by have := HG.out; omega)).trans HX2.out); clear h hp H2 HP2)
    | (go_at_call 96; refine (rlistV H3.out (HZ.out 3 (by decide)).1 HL.out (HZ.out 3 (by decide)).2).mono ?_; rintro e v4 ⟨rfl, h, hp⟩; have H4 : Hid (Pr v4 g s ((a + 4 : Nat) : Int)) := Lib.hid h; have HP4 := Lib.hid (HP3.out.trans hp); have HX4 := Lib.hid ((hp.block w.heap.size (Array.getElem?_eq_some_iff.1 HX3.out).1 (by have := HG.out; omega)).trans HX3.out); clear h hp H3 HP3)
    | (go_at_call 98; refine (rlistM H4.out (HZ.out 4 (by decide)).1 HL.out (HZ.out 4 (by decide)).2).mono ?_; rintro e v5 ⟨rfl, h, hp⟩; have H5 : Hid (Pr v5 g s ((a + 5 : Nat) : Int)) := Lib.hid h; have HP5 := Lib.hid (HP4.out.trans hp); have HX5 := Lib.hid ((hp.block w.heap.size (Array.getElem?_eq_some_iff.1 HX4.out).1 (by have := HG.out; omega)).trans HX4.out); clear h hp H4 HP4)
    | (go_at_call 100; refine (rlistN H5.out (HZ.out 5 (by decide)).1 HL.out (HZ.out 5 (by decide)).2).mono ?_; rintro e v6 ⟨rfl, h, hp⟩; have H6 : Hid (Pr v6 g s ((a + 6 : Nat) : Int)) := Lib.hid h; have HP6 := Lib.hid (HP5.out.trans hp); have HX6 := Lib.hid ((hp.block w.heap.size (Array.getElem?_eq_some_iff.1 HX5.out).1 (by have := HG.out; omega)).trans HX5.out); clear h hp H5 HP5)
    | (refine stM rfl (.tmp 2) (.tmp 15) rfl rfl w.heap.size #[.int .i64 0, .slice none 0 0, .slice none 0 0, .slice none 0 0, .slice none 0 0, .slice none 0 0] (by kernel_rfl) (by kernel_rfl) #[.int .i64 0, .slice none 0 0, .slice none 0 0, .slice none 0 0, .slice none 0 0, .slice none 0 0] HX6.out rfl rfl one6m ?_; refine Hid.out ?_))
  refine Lib.hid ?_
  have hr : (v6.setRow w.heap.size #[.int .i64 0, .slice none 0 0, .slice none 0 0, .slice none 0 0, .slice none 0 0, .slice none 0 0]).heap[w.heap.size]? = some (.cells #[.int .i64 0, .slice none 0 0, .slice none 0 0, .slice none 0 0, .slice none 0 0, .slice none 0 0] 50 (0, 0)) := setRow_heap v6 w.heap.size #[.int .i64 0, .slice none 0 0, .slice none 0 0, .slice none 0 0, .slice none 0 0, .slice none 0 0] #[.int .i64 0, .slice none 0 0, .slice none 0 0, .slice none 0 0, .slice none 0 0, .slice none 0 0] 50 (0, 0) HX6.out
  have hq : Pr (v6.setRow w.heap.size #[.int .i64 0, .slice none 0 0, .slice none 0 0, .slice none 0 0, .slice none 0 0, .slice none 0 0]) g s ((a + 6 : Nat) : Int) := (setRow_other v6 w.heap.size g _ (by have := HG.out; omega)).trans H6.out
  have hp : Past g w (v6.setRow w.heap.size #[.int .i64 0, .slice none 0 0, .slice none 0 0, .slice none 0 0, .slice none 0 0, .slice none 0 0]) := HP6.out.setRowNew (Nat.le_refl _) _
  have HF := Lib.hid (And.intro hr (And.intro hq hp))
  clear hr hq hp
  go_wp2_with fail
  exact bodyPost_ret (v := .agg #[.int .i64 0, .slice none 0 0, .slice none 0 0, .slice none 0 0, .slice none 0 0, .slice none 0 0]) (results_model rfl _ _ w.heap.size _ rfl HF.out.1 rfl) rfl ⟨rfl, HF.out.2.1, HF.out.2.2⟩
end Go.Proofs.YtekojglcbalhnaaGreatDoor
namespace Go.Proofs.YtekojglcbalhnaaGreatDoor
open Go.RowKit

def preB (a b : ByteArray) : Bool := decide (b.size ≤ a.size) && decide (a.extract 0 b.size = b)
theorem str_eq {a b : ByteArray} (h : a = b) : (a.toList == b.toList) = true := by subst h; exact beq_self_eq_true _
theorem str_ne {a b : ByteArray} (h : a ≠ b) : (a.toList == b.toList) = false := by
  rw [ByteArray.toList_eq, ByteArray.toList_eq]
  cases e : (a.data.toList == b.data.toList)
  · rfl
  · exfalso
    apply h
    have := eq_of_beq e
    cases a; cases b
    simpa [Array.toList_inj] using this
theorem pre_any (a b : ByteArray) (w : World) : Calls Tryz.prog 93 #[.string a, .string b] w fun e w' => e = .returned (.bool (preB a b)) ∧ w = w' := by
  obtain ⟨r, hr⟩ : ∃ r, r = preB a b := ⟨_, rfl⟩
  rw [← hr]
  have HR := Lib.hid hr
  clear hr
  by_cases h : b.size ≤ a.size
  · have t1 : decide ((b.size : Int) ≤ (a.size : Int)) = true := decide_eq_true (by omega)
    obtain ⟨c, hc⟩ : ∃ c, a.extract 0 b.size = c := ⟨_, rfl⟩
    by_cases e : c = b
    · have t2 := str_eq e
      go_enter Tryz.func93, Tryz.ntmps93
      go_wp2_with fail
      go_ret
      refine ⟨?_, rfl⟩
      rw [HR.out]; unfold preB; rw [hc]; simp [e, h]
    · have t2 := str_ne e
      go_enter Tryz.func93, Tryz.ntmps93
      go_wp2_with fail
      go_ret
      refine ⟨?_, rfl⟩
      rw [HR.out]; unfold preB; rw [hc]; simp [e]
  · have t1 : decide ((b.size : Int) ≤ (a.size : Int)) = false := decide_eq_false (by omega)
    go_enter Tryz.func93, Tryz.ntmps93
    go_wp2_with fail
    go_ret
    refine ⟨?_, rfl⟩
    rw [HR.out]; unfold preB; simp [h]
theorem HasPrefix_any (a b : ByteArray) (w : World) : Calls Tryz.prog 64 #[.string a, .string b] w fun e w' => e = .returned (.bool (preB a b)) ∧ w = w' := by
  have C := pre_any a b
  go_enter Tryz.func64, Tryz.ntmps64
  go_wp2_with (go_at_call 93; refine (C _).mono ?_; rintro e w1 ⟨rfl, rfl⟩)
  go_ret
  exact ⟨rfl, rfl⟩

set_option maxRecDepth 20000 in
set_option maxHeartbeats 2000000 in
theorem whole_bad {w : World} {g : Nat} {s : ByteArray} {a : Int} (h : Pr w g s a) (hn : preB s ⟨#[66, 80, 77, 49]⟩ = false) :
    Calls Tryz.prog 29 #[.pointer (some ⟨g, 0, none⟩)] w fun e w' => e = .panicked (errL 5) ∧ Past g w w' := by
  have C := HasPrefix_any s ⟨#[66, 80, 77, 49]⟩
  rw [hn] at C
  have HC := Lib.hid C
  have hb : ∀ V, Below w.heap.size w (w.alloc V) := fun V => (Below.refl _ _).alloc (Nat.le_refl _) V
  have HB := Lib.hid hb
  obtain ⟨c0, c1, cf⟩ := (h.past (hb (.cells #[.int .i64 0, .slice none 0 0, .slice none 0 0, .slice none 0 0, .slice none 0 0, .slice none 0 0] 50))).cells
  obtain ⟨d0, d1, df⟩ := h.cells
  clear C hb
  go_enter Tryz.func29, Tryz.ntmps29
  go_wp2_with (first
    | (go_at_call 64; refine (HC.out _).mono ?_; rintro e v1 ⟨rfl, rfl⟩)
    | (go_at_call 63; refine (pinsist_no _).mono ?_; rintro e v2 ⟨rfl, rfl⟩))
  exact ⟨rfl, rfl, Past.of_below (HB.out _)⟩
set_option maxRecDepth 20000 in
set_option maxHeartbeats 2000000 in
theorem whole_0 {w : World} {g : Nat} {s : ByteArray} {a : Int} (h : Pr w g s a) (hn : preB s ⟨#[66, 80, 77, 49]⟩ = true) (h10 : s.size = 10) (hz : ∀ k, k < 6 → 4 + k < s.size ∧ left s (4 + k) = 0 :: left s (4 + k + 1)) :
    Calls Tryz.prog 29 #[.pointer (some ⟨g, 0, none⟩)] w fun e w' => e = .returned (.agg noModel) ∧ Pr w' g s 10 ∧ Past g w w' := by
  have C := HasPrefix_any s ⟨#[66, 80, 77, 49]⟩
  rw [hn] at C
  have HC := Lib.hid C
  have hb : Below w.heap.size w (w.alloc (.cells #[.int .i64 0, .slice none 0 0, .slice none 0 0, .slice none 0 0, .slice none 0 0, .slice none 0 0] 50)) := (Below.refl _ _).alloc (Nat.le_refl _) _
  have h0 := h.past hb
  obtain ⟨c0, c1, cf⟩ := h0.cells
  obtain ⟨d0, d1, df⟩ := h.cells
  have h1 := h0.set1 ((4 : Nat) : Int)
  have HM := Lib.hid (rmodel0 (a := 4) h1 (by omega) hz)
  have HX := Lib.hid ((Below.heap_setCell (w.alloc (.cells #[.int .i64 0, .slice none 0 0, .slice none 0 0, .slice none 0 0, .slice none 0 0, .slice none 0 0] 50)) ⟨g, 1, none⟩ (.int .i64 4) w.heap.size (by have := h.lt; simp; omega)).trans (heap_alloc_new w (.cells #[.int .i64 0, .slice none 0 0, .slice none 0 0, .slice none 0 0, .slice none 0 0, .slice none 0 0] 50)))
  have HP := Lib.hid ((Past.of_below (g := g) hb).set 1 (.int .i64 4))
  have HG := Lib.hid h.lt
  have HS := Lib.hid h10
  have t1 : ((10 : Int) == (s.size : Int)) = true := by rw [h10]; rfl
  have t2 : ((10 : Nat) == s.size) = true := by rw [h10]; rfl
  have t3 : decide ((10 : Int) = (s.size : Int)) = true := by rw [h10]; rfl
  have t4 : (10 : Int) = (s.size : Int) := by rw [h10]; rfl
  unfold noModel at *
  clear C hb h0 h1 h h10 hz hn
  go_enter Tryz.func29, Tryz.ntmps29
  go_wp2_with (first
    | (go_at_call 64; refine (HC.out _).mono ?_; rintro e v1 ⟨rfl, rfl⟩)
    | (go_at_call 63; refine (pinsist_yes _).mono ?_; rintro e v2 ⟨rfl, rfl⟩)
    | (go_at_call 65; refine HM.out.mono ?_; rintro e v3 ⟨rfl, h, hp⟩; have h : Pr v3 g s 10 := h; obtain ⟨x0, x1, xf⟩ := h.cells; have HX3 := Lib.hid ((hp.block w.heap.size (Array.getElem?_eq_some_iff.1 HX.out).1 (by have := HG.out; omega)).trans HX.out); have HP3 := Lib.hid (HP.out.trans hp); have H3 := Lib.hid h; clear h hp))
  obtain ⟨W4, hW4⟩ : ∃ W4, W4 = v3.alloc (.cells #[.int .i64 0, .slice none 0 0, .slice none 0 0, .slice none 0 0, .slice none 0 0, .slice none 0 0] 50) := ⟨_, rfl⟩
  rw [← hW4]
  have hb4 : Below v3.heap.size v3 W4 := by rw [hW4]; exact (Below.refl _ _).alloc (Nat.le_refl _) _
  have hv4 : W4.heap[v3.heap.size]? = some (.cells #[.int .i64 0, .slice none 0 0, .slice none 0 0, .slice none 0 0, .slice none 0 0, .slice none 0 0] 50 (0, 0)) := by rw [hW4]; exact heap_alloc_new v3 _
  have h4 := H3.out.past hb4
  obtain ⟨e0, e1, ef⟩ := h4.cells
  obtain ⟨f0, f1, ff⟩ := h4.drew.cells
  have H4 := Lib.hid h4
  have HV4 := Lib.hid hv4
  have HX4 := Lib.hid ((hb4.block w.heap.size (Array.getElem?_eq_some_iff.1 HX3.out).1).trans HX3.out)
  have HP4 := Lib.hid (HP3.out.trans (Past.of_below (g := g) hb4))
  clear hb4 hv4 h4 hW4 x0 x1 xf
  go_region_held3 (fun W => W.cell? ⟨g, 0, none⟩ = some (.string s) ∧ W.cell? ⟨g, 1, none⟩ = some (.int .i64 10))
    (first
      | go_keep)
    (first
      | (go_simp; go_at_call 63; (with_reducible refine (pinsist_yes _).mono ?_); rintro e v5 ⟨rfl, rfl⟩))
  clear e0 e1 ef f0 f1 ff t1 t2 t3 t4
  obtain ⟨W5, hW5⟩ : ∃ W5, W5 = W4.drew := ⟨_, rfl⟩
  rw [← hW5]
  have hv5 : W5.heap[v3.heap.size]? = some (.cells #[.int .i64 0, .slice none 0 0, .slice none 0 0, .slice none 0 0, .slice none 0 0, .slice none 0 0] 50 (0, 0)) := by rw [hW5]; exact HV4.out
  have hx5 : W5.heap[w.heap.size]? = some (.cells #[.int .i64 0, .slice none 0 0, .slice none 0 0, .slice none 0 0, .slice none 0 0, .slice none 0 0] 50 (0, 0)) := by rw [hW5]; exact HX4.out
  have h5 : Pr W5 g s 10 := by rw [hW5]; exact H4.out
  have hp5 : Past g w W5 := by rw [hW5]; exact HP4.out.drew
  have z0 : W5.cell? ⟨v3.heap.size, 0, none⟩ = some (.int .i64 0) := by simp [World.cell?, hv5]
  have z1 : W5.cell? ⟨v3.heap.size, 1, none⟩ = some (.slice none 0 0) := by simp [World.cell?, hv5]
  have z2 : W5.cell? ⟨v3.heap.size, 2, none⟩ = some (.slice none 0 0) := by simp [World.cell?, hv5]
  have z3 : W5.cell? ⟨v3.heap.size, 3, none⟩ = some (.slice none 0 0) := by simp [World.cell?, hv5]
  have z4 : W5.cell? ⟨v3.heap.size, 4, none⟩ = some (.slice none 0 0) := by simp [World.cell?, hv5]
  have z5 : W5.cell? ⟨v3.heap.size, 5, none⟩ = some (.slice none 0 0) := by simp [World.cell?, hv5]
  have hr : (W5.setRow w.heap.size #[.int .i64 0, .slice none 0 0, .slice none 0 0, .slice none 0 0, .slice none 0 0, .slice none 0 0]).heap[w.heap.size]? = some (.cells #[.int .i64 0, .slice none 0 0, .slice none 0 0, .slice none 0 0, .slice none 0 0, .slice none 0 0] 50 (0, 0)) := setRow_heap W5 w.heap.size #[.int .i64 0, .slice none 0 0, .slice none 0 0, .slice none 0 0, .slice none 0 0, .slice none 0 0] #[.int .i64 0, .slice none 0 0, .slice none 0 0, .slice none 0 0, .slice none 0 0, .slice none 0 0] 50 (0, 0) hx5
  have hq : Pr (W5.setRow w.heap.size #[.int .i64 0, .slice none 0 0, .slice none 0 0, .slice none 0 0, .slice none 0 0, .slice none 0 0]) g s 10 := (setRow_other W5 w.heap.size g _ (by have := HG.out; omega)).trans h5
  have hp : Past g w (W5.setRow w.heap.size #[.int .i64 0, .slice none 0 0, .slice none 0 0, .slice none 0 0, .slice none 0 0, .slice none 0 0]) := hp5.setRowNew (Nat.le_refl _) _
  have HF := Lib.hid (And.intro hr (And.intro hq hp))
  have HX5 := Lib.hid hx5
  clear hr hq hp hW5 hv5 hx5 h5 hp5
  go_wp2_with (refine stM rfl (.tmp 2) (.tmp 26) rfl rfl w.heap.size #[.int .i64 0, .slice none 0 0, .slice none 0 0, .slice none 0 0, .slice none 0 0, .slice none 0 0] (by kernel_rfl) (by kernel_rfl) #[.int .i64 0, .slice none 0 0, .slice none 0 0, .slice none 0 0, .slice none 0 0, .slice none 0 0] HX5.out rfl rfl one6m ?_; refine Hid.out ?_)
  refine Lib.hid ?_
  go_wp2_with fail
  exact bodyPost_ret (v := .agg #[.int .i64 0, .slice none 0 0, .slice none 0 0, .slice none 0 0, .slice none 0 0, .slice none 0 0]) (results_model rfl _ _ w.heap.size _ rfl HF.out.1 rfl) rfl ⟨rfl, HF.out.2.1, HF.out.2.2⟩
end Go.Proofs.YtekojglcbalhnaaGreatDoor
