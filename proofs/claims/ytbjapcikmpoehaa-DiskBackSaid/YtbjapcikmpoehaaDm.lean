/-
  The landed disk: New, Cut, Copy.
-/
import Derived.Test.YtbjapcikmpoehaaDl
namespace Go.Proofs.Ytbjapcikmpoehaa
open Go.RowKit

theorem New_bad (n : Int) (w : World) (h : ¬ (1 ≤ n ∧ n ≤ 8)) : Calls Try.prog 7 #[.int .i64 n] w fun e w' => e = .returned (.tuple #[.pointer none, .int .i64 2]) ∧ w = w' := by
  by_cases h1 : n < 1
  · go_enter Try.func7, Try.ntmps7
    go_wp2_with fail
    go_ret2
    exact ⟨rfl, rfl⟩
  · have h2 : 8 < n := by omega
    clear h
    go_enter Try.func7, Try.ntmps7
    go_wp2_with fail
    go_ret2
    exact ⟨rfl, rfl⟩

def emptyL : Nat → ByteArray := fun _ => ⟨#[]⟩
theorem New_ok (n : Nat) (w : World) (h1 : 1 ≤ n) (h8 : n ≤ 8) : Calls Try.prog 7 #[.int .i64 n] w fun e w' =>
    e = .returned (.tuple #[.pointer (some ⟨w.heap.size, 0, none⟩), .int .i64 0]) ∧ w' = w.alloc (.cells (dcells n emptyL) 52) := by
  have h1' : (1 : Int) ≤ n := by omega
  have h8' : (n : Int) ≤ 8 := by omega
  go_enter Try.func7, Try.ntmps7
  go_wp2_with fail
  go_ret2
  exact ⟨rfl, rfl⟩
theorem DAt.alloc {w : World} {g n : Nat} {L : Nat → ByteArray} (h : DAt w g n L) (o : Obj) : DAt (w.alloc o) g n L :=
  ⟨by rw [Below.heap_alloc w o g (by have := h.blk; rw [Array.getElem?_eq_some_iff] at this; exact this.1)]; exact h.blk, h.n8, h.sz⟩
theorem DAt.new (w : World) {n : Nat} (L : Nat → ByteArray) (h : n ≤ 8) (hz : ∀ i, (L i).size ≤ 4000) : DAt (w.alloc (.cells (dcells n L) 52)) w.heap.size n L :=
  ⟨heap_alloc_new w _, h, hz⟩
theorem emptyL_size (i : Nat) : (emptyL i).size ≤ 4000 := Nat.zero_le _

theorem Copy_nil (w : World) : Calls Try.prog 16 #[.pointer none] w fun e w' => e = .returned (.pointer none) ∧ w = w' := by
  go_enter Try.func16, Try.ntmps16
  go_wp2_with fail
  go_ret
  exact ⟨rfl, rfl⟩
theorem Copy_any {g n : Nat} {L : Nat → ByteArray} (w : World) (h : DAt w g n L) : Calls Try.prog 16 #[.pointer (some ⟨g, 0, none⟩)] w fun e w' =>
    e = .returned (.pointer (some ⟨w.heap.size, 0, none⟩)) ∧ w' = w.alloc (.cells (dcells n L) 52) := by
  have s0 := h.cnt
  have s1 := h.seg 0 (by omega)
  have s2 := h.seg 1 (by omega)
  have s3 := h.seg 2 (by omega)
  have s4 := h.seg 3 (by omega)
  have s5 := h.seg 4 (by omega)
  have s6 := h.seg 5 (by omega)
  have s7 := h.seg 6 (by omega)
  have s8 := h.seg 7 (by omega)
  clear h
  go_enter Try.func16, Try.ntmps16
  go_wp2_with fail
  go_ret
  exact ⟨rfl, rfl⟩

theorem Cut_nil (i m : Int) (w : World) : Calls Try.prog 14 #[.pointer none, .int .i64 i, .int .i64 m] w fun e w' => e = .returned (.int .i64 1) ∧ w = w' := by
  go_enter Try.func14, Try.ntmps14
  go_wp2_with fail
  refine (lacks_nil _ _).mono ?_
  rintro e w' ⟨rfl, rfl⟩
  go_wp2_with fail
  go_ret
  exact ⟨rfl, rfl⟩
theorem Cut_far {g n : Nat} {L : Nat → ByteArray} (i m : Int) (w : World) (h : DAt w g n L) (hi : isS n i = false) :
    Calls Try.prog 14 #[.pointer (some ⟨g, 0, none⟩), .int .i64 i, .int .i64 m] w fun e w' => e = .returned (.int .i64 3) ∧ w = w' := by
  have HI := Lib.hid hi
  clear hi
  go_enter Try.func14, Try.ntmps14
  go_wp2_with fail
  refine (lacks_no i _ h HI.out).mono ?_
  rintro e w' ⟨rfl, rfl⟩
  go_wp2_with fail
  go_ret
  exact ⟨rfl, rfl⟩
theorem Cut_no {g n : Nat} {L : Nat → ByteArray} (i : Nat) (m : Int) (w : World) (h : DAt w g n L) (hi : i < n) (hm : ¬ (0 ≤ m ∧ m ≤ (L i).size)) :
    Calls Try.prog 14 #[.pointer (some ⟨g, 0, none⟩), .int .i64 i, .int .i64 m] w fun e w' => e = .returned (.int .i64 3) ∧ w = w' := by
  have HI : Hid (isS n i = true) := Lib.hid (by simp [isS]; omega)
  have n8 := h.n8
  have h8 : (i : Int) < 8 := by omega
  have h0 : (0 : Int) ≤ i := by omega
  have hs := h.seg i (by omega)
  by_cases m0 : m < 0
  · have t : decide (m < 0) = true := by simpa using m0
    clear hm
    go_enter Try.func14, Try.ntmps14
    go_wp2_with fail
    refine (lacks_ok _ _ h HI.out).mono ?_
    rintro e w' ⟨rfl, rfl⟩
    go_wp2_with fail
    go_ret
    exact ⟨rfl, rfl⟩
  · have t : decide (m < 0) = false := by simpa using m0
    have t2 : decide (((L i).size : Int) < m) = true := by simp; omega
    clear hm m0
    go_enter Try.func14, Try.ntmps14
    go_wp2_with fail
    refine (lacks_ok _ _ h HI.out).mono ?_
    rintro e w' ⟨rfl, rfl⟩
    go_wp2_with fail
    go_ret
    exact ⟨rfl, rfl⟩
set_option maxHeartbeats 1000000 in
theorem Cut_ok {g n : Nat} {L : Nat → ByteArray} (i m : Nat) (w : World) (h : DAt w g n L) (hi : i < n) (hm : m ≤ (L i).size) :
    Calls Try.prog 14 #[.pointer (some ⟨g, 0, none⟩), .int .i64 i, .int .i64 m] w fun e w' => e = .returned (.int .i64 0) ∧ w.grownBy w' (some g) ∧ DAt w' g n (upd L i ((L i).extract 0 m)) := by
  have HI : Hid (isS n i = true) := Lib.hid (by simp [isS]; omega)
  have n8 := h.n8
  have hi8 : i < 8 := by omega
  have h8 : (i : Int) < 8 := by omega
  have h0 : (0 : Int) ≤ i := by omega
  have hz := h.sz i
  have HD := Lib.hid h
  have hs := h.seg i (by omega)
  have hfr := h.free (1 + i)
  have t : decide ((m : Int) < 0) = false := by simp
  have t2 : decide ((L i).size < m) = false := by simp; omega
  have t3 : (m : Int) ≤ (L i).size := by omega
  have t4 : (0 : Int) ≤ m := by omega
  have C := Lib.hid (fun W => Clone_any (s := (L i).extract 0 m) (by rw [ByteArray.size_extract]; omega) W)
  have HZ : Hid (((L i).extract 0 m).size ≤ 4000) := Lib.hid (by rw [ByteArray.size_extract]; omega)
  go_enter Try.func14, Try.ntmps14
  go_wp2_with fail
  refine (lacks_ok _ _ h HI.out).mono ?_
  rintro e w' ⟨rfl, rfl⟩
  go_wp2_with fail
  refine wp_region_held_drew (S := fun _ => True) (by kernel_rfl) trivial (fun _ => ?_)
  refine takeG (i := 0) (some 27) (.pointer (some ⟨g, 0, none⟩)) rfl rfl (by kernel_rfl) (by kernel_rfl) (by kernel_rfl) (fun _ _ _ h => h) trivial (by kernel_rfl) (fun W hW => by go_simp) ?_
  simp only [Act.put, List.setIfInBounds_toArray, List.set_cons_zero, List.set_cons_succ]
  refine takeG (i := 1) (some 28) (.int .i64 (i : Int)) rfl rfl (by kernel_rfl) (by kernel_rfl) (by kernel_rfl) (fun _ _ _ h => h) trivial (by kernel_rfl) (fun W hW => by go_simp) ?_
  simp only [Act.put, List.setIfInBounds_toArray, List.set_cons_zero, List.set_cons_succ]
  refine takeG (i := 2) (some 29) (.pointer (some ⟨g, 0, none⟩)) rfl rfl (by kernel_rfl) (by kernel_rfl) (by kernel_rfl) (fun _ _ _ h => h) trivial (by kernel_rfl) (fun W hW => by go_simp) ?_
  simp only [Act.put, List.setIfInBounds_toArray, List.set_cons_zero, List.set_cons_succ]
  refine takeG (i := 3) (some 30) (.int .i64 (i : Int)) rfl rfl (by kernel_rfl) (by kernel_rfl) (by kernel_rfl) (fun _ _ _ h => h) trivial (by kernel_rfl) (fun W hW => by go_simp) ?_
  simp only [Act.put, List.setIfInBounds_toArray, List.set_cons_zero, List.set_cons_succ]
  refine takeG (i := 4) (some 31) (.pointer (some ⟨g, 0, none⟩)) rfl rfl (by kernel_rfl) (by kernel_rfl) (by kernel_rfl) (fun _ _ _ h => h) trivial (by kernel_rfl) (fun W hW => by go_simp) ?_
  simp only [Act.put, List.setIfInBounds_toArray, List.set_cons_zero, List.set_cons_succ]
  refine takeG (i := 5) (some 32) (.pointer (some ⟨g, 1, none⟩)) rfl rfl (by kernel_rfl) (by kernel_rfl) (by kernel_rfl) (fun _ _ _ h => h) trivial (by kernel_rfl) (fun W hW => by go_simp) ?_
  simp only [Act.put, List.setIfInBounds_toArray, List.set_cons_zero, List.set_cons_succ]
  refine takeG (i := 6) (some 33) (.pointer (some ⟨g, 1 + i, none⟩)) rfl rfl (by kernel_rfl) (by kernel_rfl) (by kernel_rfl) (fun _ _ _ h => h) trivial (by kernel_rfl) (fun W hW => by go_simp) ?_
  simp only [Act.put, List.setIfInBounds_toArray, List.set_cons_zero, List.set_cons_succ]
  refine takeG (i := 8) (some 35) (.int .i64 (m : Int)) rfl rfl (by kernel_rfl) (by kernel_rfl) (by kernel_rfl) (fun _ _ _ h => h) trivial (by kernel_rfl) (fun W hW => by go_simp) ?_
  simp only [Act.put, List.setIfInBounds_toArray, List.set_cons_zero, List.set_cons_succ]
  refine takeG (i := 11) (some 38) (.pointer (some ⟨g, 0, none⟩)) rfl rfl (by kernel_rfl) (by kernel_rfl) (by kernel_rfl) (fun _ _ _ h => h) trivial (by kernel_rfl) (fun W hW => by go_simp) ?_
  simp only [Act.put, List.setIfInBounds_toArray, List.set_cons_zero, List.set_cons_succ]
  refine takeG (i := 12) (some 39) (.pointer (some ⟨g, 1, none⟩)) rfl rfl (by kernel_rfl) (by kernel_rfl) (by kernel_rfl) (fun _ _ _ h => h) trivial (by kernel_rfl) (fun W hW => by go_simp) ?_
  simp only [Act.put, List.setIfInBounds_toArray, List.set_cons_zero, List.set_cons_succ]
  refine wpAnyH_ready (rs := [7]) (by kernel_rfl) (by simp) (AllReadyH.cons rfl (fun K1 hK1 => ?_) AllReadyH.nil)
  refine branchG (some 34) (.string (L i)) w.drew rfl (by kernel_rfl) (by go_simp) ?_
  refine hK1.out _ _ trivial (fun _ => ?_)
  simp only [Act.put, List.setIfInBounds_toArray, List.set_cons_zero, List.set_cons_succ]
  refine takeG (i := 9) (some 36) (.string ((L i).extract 0 m)) rfl rfl (by kernel_rfl) (by kernel_rfl) (by kernel_rfl) (fun _ _ _ h => h) trivial (by kernel_rfl) (fun W hW => by go_simp) ?_
  simp only [Act.put, List.setIfInBounds_toArray, List.set_cons_zero, List.set_cons_succ]
  refine wpAnyH_ready (rs := [10]) (by kernel_rfl) (by simp) (AllReadyH.cons rfl (fun K2 hK2 => ?_) AllReadyH.nil)
  refine branchC 22 #[.string ((L i).extract 0 m)] (some 37) rfl (by kernel_rfl) (by go_simp) ((C.out _).mono ?_)
  rintro e w1 ⟨rfl, hb1⟩
  refine ⟨_, rfl, ?_⟩
  have HD1 := Lib.hid (HD.out.clone1 hb1)
  have HG1 := Lib.hid (grown_clone (w := w) (g := g) hb1 (1 + i) (.string ((L i).extract 0 m)))
  have hs1 := HD1.out.seg i hi8
  have hfr1 := HD1.out.free (1 + i)
  clear hb1
  refine hK2.out _ _ trivial (fun _ => ?_)
  simp only [Act.put, List.setIfInBounds_toArray, List.set_cons_zero, List.set_cons_succ]
  refine takeG (i := 13) (some 40) (.pointer (some ⟨g, 1 + i, none⟩)) rfl rfl (by kernel_rfl) (by kernel_rfl) (by kernel_rfl) (fun _ _ _ h => h) trivial (by kernel_rfl) (fun W hW => by go_simp) ?_
  simp only [Act.put, List.setIfInBounds_toArray, List.set_cons_zero, List.set_cons_succ]
  refine wpAnyH_ready (rs := [14]) (by kernel_rfl) (by simp) (AllReadyH.cons rfl (fun K3 hK3 => ?_) AllReadyH.nil)
  refine branchS (w1.setCell ⟨g, 1 + i, none⟩ (.string ((L i).extract 0 m))) rfl (by kernel_rfl) (by go_simp) ?_
  refine hK3.out _ _ trivial (fun _ => ?_)
  refine wpAnyH_done (by kernel_rfl) ?_ _
  simp only [Act.put]
  go_wp2_with fail
  go_ret
  exact ⟨rfl, HG1.out, HD1.out.put1 hi8 HZ.out⟩

theorem Cut_any {g n : Nat} {L : Nat → ByteArray} (i m : Int) (w : World) (h : DAt w g n L) :
    Calls Try.prog 14 #[.pointer (some ⟨g, 0, none⟩), .int .i64 i, .int .i64 m] w (Dun g n (cutC n L i m) (cutL n L i m) w) := by
  by_cases hi : isS n i = true
  · obtain ⟨j, rfl, hj⟩ := isS_nat hi
    have n8 := h.n8
    by_cases hf : 0 ≤ m ∧ m ≤ (L j).size
    · obtain ⟨q, rfl⟩ : ∃ q : Nat, m = q := ⟨m.toNat, by omega⟩
      refine (Cut_ok j q w h hj (by omega)).mono ?_
      rintro e w' ⟨rfl, hg, hd⟩
      have hc : cutC n L j q = 0 := by simp [cutC, hi]; omega
      have hl : cutL n L j q = upd L j ((L j).extract 0 q) := by simp [cutL, hc]
      rw [hc, hl]
      exact ⟨rfl, hg, hd⟩
    · refine (Cut_no j m w h hj hf).mono ?_
      rintro e w' ⟨rfl, rfl⟩
      have hc : cutC n L j m = 3 := by
        unfold cutC
        rw [if_neg]
        intro hh
        exact hf ⟨hh.2.1, by simpa using hh.2.2⟩
      have hl : cutL n L j m = L := by simp [cutL, hc]
      rw [hc, hl]
      exact ⟨rfl, grown_refl _ _, h⟩
  · refine (Cut_far i m w h (by simpa using hi)).mono ?_
    rintro e w' ⟨rfl, rfl⟩
    have hc : cutC n L i m = 3 := by simp [cutC, hi]
    have hl : cutL n L i m = L := by simp [cutL, hc]
    rw [hc, hl]
    exact ⟨rfl, grown_refl _ _, h⟩
end Go.Proofs.Ytbjapcikmpoehaa
