/-
  The document's disk: Cut, Read.
-/
import Derived.Test.YtbjapcikmpoehaaDr
namespace Go.Proofs.Ytbjapcikmpoehaa
open Go.RowKit

theorem RRead_far {g r n : Nat} {L : Nat → ByteArray} (i : Int) (w : World) (h : RAt w g r n L) (hi : isS n i = false) :
    Calls Try.prog 18 #[.pointer (some ⟨g, 0, none⟩), .int .i64 i] w fun e w' => e = .returned (.string ⟨#[]⟩) ∧ w = w' := by
  have HI := Lib.hid hi
  clear hi
  go_enter Try.func18, Try.ntmps18
  go_wp2_with fail
  refine (is_any i _ h).mono ?_
  rintro e w' ⟨rfl, rfl⟩
  have hi := HI.out
  go_wp2_with fail
  go_ret
  exact ⟨rfl, rfl⟩
theorem RRead_ok {g r n : Nat} {L : Nat → ByteArray} (k : Nat) (w : World) (h : RAt w g r n L) (hk : k < n) :
    Calls Try.prog 18 #[.pointer (some ⟨g, 0, none⟩), .int .i64 k] w fun e w' => e = .returned (.string (L k)) ∧ w = w' := by
  have HI : Hid (isS n k = true) := Lib.hid (by simp [isS]; omega)
  have n8 := h.n8
  have hc := h.cell
  have hs := h.seg hk
  have hin : (k : Int) < n := by omega
  have h0 : (0 : Int) ≤ k := by omega
  go_enter Try.func18, Try.ntmps18
  go_wp2_with fail
  refine (is_any _ _ h).mono ?_
  rintro e w' ⟨rfl, rfl⟩
  have hi := HI.out
  go_wp2_with fail
  go_ret
  exact ⟨rfl, rfl⟩
theorem RRead_any {g r n : Nat} {L : Nat → ByteArray} (i : Int) (w : World) (h : RAt w g r n L) :
    Calls Try.prog 18 #[.pointer (some ⟨g, 0, none⟩), .int .i64 i] w fun e w' => e = .returned (.string (readL n L i)) ∧ w = w' := by
  by_cases hi : isS n i = true
  · obtain ⟨j, rfl, hj⟩ := isS_nat hi
    have e : readL n L j = L j := by simp [readL, hi]
    rw [e]
    exact RRead_ok j w h hj
  · have e : readL n L i = ⟨#[]⟩ := by simp [readL, hi]
    rw [e]
    exact RRead_far i w h (by simpa using hi)
theorem Read_any {g n : Nat} {L : Nat → ByteArray} (i : Int) (w : World) (h : DAt w g n L) :
    Calls Try.prog 17 #[.pointer (some ⟨g, 0, none⟩), .int .i64 i] w fun e w' => e = .returned (.string (readL n L i)) ∧ Below w.heap.size w w' := by
  by_cases hi : isS n i = true
  · obtain ⟨j, rfl, hj⟩ := isS_nat hi
    have e : readL n L j = L j := by simp [readL, hi]
    rw [e]
    exact Read_ok j w h hj
  · have e : readL n L i = ⟨#[]⟩ := by simp [readL, hi]
    rw [e]
    exact (Read_far i w h (by simpa using hi)).mono fun _ _ ⟨a, b⟩ => ⟨a, b ▸ Below.refl _ _⟩

theorem RCut_far {g r n : Nat} {L : Nat → ByteArray} (i m : Int) (w : World) (h : RAt w g r n L) (hi : isS n i = false) :
    Calls Try.prog 15 #[.pointer (some ⟨g, 0, none⟩), .int .i64 i, .int .i64 m] w fun e w' => e = .returned (.int .i64 3) ∧ w = w' := by
  have HI := Lib.hid hi
  clear hi
  go_enter Try.func15, Try.ntmps15
  go_wp2_with fail
  refine (is_any i _ h).mono ?_
  rintro e w' ⟨rfl, rfl⟩
  have hi := HI.out
  go_wp2_with fail
  go_ret
  exact ⟨rfl, rfl⟩
theorem RCut_no {g r n : Nat} {L : Nat → ByteArray} (i : Nat) (m : Int) (w : World) (h : RAt w g r n L) (hi : i < n) (hm : ¬ (0 ≤ m ∧ m ≤ (L i).size)) :
    Calls Try.prog 15 #[.pointer (some ⟨g, 0, none⟩), .int .i64 i, .int .i64 m] w fun e w' => e = .returned (.int .i64 3) ∧ w = w' := by
  have HI : Hid (isS n i = true) := Lib.hid (by simp [isS]; omega)
  have hc := h.cell
  have hsg := h.seg hi
  have n8 := h.n8
  have hin : (i : Int) < n := by omega
  have h0 : (0 : Int) ≤ i := by omega
  by_cases m0 : m < 0
  · have t : decide (m < 0) = true := by simpa using m0
    clear hm
    go_enter Try.func15, Try.ntmps15
    go_wp2_with fail
    refine (is_any _ _ h).mono ?_
    rintro e w' ⟨rfl, rfl⟩
    have hi' := HI.out
    go_wp2_with fail
    go_ret
    exact ⟨rfl, rfl⟩
  · have t : decide (m < 0) = false := by simpa using m0
    have t2 : decide (((L i).size : Int) < m) = true := by simp; omega
    clear hm m0
    go_enter Try.func15, Try.ntmps15
    go_wp2_with fail
    refine (is_any _ _ h).mono ?_
    rintro e w' ⟨rfl, rfl⟩
    have hi' := HI.out
    go_wp2_with fail
    go_ret
    exact ⟨rfl, rfl⟩
set_option maxHeartbeats 1000000 in
theorem RCut_ok {g r n : Nat} {L : Nat → ByteArray} (i m : Nat) (w : World) (h : RAt w g r n L) (hi : i < n) (hm : m ≤ (L i).size) :
    Calls Try.prog 15 #[.pointer (some ⟨g, 0, none⟩), .int .i64 i, .int .i64 m] w fun e w' => e = .returned (.int .i64 0) ∧ w' = (w.setCell ⟨r, i, none⟩ (.string ((L i).extract 0 m))).drew := by
  have HI : Hid (isS n i = true) := Lib.hid (by simp [isS]; omega)
  have hc := h.cell
  have hsg := h.seg hi
  have hfr := h.free i
  have n8 := h.n8
  have hin : (i : Int) < n := by omega
  have h0 : (0 : Int) ≤ i := by omega
  have t : decide ((m : Int) < 0) = false := by simp
  have t2 : decide ((L i).size < m) = false := by simp; omega
  have t3 : (m : Int) ≤ (L i).size := by omega
  have t4 : (0 : Int) ≤ m := by omega
  go_enter Try.func15, Try.ntmps15
  go_wp2_with fail
  refine (is_any _ _ h).mono ?_
  rintro e w' ⟨rfl, rfl⟩
  have hi' := HI.out
  go_wp2_with fail
  go_region
  all_goals
    go_wp2_with fail
    go_ret
    exact ⟨rfl, rfl⟩
theorem RCut_any {g r n : Nat} {L : Nat → ByteArray} (i m : Int) (w : World) (h : RAt w g r n L) :
    Calls Try.prog 15 #[.pointer (some ⟨g, 0, none⟩), .int .i64 i, .int .i64 m] w (Rdun g r n (cutC n L i m) (cutL n L i m) w) := by
  by_cases hi : isS n i = true
  · obtain ⟨j, rfl, hj⟩ := isS_nat hi
    by_cases hf : 0 ≤ m ∧ m ≤ (L j).size
    · obtain ⟨q, rfl⟩ : ∃ q : Nat, m = q := ⟨m.toNat, by omega⟩
      refine (RCut_ok j q w h hj (by omega)).mono ?_
      rintro e w' ⟨rfl, rfl⟩
      have hc : cutC n L j q = 0 := by simp [cutC, hi]; omega
      have hl : cutL n L j q = upd L j ((L j).extract 0 q) := by simp [cutL, hc]
      rw [hc, hl]
      refine ⟨rfl, grown_put _ _ _ _, h.put ?_⟩
      have := h.sz j
      rw [ByteArray.size_extract]
      omega
    · refine (RCut_no j m w h hj hf).mono ?_
      rintro e w' ⟨rfl, rfl⟩
      have hc : cutC n L j m = 3 := by
        unfold cutC
        rw [if_neg]
        intro hh
        exact hf ⟨hh.2.1, by simpa using hh.2.2⟩
      have hl : cutL n L j m = L := by simp [cutL, hc]
      rw [hc, hl]
      exact ⟨rfl, grown_refl _ _, h⟩
  · refine (RCut_far i m w h (by simpa using hi)).mono ?_
    rintro e w' ⟨rfl, rfl⟩
    have hc : cutC n L i m = 3 := by simp [cutC, hi]
    have hl : cutL n L i m = L := by simp [cutL, hc]
    rw [hc, hl]
    exact ⟨rfl, grown_refl _ _, h⟩
end Go.Proofs.Ytbjapcikmpoehaa
