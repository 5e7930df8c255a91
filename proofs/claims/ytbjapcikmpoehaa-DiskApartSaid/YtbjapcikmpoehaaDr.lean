/-
  Contracts of the document's disk: a slice of strings behind a pointer.
-/
import Derived.Test.YtbjapcikmpoehaaDm
namespace Go.Proofs.Ytbjapcikmpoehaa
open Go.RowKit

/-- The cells of its segments. -/
def rcells (n : Nat) (L : Nat → ByteArray) : Array Value := ((List.range n).map fun i => Value.string (L i)).toArray
theorem rcells_size (n : Nat) (L : Nat → ByteArray) : (rcells n L).size = n := by simp [rcells]
theorem rcells_get {n : Nat} (L : Nat → ByteArray) {i : Nat} (h : i < n) : (rcells n L)[i]? = some (.string (L i)) := by simp [rcells, h]
theorem rcells_set (n : Nat) (L : Nat → ByteArray) (i : Nat) (b : ByteArray) : (rcells n L).setIfInBounds i (.string b) = rcells n (upd L i b) := by
  apply Array.ext_getElem?
  intro j
  rw [Array.getElem?_setIfInBounds]
  by_cases h : i = j
  · subst h
    simp only [if_true, rcells_size]
    by_cases hi : i < n
    · rw [if_pos hi, rcells_get _ hi]; simp [upd]
    · rw [if_neg hi]
      simp [rcells, hi]
  · rw [if_neg h]
    by_cases hj : j < n
    · rw [rcells_get _ hj, rcells_get _ hj]; simp [upd, Ne.symm h]
    · simp [rcells, hj]

/-- Block g is the document's disk of n segments, whose slice lies in block r. -/
structure RAt (w : World) (g r n : Nat) (L : Nat → ByteArray) : Prop where
  box : w.heap[g]? = some (.cells #[.slice (some ⟨r, 0, none⟩) n n] 32 (0, 0))
  row : w.heap[r]? = some (.cells (rcells n L) 9 (0, 0))
  n8 : n ≤ 8
  sz : ∀ i, (L i).size ≤ 4000
theorem RAt.cell {w : World} {g r n : Nat} {L : Nat → ByteArray} (h : RAt w g r n L) : w.cell? ⟨g, 0, none⟩ = some (.slice (some ⟨r, 0, none⟩) n n) := cell_of_heap h.box 0
theorem RAt.seg {w : World} {g r n : Nat} {L : Nat → ByteArray} (h : RAt w g r n L) {i : Nat} (hi : i < n) : w.cell? ⟨r, i, none⟩ = some (.string (L i)) := by
  rw [cell_of_heap h.row i, rcells_get _ hi]
theorem RAt.free {w : World} {g r n : Nat} {L : Nat → ByteArray} (h : RAt w g r n L) (i : Nat) : w.frozen? ⟨r, i, none⟩ = false := by
  simp [World.frozen?, h.row]
theorem RAt.ne {w : World} {g r n : Nat} {L : Nat → ByteArray} (h : RAt w g r n L) : g ≠ r := by
  intro e
  have a := h.box
  have b := h.row
  rw [e, b] at a
  simp at a

theorem is_any {g r n : Nat} {L : Nat → ByteArray} (a : Int) (w : World) (h : RAt w g r n L) :
    Calls Try.prog 23 #[.pointer (some ⟨g, 0, none⟩), .int .i64 a] w fun e w' => e = .returned (.bool (isS n a)) ∧ w = w' := by
  have hs := h.cell
  have n8 := h.n8
  clear h
  by_cases h0 : 0 ≤ a <;> by_cases h1 : a < n
  all_goals
    go_enter Try.func23, Try.ntmps23
    go_wp2
    go_ret
    exact ⟨by simp [isS, h0, h1], rfl⟩

/-- The document's disk answered c, and holds L now; nothing else has turned. -/
def Rdun (g r n c : Nat) (L : Nat → ByteArray) (w : World) (e : Ending) (w' : World) : Prop := e = .returned (.int .i64 c) ∧ w.grownBy w' (some r) ∧ RAt w' g r n L
theorem RAt.put {w : World} {g r n : Nat} {L : Nat → ByteArray} (h : RAt w g r n L) {i : Nat} {b : ByteArray} (hb : b.size ≤ 4000) : RAt (w.setCell ⟨r, i, none⟩ (.string b)).drew g r n (upd L i b) := by
  refine ⟨?_, ?_, h.n8, fun j => ?_⟩
  · show (w.setCell ⟨r, i, none⟩ (.string b)).heap[g]? = _
    rw [Below.heap_setCell _ _ _ _ h.ne]
    exact h.box
  · show (w.setCell ⟨r, i, none⟩ (.string b)).heap[r]? = _
    rw [heap_setCell_same w r i _ 9 (.string b) h.row, rcells_set]
  · unfold upd
    split
    · exact hb
    · exact h.sz j

theorem RTear_far {g r n : Nat} {L : Nat → ByteArray} (i k : Int) (s : ByteArray) (w : World) (h : RAt w g r n L) (hi : isS n i = false) :
    Calls Try.prog 13 #[.pointer (some ⟨g, 0, none⟩), .int .i64 i, .string s, .int .i64 k] w fun e w' => e = .returned (.int .i64 3) ∧ w = w' := by
  have HI := Lib.hid hi
  clear hi
  go_enter Try.func13, Try.ntmps13
  go_wp2_with fail
  refine (is_any i _ h).mono ?_
  rintro e w' ⟨rfl, rfl⟩
  have hi := HI.out
  go_wp2_with fail
  go_ret
  exact ⟨rfl, rfl⟩
theorem RTear_full {g r n : Nat} {L : Nat → ByteArray} (i : Nat) (k : Int) (s : ByteArray) (w : World) (h : RAt w g r n L) (hi : i < n) (hs : s.size ≤ 1000000) (hf : ¬ (L i).size + s.size ≤ 4000) :
    Calls Try.prog 13 #[.pointer (some ⟨g, 0, none⟩), .int .i64 i, .string s, .int .i64 k] w fun e w' => e = .returned (.int .i64 4) ∧ w = w' := by
  have HI : Hid (isS n i = true) := Lib.hid (by simp [isS]; omega)
  have HF : Hid (decide ((4000 : Int) < ((L i).size : Int) + (s.size : Int)) = true) := Lib.hid (by simp; omega)
  have hc := h.cell
  have hsg := h.seg hi
  have hz := h.sz i
  have hin : (i : Int) < n := by omega
  have n8 := h.n8
  have h0 : (0 : Int) ≤ i := by omega
  clear hf
  go_enter Try.func13, Try.ntmps13
  go_wp2_with fail
  refine (is_any _ _ h).mono ?_
  rintro e w' ⟨rfl, rfl⟩
  have hi' := HI.out
  have hf' := HF.out
  go_wp2_with fail
  go_ret
  exact ⟨rfl, rfl⟩
set_option maxHeartbeats 1000000 in
theorem RTear_ok {g r n : Nat} {L : Nat → ByteArray} (i : Nat) (k : Int) (s : ByteArray) (w : World) (h : RAt w g r n L) (hi : i < n) (hs : s.size ≤ 1000000) (hf : (L i).size + s.size ≤ 4000) :
    Calls Try.prog 13 #[.pointer (some ⟨g, 0, none⟩), .int .i64 i, .string s, .int .i64 k] w fun e w' => e = .returned (.int .i64 0) ∧ w' = (w.setCell ⟨r, i, none⟩ (.string (L i ++ cutS s k))).drew := by
  have HI : Hid (isS n i = true) := Lib.hid (by simp [isS]; omega)
  have HF : Hid (decide ((4000 : Int) < ((L i).size : Int) + (s.size : Int)) = false) := Lib.hid (by simp; omega)
  have hc := h.cell
  have hsg := h.seg hi
  have hfr := h.free i
  have hz := h.sz i
  have hin : (i : Int) < n := by omega
  have n8 := h.n8
  have h0 : (0 : Int) ≤ i := by omega
  go_enter Try.func13, Try.ntmps13
  go_wp2_with fail
  refine (is_any _ _ h).mono ?_
  rintro e w' ⟨rfl, rfl⟩
  have hi' := HI.out
  have hf' := HF.out
  go_wp2_with fail
  by_cases k0 : k ≤ 0
  · have HC := Lib.hid (cutS_none (L i) s k0)
    go_region
    all_goals
      go_wp2_with fail
      go_ret
      exact ⟨rfl, by rw [HC.out]⟩
  · by_cases k1 : k ≤ s.size
    · have HC := Lib.hid (cutS_some s k1)
      have kp : 0 < k := by omega
      go_region
      all_goals
        go_wp2_with fail
        go_ret
        exact ⟨rfl, by rw [HC.out]⟩
    · by_cases sp : 0 < s.size
      · have HC := Lib.hid (cutS_all s (k := k) (by omega))
        go_region
        all_goals
          go_wp2_with fail
          go_ret
          exact ⟨rfl, by rw [HC.out]⟩
      · have HC := Lib.hid (cutS_zero (L i) s k sp)
        go_region
        all_goals
          go_wp2_with fail
          go_ret
          exact ⟨rfl, by rw [HC.out]⟩

theorem RTear_any {g r n : Nat} {L : Nat → ByteArray} (i k : Int) (s : ByteArray) (w : World) (h : RAt w g r n L) (hs : s.size ≤ 1000000) :
    Calls Try.prog 13 #[.pointer (some ⟨g, 0, none⟩), .int .i64 i, .string s, .int .i64 k] w (Rdun g r n (tearC n L i s) (tearL n L i s k) w) := by
  by_cases hi : isS n i = true
  · obtain ⟨j, rfl, hj⟩ := isS_nat hi
    by_cases hf : (L j).size + s.size ≤ 4000
    · refine (RTear_ok j k s w h hj hs hf).mono ?_
      rintro e w' ⟨rfl, rfl⟩
      have hc : tearC n L j s = 0 := by simp [tearC, hi, hf]
      have hl : tearL n L j s k = upd L j (L j ++ cutS s k) := by simp [tearL, hc]
      rw [hc, hl]
      refine ⟨rfl, grown_put _ _ _ _, h.put ?_⟩
      have := cutS_size s k
      rw [ByteArray.size_append]
      omega
    · refine (RTear_full j k s w h hj hs hf).mono ?_
      rintro e w' ⟨rfl, rfl⟩
      have hc : tearC n L j s = 4 := by simp [tearC, hi, hf]
      have hl : tearL n L j s k = L := by simp [tearL, hc]
      rw [hc, hl]
      exact ⟨rfl, grown_refl _ _, h⟩
  · refine (RTear_far i k s w h (by simpa using hi)).mono ?_
    rintro e w' ⟨rfl, rfl⟩
    have hc : tearC n L i s = 3 := by simp [tearC, hi]
    have hl : tearL n L i s k = L := by simp [tearL, hc]
    rw [hc, hl]
    exact ⟨rfl, grown_refl _ _, h⟩

theorem RAppend_any {g r n : Nat} {L : Nat → ByteArray} (i : Int) (s : ByteArray) (w : World) (h : RAt w g r n L) (hs : s.size ≤ 1000000) :
    Calls Try.prog 11 #[.pointer (some ⟨g, 0, none⟩), .int .i64 i, .string s] w (Rdun g r n (tearC n L i s) (tearL n L i s s.size) w) := by
  go_enter Try.func11, Try.ntmps11
  go_wp2_with fail
  refine (RTear_any i _ s _ h hs).mono ?_
  rintro e w' ⟨rfl, hg, hd⟩
  have HG := Lib.hid hg
  clear hg
  go_wp2_with fail
  go_ret
  exact ⟨rfl, HG.out, hd⟩
end Go.Proofs.Ytbjapcikmpoehaa
