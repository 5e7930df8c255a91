/-
  The landed disk: Read, Room, Tear, Append.
-/
import Derived.Test.YtbjapcikmpoehaaDh
namespace Go.Proofs.Ytbjapcikmpoehaa
open Go.RowKit

theorem isS_nat {n : Nat} {i : Int} (h : isS n i = true) : ∃ k : Nat, i = k ∧ k < n := by
  simp [isS] at h
  exact ⟨i.toNat, by omega, by omega⟩

theorem Read_nil (i : Int) (w : World) : Calls Try.prog 17 #[.pointer none, .int .i64 i] w fun e w' => e = .returned (.string ⟨#[]⟩) ∧ w = w' := by
  go_enter Try.func17, Try.ntmps17
  go_wp2_with fail
  refine (lacks_nil _ _).mono ?_
  rintro e w' ⟨rfl, rfl⟩
  go_wp2_with fail
  go_ret
  exact ⟨rfl, rfl⟩

theorem Read_far {g n : Nat} {L : Nat → ByteArray} (i : Int) (w : World) (h : DAt w g n L) (hi : isS n i = false) :
    Calls Try.prog 17 #[.pointer (some ⟨g, 0, none⟩), .int .i64 i] w fun e w' => e = .returned (.string ⟨#[]⟩) ∧ w = w' := by
  have HI := Lib.hid hi
  clear hi
  go_enter Try.func17, Try.ntmps17
  go_wp2_with fail
  refine (lacks_no i _ h HI.out).mono ?_
  rintro e w' ⟨rfl, rfl⟩
  go_wp2_with fail
  go_ret
  exact ⟨rfl, rfl⟩

theorem Read_ok {g n : Nat} {L : Nat → ByteArray} (k : Nat) (w : World) (h : DAt w g n L) (hk : k < n) :
    Calls Try.prog 17 #[.pointer (some ⟨g, 0, none⟩), .int .i64 k] w fun e w' => e = .returned (.string (L k)) ∧ Below w.heap.size w w' := by
  have hi : isS n k = true := by simp [isS]; omega
  have HI := Lib.hid hi
  clear hi
  have n8 := h.n8
  have h8 : (k : Int) < 8 := by omega
  have h0 : (0 : Int) ≤ k := by omega
  have hs := h.seg k (by omega)
  have C := Lib.hid (fun W => Clone_any (s := L k) (by have := h.sz k; omega) W)
  go_enter Try.func17, Try.ntmps17
  go_wp2_with fail
  refine (lacks_ok _ _ h HI.out).mono ?_
  rintro e w' ⟨rfl, rfl⟩
  go_wp2_with (go_at_call 22; refine (C.out _).mono ?_; rintro e w1 ⟨rfl, hb1⟩; replace hb1 := Lib.hid hb1)
  go_ret
  exact ⟨rfl, hb1.out⟩

theorem Room_nil (i : Int) (w : World) : Calls Try.prog 19 #[.pointer none, .int .i64 i] w fun e w' => e = .returned (.int .i64 0) ∧ w = w' := by
  go_enter Try.func19, Try.ntmps19
  go_wp2_with fail
  refine (lacks_nil _ _).mono ?_
  rintro e w' ⟨rfl, rfl⟩
  go_wp2_with fail
  go_ret
  exact ⟨rfl, rfl⟩

theorem Room_ok {g n : Nat} {L : Nat → ByteArray} (k : Nat) (w : World) (h : DAt w g n L) (hk : k < n) :
    Calls Try.prog 19 #[.pointer (some ⟨g, 0, none⟩), .int .i64 k] w fun e w' => e = .returned (.int .i64 (4000 - (L k).size)) ∧ w = w' := by
  have hi : isS n k = true := by simp [isS]; omega
  have HI := Lib.hid hi
  clear hi
  have n8 := h.n8
  have h8 : (k : Int) < 8 := by omega
  have h0 : (0 : Int) ≤ k := by omega
  have hs := h.seg k (by omega)
  have hz := h.sz k
  go_enter Try.func19, Try.ntmps19
  go_wp2_with fail
  refine (lacks_ok _ _ h HI.out).mono ?_
  rintro e w' ⟨rfl, rfl⟩
  go_wp2_with fail
  go_ret
  exact ⟨rfl, rfl⟩

theorem Tear_nil (i k : Int) (s : ByteArray) (w : World) : Calls Try.prog 12 #[.pointer none, .int .i64 i, .string s, .int .i64 k] w fun e w' => e = .returned (.int .i64 1) ∧ w = w' := by
  go_enter Try.func12, Try.ntmps12
  go_wp2_with fail
  refine (lacks_nil _ _).mono ?_
  rintro e w' ⟨rfl, rfl⟩
  go_wp2_with fail
  go_ret
  exact ⟨rfl, rfl⟩

theorem Tear_far {g n : Nat} {L : Nat → ByteArray} (i k : Int) (s : ByteArray) (w : World) (h : DAt w g n L) (hi : isS n i = false) :
    Calls Try.prog 12 #[.pointer (some ⟨g, 0, none⟩), .int .i64 i, .string s, .int .i64 k] w fun e w' => e = .returned (.int .i64 3) ∧ w = w' := by
  have HI := Lib.hid hi
  clear hi
  go_enter Try.func12, Try.ntmps12
  go_wp2_with fail
  refine (lacks_no i _ h HI.out).mono ?_
  rintro e w' ⟨rfl, rfl⟩
  go_wp2_with fail
  go_ret
  exact ⟨rfl, rfl⟩

theorem Tear_full {g n : Nat} {L : Nat → ByteArray} (i : Nat) (k : Int) (s : ByteArray) (w : World) (h : DAt w g n L) (hi : i < n) (hf : ¬ (L i).size + s.size ≤ 4000) :
    Calls Try.prog 12 #[.pointer (some ⟨g, 0, none⟩), .int .i64 i, .string s, .int .i64 k] w fun e w' => e = .returned (.int .i64 4) ∧ w = w' := by
  have HI : Hid (isS n i = true) := Lib.hid (by simp [isS]; omega)
  have HF : Hid (decide (4000 - ((L i).size : Int) < (s.size : Int)) = true) := Lib.hid (by simp; omega)
  clear hf
  go_enter Try.func12, Try.ntmps12
  go_wp2_with fail
  refine (lacks_ok _ _ h HI.out).mono ?_
  rintro e w' ⟨rfl, rfl⟩
  go_wp2_with fail
  refine (Room_ok _ _ h hi).mono ?_
  rintro e w' ⟨rfl, rfl⟩
  have hf' := HF.out
  go_wp2_with fail
  go_ret
  exact ⟨rfl, rfl⟩

theorem cutS_none (b s : ByteArray) {k : Int} (h : k ≤ 0) : b ++ cutS s k = b := by
  have : k.toNat = 0 := by omega
  unfold cutS
  rw [this, Nat.zero_min]
  ext1
  simp
theorem cutS_some (s : ByteArray) {k : Int} (h : k ≤ s.size) : cutS s k = s.extract 0 k.toNat := by
  unfold cutS
  rw [Nat.min_eq_left (by omega)]
theorem cutS_all (s : ByteArray) {k : Int} (h : s.size ≤ k) : cutS s k = s := by
  unfold cutS
  rw [Nat.min_eq_right (by omega)]
  exact ByteArray.extract_zero_size
theorem cutS_zero (b s : ByteArray) (k : Int) (h : ¬ 0 < s.size) : b ++ cutS s k = b := by
  unfold cutS
  rw [show min k.toNat s.size = 0 by omega]
  ext1
  simp
theorem cutS_size (s : ByteArray) (k : Int) : (cutS s k).size ≤ s.size := by
  unfold cutS
  rw [ByteArray.size_extract]
  omega

theorem DAt.put {w : World} {g n : Nat} {L : Nat → ByteArray} (h : DAt w g n L) {i : Nat} (hi : i < 8) {b : ByteArray} (hb : b.size ≤ 4000) : DAt (w.setCell ⟨g, 1 + i, none⟩ (.string b)).drew g n (upd L i b) := by
  refine ⟨?_, h.n8, fun j => ?_⟩
  · show (w.setCell ⟨g, 1 + i, none⟩ (.string b)).heap[g]? = _
    rw [heap_setCell_same w g (1 + i) (dcells n L) 52 (.string b) h.blk]
    have e : ∀ i, i < 8 → some (Obj.cells ((dcells n L).setIfInBounds (1 + i) (.string b)) 52) = some (Obj.cells (dcells n (upd L i b)) 52) := nat_cases8 rfl rfl rfl rfl rfl rfl rfl rfl
    exact e i hi
  · unfold upd
    split
    · exact hb
    · exact h.sz j
theorem grown_put (w : World) (g o : Nat) (v : Value) : w.grownBy (w.setCell ⟨g, o, none⟩ v).drew (some g) :=
  ⟨rfl, rfl, rfl, by simp [World.setCell, World.drew], fun k _ hk => Below.heap_setCell _ _ _ _ (by simpa using hk)⟩
theorem grown_refl (w : World) (r : Option Nat) : w.grownBy w r := ⟨rfl, rfl, rfl, Nat.le_refl _, fun _ _ _ => rfl⟩

theorem DAt.put1 {w : World} {g n : Nat} {L : Nat → ByteArray} (h : DAt w g n L) {i : Nat} (hi : i < 8) {b : ByteArray} (hb : b.size ≤ 4000) : DAt (w.setCell ⟨g, 1 + i, none⟩ (.string b)) g n (upd L i b) :=
  ⟨(h.put hi hb).blk, h.n8, (h.put hi hb).sz⟩
theorem grown_clone {w w1 : World} {g : Nat} (hb : Below w.drew.heap.size w.drew w1) (o : Nat) (v : Value) : w.grownBy (w1.setCell ⟨g, o, none⟩ v) (some g) :=
  ⟨hb.1, hb.2, hb.3, by have := hb.size; simpa [World.setCell] using this, fun k hk hne => by
    rw [show (w1.setCell ⟨g, o, none⟩ v).heap[k]? = w1.heap[k]? from Below.heap_setCell _ _ _ _ (by simpa using hne)]
    exact hb.block k hk⟩
theorem cutS_neg (s : ByteArray) {k : Int} (h : k < 0) : cutS s k = ByteArray.empty := by
  unfold cutS
  rw [show k.toNat = 0 by omega, Nat.zero_min]
  ext1
  simp
set_option maxHeartbeats 1000000 in
theorem Tear_ok {g n : Nat} {L : Nat → ByteArray} (i : Nat) (k : Int) (s : ByteArray) (w : World) (h : DAt w g n L) (hi : i < n) (hf : (L i).size + s.size ≤ 4000) :
    Calls Try.prog 12 #[.pointer (some ⟨g, 0, none⟩), .int .i64 i, .string s, .int .i64 k] w fun e w' => e = .returned (.int .i64 0) ∧ w.grownBy w' (some g) ∧ DAt w' g n (upd L i (L i ++ cutS s k)) := by
  have HI : Hid (isS n i = true) := Lib.hid (by simp [isS]; omega)
  have HF : Hid (decide (4000 - ((L i).size : Int) < (s.size : Int)) = false) := Lib.hid (by simp; omega)
  have n8 := h.n8
  have h8 : (i : Int) < 8 := by omega
  have h0 : (0 : Int) ≤ i := by omega
  have HD := Lib.hid h
  have hs := h.seg i (by omega)
  have hfr := h.free (1 + i)
  go_enter Try.func12, Try.ntmps12
  go_wp2_with fail
  refine (lacks_ok _ _ h HI.out).mono ?_
  rintro e w' ⟨rfl, rfl⟩
  go_wp2_with fail
  refine (Room_ok _ _ h hi).mono ?_
  rintro e w' ⟨rfl, rfl⟩
  have hf' := HF.out
  have hi8 : i < 8 := by omega
  have hz := h.sz i
  have HS := Lib.hid (show (L i).size + (cutS s k).size ≤ 4000 by have := cutS_size s k; omega)
  by_cases k0 : k < 0
  · have HC : Hid (cutS s k = ByteArray.empty) := Lib.hid (cutS_neg s k0)
    have C := Lib.hid (fun W => Clone_any (s := ByteArray.empty) (by show 0 ≤ 1000000000; omega) W)
    have HZ : Hid ((L i ++ ByteArray.empty).size ≤ 4000) := Lib.hid (by have := HS.out; rw [HC.out] at this; rw [ByteArray.size_append]; omega)
    go_wp2_with fail
    refine wp_region_held_drew (S := fun _ => True) (by kernel_rfl) trivial (fun _ => ?_)
    refine takeG (i := 0) (some 30) (.pointer (some ⟨g, 0, none⟩)) rfl rfl (by kernel_rfl) (by kernel_rfl) (by kernel_rfl) (fun _ _ _ h => h) trivial (by kernel_rfl) (fun W hW => by go_simp) ?_
    simp only [Act.put, List.setIfInBounds_toArray, List.set_cons_zero, List.set_cons_succ]
    refine takeG (i := 1) (some 31) (.int .i64 (i : Int)) rfl rfl (by kernel_rfl) (by kernel_rfl) (by kernel_rfl) (fun _ _ _ h => h) trivial (by kernel_rfl) (fun W hW => by go_simp) ?_
    simp only [Act.put, List.setIfInBounds_toArray, List.set_cons_zero, List.set_cons_succ]
    refine takeG (i := 2) (some 32) (.pointer (some ⟨g, 0, none⟩)) rfl rfl (by kernel_rfl) (by kernel_rfl) (by kernel_rfl) (fun _ _ _ h => h) trivial (by kernel_rfl) (fun W hW => by go_simp) ?_
    simp only [Act.put, List.setIfInBounds_toArray, List.set_cons_zero, List.set_cons_succ]
    refine takeG (i := 3) (some 33) (.pointer (some ⟨g, 1, none⟩)) rfl rfl (by kernel_rfl) (by kernel_rfl) (by kernel_rfl) (fun _ _ _ h => h) trivial (by kernel_rfl) (fun W hW => by go_simp) ?_
    simp only [Act.put, List.setIfInBounds_toArray, List.set_cons_zero, List.set_cons_succ]
    refine takeG (i := 4) (some 34) (.pointer (some ⟨g, 1 + i, none⟩)) rfl rfl (by kernel_rfl) (by kernel_rfl) (by kernel_rfl) (fun _ _ _ h => h) trivial (by kernel_rfl) (fun W hW => by go_simp) ?_
    simp only [Act.put, List.setIfInBounds_toArray, List.set_cons_zero, List.set_cons_succ]
    refine takeG (i := 6) (some 36) (.string ByteArray.empty) rfl rfl (by kernel_rfl) (by kernel_rfl) (by kernel_rfl) (fun _ _ _ h => h) trivial (by kernel_rfl) (fun W hW => by go_simp) ?_
    simp only [Act.put, List.setIfInBounds_toArray, List.set_cons_zero, List.set_cons_succ]
    refine takeG (i := 9) (some 39) (.pointer (some ⟨g, 0, none⟩)) rfl rfl (by kernel_rfl) (by kernel_rfl) (by kernel_rfl) (fun _ _ _ h => h) trivial (by kernel_rfl) (fun W hW => by go_simp) ?_
    simp only [Act.put, List.setIfInBounds_toArray, List.set_cons_zero, List.set_cons_succ]
    refine takeG (i := 10) (some 40) (.pointer (some ⟨g, 1, none⟩)) rfl rfl (by kernel_rfl) (by kernel_rfl) (by kernel_rfl) (fun _ _ _ h => h) trivial (by kernel_rfl) (fun W hW => by go_simp) ?_
    simp only [Act.put, List.setIfInBounds_toArray, List.set_cons_zero, List.set_cons_succ]
    refine wpAnyH_ready (rs := [5, 7]) (by kernel_rfl) (by simp) (AllReadyH.cons rfl (fun K1 hK1 => ?_) (AllReadyH.cons rfl (fun K2 hK2 => ?_) AllReadyH.nil))
    · refine branchG (some 35) (.string (L i)) w.drew rfl (by kernel_rfl) (by go_simp) ?_
      refine hK1.out _ _ trivial (fun _ => ?_)
      simp only [Act.put, List.setIfInBounds_toArray, List.set_cons_zero, List.set_cons_succ]
      refine wpAnyH_ready (rs := [7]) (by kernel_rfl) (by simp) (AllReadyH.cons rfl (fun K2 hK2 => ?_) AllReadyH.nil)
      refine branchC 22 #[.string ByteArray.empty] (some 37) rfl (by kernel_rfl) (by go_simp) ((C.out _).mono ?_)
      rintro e w1 ⟨rfl, hb1⟩
      refine ⟨_, rfl, ?_⟩
      have HD1 := Lib.hid (HD.out.clone1 hb1)
      have HG1 := Lib.hid (grown_clone (w := w) (g := g) hb1 (1 + i) (.string (L i ++ ByteArray.empty)))
      have hs1 := HD1.out.seg i hi8
      have hfr1 := HD1.out.free (1 + i)
      clear hb1
      refine hK2.out _ _ trivial (fun _ => ?_)
      simp only [Act.put, List.setIfInBounds_toArray, List.set_cons_zero, List.set_cons_succ]
      refine takeG (i := 8) (some 38) (.string (L i ++ ByteArray.empty)) rfl rfl (by kernel_rfl) (by kernel_rfl) (by kernel_rfl) (fun _ _ _ h => h) trivial (by kernel_rfl) (fun W hW => by go_simp; omega) ?_
      simp only [Act.put, List.setIfInBounds_toArray, List.set_cons_zero, List.set_cons_succ]
      refine takeG (i := 11) (some 41) (.pointer (some ⟨g, 1 + i, none⟩)) rfl rfl (by kernel_rfl) (by kernel_rfl) (by kernel_rfl) (fun _ _ _ h => h) trivial (by kernel_rfl) (fun W hW => by go_simp) ?_
      simp only [Act.put, List.setIfInBounds_toArray, List.set_cons_zero, List.set_cons_succ]
      refine wpAnyH_ready (rs := [12]) (by kernel_rfl) (by simp) (AllReadyH.cons rfl (fun K3 hK3 => ?_) AllReadyH.nil)
      refine branchS (w1.setCell ⟨g, 1 + i, none⟩ (.string (L i ++ ByteArray.empty))) rfl (by kernel_rfl) (by go_simp) ?_
      refine hK3.out _ _ trivial (fun _ => ?_)
      refine wpAnyH_done (by kernel_rfl) ?_ _
      simp only [Act.put]
      go_wp2_with fail
      go_ret
      rw [HC.out]
      exact ⟨rfl, HG1.out, HD1.out.put1 hi8 HZ.out⟩
    · refine branchC 22 #[.string ByteArray.empty] (some 37) rfl (by kernel_rfl) (by go_simp) ((C.out _).mono ?_)
      rintro e w1 ⟨rfl, hb1⟩
      refine ⟨_, rfl, ?_⟩
      have HD1 := Lib.hid (HD.out.clone1 hb1)
      have HG1 := Lib.hid (grown_clone (w := w) (g := g) hb1 (1 + i) (.string (L i ++ ByteArray.empty)))
      have hs1 := HD1.out.seg i hi8
      have hfr1 := HD1.out.free (1 + i)
      clear hb1
      refine hK2.out _ _ trivial (fun _ => ?_)
      simp only [Act.put, List.setIfInBounds_toArray, List.set_cons_zero, List.set_cons_succ]
      refine wpAnyH_ready (rs := [5]) (by kernel_rfl) (by simp) (AllReadyH.cons rfl (fun K1 hK1 => ?_) AllReadyH.nil)
      refine branchG (some 35) (.string (L i)) w1 rfl (by kernel_rfl) (by go_simp) ?_
      refine hK1.out _ _ trivial (fun _ => ?_)
      simp only [Act.put, List.setIfInBounds_toArray, List.set_cons_zero, List.set_cons_succ]
      refine takeG (i := 8) (some 38) (.string (L i ++ ByteArray.empty)) rfl rfl (by kernel_rfl) (by kernel_rfl) (by kernel_rfl) (fun _ _ _ h => h) trivial (by kernel_rfl) (fun W hW => by go_simp; omega) ?_
      simp only [Act.put, List.setIfInBounds_toArray, List.set_cons_zero, List.set_cons_succ]
      refine takeG (i := 11) (some 41) (.pointer (some ⟨g, 1 + i, none⟩)) rfl rfl (by kernel_rfl) (by kernel_rfl) (by kernel_rfl) (fun _ _ _ h => h) trivial (by kernel_rfl) (fun W hW => by go_simp) ?_
      simp only [Act.put, List.setIfInBounds_toArray, List.set_cons_zero, List.set_cons_succ]
      refine wpAnyH_ready (rs := [12]) (by kernel_rfl) (by simp) (AllReadyH.cons rfl (fun K3 hK3 => ?_) AllReadyH.nil)
      refine branchS (w1.setCell ⟨g, 1 + i, none⟩ (.string (L i ++ ByteArray.empty))) rfl (by kernel_rfl) (by go_simp) ?_
      refine hK3.out _ _ trivial (fun _ => ?_)
      refine wpAnyH_done (by kernel_rfl) ?_ _
      simp only [Act.put]
      go_wp2_with fail
      go_ret
      rw [HC.out]
      exact ⟨rfl, HG1.out, HD1.out.put1 hi8 HZ.out⟩
  · by_cases k1 : k ≤ s.size
    · have HC : Hid (cutS s k = s.extract 0 k.toNat) := Lib.hid (cutS_some s k1)
      have C := Lib.hid (fun W => Clone_any (s := s.extract 0 k.toNat) (by rw [ByteArray.size_extract]; omega) W)
      have HZ : Hid ((L i ++ s.extract 0 k.toNat).size ≤ 4000) := Lib.hid (by have := HS.out; rw [HC.out] at this; rw [ByteArray.size_append]; omega)
      go_wp2_with fail
      refine wp_region_held_drew (S := fun _ => True) (by kernel_rfl) trivial (fun _ => ?_)
      refine takeG (i := 0) (some 30) (.pointer (some ⟨g, 0, none⟩)) rfl rfl (by kernel_rfl) (by kernel_rfl) (by kernel_rfl) (fun _ _ _ h => h) trivial (by kernel_rfl) (fun W hW => by go_simp) ?_
      simp only [Act.put, List.setIfInBounds_toArray, List.set_cons_zero, List.set_cons_succ]
      refine takeG (i := 1) (some 31) (.int .i64 (i : Int)) rfl rfl (by kernel_rfl) (by kernel_rfl) (by kernel_rfl) (fun _ _ _ h => h) trivial (by kernel_rfl) (fun W hW => by go_simp) ?_
      simp only [Act.put, List.setIfInBounds_toArray, List.set_cons_zero, List.set_cons_succ]
      refine takeG (i := 2) (some 32) (.pointer (some ⟨g, 0, none⟩)) rfl rfl (by kernel_rfl) (by kernel_rfl) (by kernel_rfl) (fun _ _ _ h => h) trivial (by kernel_rfl) (fun W hW => by go_simp) ?_
      simp only [Act.put, List.setIfInBounds_toArray, List.set_cons_zero, List.set_cons_succ]
      refine takeG (i := 3) (some 33) (.pointer (some ⟨g, 1, none⟩)) rfl rfl (by kernel_rfl) (by kernel_rfl) (by kernel_rfl) (fun _ _ _ h => h) trivial (by kernel_rfl) (fun W hW => by go_simp) ?_
      simp only [Act.put, List.setIfInBounds_toArray, List.set_cons_zero, List.set_cons_succ]
      refine takeG (i := 4) (some 34) (.pointer (some ⟨g, 1 + i, none⟩)) rfl rfl (by kernel_rfl) (by kernel_rfl) (by kernel_rfl) (fun _ _ _ h => h) trivial (by kernel_rfl) (fun W hW => by go_simp) ?_
      simp only [Act.put, List.setIfInBounds_toArray, List.set_cons_zero, List.set_cons_succ]
      refine takeG (i := 6) (some 36) (.string (s.extract 0 k.toNat)) rfl rfl (by kernel_rfl) (by kernel_rfl) (by kernel_rfl) (fun _ _ _ h => h) trivial (by kernel_rfl) (fun W hW => by go_simp) ?_
      simp only [Act.put, List.setIfInBounds_toArray, List.set_cons_zero, List.set_cons_succ]
      refine takeG (i := 9) (some 39) (.pointer (some ⟨g, 0, none⟩)) rfl rfl (by kernel_rfl) (by kernel_rfl) (by kernel_rfl) (fun _ _ _ h => h) trivial (by kernel_rfl) (fun W hW => by go_simp) ?_
      simp only [Act.put, List.setIfInBounds_toArray, List.set_cons_zero, List.set_cons_succ]
      refine takeG (i := 10) (some 40) (.pointer (some ⟨g, 1, none⟩)) rfl rfl (by kernel_rfl) (by kernel_rfl) (by kernel_rfl) (fun _ _ _ h => h) trivial (by kernel_rfl) (fun W hW => by go_simp) ?_
      simp only [Act.put, List.setIfInBounds_toArray, List.set_cons_zero, List.set_cons_succ]
      refine wpAnyH_ready (rs := [5, 7]) (by kernel_rfl) (by simp) (AllReadyH.cons rfl (fun K1 hK1 => ?_) (AllReadyH.cons rfl (fun K2 hK2 => ?_) AllReadyH.nil))
      · refine branchG (some 35) (.string (L i)) w.drew rfl (by kernel_rfl) (by go_simp) ?_
        refine hK1.out _ _ trivial (fun _ => ?_)
        simp only [Act.put, List.setIfInBounds_toArray, List.set_cons_zero, List.set_cons_succ]
        refine wpAnyH_ready (rs := [7]) (by kernel_rfl) (by simp) (AllReadyH.cons rfl (fun K2 hK2 => ?_) AllReadyH.nil)
        refine branchC 22 #[.string (s.extract 0 k.toNat)] (some 37) rfl (by kernel_rfl) (by go_simp) ((C.out _).mono ?_)
        rintro e w1 ⟨rfl, hb1⟩
        refine ⟨_, rfl, ?_⟩
        have HD1 := Lib.hid (HD.out.clone1 hb1)
        have HG1 := Lib.hid (grown_clone (w := w) (g := g) hb1 (1 + i) (.string (L i ++ s.extract 0 k.toNat)))
        have hs1 := HD1.out.seg i hi8
        have hfr1 := HD1.out.free (1 + i)
        clear hb1
        refine hK2.out _ _ trivial (fun _ => ?_)
        simp only [Act.put, List.setIfInBounds_toArray, List.set_cons_zero, List.set_cons_succ]
        refine takeG (i := 8) (some 38) (.string (L i ++ (s.extract 0 k.toNat))) rfl rfl (by kernel_rfl) (by kernel_rfl) (by kernel_rfl) (fun _ _ _ h => h) trivial (by kernel_rfl) (fun W hW => by go_simp; omega) ?_
        simp only [Act.put, List.setIfInBounds_toArray, List.set_cons_zero, List.set_cons_succ]
        refine takeG (i := 11) (some 41) (.pointer (some ⟨g, 1 + i, none⟩)) rfl rfl (by kernel_rfl) (by kernel_rfl) (by kernel_rfl) (fun _ _ _ h => h) trivial (by kernel_rfl) (fun W hW => by go_simp) ?_
        simp only [Act.put, List.setIfInBounds_toArray, List.set_cons_zero, List.set_cons_succ]
        refine wpAnyH_ready (rs := [12]) (by kernel_rfl) (by simp) (AllReadyH.cons rfl (fun K3 hK3 => ?_) AllReadyH.nil)
        refine branchS (w1.setCell ⟨g, 1 + i, none⟩ (.string (L i ++ (s.extract 0 k.toNat)))) rfl (by kernel_rfl) (by go_simp) ?_
        refine hK3.out _ _ trivial (fun _ => ?_)
        refine wpAnyH_done (by kernel_rfl) ?_ _
        simp only [Act.put]
        go_wp2_with fail
        go_ret
        rw [HC.out]
        exact ⟨rfl, HG1.out, HD1.out.put1 hi8 HZ.out⟩
      · refine branchC 22 #[.string (s.extract 0 k.toNat)] (some 37) rfl (by kernel_rfl) (by go_simp) ((C.out _).mono ?_)
        rintro e w1 ⟨rfl, hb1⟩
        refine ⟨_, rfl, ?_⟩
        have HD1 := Lib.hid (HD.out.clone1 hb1)
        have HG1 := Lib.hid (grown_clone (w := w) (g := g) hb1 (1 + i) (.string (L i ++ s.extract 0 k.toNat)))
        have hs1 := HD1.out.seg i hi8
        have hfr1 := HD1.out.free (1 + i)
        clear hb1
        refine hK2.out _ _ trivial (fun _ => ?_)
        simp only [Act.put, List.setIfInBounds_toArray, List.set_cons_zero, List.set_cons_succ]
        refine wpAnyH_ready (rs := [5]) (by kernel_rfl) (by simp) (AllReadyH.cons rfl (fun K1 hK1 => ?_) AllReadyH.nil)
        refine branchG (some 35) (.string (L i)) w1 rfl (by kernel_rfl) (by go_simp) ?_
        refine hK1.out _ _ trivial (fun _ => ?_)
        simp only [Act.put, List.setIfInBounds_toArray, List.set_cons_zero, List.set_cons_succ]
        refine takeG (i := 8) (some 38) (.string (L i ++ (s.extract 0 k.toNat))) rfl rfl (by kernel_rfl) (by kernel_rfl) (by kernel_rfl) (fun _ _ _ h => h) trivial (by kernel_rfl) (fun W hW => by go_simp; omega) ?_
        simp only [Act.put, List.setIfInBounds_toArray, List.set_cons_zero, List.set_cons_succ]
        refine takeG (i := 11) (some 41) (.pointer (some ⟨g, 1 + i, none⟩)) rfl rfl (by kernel_rfl) (by kernel_rfl) (by kernel_rfl) (fun _ _ _ h => h) trivial (by kernel_rfl) (fun W hW => by go_simp) ?_
        simp only [Act.put, List.setIfInBounds_toArray, List.set_cons_zero, List.set_cons_succ]
        refine wpAnyH_ready (rs := [12]) (by kernel_rfl) (by simp) (AllReadyH.cons rfl (fun K3 hK3 => ?_) AllReadyH.nil)
        refine branchS (w1.setCell ⟨g, 1 + i, none⟩ (.string (L i ++ (s.extract 0 k.toNat)))) rfl (by kernel_rfl) (by go_simp) ?_
        refine hK3.out _ _ trivial (fun _ => ?_)
        refine wpAnyH_done (by kernel_rfl) ?_ _
        simp only [Act.put]
        go_wp2_with fail
        go_ret
        rw [HC.out]
        exact ⟨rfl, HG1.out, HD1.out.put1 hi8 HZ.out⟩
    · have HC : Hid (cutS s k = s) := Lib.hid (cutS_all s (k := k) (by omega))
      have C := Lib.hid (fun W => Clone_any (s := s) (by omega) W)
      have HZ : Hid ((L i ++ s).size ≤ 4000) := Lib.hid (by have := HS.out; rw [HC.out] at this; rw [ByteArray.size_append]; omega)
      go_wp2_with fail
      refine wp_region_held_drew (S := fun _ => True) (by kernel_rfl) trivial (fun _ => ?_)
      refine takeG (i := 0) (some 30) (.pointer (some ⟨g, 0, none⟩)) rfl rfl (by kernel_rfl) (by kernel_rfl) (by kernel_rfl) (fun _ _ _ h => h) trivial (by kernel_rfl) (fun W hW => by go_simp) ?_
      simp only [Act.put, List.setIfInBounds_toArray, List.set_cons_zero, List.set_cons_succ]
      refine takeG (i := 1) (some 31) (.int .i64 (i : Int)) rfl rfl (by kernel_rfl) (by kernel_rfl) (by kernel_rfl) (fun _ _ _ h => h) trivial (by kernel_rfl) (fun W hW => by go_simp) ?_
      simp only [Act.put, List.setIfInBounds_toArray, List.set_cons_zero, List.set_cons_succ]
      refine takeG (i := 2) (some 32) (.pointer (some ⟨g, 0, none⟩)) rfl rfl (by kernel_rfl) (by kernel_rfl) (by kernel_rfl) (fun _ _ _ h => h) trivial (by kernel_rfl) (fun W hW => by go_simp) ?_
      simp only [Act.put, List.setIfInBounds_toArray, List.set_cons_zero, List.set_cons_succ]
      refine takeG (i := 3) (some 33) (.pointer (some ⟨g, 1, none⟩)) rfl rfl (by kernel_rfl) (by kernel_rfl) (by kernel_rfl) (fun _ _ _ h => h) trivial (by kernel_rfl) (fun W hW => by go_simp) ?_
      simp only [Act.put, List.setIfInBounds_toArray, List.set_cons_zero, List.set_cons_succ]
      refine takeG (i := 4) (some 34) (.pointer (some ⟨g, 1 + i, none⟩)) rfl rfl (by kernel_rfl) (by kernel_rfl) (by kernel_rfl) (fun _ _ _ h => h) trivial (by kernel_rfl) (fun W hW => by go_simp) ?_
      simp only [Act.put, List.setIfInBounds_toArray, List.set_cons_zero, List.set_cons_succ]
      refine takeG (i := 6) (some 36) (.string s) rfl rfl (by kernel_rfl) (by kernel_rfl) (by kernel_rfl) (fun _ _ _ h => h) trivial (by kernel_rfl) (fun W hW => by go_simp) ?_
      simp only [Act.put, List.setIfInBounds_toArray, List.set_cons_zero, List.set_cons_succ]
      refine takeG (i := 9) (some 39) (.pointer (some ⟨g, 0, none⟩)) rfl rfl (by kernel_rfl) (by kernel_rfl) (by kernel_rfl) (fun _ _ _ h => h) trivial (by kernel_rfl) (fun W hW => by go_simp) ?_
      simp only [Act.put, List.setIfInBounds_toArray, List.set_cons_zero, List.set_cons_succ]
      refine takeG (i := 10) (some 40) (.pointer (some ⟨g, 1, none⟩)) rfl rfl (by kernel_rfl) (by kernel_rfl) (by kernel_rfl) (fun _ _ _ h => h) trivial (by kernel_rfl) (fun W hW => by go_simp) ?_
      simp only [Act.put, List.setIfInBounds_toArray, List.set_cons_zero, List.set_cons_succ]
      refine wpAnyH_ready (rs := [5, 7]) (by kernel_rfl) (by simp) (AllReadyH.cons rfl (fun K1 hK1 => ?_) (AllReadyH.cons rfl (fun K2 hK2 => ?_) AllReadyH.nil))
      · refine branchG (some 35) (.string (L i)) w.drew rfl (by kernel_rfl) (by go_simp) ?_
        refine hK1.out _ _ trivial (fun _ => ?_)
        simp only [Act.put, List.setIfInBounds_toArray, List.set_cons_zero, List.set_cons_succ]
        refine wpAnyH_ready (rs := [7]) (by kernel_rfl) (by simp) (AllReadyH.cons rfl (fun K2 hK2 => ?_) AllReadyH.nil)
        refine branchC 22 #[.string s] (some 37) rfl (by kernel_rfl) (by go_simp) ((C.out _).mono ?_)
        rintro e w1 ⟨rfl, hb1⟩
        refine ⟨_, rfl, ?_⟩
        have HD1 := Lib.hid (HD.out.clone1 hb1)
        have HG1 := Lib.hid (grown_clone (w := w) (g := g) hb1 (1 + i) (.string (L i ++ s)))
        have hs1 := HD1.out.seg i hi8
        have hfr1 := HD1.out.free (1 + i)
        clear hb1
        refine hK2.out _ _ trivial (fun _ => ?_)
        simp only [Act.put, List.setIfInBounds_toArray, List.set_cons_zero, List.set_cons_succ]
        refine takeG (i := 8) (some 38) (.string (L i ++ s)) rfl rfl (by kernel_rfl) (by kernel_rfl) (by kernel_rfl) (fun _ _ _ h => h) trivial (by kernel_rfl) (fun W hW => by go_simp; omega) ?_
        simp only [Act.put, List.setIfInBounds_toArray, List.set_cons_zero, List.set_cons_succ]
        refine takeG (i := 11) (some 41) (.pointer (some ⟨g, 1 + i, none⟩)) rfl rfl (by kernel_rfl) (by kernel_rfl) (by kernel_rfl) (fun _ _ _ h => h) trivial (by kernel_rfl) (fun W hW => by go_simp) ?_
        simp only [Act.put, List.setIfInBounds_toArray, List.set_cons_zero, List.set_cons_succ]
        refine wpAnyH_ready (rs := [12]) (by kernel_rfl) (by simp) (AllReadyH.cons rfl (fun K3 hK3 => ?_) AllReadyH.nil)
        refine branchS (w1.setCell ⟨g, 1 + i, none⟩ (.string (L i ++ s))) rfl (by kernel_rfl) (by go_simp) ?_
        refine hK3.out _ _ trivial (fun _ => ?_)
        refine wpAnyH_done (by kernel_rfl) ?_ _
        simp only [Act.put]
        go_wp2_with fail
        go_ret
        rw [HC.out]
        exact ⟨rfl, HG1.out, HD1.out.put1 hi8 HZ.out⟩
      · refine branchC 22 #[.string s] (some 37) rfl (by kernel_rfl) (by go_simp) ((C.out _).mono ?_)
        rintro e w1 ⟨rfl, hb1⟩
        refine ⟨_, rfl, ?_⟩
        have HD1 := Lib.hid (HD.out.clone1 hb1)
        have HG1 := Lib.hid (grown_clone (w := w) (g := g) hb1 (1 + i) (.string (L i ++ s)))
        have hs1 := HD1.out.seg i hi8
        have hfr1 := HD1.out.free (1 + i)
        clear hb1
        refine hK2.out _ _ trivial (fun _ => ?_)
        simp only [Act.put, List.setIfInBounds_toArray, List.set_cons_zero, List.set_cons_succ]
        refine wpAnyH_ready (rs := [5]) (by kernel_rfl) (by simp) (AllReadyH.cons rfl (fun K1 hK1 => ?_) AllReadyH.nil)
        refine branchG (some 35) (.string (L i)) w1 rfl (by kernel_rfl) (by go_simp) ?_
        refine hK1.out _ _ trivial (fun _ => ?_)
        simp only [Act.put, List.setIfInBounds_toArray, List.set_cons_zero, List.set_cons_succ]
        refine takeG (i := 8) (some 38) (.string (L i ++ s)) rfl rfl (by kernel_rfl) (by kernel_rfl) (by kernel_rfl) (fun _ _ _ h => h) trivial (by kernel_rfl) (fun W hW => by go_simp; omega) ?_
        simp only [Act.put, List.setIfInBounds_toArray, List.set_cons_zero, List.set_cons_succ]
        refine takeG (i := 11) (some 41) (.pointer (some ⟨g, 1 + i, none⟩)) rfl rfl (by kernel_rfl) (by kernel_rfl) (by kernel_rfl) (fun _ _ _ h => h) trivial (by kernel_rfl) (fun W hW => by go_simp) ?_
        simp only [Act.put, List.setIfInBounds_toArray, List.set_cons_zero, List.set_cons_succ]
        refine wpAnyH_ready (rs := [12]) (by kernel_rfl) (by simp) (AllReadyH.cons rfl (fun K3 hK3 => ?_) AllReadyH.nil)
        refine branchS (w1.setCell ⟨g, 1 + i, none⟩ (.string (L i ++ s))) rfl (by kernel_rfl) (by go_simp) ?_
        refine hK3.out _ _ trivial (fun _ => ?_)
        refine wpAnyH_done (by kernel_rfl) ?_ _
        simp only [Act.put]
        go_wp2_with fail
        go_ret
        rw [HC.out]
        exact ⟨rfl, HG1.out, HD1.out.put1 hi8 HZ.out⟩

/-- What Tear answers, and what it leaves. -/
def tearC (n : Nat) (L : Nat → ByteArray) (i : Int) (s : ByteArray) : Nat := if isS n i = true then (if (L i.toNat).size + s.size ≤ 4000 then 0 else 4) else 3
def tearL (n : Nat) (L : Nat → ByteArray) (i : Int) (s : ByteArray) (k : Int) : Nat → ByteArray := if tearC n L i s = 0 then upd L i.toNat (L i.toNat ++ cutS s k) else L
/-- What Cut answers, and what it leaves. -/
def cutC (n : Nat) (L : Nat → ByteArray) (i m : Int) : Nat := if isS n i = true ∧ 0 ≤ m ∧ m ≤ (L i.toNat).size then 0 else 3
def cutL (n : Nat) (L : Nat → ByteArray) (i m : Int) : Nat → ByteArray := if cutC n L i m = 0 then upd L i.toNat ((L i.toNat).extract 0 m.toNat) else L
/-- What Read answers. -/
def readL (n : Nat) (L : Nat → ByteArray) (i : Int) : ByteArray := if isS n i = true then L i.toNat else ⟨#[]⟩

/-- The disk at g answered c, and holds L now; nothing else has turned. -/
def Dun (g n c : Nat) (L : Nat → ByteArray) (w : World) (e : Ending) (w' : World) : Prop := e = .returned (.int .i64 c) ∧ w.grownBy w' (some g) ∧ DAt w' g n L

theorem Tear_any {g n : Nat} {L : Nat → ByteArray} (i k : Int) (s : ByteArray) (w : World) (h : DAt w g n L) :
    Calls Try.prog 12 #[.pointer (some ⟨g, 0, none⟩), .int .i64 i, .string s, .int .i64 k] w (Dun g n (tearC n L i s) (tearL n L i s k) w) := by
  by_cases hi : isS n i = true
  · obtain ⟨j, rfl, hj⟩ := isS_nat hi
    have n8 := h.n8
    by_cases hf : (L j).size + s.size ≤ 4000
    · refine (Tear_ok j k s w h hj hf).mono ?_
      rintro e w' ⟨rfl, hg, hd⟩
      have hc : tearC n L j s = 0 := by simp [tearC, hi, hf]
      have hl : tearL n L j s k = upd L j (L j ++ cutS s k) := by simp [tearL, hc]
      rw [hc, hl]
      exact ⟨rfl, hg, hd⟩
    · refine (Tear_full j k s w h hj hf).mono ?_
      rintro e w' ⟨rfl, rfl⟩
      have hc : tearC n L j s = 4 := by simp [tearC, hi, hf]
      have hl : tearL n L j s k = L := by simp [tearL, hc]
      rw [hc, hl]
      exact ⟨rfl, grown_refl _ _, h⟩
  · refine (Tear_far i k s w h (by simpa using hi)).mono ?_
    rintro e w' ⟨rfl, rfl⟩
    have hc : tearC n L i s = 3 := by simp [tearC, hi]
    have hl : tearL n L i s k = L := by simp [tearL, hc]
    rw [hc, hl]
    exact ⟨rfl, grown_refl _ _, h⟩

theorem Append_nil (i : Int) (s : ByteArray) (w : World) : Calls Try.prog 10 #[.pointer none, .int .i64 i, .string s] w fun e w' => e = .returned (.int .i64 1) ∧ w = w' := by
  go_enter Try.func10, Try.ntmps10
  go_wp2_with fail
  refine (Tear_nil _ _ _ _).mono ?_
  rintro e w' ⟨rfl, rfl⟩
  go_wp2_with fail
  go_ret
  exact ⟨rfl, rfl⟩

theorem Append_any {g n : Nat} {L : Nat → ByteArray} (i : Int) (s : ByteArray) (w : World) (h : DAt w g n L) :
    Calls Try.prog 10 #[.pointer (some ⟨g, 0, none⟩), .int .i64 i, .string s] w (Dun g n (tearC n L i s) (tearL n L i s s.size) w) := by
  go_enter Try.func10, Try.ntmps10
  go_wp2_with fail
  refine (Tear_any i _ s _ h).mono ?_
  rintro e w' ⟨rfl, hg, hd⟩
  have HG := Lib.hid hg
  clear hg
  go_wp2_with fail
  go_ret
  exact ⟨rfl, HG.out, hd⟩
end Go.Proofs.Ytbjapcikmpoehaa
