/-
  The closure of DiskApart: one call played on one disk.
-/
import Derived.Test.YtbjapcikmpoehaaDs
import Derived.Test.YtbjapcikmpoehaaDg
namespace Go.Proofs.Ytbjapcikmpoehaa.lawDiskApart
open Go.RowKit

def Yes (w : World) (e : Ending) (w' : World) : Prop := e = .returned (.bool true) ∧ Below w.heap.size w w'
theorem row_ne {w : World} {g h : Nat} {cs ds : Array Value} {s t : TypeId} (a : w.heap[g]? = some (.cells cs s (0, 0))) (b : w.heap[h]? = some (.cells ds t (0, 0))) (hst : s ≠ t) : g ≠ h := by
  intro e
  subst e
  rw [a] at b
  simp at b
  exact hst b.2
theorem row_lt {w : World} {g : Nat} {o : Obj} (a : w.heap[g]? = some o) : g < w.heap.size := by
  rw [Array.getElem?_eq_some_iff] at a
  exact a.1
/-- A call's cells, its segment's number turned. -/
def ocells (v : OpV) : Array Value := #[.int .i64 v.k, .int .i64 v.i, .int .i64 v.n, .string v.s]
/-- What a call leaves. -/
def opL (v : OpV) (L : Nat → ByteArray) : Nat → ByteArray :=
  if v.k = 1 then tearL 3 L v.i v.s v.s.size else if v.k = 2 then tearL 3 L v.i v.s v.n else cutL 3 L v.i v.n
theorem upd_other (L : Nat → ByteArray) {i x : Nat} (b : ByteArray) (h : x ≠ i) : upd L i b x = L x := by simp [upd, h]
theorem opL_other (v : OpV) (L : Nat → ByteArray) {x : Nat} (h : x ≠ v.i.toNat) : opL v L x = L x := by
  unfold opL tearL cutL
  split
  · split
    · exact upd_other _ _ h
    · rfl
  · split
    · split
      · exact upd_other _ _ h
      · rfl
    · split
      · exact upd_other _ _ h
      · rfl
theorem opL_same (v : OpV) (L M : Nat → ByteArray) (h : L v.i.toNat = M v.i.toNat) : opL v L v.i.toNat = opL v M v.i.toNat := by
  have h1 : tearC 3 L v.i v.s = tearC 3 M v.i v.s := by unfold tearC; rw [h]
  have h2 : cutC 3 L v.i v.n = cutC 3 M v.i v.n := by unfold cutC; rw [h]
  unfold opL tearL cutL
  rw [h1, h2]
  split
  · split
    · simp [upd, h]
    · exact h
  · split
    · split
      · simp [upd, h]
      · exact h
    · split
      · simp [upd, h]
      · exact h

def Did (g : Nat) (L : Nat → ByteArray) (w : World) (e : Ending) (w' : World) : Prop := e = .returned (.tuple #[]) ∧ w.grownBy w' (some g) ∧ DAt w' g 3 L
set_option maxHeartbeats 1000000 in
theorem play_any {w : World} {g b : Nat} {L : Nat → ByteArray} (v : OpV) (hd : DAt w g 3 L) (hb : w.heap[b]? = some (.cells (ocells v) 34 (0, 0))) :
    Calls Try.prog 20 #[.pointer (some ⟨g, 0, none⟩), .pointer (some ⟨b, 0, none⟩)] w (Did g (opL v L) w) := by
  have c0 : w.cell? ⟨b, 0, none⟩ = some (.int .i64 v.k) := cell_of_heap hb 0
  have c1 : w.cell? ⟨b, 1, none⟩ = some (.int .i64 v.i) := cell_of_heap hb 1
  have c2 : w.cell? ⟨b, 2, none⟩ = some (.int .i64 v.n) := cell_of_heap hb 2
  have c3 : w.cell? ⟨b, 3, none⟩ = some (.string v.s) := cell_of_heap hb 3
  clear hb
  by_cases k1 : v.k = 1
  · have hL : Hid (opL v L = tearL 3 L v.i v.s v.s.size) := Lib.hid (by simp [opL, k1])
    have tk : (v.k == 1) = true := by simpa using k1
    clear k1
    go_enter Try.func20, Try.ntmps20
    go_wp2_with fail
    refine (Append_any v.i v.s _ hd).mono ?_
    rintro e w1 ⟨rfl, hg, hd1⟩
    have HG := Lib.hid hg
    clear hg
    go_wp2_with fail
    go_end0
    exact ⟨rfl, HG.out, by rw [hL.out]; exact hd1⟩
  · have tk1 : (v.k == 1) = false := by simpa using k1
    by_cases k2 : v.k = 2
    · have hL : Hid (opL v L = tearL 3 L v.i v.s v.n) := Lib.hid (by simp [opL, k2])
      have tk : (v.k == 2) = true := by simpa using k2
      clear k1 k2
      go_enter Try.func20, Try.ntmps20
      go_wp2_with fail
      refine (Tear_any v.i v.n v.s _ hd).mono ?_
      rintro e w1 ⟨rfl, hg, hd1⟩
      have HG := Lib.hid hg
      clear hg
      go_wp2_with fail
      go_end0
      exact ⟨rfl, HG.out, by rw [hL.out]; exact hd1⟩
    · have hL : Hid (opL v L = cutL 3 L v.i v.n) := Lib.hid (by simp [opL, k1, k2])
      have tk : (v.k == 2) = false := by simpa using k2
      clear k1 k2
      go_enter Try.func20, Try.ntmps20
      go_wp2_with fail
      refine (Cut_any v.i v.n _ hd).mono ?_
      rintro e w1 ⟨rfl, hg, hd1⟩
      have HG := Lib.hid hg
      clear hg
      go_wp2_with fail
      go_end0
      exact ⟨rfl, HG.out, by rw [hL.out]; exact hd1⟩

/-- Two disks, alike but for segment j, of which the second one's has no bytes. -/
structure Two (w wr : World) (j ga gb : Nat) (La Lb : Nat → ByteArray) : Prop where
  below : Below w.heap.size w wr
  a : DAt wr ga 3 La
  b : DAt wr gb 3 Lb
  loa : w.heap.size ≤ ga
  lob : w.heap.size ≤ gb
  ne : ga ≠ gb
  same : ∀ x, x ≠ j → La x = Lb x
  none_ : Lb j = ⟨#[]⟩
theorem DAt.of_block {w w' : World} {gd n : Nat} {L : Nat → ByteArray} (h : DAt w gd n L) (h1 : w'.heap[gd]? = w.heap[gd]?) : DAt w' gd n L := ⟨by rw [h1]; exact h.blk, h.n8, h.sz⟩
theorem DAt.grown {w w' : World} {gd n g : Nat} {L : Nat → ByteArray} (h : DAt w gd n L) (hg : w.grownBy w' (some g)) (hne : gd ≠ g) : DAt w' gd n L :=
  DAt.of_block h (hg.block _ (row_lt h.blk) (by simpa using hne))
/-- New memory is nothing to the two. -/
theorem Two.read {w wr w2 : World} {j ga gb : Nat} {La Lb : Nat → ByteArray} (h : Two w wr j ga gb La Lb) (hb : Below wr.heap.size wr w2) : Two w w2 j ga gb La Lb :=
  ⟨h.below.trans (hb.mono h.below.size), h.a.clone hb, h.b.clone hb, h.loa, h.lob, h.ne, h.same, h.none_⟩
/-- A number from 0 to 2. -/
theorem third (c : Int) : ∃ j : Nat, j < 3 ∧ wrap64 ((IntKind.u64.wrap c).tmod 3) = (j : Int) := by
  have hw : 0 ≤ IntKind.u64.wrap c := by rw [IntKind.wrap_u64]; omega
  generalize IntKind.u64.wrap c = z at *
  rw [Int.tmod_eq_emod_of_nonneg hw]
  refine ⟨(z % 3).toNat, by omega, ?_⟩
  unfold wrap64
  omega
end Go.Proofs.Ytbjapcikmpoehaa.lawDiskApart
