/-
  Contracts of the landed disk: a disk of segments behind a pointer.
-/
import Derived.Test.YtbjapcikmpoehaaDc
import Derived.WalkKit
import Derived.BigQuiet
import Derived.Deep.QuietTactic
import Derived.Lib.Hide
import Derived.RegionTactic
import Derived.WalkLawsBesides
import Derived.Below
namespace Go.Proofs.Ytbjapcikmpoehaa
open Go.RowKit

/-- One segment turned. -/
def upd (L : Nat → ByteArray) (i : Nat) (b : ByteArray) : Nat → ByteArray := fun j => if j = i then b else L j
/-- The first k bytes. -/
def cutS (s : ByteArray) (k : Int) : ByteArray := s.extract 0 (min k.toNat s.size)
/-- A segment's number. -/
def isS (n : Nat) (i : Int) : Bool := decide (0 ≤ i) && decide (i < n)

/-- The cells of a disk. -/
def dcells (n : Nat) (L : Nat → ByteArray) : Array Value :=
  #[.int .i64 n, .string (L 0), .string (L 1), .string (L 2), .string (L 3), .string (L 4), .string (L 5), .string (L 6), .string (L 7)]
/-- Block g is a disk of n segments with these bytes. -/
structure DAt (w : World) (g n : Nat) (L : Nat → ByteArray) : Prop where
  blk : w.heap[g]? = some (.cells (dcells n L) 52 (0, 0))
  n8 : n ≤ 8
  sz : ∀ i, (L i).size ≤ 4000

theorem cell_of_heap {w : World} {g : Nat} {cs : Array Value} {t : TypeId} (h : w.heap[g]? = some (.cells cs t (0, 0))) (i : Nat) : w.cell? ⟨g, i, none⟩ = cs[i]? := cell_of_row w g i cs t (0, 0) h
theorem nat_cases8 {P : Nat → Prop} (h0 : P 0) (h1 : P 1) (h2 : P 2) (h3 : P 3) (h4 : P 4) (h5 : P 5) (h6 : P 6) (h7 : P 7) : ∀ i, i < 8 → P i := by
  intro i hi
  obtain rfl | rfl | rfl | rfl | rfl | rfl | rfl | rfl : i = 0 ∨ i = 1 ∨ i = 2 ∨ i = 3 ∨ i = 4 ∨ i = 5 ∨ i = 6 ∨ i = 7 := by omega
  all_goals assumption

theorem DAt.cnt {w : World} {g n : Nat} {L : Nat → ByteArray} (h : DAt w g n L) : w.cell? ⟨g, 0, none⟩ = some (.int .i64 n) := cell_of_heap h.blk 0
theorem DAt.seg {w : World} {g n : Nat} {L : Nat → ByteArray} (h : DAt w g n L) : ∀ i, i < 8 → w.cell? ⟨g, 1 + i, none⟩ = some (.string (L i)) :=
  nat_cases8 (cell_of_heap h.blk 1) (cell_of_heap h.blk 2) (cell_of_heap h.blk 3) (cell_of_heap h.blk 4) (cell_of_heap h.blk 5) (cell_of_heap h.blk 6) (cell_of_heap h.blk 7) (cell_of_heap h.blk 8)
theorem DAt.free {w : World} {g n : Nat} {L : Nat → ByteArray} (h : DAt w g n L) (i : Nat) : w.frozen? ⟨g, i, none⟩ = false := by
  simp [World.frozen?, h.blk]

theorem lacks_nil (a : Int) (w : World) : Calls Try.prog 21 #[.pointer none, .int .i64 a] w fun e w' => e = .returned (.int .i64 1) ∧ w = w' := by
  go_enter Try.func21, Try.ntmps21
  go_wp2
  go_ret
  exact ⟨rfl, rfl⟩

theorem lacks_no {g n : Nat} {L : Nat → ByteArray} (a : Int) (w : World) (h : DAt w g n L) (hi : isS n a = false) :
    Calls Try.prog 21 #[.pointer (some ⟨g, 0, none⟩), .int .i64 a] w fun e w' => e = .returned (.int .i64 3) ∧ w = w' := by
  have hs := h.cnt
  clear h
  by_cases h0 : a < 0
  · go_enter Try.func21, Try.ntmps21
    go_wp2
    go_ret
    exact ⟨rfl, rfl⟩
  · have h1 : (n : Int) ≤ a := by simp [isS] at hi; omega
    clear hi
    go_enter Try.func21, Try.ntmps21
    go_wp2
    go_ret
    exact ⟨rfl, rfl⟩

theorem lacks_ok {g n : Nat} {L : Nat → ByteArray} (a : Int) (w : World) (h : DAt w g n L) (hi : isS n a = true) :
    Calls Try.prog 21 #[.pointer (some ⟨g, 0, none⟩), .int .i64 a] w fun e w' => e = .returned (.int .i64 0) ∧ w = w' := by
  have hs := h.cnt
  clear h
  have h0 : ¬ a < 0 := by simp [isS] at hi; omega
  have h1 : ¬ (n : Int) ≤ a := by simp [isS] at hi; omega
  clear hi
  go_enter Try.func21, Try.ntmps21
  go_wp2
  go_ret
  exact ⟨rfl, rfl⟩
end Go.Proofs.Ytbjapcikmpoehaa
