/-
  What the walks ask of the listed variables (a table, and an error that is not nil), and that it stays.
-/
import Derived.Test.YtfkjehgbghckhaaDoorShelf
import Derived.Test.YtfkjehgbghckhaaDoorFc
import Derived.Lib.Walk
import Derived.BigCall
import Derived.BigGuard
namespace Go.Proofs.YtfkjehgbghckhaaDoor
open Go.RowKit Ieee Go.Lib

/-- What the walks ask of the listed variables. -/
structure Tabs (w : World) : Prop where
  bits : TabAt 6 Lib.deBruijn64tab w
  err : ∃ te pe, w.cell? ⟨5, 0, none⟩ = some (.iface te pe)
theorem tab_size {w : World} (h : TabAt 6 Lib.deBruijn64tab w) : 6 < w.heap.size := by
  have h0 := h 0 (by decide)
  rcases Nat.lt_or_ge 6 w.heap.size with h' | h'
  · exact h'
  · unfold World.cell? at h0
    rw [Array.getElem?_eq_none h'] at h0
    simp at h0
theorem err_size {w : World} {v : Value} (h : w.cell? ⟨5, 0, none⟩ = some v) : 5 < w.heap.size := by
  rcases Nat.lt_or_ge 5 w.heap.size with h' | h'
  · exact h'
  · unfold World.cell? at h
    rw [Array.getElem?_eq_none h'] at h
    simp at h
theorem Tabs.below {w w' : World} (h : Tabs w) (hb : Below w.heap.size w w') : Tabs w' := by
  have hs := tab_size h.bits
  obtain ⟨te, pe, he⟩ := h.err
  have hs2 := err_size he
  refine ⟨fun j hj => ?_, te, pe, ?_⟩
  · rw [hb.cell (p := ⟨6, j, none⟩) (show 6 < w.heap.size by omega)]
    exact h.bits j hj
  · rw [hb.cell (p := ⟨5, 0, none⟩) (show 5 < w.heap.size by omega)]
    exact he
theorem Tabs.drewN {w : World} (h : Tabs w) (n : Nat) : Tabs (w.drewN n) := by
  obtain ⟨te, pe, he⟩ := h.err
  exact ⟨fun j hj => by rw [World.cell?_drewN]; exact h.bits j hj, te, pe, by rw [World.cell?_drewN]; exact he⟩
end Go.Proofs.YtfkjehgbghckhaaDoor
