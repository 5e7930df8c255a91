/-
  The document's number: floats.
-/
import Derived.Test.YtfkjehgbghckhaaDoorUd
namespace Go.Proofs.YtfkjehgbghckhaaDoor
open Go.RowKit

theorem left_at {s : ByteArray} {a j : Nat} : (left s a)[j]? = s.data.toList[a + j]? := by unfold left; rw [List.getElem?_drop]
theorem byte_some {s : ByteArray} {i : Nat} (h : i < s.size) : s.data.toList[i]? = some s[i] := by
  rw [List.getElem?_eq_getElem (by simpa using h)]; rfl
theorem byte_none {s : ByteArray} {i : Nat} (h : ¬ i < s.size) : s.data.toList[i]? = none := by
  rw [List.getElem?_eq_none]; simpa using Nat.le_of_not_lt h
theorem HdEnds.of {a : Nat} {h h' : Hd} {w w' : World} {e : Ending} (k : HdEnds a h w e w') (hh : h = h') : HdEnds a h' w e w' := hh ▸ k
end Go.Proofs.YtfkjehgbghckhaaDoor
