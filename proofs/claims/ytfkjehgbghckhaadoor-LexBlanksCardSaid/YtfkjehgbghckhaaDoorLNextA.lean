/-
  The law LexNext's walk: the token at any place of any text is the document's.
-/
import Derived.Test.YtfkjehgbghckhaaDoorUw
namespace Go.Proofs.YtfkjehgbghckhaaDoor
open Go.RowKit

/-- True comes back, and what was there stays. -/
def Yes (w : World) (e : Ending) (w' : World) : Prop := e = .returned (.bool true) ∧ Below w.heap.size w w'
theorem both_of (N : Nx) : ∃ k a b n f s y wh, lanV N = .tuple #[.agg #[.int .i64 k, .int .i64 a, .int .i64 b, .int .i64 n, .float .f64 f, .string s], .int .i64 y] ∧ refV N = .tuple #[.agg #[.int .i64 k, .int .i64 a, .int .i64 b, .int .i64 n, .float .f64 f, .string s], .int .i64 wh, .int .i64 y] := by
  cases N with
  | range => exact ⟨_, _, _, _, _, _, _, _, rfl, rfl⟩
  | tok b t => exact ⟨_, _, _, _, _, _, _, _, rfl, rfl⟩
  | err b e => exact ⟨_, _, _, _, _, _, _, _, rfl, rfl⟩
namespace lexNext
end lexNext
end Go.Proofs.YtfkjehgbghckhaaDoor
