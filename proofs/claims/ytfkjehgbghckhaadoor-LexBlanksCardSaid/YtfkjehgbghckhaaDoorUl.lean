/-
  The document's All.
-/
import Derived.Test.YtfkjehgbghckhaaDoorUk
import Derived.Deep.AppendLies
namespace Go.Proofs.YtfkjehgbghckhaaDoor
open Go.RowKit

theorem info25z : (Tryd.prog.info? 30).map (fun i => (i.zero, i.size, i.bytes)) = some (some (.agg zeroT), 6, 56) := by kernel_rfl
/-- The cells of a list of tokens. -/
def toksV : List (Nat × Tk) → List Value
  | [] => []
  | (b, t) :: ts => (tkV b t).toList ++ toksV ts
theorem toksV_append : ∀ (a b : List (Nat × Tk)), toksV (a ++ b) = toksV a ++ toksV b
  | [], _ => rfl
  | (i, t) :: a, b => by
    show (tkV i t).toList ++ toksV (a ++ b) = (tkV i t).toList ++ toksV a ++ toksV b
    rw [toksV_append a b, List.append_assoc]
theorem toksV_len : ∀ (a : List (Nat × Tk)), (toksV a).length = a.length * 6
  | [] => rfl
  | (i, t) :: a => by
    show ((tkV i t).toList ++ toksV a).length = _
    rw [List.length_append, toksV_len a, List.length_cons]
    show 6 + _ = _
    omega
/-- What All answers. -/
def AllEnds (s : ByteArray) (w : World) (e : Ending) (w' : World) : Prop :=
  ∃ ts o, Lx s 0 ts o ∧ Below w.heap.size w w' ∧ match o with
    | none => ∃ v, e = .returned (.tuple #[v, .int .i64 0, .int .i64 0]) ∧ w'.ownsRow w.heap.size 30 6 v ts.length (toksV ts)
    | some (b, y) => e = .returned (.tuple #[.slice none 0 0, .int .i64 (b : Nat), .int .i64 y])
theorem owns_below {w w' : World} {base : Nat} {e : TypeId} {size : Nat} {v : Value} {n : Nat} {xs : List Value} (h : w.ownsRow base e size v n xs) (hb : Below w.heap.size w w') : w'.ownsRow base e size v n xs := by
  have h0 := h
  obtain ⟨h1, h2⟩ := h
  refine ⟨h1, ?_⟩
  rcases h2 with h2 | ⟨k, cap, cur, hv, hbk, hh, r⟩
  · exact .inl h2
  · exact .inr ⟨k, cap, cur, hv, hbk, by rw [hb.block k (by subst hv; exact (h0.lt k rfl).2)]; exact hh, r⟩
theorem new6 (w : World) (a0 a1 a2 a3 a4 a5 : Value) : ∀ (j : Nat) u, [a0, a1, a2, a3, a4, a5][j]? = some u → (w.alloc (.cells #[a0, a1, a2, a3, a4, a5] 30)).cell? ((⟨w.heap.size, 0, none⟩ : Addr).add j) = some u := fun j u hj => by
  rw [Addr.add_lit, Nat.zero_add, World.cell?_alloc_new, ← hj]
  simp
end Go.Proofs.YtfkjehgbghckhaaDoor
