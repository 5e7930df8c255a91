/-
  What the laws' proofs share: a list of ints that came in, opened.
-/
import Derived.Test.YtmnbalmihehodaaFrame
import Derived.Test.YtmnbalmihehodaaWake
namespace Go.Proofs.Ytmnbalmihehodaa
open Go.ChangeShapes Go.WideShapes Go.ChangeAt Go.RowKit

section
variable {H : Type} {enc : TypeId × Value → H}

/-- A list of ints that came in: where it lies, and what they are. -/
theorem open_list {W : World} {v : Value} {d : DataW H} {ps : List MemPlace} (ha : ∃ A len cap, v = .slice A len cap) (h : DataW.Trod enc Try.prog W 0 (fun _ => true) true 23 v d ps) (hlt : ∀ x ∈ ps, x.block < W.heap.size) :
    ∃ A len cap f, v = .slice A len cap ∧ Rd W W.heap.size A len f ∧ (A = none → cap = 0) ∧ len ≤ maxLen := by
  obtain ⟨A, len, cap, rfl⟩ := ha
  obtain ⟨fuel, hf⟩ := h
  rcases Go.Deep.open_slice1 Try.underlying23 cells3 hf with ⟨hcs, _⟩ | ⟨a, len', cap', m, n, V, D, Pl, hcs, _, hl, hc, hm, hx, hi⟩
  · simp [Value.cells] at hcs
    obtain ⟨rfl, rfl, rfl⟩ := hcs
    exact ⟨none, 0, 0, fun _ => 0, rfl, fun h => absurd h (Nat.lt_irrefl 0), fun _ => rfl, Nat.zero_le _⟩
  · simp [Value.cells] at hcs
    obtain ⟨rfl, rfl, rfl⟩ := hcs
    simp only [if_true] at hm
    subst hm
    have each : ∀ i, i < m → ∃ x, W.cell? (a.add i) = some (.int .i64 x) := by
      intro i him
      obtain ⟨h1, h2⟩ := hi i him
      obtain ⟨z, hz⟩ := int_cell h2
      exact ⟨z, by rw [h1, hz]⟩
    let f : Nat → Int := fun i => if h : i < m then (each i h).choose else 0
    refine ⟨some a, len, m, f, rfl, fun hpos => ?_, (fun h => by cases h), by omega⟩
    have hspec : ∀ i, i < len → W.cell? (a.add i) = some (.int .i64 (f i)) := by
      intro i hil
      have him : i < m := by omega
      simp only [f, dif_pos him]
      exact (each i him).choose_spec
    obtain ⟨g, off, spot⟩ := a
    have hspot : spot = none := by simpa [Addr.add] using World.cell?_spot (hspec 0 hpos)
    subst hspot
    have hps : ps = MemPlace.row ⟨g, off, none⟩ m ++ (List.range m).flatMap Pl := (Prod.mk.inj hx).2
    refine ⟨g, off, rfl, hlt (.cell g off) ?_, fun i hil => ?_⟩
    · rw [hps]
      exact List.mem_append_left _ (MemPlace.mem_row.2 ⟨0, by omega, by simp⟩)
    · have := hspec i hil
      rwa [add_plain] at this

/-- It reads behind the call as it read before. -/
theorem stays_list {W W' : World} {v : Value} {d : DataW H} {ps : List MemPlace} (h : DataW.Trod enc Try.prog W 0 (fun _ => true) true 23 v d ps) (hb : Below W.heap.size W W') (hlt : ∀ x ∈ ps, x.block < W.heap.size) :
    DataW.Trod enc Try.prog W' 0 (fun b => decide (b < W.heap.size)) true 23 v d ps :=
  Below.trod laidOut (by kernel_rfl) (of_decide_eq_true (by kernel_rfl)) h hb hlt
end
end Go.Proofs.Ytmnbalmihehodaa
