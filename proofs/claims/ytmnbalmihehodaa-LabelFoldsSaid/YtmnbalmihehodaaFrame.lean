/-
  What the laws' proofs share: a list of pairs that came in, opened.
-/
import Derived.Test.YtmnbalmihehodaaRows
import Derived.Test.YtmnbalmihehodaaAwake
import Derived.ProofKit
import Derived.OpenShut
import Derived.Deep.Slices
namespace Go.Proofs.Ytmnbalmihehodaa
open Go.ChangeShapes Go.WideShapes Go.ChangeAt Go.RowKit

theorem own : ownKnob Try.prog.godebug = none := by kernel_rfl
theorem laidOut : laidOutB Try.prog = true := by kernel_rfl
theorem cells3 : Try.prog.cellsOf 3 = 1 := by kernel_rfl
theorem cells52 : Try.prog.cellsOf 51 = 2 := by kernel_rfl

section
variable {H : Type} {enc : TypeId × Value → H} {w : World} {base : Nat} {spare : Nat → Bool} {held : Bool}

theorem int_cell {n : Nat} {v : Value} {y : DataW H × List MemPlace} (h : DataW.trod enc Try.prog w base spare held n 3 [v] = some y) : ∃ z, v = .int .i64 z := by
  cases n with
  | zero => simp [DataW.trod] at h
  | succ n =>
    unfold DataW.trod at h
    rw [Try.underlying3] at h
    cases v <;> simp at h
    rename_i k z
    exact ⟨z, by rw [h.1.1]⟩

/-- A pair's two cells. -/
theorem pair_cells {n : Nat} {cs : List Value} {y : DataW H × List MemPlace} (h : DataW.trod enc Try.prog w base spare held n 51 cs = some y) : ∃ a b, cs = [.int .i64 a, .int .i64 b] := by
  obtain ⟨xs, m, _, _, hl, hx, hg⟩ := DataW.trod_array Try.underlying51 h
  rw [cells52] at hl
  match cs, hl with
  | [u, v], _ =>
    have g0 := hg 0 (by omega)
    have g1 := hg 1 (by omega)
    rw [cells3] at g0 g1
    simp only [Nat.zero_mul, Nat.one_mul, List.drop_zero, List.take_succ_cons, List.take_zero, List.drop_succ_cons] at g0 g1
    match xs, hx with
    | [x0, x1], _ =>
      obtain ⟨a, rfl⟩ := int_cell (y := x0) (by simpa using g0)
      obtain ⟨b, rfl⟩ := int_cell (y := x1) (by simpa using g1)
      exact ⟨a, b, rfl⟩

/-- A list of pairs that came in: where it lies, and what its pairs are. -/
theorem open_order {W : World} {v : Value} {d : DataW H} {ps : List MemPlace} (ha : ∃ A len cap, v = .slice A len cap) (h : DataW.Trod enc Try.prog W 0 (fun _ => true) true 22 v d ps) (hlt : ∀ x ∈ ps, x.block < W.heap.size) :
    ∃ A len cap p q, v = .slice A len cap ∧ Prs W W.heap.size A len p q ∧ (A = none → cap = 0) := by
  obtain ⟨A, len, cap, rfl⟩ := ha
  obtain ⟨fuel, hf⟩ := h
  rcases Go.Deep.open_slice Try.underlying22 hf with ⟨hcs, _⟩ | ⟨a, len', cap', m, n, D, Pl, hcs, _, hl, _, hm, hx, hi⟩
  · simp [Value.cells] at hcs
    obtain ⟨rfl, rfl, rfl⟩ := hcs
    exact ⟨none, 0, 0, fun _ => 0, fun _ => 0, rfl, fun h => absurd h (Nat.lt_irrefl 0), fun _ => rfl⟩
  · simp [Value.cells] at hcs
    obtain ⟨rfl, rfl, rfl⟩ := hcs
    simp only [if_true] at hm
    subst hm
    rw [cells52] at hi hx
    have each : ∀ i, i < m → ∃ x y, W.cell? (a.add (i * 2)) = some (.int .i64 x) ∧ W.cell? (a.add (i * 2 + 1)) = some (.int .i64 y) := by
      intro i hic
      obtain ⟨cs', hc, ht⟩ := hi i hic
      obtain ⟨x, y, rfl⟩ := pair_cells ht
      obtain ⟨_, _, hat⟩ := World.cells?_some hc
      have e0 := hat 0 (by omega)
      have e1 := hat 1 (by omega)
      rw [Go.Deep.add_add] at e0 e1
      exact ⟨x, y, e0, e1⟩
    let p : Nat → Int := fun i => if h : i < m then (each i h).choose else 0
    let q : Nat → Int := fun i => if h : i < m then (each i h).choose_spec.choose else 0
    refine ⟨some a, len, m, p, q, rfl, fun hpos => ?_, fun h => by cases h⟩
    have hspec : ∀ i, i < len → W.cell? (a.add (i * 2)) = some (.int .i64 (p i)) ∧ W.cell? (a.add (i * 2 + 1)) = some (.int .i64 (q i)) := by
      intro i hil
      have hic : i < m := by omega
      simp only [p, q, dif_pos hic]
      exact (each i hic).choose_spec.choose_spec
    obtain ⟨g, off, spot⟩ := a
    have hspot : spot = none := by simpa [Addr.add] using World.cell?_spot (hspec 0 hpos).1
    subst hspot
    have hps : ps = MemPlace.row ⟨g, off, none⟩ (m * 2) ++ (List.range m).flatMap Pl := (Prod.mk.inj hx).2
    refine ⟨g, off, rfl, hlt (.cell g off) ?_, fun i hil => ?_⟩
    · rw [hps]
      exact List.mem_append_left _ (MemPlace.mem_row.2 ⟨0, by omega, by simp⟩)
    · have := hspec i hil
      rwa [add_plain, add_plain, ← Nat.add_assoc] at this

/-- It reads behind the call as it read before. -/
theorem stays_order {W W' : World} {v : Value} {d : DataW H} {ps : List MemPlace} (h : DataW.Trod enc Try.prog W 0 (fun _ => true) true 22 v d ps) (hb : Below W.heap.size W W') (hlt : ∀ x ∈ ps, x.block < W.heap.size) :
    DataW.Trod enc Try.prog W' 0 (fun b => decide (b < W.heap.size)) true 22 v d ps :=
  Below.trod laidOut (by kernel_rfl) (of_decide_eq_true (by kernel_rfl)) h hb hlt
end
end Go.Proofs.Ytmnbalmihehodaa
