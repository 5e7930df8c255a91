/-
  Bytes that came in: where they lie, what they are, that they read as before.
-/
import Derived.Test.YtfkjehgbghckhaaDoorFr
import Derived.Test.YtfkjehgbghckhaaDoorLBlanksA
namespace Go.Proofs.YtfkjehgbghckhaaDoor
open Go.ChangeShapes Go.WideShapes Go.ChangeAt Go.RowKit

theorem cells5' : Tryd.prog.cellsOf 5 = 1 := by kernel_rfl
section
variable {H : Type} {enc : TypeId × Value → H}
set_option maxRecDepth 100000 in
theorem byte_cell {w : World} {base : Nat} {spare : Nat → Bool} {held : Bool} {n : Nat} {v : Value} {y : DataW H × List MemPlace} (h : DataW.trod enc Tryd.prog w base spare held n 5 [v] = some y) : ∃ z : Nat, v = .int .u8 z ∧ z < 256 := by
  cases n with
  | zero => simp [DataW.trod] at h
  | succ n =>
    unfold DataW.trod at h
    rw [Tryd.underlying5] at h
    cases v <;> simp at h
    rename_i k z
    have hz : 0 ≤ z ∧ z < 256 := by
      have := h.1.2
      simp [Lit.wf, IntKind.min, IntKind.max, IntKind.bits, IntKind.signed] at this
      omega
    exact ⟨z.toNat, by rw [h.1.1, show ((z.toNat : Nat) : Int) = z by omega], by omega⟩
/-- A list of bytes that came in: where it lies, and what they are. -/
theorem open_bytes {W : World} {v : Value} {d : DataW H} {ps : List MemPlace} (ha : ∃ A len cap, v = .slice A len cap) (h : DataW.Trod enc Tryd.prog W 0 (fun _ => true) true 22 v d ps) (hlt : ∀ x ∈ ps, x.block < W.heap.size) :
    ∃ A len cap pk, v = .slice A len cap ∧ PAt W A len pk := by
  obtain ⟨A, len, cap, rfl⟩ := ha
  obtain ⟨fuel, hf⟩ := h
  rcases Go.Deep.open_slice1 Tryd.underlying22 cells5' hf with ⟨hcs, _⟩ | ⟨a, len', cap', m, n, V, D, Pl, hcs, _, hl, hc, hm, hx, hi⟩
  · simp [Value.cells] at hcs
    obtain ⟨rfl, rfl, rfl⟩ := hcs
    exact ⟨none, 0, 0, fun _ => 0, rfl, fun h => absurd h (Nat.lt_irrefl 0)⟩
  · simp [Value.cells] at hcs
    obtain ⟨rfl, rfl, rfl⟩ := hcs
    simp only [if_true] at hm
    subst hm
    have each : ∀ i, i < m → ∃ x : Nat, W.cell? (a.add i) = some (.int .u8 x) ∧ x < 256 := by
      intro i him
      obtain ⟨h1, h2⟩ := hi i him
      obtain ⟨z, hz, h3⟩ := byte_cell h2
      exact ⟨z, by rw [h1, hz], h3⟩
    let f : Nat → Nat := fun i => if h : i < m then (each i h).choose else 0
    refine ⟨some a, len, m, f, rfl, fun hpos => ?_⟩
    have hspec : ∀ i, i < len → W.cell? (a.add i) = some (.int .u8 (f i)) ∧ f i < 256 := by
      intro i hil
      have him : i < m := by omega
      simp only [f, dif_pos him]
      exact (each i him).choose_spec
    obtain ⟨g, off, spot⟩ := a
    have hspot : spot = none := by simpa [Addr.add] using World.cell?_spot (hspec 0 hpos).1
    subst hspot
    have hps : ps = MemPlace.row ⟨g, off, none⟩ m ++ (List.range m).flatMap Pl := (Prod.mk.inj hx).2
    refine ⟨g, off, rfl, hlt (.cell g off) ?_, fun i hil => ?_⟩
    · rw [hps]
      exact List.mem_append_left _ (MemPlace.mem_row.2 ⟨0, by omega, by simp⟩)
    · have := hspec i hil
      rwa [add_plain] at this
/-- It reads behind the call as it read before. -/
theorem stays_bytes {W W' : World} {v : Value} {d : DataW H} {ps : List MemPlace} (h : DataW.Trod enc Tryd.prog W 0 (fun _ => true) true 22 v d ps) (hb : Below W.heap.size W W') (hlt : ∀ x ∈ ps, x.block < W.heap.size) :
    DataW.Trod enc Tryd.prog W' 0 (fun b => decide (b < W.heap.size)) true 22 v d ps :=
  Below.trod laidOut (by kernel_rfl) (of_decide_eq_true (by kernel_rfl)) h hb hlt
end
end Go.Proofs.YtfkjehgbghckhaaDoor
