/-
  What the laws' proofs share: a list of calls that came in, opened.
-/
import Derived.Test.YtbjapcikmpoehaaRows
import Derived.Test.YtbjapcikmpoehaaDw
import Derived.ProofKit
import Derived.OpenShut
import Derived.Deep.Slices
namespace Go.Proofs.Ytbjapcikmpoehaa
open Go.ChangeShapes Go.WideShapes Go.ChangeAt Go.RowKit

theorem own : ownKnob Try.prog.godebug = none := by kernel_rfl
theorem laidOut : laidOutB Try.prog = true := by kernel_rfl
theorem cells34 : Try.prog.cellsOf 34 = 4 := by kernel_rfl
theorem add_plain (g o k : Nat) : (⟨g, o, none⟩ : Addr).add k = ⟨g, o + k, none⟩ := by
  unfold Addr.add
  split
  · rename_i h; subst h; rfl
  · rfl

/-- A call of the script: its kind, its segment, its number, its bytes. -/
structure OpV where
  k : Int
  i : Int
  n : Int
  s : ByteArray
/-- Calls that lie at a slice's address, in blocks below B. -/
def OpsAt (w : World) (B : Nat) (A : Option Addr) (len : Nat) (f : Nat → OpV) : Prop :=
  0 < len → ∃ g o, A = some ⟨g, o, none⟩ ∧ g < B ∧ ∀ j, j < len →
    w.cell? ⟨g, o + j * 4, none⟩ = some (.int .i64 (f j).k) ∧ w.cell? ⟨g, o + j * 4 + 1, none⟩ = some (.int .i64 (f j).i) ∧
    w.cell? ⟨g, o + j * 4 + 2, none⟩ = some (.int .i64 (f j).n) ∧ w.cell? ⟨g, o + j * 4 + 3, none⟩ = some (.string (f j).s) ∧ (f j).s.size ≤ maxLen

section
variable {H : Type} {enc : TypeId × Value → H} {w : World} {base : Nat} {spare : Nat → Bool} {held : Bool}
theorem op_cells {n : Nat} {cs : List Value} {y : DataW H × List MemPlace} (h : DataW.trod enc Try.prog w base spare held n 34 cs = some y) :
    ∃ x : OpV, cs = [.int .i64 x.k, .int .i64 x.i, .int .i64 x.n, .string x.s] ∧ x.s.size ≤ maxLen := by
  obtain ⟨xs, m, _, _, hl, hlen, hf⟩ := DataW.trod_struct Try.underlying34 h
  rw [cells34] at hl
  match cs, hl with
  | [v0, v1, v2, v3], _ =>
    have f0 := hf 0 _ rfl
    have f1 := hf 1 _ rfl
    have f2 := hf 2 _ rfl
    have f3 := hf 3 _ rfl
    match xs, hlen with
    | [x0, x1, x2, x3], _ =>
      have e0 : DataW.trod enc Try.prog w base spare held m 3 [v0] = some x0 := f0
      have e1 : DataW.trod enc Try.prog w base spare held m 3 [v1] = some x1 := f1
      have e2 : DataW.trod enc Try.prog w base spare held m 3 [v2] = some x2 := f2
      have e3 : DataW.trod enc Try.prog w base spare held m 9 [v3] = some x3 := f3
      obtain ⟨a, h0, _, _⟩ := DataW.trod_int Try.underlying3 e0
      obtain ⟨b, h1, _, _⟩ := DataW.trod_int Try.underlying3 e1
      obtain ⟨c, h2, _, _⟩ := DataW.trod_int Try.underlying3 e2
      obtain ⟨s, h3, _, w3⟩ := DataW.trod_string Try.underlying9 e3
      have g0 : v0 = .int .i64 a := by simpa using h0
      have g1 : v1 = .int .i64 b := by simpa using h1
      have g2 : v2 = .int .i64 c := by simpa using h2
      have g3 : v3 = .string s := by simpa using h3
      exact ⟨⟨a, b, c, s⟩, by rw [g0, g1, g2, g3], w3⟩

theorem open_ops {W : World} {v : Value} {d : DataW H} {ps : List MemPlace} (ha : ∃ A len cap, v = .slice A len cap) (h : DataW.Trod enc Try.prog W 0 (fun _ => true) true 22 v d ps) (hlt : ∀ x ∈ ps, x.block < W.heap.size) :
    ∃ A len cap f, v = .slice A len cap ∧ OpsAt W W.heap.size A len f ∧ len ≤ maxLen := by
  obtain ⟨A, len, cap, rfl⟩ := ha
  obtain ⟨fuel, hf⟩ := h
  rcases Go.Deep.open_slice Try.underlying22 hf with ⟨hcs, _⟩ | ⟨a, len', cap', m, n, D, Pl, hcs, _, hl, hc, hm, hx, hi⟩
  · simp [Value.cells] at hcs
    obtain ⟨rfl, rfl, rfl⟩ := hcs
    exact ⟨none, 0, 0, fun _ => ⟨0, 0, 0, ⟨#[]⟩⟩, rfl, fun h => absurd h (Nat.lt_irrefl 0), Nat.zero_le _⟩
  · simp [Value.cells] at hcs
    obtain ⟨rfl, rfl, rfl⟩ := hcs
    simp only [if_true] at hm
    subst hm
    rw [cells34] at hi hx
    have each : ∀ i, i < m → ∃ x : OpV, W.cell? (a.add (i * 4)) = some (.int .i64 x.k) ∧ W.cell? (a.add (i * 4 + 1)) = some (.int .i64 x.i) ∧
        W.cell? (a.add (i * 4 + 2)) = some (.int .i64 x.n) ∧ W.cell? (a.add (i * 4 + 3)) = some (.string x.s) ∧ x.s.size ≤ maxLen := by
      intro i hic
      obtain ⟨cs', hc, ht⟩ := hi i hic
      obtain ⟨x, rfl, hs⟩ := op_cells ht
      obtain ⟨_, _, hat⟩ := World.cells?_some hc
      have e0 := hat 0 (by omega)
      have e1 := hat 1 (by omega)
      have e2 := hat 2 (by omega)
      have e3 := hat 3 (by omega)
      rw [Go.Deep.add_add] at e0 e1 e2 e3
      exact ⟨x, e0, e1, e2, e3, hs⟩
    let f : Nat → OpV := fun i => if h : i < m then (each i h).choose else ⟨0, 0, 0, ⟨#[]⟩⟩
    refine ⟨some a, len, m, f, rfl, fun hpos => ?_, by omega⟩
    have hspec : ∀ i, i < len → W.cell? (a.add (i * 4)) = some (.int .i64 (f i).k) ∧ W.cell? (a.add (i * 4 + 1)) = some (.int .i64 (f i).i) ∧
        W.cell? (a.add (i * 4 + 2)) = some (.int .i64 (f i).n) ∧ W.cell? (a.add (i * 4 + 3)) = some (.string (f i).s) ∧ (f i).s.size ≤ maxLen := by
      intro i hil
      have hic : i < m := by omega
      simp only [f, dif_pos hic]
      exact (each i hic).choose_spec
    obtain ⟨g, off, spot⟩ := a
    have hspot : spot = none := by simpa [Addr.add] using World.cell?_spot (hspec 0 hpos).1
    subst hspot
    have hps : ps = MemPlace.row ⟨g, off, none⟩ (m * 4) ++ (List.range m).flatMap Pl := (Prod.mk.inj hx).2
    refine ⟨g, off, rfl, hlt (.cell g off) ?_, fun i hil => ?_⟩
    · rw [hps]
      exact List.mem_append_left _ (MemPlace.mem_row.2 ⟨0, by omega, by simp⟩)
    · have := hspec i hil
      rwa [add_plain, add_plain, add_plain, add_plain, ← Nat.add_assoc, ← Nat.add_assoc, ← Nat.add_assoc] at this

/-- It reads behind the call as it read before. -/
theorem stays_ops {W W' : World} {v : Value} {d : DataW H} {ps : List MemPlace} (h : DataW.Trod enc Try.prog W 0 (fun _ => true) true 22 v d ps) (hb : Below W.heap.size W W') (hlt : ∀ x ∈ ps, x.block < W.heap.size) :
    DataW.Trod enc Try.prog W' 0 (fun b => decide (b < W.heap.size)) true 22 v d ps :=
  Below.trod laidOut (by kernel_rfl) (of_decide_eq_true (by kernel_rfl)) h hb hlt
end
end Go.Proofs.Ytbjapcikmpoehaa
