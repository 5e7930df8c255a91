/-
  A list of strings that came in, opened; lists of ints; where frames behind one another end.
-/
import Derived.Test.YtlfeocccjolmpaaGg
import Derived.Deep.Slices
import Derived.OpenShut
import Derived.ProofKit
namespace Go.Proofs.Ytlfeocccjolmpaa
open Go.ChangeShapes Go.WideShapes Go.ChangeAt Go.RowKit

theorem laidOut : laidOutB Try.prog = true := by kernel_rfl
theorem cells9 : Try.prog.cellsOf 9 = 1 := by kernel_rfl
theorem add_plain (g o k : Nat) : (⟨g, o, none⟩ : Addr).add k = ⟨g, o + k, none⟩ := by
  unfold Addr.add
  split
  · rename_i h; subst h; rfl
  · rfl
section
variable {H : Type} {enc : TypeId × Value → H}
theorem open_strs {W : World} {v : Value} {d : DataW H} {ps : List MemPlace} (ha : ∃ A len cap, v = .slice A len cap) (h : DataW.Trod enc Try.prog W 0 (fun _ => true) true 34 v d ps) (hlt : ∀ x ∈ ps, x.block < W.heap.size) :
    ∃ N, SAt W v N := by
  obtain ⟨A, len, cap, rfl⟩ := ha
  obtain ⟨fuel, hf⟩ := h
  rcases Go.Deep.open_slice1 Try.underlying34 cells9 hf with ⟨hcs, _⟩ | ⟨a, len', cap', m, n, V, D, Pl, hcs, _, hl, hc, hm, hx, hi⟩
  · simp [Value.cells] at hcs
    obtain ⟨rfl, rfl, rfl⟩ := hcs
    exact ⟨[], none, 0, rfl, Nat.le_refl _, Nat.zero_le _, fun h => absurd h (Nat.lt_irrefl 0)⟩
  · simp [Value.cells] at hcs
    obtain ⟨rfl, rfl, rfl⟩ := hcs
    simp only [if_true] at hm
    subst hm
    have each : ∀ i, i < m → ∃ s : ByteArray, W.cell? (a.add i) = some (.string s) := by
      intro i him
      obtain ⟨h1, h2⟩ := hi i him
      obtain ⟨s, hs, _, hz⟩ := DataW.trod_string Try.underlying9 h2
      exact ⟨s, by rw [h1]; simpa using hs⟩
    let f : Nat → ByteArray := fun i => if h : i < m then (each i h).choose else ⟨#[]⟩
    have hlen : ((List.range len).map fun i => (f i).data.toList).length = len := by simp
    refine ⟨(List.range len).map fun i => (f i).data.toList, some a, m, by rw [hlen], by rw [hlen]; exact hl, hc, fun hpos => ?_⟩
    rw [hlen] at hpos
    have hspec : ∀ i, i < len → W.cell? (a.add i) = some (.string (f i)) := by
      intro i hil
      have him : i < m := by omega
      simp only [f, dif_pos him]
      exact (each i him).choose_spec
    obtain ⟨g, off, spot⟩ := a
    have hspot : spot = none := by simpa [Addr.add] using World.cell?_spot (hspec 0 hpos)
    subst hspot
    have hps : ps = MemPlace.row ⟨g, off, none⟩ m ++ (List.range m).flatMap Pl := (Prod.mk.inj hx).2
    refine ⟨g, off, rfl, hlt (.cell g off) ?_, fun i hil => ?_⟩
    · rw [hps]
      exact List.mem_append_left _ (MemPlace.mem_row.2 ⟨0, by omega, by simp⟩)
    · rw [hlen] at hil
      have := hspec i hil
      rw [add_plain] at this
      rw [this]
      simp
      rfl
theorem stays_strs {W W' : World} {v : Value} {d : DataW H} {ps : List MemPlace} (h : DataW.Trod enc Try.prog W 0 (fun _ => true) true 34 v d ps) (hb : Below W.heap.size W W') (hlt : ∀ x ∈ ps, x.block < W.heap.size) :
    DataW.Trod enc Try.prog W' 0 (fun b => decide (b < W.heap.size)) true 34 v d ps :=
  Below.trod laidOut (by kernel_rfl) (of_decide_eq_true (by kernel_rfl)) h hb hlt
end
/-! ### Where they end -/
/-- How long the first i frames are. -/
def zL (N : List (List UInt8)) (i : Nat) : Nat := (rowL (N.take i)).length
theorem rowL_append : ∀ (a b : List (List UInt8)), rowL (a ++ b) = rowL a ++ rowL b
  | [], _ => rfl
  | p :: a, b => by show frL p ++ rowL (a ++ b) = frL p ++ rowL a ++ rowL b; rw [rowL_append a b, List.append_assoc]
theorem rowL_more {N : List (List UInt8)} {i : Nat} (h : i < N.length) : rowL (N.take (i + 1)) = rowL (N.take i) ++ frL N[i] := by
  rw [List.take_succ_eq_append_getElem h, rowL_append]
  show _ ++ (frL N[i] ++ []) = _
  rw [List.append_nil]
theorem zL_more {N : List (List UInt8)} {i : Nat} (h : i < N.length) : zL N (i + 1) = zL N i + N[i].length + 6 := by
  unfold zL
  rw [rowL_more h, List.length_append, frL_len]; omega
theorem zL_0 (N : List (List UInt8)) : zL N 0 = 0 := rfl
theorem zL_all (N : List (List UInt8)) : zL N N.length = (rowL N).length := by unfold zL; rw [List.take_length]
theorem zL_cons (p : List UInt8) (N : List (List UInt8)) (i : Nat) : zL (p :: N) (i + 1) = p.length + 6 + zL N i := by
  unfold zL
  show (frL p ++ rowL (N.take i)).length = _
  rw [List.length_append, frL_len]
theorem fit_at : ∀ (N : List (List UInt8)) (c n : Nat), n ≤ N.length → zL N n ≤ c → (n = N.length ∨ c < zL N (n + 1)) → fitL N c = (n, zL N n)
  | [], c, n, h1, h2, h3 => by
    have : n = 0 := by simpa using h1
    subst this
    rfl
  | p :: N, c, 0, h1, h2, h3 => by
    have h : c < p.length + 6 := by
      rcases h3 with h3 | h3
      · simp at h3
      · rw [zL_cons, zL_0] at h3; omega
    unfold fitL
    rw [if_pos h]; rfl
  | p :: N, c, n + 1, h1, h2, h3 => by
    rw [zL_cons] at h2
    have ih := fit_at N (c - (p.length + 6)) n (by simpa using h1) (by omega) (by
      rcases h3 with h3 | h3
      · left; simpa using h3
      · right; rw [zL_cons] at h3; omega)
    unfold fitL
    rw [if_neg (by omega), ih, zL_cons]
/-! ### Lists of ints -/
def ints (E : List Nat) : List Value := E.map fun (n : Nat) => Value.int .i64 (n : Int)
/-- The ends of the first i frames. -/
def endsL (N : List (List UInt8)) (i : Nat) : List Nat := (List.range i).map fun j => zL N (j + 1)
theorem endsL_len (N : List (List UInt8)) (i : Nat) : (endsL N i).length = i := by simp [endsL]
theorem endsL_more (N : List (List UInt8)) (i : Nat) : ints (endsL N i) ++ [.int .i64 (zL N (i + 1) : Nat)] = ints (endsL N (i + 1)) := by
  simp [ints, endsL, List.range_succ]
theorem info3z : (Try.prog.info? 3).map (fun i => (i.zero, i.size, i.bytes)) = some (some (.int .i64 0), 1, 8) := by kernel_rfl
def IAt (w : World) (v : Value) (N : List (List UInt8)) (m : Nat) : Prop :=
  ∃ A cap, v = .slice A m cap ∧ m ≤ cap ∧ cap ≤ maxLen ∧ (0 < m → ∃ g, A = some ⟨g, 0, none⟩ ∧ g < w.heap.size ∧ ∀ i, i < m → w.cell? ⟨g, i, none⟩ = some (.int .i64 (zL N (i + 1) : Nat)))
theorem IAt.of_own {w : World} {base : Nat} {v : Value} {N : List (List UInt8)} {m : Nat} (h : w.ownsRow base 3 1 v m (ints (endsL N m))) : IAt w v N m := by
  have h0 := h
  rcases h.2 with ⟨rfl, rfl⟩ | ⟨g, cap, cur, rfl, hg, hh, hn, hm, hc, ht⟩
  · exact ⟨none, 0, rfl, Nat.le_refl _, Nat.zero_le _, fun h => absurd h (Nat.lt_irrefl 0)⟩
  · refine ⟨_, cap, rfl, hn, hm, fun _ => ⟨g, rfl, (h0.lt g rfl).2, fun i hi => ?_⟩⟩
    have := h0.cells (g := g) rfl i (.int .i64 (zL N (i + 1) : Nat)) (by simp [ints, endsL, hi])
    rw [Addr.add_lit, Nat.zero_add] at this
    exact this
theorem new1i (w : World) (x : Int) : ∀ (j : Nat) u, [Value.int .i64 x][j]? = some u → (w.alloc (.cells #[.int .i64 x] 3)).cell? ((⟨w.heap.size, 0, none⟩ : Addr).add j) = some u := fun j u hj => by
  rw [Addr.add_lit, Nat.zero_add, World.cell?_alloc_new, ← hj]
  simp
end Go.Proofs.Ytlfeocccjolmpaa
