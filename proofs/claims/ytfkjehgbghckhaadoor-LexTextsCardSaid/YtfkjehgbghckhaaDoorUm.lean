/-
  Lists of tokens in memory; the document's SameToken and Same where both are one.
-/
import Derived.Test.YtfkjehgbghckhaaDoorUl
import Derived.StillTailTactics
namespace Go.Proofs.YtfkjehgbghckhaaDoor
open Go.RowKit

/-- Six cells. -/
def Six (w : World) (g o : Nat) (b : Nat) (t : Tk) : Prop :=
  w.cell? ⟨g, o, none⟩ = some (.int .i64 t.k) ∧ w.cell? ⟨g, o + 1, none⟩ = some (.int .i64 b) ∧ w.cell? ⟨g, o + 2, none⟩ = some (.int .i64 ((b + t.len : Nat) : Int)) ∧ w.cell? ⟨g, o + 3, none⟩ = some (.int .i64 t.n) ∧ w.cell? ⟨g, o + 4, none⟩ = some (.float .f64 t.f) ∧ w.cell? ⟨g, o + 5, none⟩ = some (.string (strL t.s))
theorem Six.keep {w w' : World} {g o b : Nat} {t : Tk} (h : Six w g o b t) (hb : Below w.heap.size w w') (hg : g < w.heap.size) : Six w' g o b t := by
  obtain ⟨h0, h1, h2, h3, h4, h5⟩ := h
  exact ⟨(hb.cell (p := ⟨g, o, none⟩) hg).trans h0, (hb.cell (p := ⟨g, o + 1, none⟩) hg).trans h1, (hb.cell (p := ⟨g, o + 2, none⟩) hg).trans h2, (hb.cell (p := ⟨g, o + 3, none⟩) hg).trans h3, (hb.cell (p := ⟨g, o + 4, none⟩) hg).trans h4, (hb.cell (p := ⟨g, o + 5, none⟩) hg).trans h5⟩
/-- A slice that holds these tokens. -/
def TAt (w : World) (v : Value) (ts : List (Nat × Tk)) : Prop :=
  ∃ A cap, v = .slice A ts.length cap ∧ ts.length ≤ cap ∧ cap ≤ maxLen ∧ (0 < ts.length → ∃ g, A = some ⟨g, 0, none⟩ ∧ g < w.heap.size ∧ ∀ i (h : i < ts.length), Six w g (i * 6) ts[i].1 ts[i].2)
theorem TAt.stay {w w' : World} {v : Value} {ts : List (Nat × Tk)} (h : TAt w v ts) (hb : Below w.heap.size w w') : TAt w' v ts := by
  obtain ⟨A, cap, e, h1, h2, h3⟩ := h
  refine ⟨A, cap, e, h1, h2, fun h0 => ?_⟩
  obtain ⟨g, e, hg, hx⟩ := h3 h0
  exact ⟨g, e, Nat.lt_of_lt_of_le hg hb.size, fun i hi => (hx i hi).keep hb hg⟩
theorem toksV_at : ∀ (ts : List (Nat × Tk)) (i : Nat) (h : i < ts.length) (j : Nat) (u : Value), (tkV ts[i].1 ts[i].2).toList[j]? = some u → (toksV ts)[i * 6 + j]? = some u
  | [], i, h, _, _, _ => absurd h (Nat.not_lt_zero _)
  | (b, t) :: ts, 0, h, j, u, hu => by
    show ((tkV b t).toList ++ toksV ts)[0 * 6 + j]? = _
    have hu' : (tkV b t).toList[j]? = some u := hu
    have hj := (List.getElem?_eq_some_iff.1 hu').1
    rw [Nat.zero_mul, Nat.zero_add, List.getElem?_append_left hj]
    exact hu'
  | (b, t) :: ts, i + 1, h, j, u, hu => by
    show ((tkV b t).toList ++ toksV ts)[(i + 1) * 6 + j]? = _
    have h6 : (tkV b t).toList.length = 6 := rfl
    rw [List.getElem?_append_right (by omega), h6, show (i + 1) * 6 + j - 6 = i * 6 + j by omega]
    exact toksV_at ts i (by simpa using h) j u hu
theorem TAt.of_own {w : World} {base : Nat} {v : Value} {ts : List (Nat × Tk)} (h : w.ownsRow base 30 6 v ts.length (toksV ts)) : TAt w v ts := by
  have h0 := h
  rcases h.2 with ⟨rfl, hn⟩ | ⟨g, cap, cur, rfl, hg, hh, hn, hm, hc, ht⟩
  · have : ts = [] := List.length_eq_zero_iff.1 hn
    subst this
    exact ⟨none, 0, rfl, Nat.le_refl _, Nat.zero_le _, fun h => absurd h (Nat.lt_irrefl 0)⟩
  · refine ⟨_, cap, rfl, hn, hm, fun _ => ⟨g, rfl, (h0.lt g rfl).2, fun i hi => ?_⟩⟩
    have key : ∀ j u, (tkV ts[i].1 ts[i].2).toList[j]? = some u → w.cell? ⟨g, i * 6 + j, none⟩ = some u := fun j u hu => by
      have := h0.cells (g := g) rfl (i * 6 + j) u (toksV_at ts i hi j u hu)
      rw [Addr.add_lit, Nat.zero_add] at this
      exact this
    exact ⟨key 0 _ rfl, key 1 _ rfl, key 2 _ rfl, key 3 _ rfl, key 4 _ rfl, key 5 _ rfl⟩
end Go.Proofs.YtfkjehgbghckhaaDoor
