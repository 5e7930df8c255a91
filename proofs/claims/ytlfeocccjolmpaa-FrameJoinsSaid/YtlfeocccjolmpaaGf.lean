/-
  Lists of strings in memory, and the document's Same where both are one.
-/
import Derived.Test.YtlfeocccjolmpaaGe
namespace Go.Proofs.Ytlfeocccjolmpaa
open Go.RowKit

/-- A slice that holds these strings. -/
def SAt (w : World) (v : Value) (N : List (List UInt8)) : Prop :=
  ∃ A cap, v = .slice A N.length cap ∧ N.length ≤ cap ∧ cap ≤ maxLen ∧ (0 < N.length → ∃ g o, A = some ⟨g, o, none⟩ ∧ g < w.heap.size ∧ ∀ i (h : i < N.length), w.cell? ⟨g, o + i, none⟩ = some (.string (strL N[i])))
theorem SAt.stay {w w' : World} {v : Value} {N : List (List UInt8)} (h : SAt w v N) (hb : Below w.heap.size w w') : SAt w' v N := by
  obtain ⟨A, cap, e, h1, h2, h3⟩ := h
  refine ⟨A, cap, e, h1, h2, fun h0 => ?_⟩
  obtain ⟨g, o, e, hg, hx⟩ := h3 h0
  exact ⟨g, o, e, Nat.lt_of_lt_of_le hg hb.size, fun i hi => (hb.cell (p := ⟨g, o + i, none⟩) hg).trans (hx i hi)⟩
theorem SAt.of_own {w : World} {base : Nat} {v : Value} {N : List (List UInt8)} (h : w.ownsRow base 9 1 v N.length (strs N)) : SAt w v N := by
  have h0 := h
  rcases h.2 with ⟨rfl, hn⟩ | ⟨g, cap, cur, rfl, hg, hh, hn, hm, hc, ht⟩
  · have : N = [] := List.length_eq_zero_iff.1 hn
    subst this
    exact ⟨none, 0, rfl, Nat.le_refl _, Nat.zero_le _, fun h => absurd h (Nat.lt_irrefl 0)⟩
  · refine ⟨_, cap, rfl, hn, hm, fun _ => ⟨g, 0, rfl, (h0.lt g rfl).2, fun i hi => ?_⟩⟩
    have := h0.cells (g := g) rfl i (.string (strL N[i])) (by simp [strs, hi])
    rw [Addr.add_lit, Nat.zero_add] at this
    rw [Nat.zero_add]
    exact this
set_option maxRecDepth 20000 in
theorem Same_any {w : World} {v v' : Value} {N : List (List UInt8)} (h : SAt w v N) (h' : SAt w v' N) : Calls Try.prog 18 #[v, v'] w fun e w' => e = .returned (.bool true) ∧ Below w.heap.size w w' := by
  obtain ⟨A, ca, rfl, h1, h2, h3⟩ := h
  obtain ⟨A', ca', rfl, h1', h2', h3'⟩ := h'
  have hmx : N.length ≤ 9223372036854775807 := by unfold maxLen at h2; omega
  have H3 := Lib.hid h3
  have H3' := Lib.hid h3'
  clear h1 h2 h3 h1' h2' h3'
  go_enter Try.func18, Try.ntmps18
  go_wp2_with fail
  go_loopw [5] (fun iv wr => ∃ i : Nat, i ≤ N.length ∧ iv = .int .i64 i ∧ Below w.heap.size w wr) (fun iv _ => N.length - (intOf iv).toNat)
  case atStart => exact ⟨0, Nat.zero_le _, rfl, Below.refl _ _⟩
  case round =>
    obtain ⟨i, hi, rfl, hb⟩ := hrel
    by_cases hlt : i < N.length
    · obtain ⟨g, o, rfl, hg, hx⟩ := H3.out (by omega)
      obtain ⟨g', o', rfl, hg', hx'⟩ := H3'.out (by omega)
      have c1 := (hb.cell (p := ⟨g, o + i, none⟩) hg).trans (hx i hlt)
      have c2 := (hb.cell (p := ⟨g', o' + i, none⟩) hg').trans (hx' i hlt)
      generalize strL N[i] = t at c1 c2
      have HB := Lib.hid hb
      clear hb hx hx'
      go_wp2_with fail
      go_quiet (fail)
      have hd : Below wr.heap.size wr (wr.drewN nq) := below_drewN (Below.refl _ _) _
      generalize wr.drewN nq = w2 at hd ⊢
      have HB2 := Lib.hid (HB.out.trans (hd.mono HB.out.size))
      clear hd c1 c2
      go_wp2_with fail
      go_roundw
      case rel => exact ⟨i + 1, by omega, by go_num, HB2.out⟩
      case measure => simp [intOf]; omega
    · have HB := Lib.hid hb
      clear hb
      go_wp2_with fail
      go_ret
      exact ⟨rfl, HB.out⟩
end Go.Proofs.Ytlfeocccjolmpaa
