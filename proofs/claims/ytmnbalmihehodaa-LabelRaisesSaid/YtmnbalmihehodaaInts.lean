/-
  Blocks of ints that the call made; slices.Clone.
-/
import Derived.Test.YtmnbalmihehodaaSame
import Derived.WalkSpells
import Derived.Laws.AppendOwnNone
namespace Go.Proofs.Ytmnbalmihehodaa
open Go.RowKit

/-- Block g begins with these ints. -/
def IB (w : World) (g m : Nat) (f : Nat → Int) : Prop := ∃ cs, w.heap[g]? = some (.cells cs 3 (0, 0)) ∧ m ≤ cs.size ∧ ∀ i, i < m → cs[i]? = some (.int .i64 (f i))

def updI (f : Nat → Int) (i : Nat) (v : Int) : Nat → Int := fun j => if j = i then v else f j
theorem updI_same (f : Nat → Int) (i : Nat) (v : Int) : updI f i v i = v := if_pos rfl
theorem updI_far {f : Nat → Int} {i j : Nat} {v : Int} (h : j ≠ i) : updI f i v j = f j := if_neg h

section
variable {w w' : World} {g m : Nat} {f : Nat → Int}
theorem IB.lt (h : IB w g m f) : g < w.heap.size := by
  obtain ⟨cs, hb, _⟩ := h
  exact (Array.getElem?_eq_some_iff.1 hb).1
theorem IB.cell (h : IB w g m f) {i : Nat} (hi : i < m) : w.cell? ⟨g, i, none⟩ = some (.int .i64 (f i)) := by
  obtain ⟨cs, hb, _, hc⟩ := h
  exact (cell_of_heap hb i).trans (hc i hi)
theorem IB.free (h : IB w g m f) (i : Nat) : w.frozen? ⟨g, i, none⟩ = false := by
  obtain ⟨cs, hb, _⟩ := h
  exact frozen_of_heap hb i
theorem IB.block (h : IB w g m f) (hb : w'.heap[g]? = w.heap[g]?) : IB w' g m f := by
  obtain ⟨cs, h1, h2, h3⟩ := h
  exact ⟨cs, hb.trans h1, h2, h3⟩
theorem IB.keep (h : IB w g m f) (hb : Below w.heap.size w w') : IB w' g m f := h.block (hb.block g h.lt)
theorem IB.drew (h : IB w g m f) : IB w.drew g m f := h
theorem IB.drewN (h : IB w g m f) (n : Nat) : IB (w.drewN n) g m f := h
theorem IB.alloc (h : IB w g m f) (o : Obj) : IB (w.alloc o) g m f := h.block (Below.heap_alloc _ _ _ h.lt)
theorem IB.far (h : IB w g m f) {a : Addr} (ha : g ≠ a.block) (u : Value) : IB (w.setCell a u) g m f := h.block (Below.heap_setCell _ _ _ _ ha)
theorem IB.set (h : IB w g m f) (i : Nat) (v : Int) : IB (w.setCell ⟨g, i, none⟩ (.int .i64 v)) g m (updI f i v) := by
  obtain ⟨cs, h1, h2, h3⟩ := h
  refine ⟨_, heap_set h1 i (.int .i64 v), by simpa using h2, fun j hj => ?_⟩
  by_cases e : j = i
  · subst e
    rw [updI_same, Array.getElem?_setIfInBounds_self_of_lt (by omega)]
  · rw [updI_far e, Array.getElem?_setIfInBounds_ne (Ne.symm e)]
    exact h3 j hj
theorem IB.congr {f' : Nat → Int} (h : IB w g m f) (he : ∀ i, i < m → f' i = f i) : IB w g m f' := by
  obtain ⟨cs, h1, h2, h3⟩ := h
  exact ⟨cs, h1, h2, fun i hi => by rw [he i hi]; exact h3 i hi⟩
theorem IB.rd (h : IB w g m f) : Rd w w.heap.size (some ⟨g, 0, none⟩) m f := by
  have hl := h.lt
  exact fun _ => ⟨g, 0, rfl, hl, fun i hi => by rw [Nat.zero_add]; exact h.cell hi⟩
end

/-- The cells of a list of ints. -/
def ics (len : Nat) (f : Nat → Int) : List Value := (List.range len).map fun i => .int .i64 (f i)
theorem ics_len (len : Nat) (f : Nat → Int) : (ics len f).length = len := by simp [ics]
theorem ics_at (len : Nat) (f : Nat → Int) (i : Nat) (hi : i < len) : (ics len f)[i]? = some (.int .i64 (f i)) := by
  unfold ics
  rw [List.getElem?_map, List.getElem?_range hi]
  rfl

/-- What is owned, and isn't nil, is such a block. -/
theorem ib_of_own {w : World} {base : Nat} {v : Value} {len : Nat} {f : Nat → Int} (h : w.ownsRow base 3 1 v len (ics len f)) (hv : v ≠ .slice none 0 0) :
    ∃ g cap, v = .slice (some ⟨g, 0, none⟩) len cap ∧ base ≤ g ∧ IB w g len f := by
  rcases h.2 with ⟨e, _⟩ | ⟨g, cap, cur, rfl, hg, hb, h1, _, h3, h4⟩
  · exact absurd e hv
  · refine ⟨g, cap, rfl, hg, cur, hb, by omega, fun i hi => ?_⟩
    have e : (cur.toList.take (len * 1))[i]? = (ics len f)[i]? := by rw [h4]
    rw [List.getElem?_take, if_pos (by omega), ics_at _ _ _ hi] at e
    rw [← Array.getElem?_toList, e]

/-- 'append([]int{}, xs...)'. -/
theorem wp_appI {ops : Array Oper} {rest : List Oper} {o : Oper} {a : Act} {w : World} {Q : Exit → Act → World → Prop} (hgd : o.guard = none) (s x : Operand)
    (ho : o.op = .call { callee := .builtin .append, args := #[s, x], argTypes := #[23, 23] }) (g0 : Nat) (hs : a.eval s = .slice (some ⟨g0, 0, none⟩) 0 0) (hblk : w.heap[g0]? = some (.cells #[] 3 (0, 0)))
    (A : Option Addr) (len cap B : Nat) (f : Nat → Int) (hx : a.eval x = .slice A len cap) (hp : Rd w B A len f) (hA : A = none → cap = 0) (hlen : len ≤ 1000)
    (h : ∀ g cap' w', g0 ≤ g → IB w' g len f → Below g0 w w' → wpList Try.prog ops Q rest (a.put o.dst (.slice (some ⟨g, 0, none⟩) len cap')) w') : wpList Try.prog ops Q (o :: rest) a w := by
  obtain ⟨i0, hi, hz0, hz1, hz2⟩ := info_parts Try.info3
  have hlt := (Array.getElem?_eq_some_iff.1 hblk).1
  have hown : w.ownsRow g0 3 1 (.slice (some ⟨g0, 0, none⟩) 0 0) 0 [] := ⟨rfl, .inr ⟨g0, 0, #[], rfl, Nat.le_refl _, hblk, Nat.le_refl _, by unfold maxLen; omega, rfl, rfl⟩⟩
  cases A with
  | none =>
    have hl0 : len = 0 := by
      rcases Nat.eq_zero_or_pos len with h0 | h0
      · exact h0
      · obtain ⟨_, _, e, _⟩ := hp h0
        cases e
    subst hl0
    have hc0 := hA rfl
    subst hc0
    refine wpList_append_own_none hgd s x 23 ho g0 3 i0 1 Try.underlying23 hi _ 0 [] hs hown hx ?_
    exact h g0 0 w (Nat.le_refl _) ⟨_, hblk, Nat.zero_le _, fun i hi => absurd hi (Nat.not_lt_zero _)⟩ (Below.refl _ _)
  | some ad =>
    refine wpList_append_own w hgd s x 23 ho g0 3 i0 _ 1 8 Try.underlying23 hi hz0 hz1 hz2 rfl (by omega) _ 0 [] hs hown ad len cap (ics len f) hx (by rw [ics_len, Nat.mul_one]) ?_ ?_ (by unfold maxLen; omega) (by omega) (Nat.le_of_lt hlt) ?_
    · intro j u hu
      have hj : j < len := by
        have := (List.getElem?_eq_some_iff.1 hu).1
        rwa [ics_len] at this
      rw [ics_at len f j hj] at hu
      obtain ⟨g, off, e, _, hc⟩ := hp (by omega)
      cases e
      rw [← Option.some.inj hu, WideShapes.add_plain]
      exact hc j hj
    · intro u hu
      simp only [ics, List.mem_map] at hu
      obtain ⟨j, _, rfl⟩ := hu
      rfl
    · intro v' w' ho' hg' hnil
      rw [Nat.zero_add, List.nil_append] at ho'
      have hv' : v' ≠ .slice none 0 0 := by
        intro e
        have := hnil
        simp [e] at this
      obtain ⟨g, cap', rfl, hge, hI⟩ := ib_of_own ho' hv'
      exact h g cap' w' hge hI ((Below.refl _ _).grown hg' (Nat.le_of_lt hlt) (fun k hk => by simp [Value.ownBlock] at hk; omega))

/-- A clone of ints. -/
def GivesInts (len : Nat) (f : Nat → Int) (w : World) (e : Ending) (w' : World) : Prop :=
  ∃ g cap, e = .returned (.slice (some ⟨g, 0, none⟩) len cap) ∧ w.heap.size ≤ g ∧ IB w' g len f ∧ Below w.heap.size w w'

theorem Clone_nil (len cap : Nat) (w : World) : Calls Try.prog 41 #[.slice none len cap] w fun e w' => e = .returned (.slice none 0 0) ∧ w = w' := by
  have hn := fun (w : World) => Lib.run_eql_slice_nil (P := Try.prog) w 23 3 none len cap 0 0 Try.underlying23
  go_enter Try.func41, Try.ntmps41
  go_wp2_with fail
  go_ret
  exact ⟨rfl, rfl⟩

theorem Clone_any (ad : Addr) (len cap : Nat) (f : Nat → Int) (w : World) (hl : len ≤ 1000) (hR : Rd w w.heap.size (some ad) len f) :
    Calls Try.prog 41 #[.slice (some ad) len cap] w (GivesInts len f w) := by
  have hn := fun (w : World) => Lib.run_eql_slice_nil (P := Try.prog) w 23 3 (some ad) len cap 0 0 Try.underlying23
  have hbz := (Below.refl w.heap.size w).alloc (Nat.le_refl _) (.cells #[] 3)
  have hR1 := hR.keep hbz
  have hg0 := heap_alloc_new w (.cells #[] 3)
  go_enter Try.func41, Try.ntmps41
  go_wp2_with (first | (at_builtin; refine wp_appI rfl _ _ rfl _ rfl hg0 _ _ _ _ _ rfl hR1 (by intro h; cases h) hl ?_; intro g cap' w1 hge hI hb1) | fail)
  go_ret
  exact ⟨g, cap', rfl, hge, hI, hbz.trans hb1⟩
end Go.Proofs.Ytmnbalmihehodaa
