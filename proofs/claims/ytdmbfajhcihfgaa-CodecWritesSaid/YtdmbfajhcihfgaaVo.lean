/-
  A value that came in, opened: the tree that it is.
-/
import Derived.Test.YtdmbfajhcihfgaaVt
namespace Go.Proofs.Ytdmbfajhcihfgaa
open Go.ChangeShapes Go.WideShapes Go.ChangeAt Go.RowKit

theorem own : ownKnob Try.prog.godebug = none := by kernel_rfl
theorem laidOut : laidOutB Try.prog = true := by kernel_rfl
theorem cells9 : Try.prog.cellsOf 9 = 1 := by kernel_rfl
theorem add_plain (g o k : Nat) : (⟨g, o, none⟩ : Addr).add k = ⟨g, o + k, none⟩ := by
  unfold Addr.add
  split
  · rename_i h; subst h; rfl
  · rfl

section
variable {H : Type} {enc : TypeId × Value → H} {w : World} {base : Nat} {spare : Nat → Bool} {held : Bool}
set_option maxRecDepth 20000 in
theorem trod_float {fuel : Nat} {cs : List Value} {x : DataW H × List MemPlace} (h : DataW.trod enc Try.prog w base spare held fuel 23 cs = some x) : ∃ b, cs = [.float .f64 b] ∧ (Lit.float .f64 b).wf = true := by
  cases fuel with
  | zero => simp [DataW.trod] at h
  | succ n =>
    unfold DataW.trod at h
    rw [Try.underlying23] at h
    split at h <;> simp_all
/-- A list of strings that came in. -/
theorem open_strs {W : World} {fuel : Nat} {cs : List Value} {x : DataW H × List MemPlace} (h : DataW.trod enc Try.prog W 0 (fun _ => true) held fuel 24 cs = some x) (hlt : ∀ p ∈ x.2, p.block < W.heap.size) :
    ∃ A c ca ns, cs = [.slice A c ca] ∧ c ≤ ca ∧ ca ≤ maxLen ∧ Strs W W.heap.size A c ns := by
  rcases Go.Deep.open_slice1 Try.underlying24 cells9 h with ⟨rfl, _⟩ | ⟨a, len, cap, m, n, V, D, Pl, rfl, _, hl, hc, hm, hx, hi⟩
  · exact ⟨none, 0, 0, fun _ => ⟨#[]⟩, rfl, Nat.le_refl _, Nat.zero_le _, fun h => absurd h (Nat.lt_irrefl 0)⟩
  · simp only [if_true] at hm
    subst hm
    have each : ∀ i, i < m → ∃ s : ByteArray, W.cell? (a.add i) = some (.string s) ∧ s.size ≤ maxLen := by
      intro i him
      obtain ⟨h1, h2⟩ := hi i him
      obtain ⟨s, hs, _, hz⟩ := DataW.trod_string Try.underlying9 h2
      exact ⟨s, by rw [h1]; simpa using hs, hz⟩
    let f : Nat → ByteArray := fun i => if h : i < m then (each i h).choose else ⟨#[]⟩
    refine ⟨some a, len, m, f, rfl, hl, hc, fun hpos => ?_⟩
    have hspec : ∀ i, i < len → W.cell? (a.add i) = some (.string (f i)) ∧ (f i).size ≤ maxLen := by
      intro i hil
      have him : i < m := by omega
      simp only [f, dif_pos him]
      exact (each i him).choose_spec
    obtain ⟨g, off, spot⟩ := a
    have hspot : spot = none := by simpa [Addr.add] using World.cell?_spot (hspec 0 hpos).1
    subst hspot
    refine ⟨g, off, rfl, hlt (.cell g off) ?_, fun i hil => ?_⟩
    · rw [hx]
      exact List.mem_append_left _ (MemPlace.mem_row.2 ⟨0, by omega, by simp⟩)
    · have := hspec i hil
      rw [add_plain] at this
      exact this

set_option maxRecDepth 20000 in
theorem open_tree {W : World} : ∀ (fuel : Nat) (cs : List Value) (x : DataW H × List MemPlace), DataW.trod enc Try.prog W 0 (fun _ => true) held fuel 27 cs = some x → (∀ p ∈ x.2, p.block < W.heap.size) →
    ∃ t, Val W W.heap.size cs.toArray t := by
  intro fuel
  induction fuel using Nat.strongRecOn with
  | ind fuel ih =>
    intro cs x h hlt
    obtain ⟨xs, n, hfu, hx, hl, hlen, hf⟩ := DataW.trod_struct Try.underlying27 h
    subst hfu
    rw [cells26] at hl
    match cs, hl with
    | [v0, v1, v2, v3, v4, v5], _ =>
      have f0 := hf 0 _ rfl
      have f1 := hf 1 _ rfl
      have f2 := hf 2 _ rfl
      have f3 := hf 3 _ rfl
      have f4 := hf 4 _ rfl
      have f5 := hf 5 _ rfl
      match xs, hlen with
      | [x0, x1, x2, x3, x4, x5], _ =>
        have e0 : DataW.trod enc Try.prog W 0 (fun _ => true) held n 3 [v0] = some x0 := f0
        have e1 : DataW.trod enc Try.prog W 0 (fun _ => true) held n 2 [v1] = some x1 := f1
        have e2 : DataW.trod enc Try.prog W 0 (fun _ => true) held n 23 [v2] = some x2 := f2
        have e3 : DataW.trod enc Try.prog W 0 (fun _ => true) held n 9 [v3] = some x3 := f3
        have e4 : DataW.trod enc Try.prog W 0 (fun _ => true) held n 24 [v4] = some x4 := f4
        have e5 : DataW.trod enc Try.prog W 0 (fun _ => true) held n 25 [v5] = some x5 := f5
        clear hf f0 f1 f2 f3 f4 f5
        obtain ⟨k, h0, _, w0⟩ := DataW.trod_int Try.underlying3 e0
        obtain ⟨n', h1, _, w1⟩ := DataW.trod_int Try.underlying2 e1
        obtain ⟨f, h2, w2⟩ := trod_float e2
        obtain ⟨s, h3, _, w3⟩ := DataW.trod_string Try.underlying9 e3
        have hlt4 : ∀ p ∈ x4.2, p.block < W.heap.size := fun p hp => hlt p (by rw [hx]; simp [hp])
        have hlt5 : ∀ p ∈ x5.2, p.block < W.heap.size := fun p hp => hlt p (by rw [hx]; simp [hp])
        obtain ⟨A, c, ca, ns, h4, hc1, hc2, hstr⟩ := open_strs e4 hlt4
        have g0 : v0 = .int .i64 k := by simpa using h0
        have g1 : v1 = .int .i64 n' := by simpa using h1
        have g2 : v2 = .float .f64 f := by simpa using h2
        have g3 : v3 = .string s := by simpa using h3
        have g4 : v4 = .slice A c ca := by simpa using h4
        subst g0 g1 g2 g3 g4
        have b0 : -9223372036854775808 ≤ k ∧ k ≤ 9223372036854775807 := by simpa [Lit.wf, IntKind.min, IntKind.max, IntKind.signed, IntKind.bits] using w0
        have b1 : -9223372036854775808 ≤ n' ∧ n' ≤ 9223372036854775807 := by simpa [Lit.wf, IntKind.min, IntKind.max, IntKind.signed, IntKind.bits] using w1
        have b2 : f < 18446744073709551616 := by simpa [Lit.wf] using w2
        rcases DataW.trod_slice Try.underlying25 e5 with ⟨h5, _⟩ | ⟨a, len, cap, elems, rest, n2, hn2, h5, hx5, _, hm1, hm2, hel, hat, _, _⟩
        · have g5 : v5 = .slice none 0 0 := by simpa using h5
          subst g5
          exact ⟨_, .mk k n' f s A c ca none 0 0 ns (fun _ => .bad) (fun _ => #[]) b0 b1 b2 w3 ⟨hc1, hc2⟩ ⟨Nat.le_refl _, Nat.zero_le _⟩ hstr (fun h => absurd h (Nat.lt_irrefl 0)) (fun i h => absurd h (by omega))⟩
        · have g5 : v5 = .slice (some a) len cap := by simpa using h5
          subst g5
          subst hn2
          rw [cells26] at hat
          have each : ∀ i, i < len → ∃ cs', W.cells? 0 (a.add (i * 6)) 6 = some cs' ∧ ∃ t, Val W W.heap.size cs'.toArray t := by
            intro i hi
            have h6 := hat i hi
            have hlti : i < elems.length := by omega
            rw [List.getElem?_eq_getElem hlti] at h6
            obtain ⟨cs', hc6, ht6⟩ := Option.bind_eq_some_iff.1 h6
            refine ⟨cs', hc6, ih n2 (by omega) cs' _ ht6 (fun p hp => hlt5 p ?_)⟩
            rw [hx5]
            refine List.mem_append_right _ (List.mem_flatMap.2 ⟨elems[i], List.mem_append_left _ (List.getElem_mem hlti), hp⟩)
          let vs : Nat → Array Value := fun i => if h : i < len then (each i h).choose.toArray else #[]
          let xs' : Nat → VT := fun i => if h : i < len then (each i h).choose_spec.2.choose else .bad
          have hvs : ∀ i (h : i < len), vs i = (each i h).choose.toArray := fun i h => dif_pos h
          have hxs : ∀ i (h : i < len), xs' i = (each i h).choose_spec.2.choose := fun i h => dif_pos h
          refine ⟨_, .mk k n' f s A c ca (some a) len cap ns xs' vs b0 b1 b2 w3 ⟨hc1, hc2⟩ ⟨hm1, hm2⟩ hstr (fun hpos => ?_) (fun i hi => ?_)⟩
          · have hat0 : ∀ i, i < len → ∀ j, j < 6 → W.cell? ((a.add (i * 6)).add j) = (vs i)[j]? := by
              intro i hi j hj
              obtain ⟨_, hln, hc7⟩ := World.cells?_some (each i hi).choose_spec.1
              rw [hvs i hi]
              have := hc7 j (by omega)
              rw [this]
              simp
            obtain ⟨g, off, spot⟩ := a
            have h00 := hat0 0 hpos 0 (by omega)
            have hsz : ∃ u, (vs 0)[0]? = some u := by
              obtain ⟨_, hln, _⟩ := World.cells?_some (each 0 hpos).choose_spec.1
              rw [hvs 0 hpos]
              exact ⟨_, Array.getElem?_eq_getElem (by simp [hln])⟩
            obtain ⟨u, hu⟩ := hsz
            rw [hu] at h00
            have hspot : spot = none := by simpa [Addr.add] using World.cell?_spot h00
            subst hspot
            refine ⟨g, off, rfl, hlt5 (.cell g off) ?_, fun i hi j hj => ?_⟩
            · rw [hx5]
              exact List.mem_append_left _ (MemPlace.mem_row.2 ⟨0, by rw [cells26]; omega, by simp⟩)
            · have := hat0 i hi j hj
              rwa [add_plain, add_plain] at this
          · rw [hvs i hi, hxs i hi]
            exact (each i hi).choose_spec.2.choose_spec
end
end Go.Proofs.Ytdmbfajhcihfgaa
