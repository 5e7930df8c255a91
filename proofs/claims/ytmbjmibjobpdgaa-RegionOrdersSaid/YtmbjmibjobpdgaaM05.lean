/-
  A model that came in, opened: its nodes' ways out, and that all else is well laid.
-/
import Derived.Test.YtmbjmibjobpdgaaM02
import Derived.Test.YtmbjmibjobpdgaaM03
import Derived.Test.YtmbjmibjobpdgaaM04
namespace Go.Proofs.Ytmbjmibjobpdgaa
open Go.ChangeShapes Go.WideShapes Go.ChangeAt Go.RowKit

/-- Things of C cells each that lie behind one another. -/
def RowAt (w : World) (lim C : Nat) (A : Option Addr) (m : Nat) (vs : Nat → Array Value) : Prop :=
  0 < m → ∃ g o, A = some ⟨g, o, none⟩ ∧ g < lim ∧ ∀ i, i < m → ∀ j, j < C → w.cell? ⟨g, o + i * C + j, none⟩ = (vs i)[j]?
def Num (x : Int) : Prop := -9223372036854775808 ≤ x ∧ x ≤ 9223372036854775807
def VarAt (w : World) (lim : Nat) (v : Array Value) : Prop :=
  ∃ s l t0 t1 t2 a0 a1 a2 a3 a4 a5 t u, v = #[.string s, .int .i64 l, t0, t1, t2, a0, a1, a2, a3, a4, a5] ∧ s.size ≤ maxLen ∧ TVal w lim #[t0, t1, t2] t ∧ Val w lim #[a0, a1, a2, a3, a4, a5] u
def MsgAt (w : World) (lim : Nat) (v : Array Value) : Prop :=
  ∃ s l t0 t1 t2 u0 u1 u2 t u, v = #[.string s, .int .i64 l, t0, t1, t2, u0, u1, u2] ∧ s.size ≤ maxLen ∧ TVal w lim #[t0, t1, t2] t ∧ TVal w lim #[u0, u1, u2] u
/-- A node's ways out: how many, to where, its Catch, its Wait. -/
structure NT where
  c : Nat
  f : Nat → Int
  k : Int
  t : Int
def nodeV (k l : Int) (A : Option Addr) (c ca : Nat) (B : Option Addr) (m cb : Nat) (e0 e1 e2 e3 e4 e5 e6 e7 e8 e9 b0 b1 b2 b3 b4 b5 b6 b7 b8 b9 : Value) (vr mg ct wt fr : Int) : Array Value :=
  #[.int .i64 k, .int .i64 l, .slice A c ca, .slice B m cb, e0, e1, e2, e3, e4, e5, e6, e7, e8, e9, b0, b1, b2, b3, b4, b5, b6, b7, b8, b9, .int .i64 vr, .int .i64 mg, .int .i64 ct, .int .i64 wt, .int .i64 fr]
inductive NodeAt (w : World) (lim : Nat) : Array Value → NT → Prop
  | mk (k l : Int) (A : Option Addr) (c ca : Nat) (B : Option Addr) (m cb : Nat) (e0 e1 e2 e3 e4 e5 e6 e7 e8 e9 b0 b1 b2 b3 b4 b5 b6 b7 b8 b9 : Value) (vr mg ct wt fr : Int) (f : Nat → Int) (vs : Nat → Array Value) (xs : Nat → ET) (x y : ET)
      (hc : c ≤ ca ∧ ca ≤ maxLen) (hA : 0 < c → ∃ g o, A = some ⟨g, o, none⟩ ∧ g < lim ∧ ∀ j, j < c → w.cell? ⟨g, o + j, none⟩ = some (.int .i64 (f j))) (hf : ∀ j, j < c → Num (f j))
      (hm : m ≤ cb ∧ cb ≤ maxLen) (hB : RowAt w lim 10 B m vs) (hxs : ∀ i, i < m → EVal w lim (vs i) (xs i))
      (hx : EVal w lim #[e0, e1, e2, e3, e4, e5, e6, e7, e8, e9] x) (hy : EVal w lim #[b0, b1, b2, b3, b4, b5, b6, b7, b8, b9] y) (hct : Num ct) (hwt : Num wt) :
      NodeAt w lim (nodeV k l A c ca B m cb e0 e1 e2 e3 e4 e5 e6 e7 e8 e9 b0 b1 b2 b3 b4 b5 b6 b7 b8 b9 vr mg ct wt fr) ⟨c, f, ct, wt⟩
/-- A model's graph. -/
structure GT where
  n : Nat
  d : Nat → NT
def modelV (lb : Int) (A : Option Addr) (a aa : Nat) (B : Option Addr) (b bb : Nat) (V : Option Addr) (p pp : Nat) (S : Option Addr) (q qq : Nat) (N : Option Addr) (n nn : Nat) : Array Value :=
  #[.int .i64 lb, .slice A a aa, .slice B b bb, .slice V p pp, .slice S q qq, .slice N n nn]
inductive ModelAt (w : World) (lim : Nat) : Array Value → GT → Prop
  | mk (lb : Int) (A : Option Addr) (a aa : Nat) (B : Option Addr) (b bb : Nat) (V : Option Addr) (p pp : Nat) (S : Option Addr) (q qq : Nat) (N : Option Addr) (n nn : Nat) (vs ms ns : Nat → Array Value) (d : Nat → NT)
      (ha : a ≤ aa ∧ aa ≤ maxLen) (hb : b ≤ bb ∧ bb ≤ maxLen) (hp : p ≤ pp ∧ pp ≤ maxLen) (hq : q ≤ qq ∧ qq ≤ maxLen) (hn : n ≤ nn ∧ nn ≤ maxLen)
      (hV : RowAt w lim 11 V p vs) (hvs : ∀ i, i < p → VarAt w lim (vs i)) (hS : RowAt w lim 8 S q ms) (hms : ∀ i, i < q → MsgAt w lim (ms i)) (hN : RowAt w lim 29 N n ns) (hns : ∀ i, i < n → NodeAt w lim (ns i) (d i)) :
      ModelAt w lim (modelV lb A a aa B b bb V p pp S q qq N n nn) ⟨n, d⟩

section
variable {w w' : World} {lim lim' : Nat}
theorem RowAt.keep {C : Nat} {A : Option Addr} {m : Nat} {vs : Nat → Array Value} (h : RowAt w lim C A m vs) (hw : ∀ g o, g < lim → w'.cell? ⟨g, o, none⟩ = w.cell? ⟨g, o, none⟩) : RowAt w' lim C A m vs := fun h0 => by
  obtain ⟨g, o, e, hg, hx⟩ := h h0
  exact ⟨g, o, e, hg, fun i hi j hj => (hw _ _ hg).trans (hx i hi j hj)⟩
theorem VarAt.keep {v : Array Value} (h : VarAt w lim v) (hw : ∀ g o, g < lim → w'.cell? ⟨g, o, none⟩ = w.cell? ⟨g, o, none⟩) : VarAt w' lim v := by
  obtain ⟨s, l, t0, t1, t2, a0, a1, a2, a3, a4, a5, t, u, e, hs, ht, hu⟩ := h
  exact ⟨s, l, t0, t1, t2, a0, a1, a2, a3, a4, a5, t, u, e, hs, ht.keep hw, hu.keep hw⟩
theorem MsgAt.keep {v : Array Value} (h : MsgAt w lim v) (hw : ∀ g o, g < lim → w'.cell? ⟨g, o, none⟩ = w.cell? ⟨g, o, none⟩) : MsgAt w' lim v := by
  obtain ⟨s, l, t0, t1, t2, u0, u1, u2, t, u, e, hs, ht, hu⟩ := h
  exact ⟨s, l, t0, t1, t2, u0, u1, u2, t, u, e, hs, ht.keep hw, hu.keep hw⟩
theorem NodeAt.keep {v : Array Value} {x : NT} (h : NodeAt w lim v x) (hw : ∀ g o, g < lim → w'.cell? ⟨g, o, none⟩ = w.cell? ⟨g, o, none⟩) : NodeAt w' lim v x := by
  cases h with
  | mk k l A c ca B m cb e0 e1 e2 e3 e4 e5 e6 e7 e8 e9 b0 b1 b2 b3 b4 b5 b6 b7 b8 b9 vr mg ct wt fr f vs xs x y hc hA hf hm hB hxs hx hy hct hwt =>
    exact .mk k l A c ca B m cb e0 e1 e2 e3 e4 e5 e6 e7 e8 e9 b0 b1 b2 b3 b4 b5 b6 b7 b8 b9 vr mg ct wt fr f vs xs x y hc (fun h0 => by
      obtain ⟨g, o, e, hg, hx⟩ := hA h0
      exact ⟨g, o, e, hg, fun j hj => (hw _ _ hg).trans (hx j hj)⟩) hf hm (hB.keep hw) (fun i hi => (hxs i hi).keep hw) (hx.keep hw) (hy.keep hw) hct hwt
theorem ModelAt.keep {v : Array Value} {G : GT} (h : ModelAt w lim v G) (hw : ∀ g o, g < lim → w'.cell? ⟨g, o, none⟩ = w.cell? ⟨g, o, none⟩) : ModelAt w' lim v G := by
  cases h with
  | mk lb A a aa B b bb V p pp S q qq N n nn vs ms ns d ha hb hp hq hn hV hvs hS hms hN hns =>
    exact .mk lb A a aa B b bb V p pp S q qq N n nn vs ms ns d ha hb hp hq hn (hV.keep hw) (fun i hi => (hvs i hi).keep hw) (hS.keep hw) (fun i hi => (hms i hi).keep hw) (hN.keep hw) (fun i hi => (hns i hi).keep hw)
theorem ModelAt.stay {v : Array Value} {G : GT} (h : ModelAt w lim v G) (hb : Below lim w w') : ModelAt w' lim v G :=
  h.keep fun g o hg => hb.cell (p := ⟨g, o, none⟩) hg
theorem RowAt.mono {C : Nat} {A : Option Addr} {m : Nat} {vs : Nat → Array Value} (h : RowAt w lim C A m vs) (hl : lim ≤ lim') : RowAt w lim' C A m vs := fun h0 => by
  obtain ⟨g, o, e, hg, hx⟩ := h h0
  exact ⟨g, o, e, by omega, hx⟩
theorem VarAt.mono {v : Array Value} (h : VarAt w lim v) (hl : lim ≤ lim') : VarAt w lim' v := by
  obtain ⟨s, l, t0, t1, t2, a0, a1, a2, a3, a4, a5, t, u, e, hs, ht, hu⟩ := h
  exact ⟨s, l, t0, t1, t2, a0, a1, a2, a3, a4, a5, t, u, e, hs, ht.mono hl, hu.mono hl⟩
theorem MsgAt.mono {v : Array Value} (h : MsgAt w lim v) (hl : lim ≤ lim') : MsgAt w lim' v := by
  obtain ⟨s, l, t0, t1, t2, u0, u1, u2, t, u, e, hs, ht, hu⟩ := h
  exact ⟨s, l, t0, t1, t2, u0, u1, u2, t, u, e, hs, ht.mono hl, hu.mono hl⟩
theorem NodeAt.mono {v : Array Value} {x : NT} (h : NodeAt w lim v x) (hl : lim ≤ lim') : NodeAt w lim' v x := by
  cases h with
  | mk k l A c ca B m cb e0 e1 e2 e3 e4 e5 e6 e7 e8 e9 b0 b1 b2 b3 b4 b5 b6 b7 b8 b9 vr mg ct wt fr f vs xs x y hc hA hf hm hB hxs hx hy hct hwt =>
    exact .mk k l A c ca B m cb e0 e1 e2 e3 e4 e5 e6 e7 e8 e9 b0 b1 b2 b3 b4 b5 b6 b7 b8 b9 vr mg ct wt fr f vs xs x y hc (fun h0 => by
      obtain ⟨g, o, e, hg, hx⟩ := hA h0
      exact ⟨g, o, e, by omega, hx⟩) hf hm (hB.mono hl) (fun i hi => (hxs i hi).mono hl) (hx.mono hl) (hy.mono hl) hct hwt
theorem ModelAt.mono {v : Array Value} {G : GT} (h : ModelAt w lim v G) (hl : lim ≤ lim') : ModelAt w lim' v G := by
  cases h with
  | mk lb A a aa B b bb V p pp S q qq N n nn vs ms ns d ha hb hp hq hn hV hvs hS hms hN hns =>
    exact .mk lb A a aa B b bb V p pp S q qq N n nn vs ms ns d ha hb hp hq hn (hV.mono hl) (fun i hi => (hvs i hi).mono hl) (hS.mono hl) (fun i hi => (hms i hi).mono hl) (hN.mono hl) (fun i hi => (hns i hi).mono hl)
end

theorem cells_var : Try.prog.cellsOf 64 = 11 := by kernel_rfl
theorem cells_msg : Try.prog.cellsOf 68 = 8 := by kernel_rfl
theorem cells_node : Try.prog.cellsOf 58 = 29 := by kernel_rfl
theorem cells_model : Try.prog.cellsOf 27 = 6 := by kernel_rfl
theorem cells_int : Try.prog.cellsOf 3 = 1 := by kernel_rfl
section
variable {H : Type} {enc : TypeId × Value → H} {held : Bool} {W : World}
theorem num_of {n : Int} (h : (Lit.int .i64 n).wf = true) : Num n := by simpa [Num, Lit.wf, IntKind.min, IntKind.max, IntKind.signed, IntKind.bits] using h
/-- A list that came in, each thing of it opened. -/
theorem open_rows {T E C : Nat} (hT : Try.prog.underlying T = some (.slice E)) (hC : Try.prog.cellsOf E = C) (hC0 : 0 < C) (P : Array Value → Prop) {fuel : Nat} {cs : List Value} {x : DataW H × List MemPlace}
    (hP : ∀ n, n < fuel → ∀ cs x, DataW.trod enc Try.prog W 0 (fun _ => true) held n E cs = some x → (∀ p ∈ x.2, p.block < W.heap.size) → P cs.toArray)
    (h : DataW.trod enc Try.prog W 0 (fun _ => true) held fuel T cs = some x) (hlt : ∀ p ∈ x.2, p.block < W.heap.size) :
    ∃ A len cap vs, cs = [.slice A len cap] ∧ (len ≤ cap ∧ cap ≤ maxLen) ∧ RowAt W W.heap.size C A len vs ∧ ∀ i, i < len → P (vs i) := by
  rcases DataW.trod_slice hT h with ⟨h5, _⟩ | ⟨a, len, cap, elems, rest, n2, hn2, h5, hx5, _, hm1, hm2, hel, hat, _, _⟩
  · exact ⟨none, 0, 0, fun _ => #[], h5, ⟨Nat.le_refl _, Nat.zero_le _⟩, fun h => absurd h (Nat.lt_irrefl 0), fun i h => absurd h (by omega)⟩
  · subst hn2
    rw [hC] at hat
    have each : ∀ i, i < len → ∃ cs', W.cells? 0 (a.add (i * C)) C = some cs' ∧ P cs'.toArray := by
      intro i hi
      have h6 := hat i hi
      have hlti : i < elems.length := by omega
      rw [List.getElem?_eq_getElem hlti] at h6
      obtain ⟨cs', hc6, ht6⟩ := Option.bind_eq_some_iff.1 h6
      refine ⟨cs', hc6, hP n2 (by omega) cs' _ ht6 (fun p hp => hlt p ?_)⟩
      rw [hx5]
      refine List.mem_append_right _ (List.mem_flatMap.2 ⟨elems[i], List.mem_append_left _ (List.getElem_mem hlti), hp⟩)
    let vs : Nat → Array Value := fun i => if h : i < len then (each i h).choose.toArray else #[]
    have hvs : ∀ i (h : i < len), vs i = (each i h).choose.toArray := fun i h => dif_pos h
    refine ⟨some a, len, cap, vs, h5, ⟨hm1, hm2⟩, fun hpos => ?_, fun i hi => ?_⟩
    · have hat0 : ∀ i, i < len → ∀ j, j < C → W.cell? ((a.add (i * C)).add j) = (vs i)[j]? := by
        intro i hi j hj
        obtain ⟨_, hln, hc7⟩ := World.cells?_some (each i hi).choose_spec.1
        rw [hvs i hi]
        have := hc7 j (by omega)
        rw [this]
        simp
      obtain ⟨g, off, spot⟩ := a
      have h00 := hat0 0 hpos 0 hC0
      have hsz : ∃ u, (vs 0)[0]? = some u := by
        obtain ⟨_, hln, _⟩ := World.cells?_some (each 0 hpos).choose_spec.1
        rw [hvs 0 hpos]
        exact ⟨_, Array.getElem?_eq_getElem (by rw [List.size_toArray]; exact Nat.lt_of_lt_of_eq hC0 hln.symm)⟩
      obtain ⟨u, hu⟩ := hsz
      rw [hu] at h00
      have hspot : spot = none := by simpa [Addr.add] using World.cell?_spot h00
      subst hspot
      refine ⟨g, off, rfl, hlt (.cell g off) ?_, fun i hi j hj => ?_⟩
      · rw [hx5]
        exact List.mem_append_left _ (MemPlace.mem_row.2 ⟨0, by rw [hC]; exact Nat.mul_pos (by omega) hC0, by simp⟩)
      · have := hat0 i hi j hj
        rwa [add_plain, add_plain] at this
    · rw [hvs i hi]
      exact (each i hi).choose_spec.2
set_option maxRecDepth 20000 in
theorem open_etree : ∀ (fuel : Nat) (cs : List Value) (x : DataW H × List MemPlace), DataW.trod enc Try.prog W 0 (fun _ => true) held fuel 56 cs = some x → (∀ p ∈ x.2, p.block < W.heap.size) →
    ∃ t, EVal W W.heap.size cs.toArray t := by
  intro fuel
  induction fuel using Nat.strongRecOn with
  | ind fuel ih =>
    intro cs x h hlt
    obtain ⟨xs, n, hfu, hx, hl, hlen, hf⟩ := DataW.trod_struct Try.underlying56 h
    subst hfu
    rw [cells_e] at hl
    match cs, hl with
    | [v0, v1, a0, a1, a2, a3, a4, a5, v4, v5], _ =>
      have f0 := hf 0 _ rfl
      have f1 := hf 1 _ rfl
      have f2 := hf 2 _ rfl
      have f3 := hf 3 _ rfl
      have f4 := hf 4 _ rfl
      match xs, hlen with
      | [x0, x1, x2, x4, x5], _ =>
        have e0 : DataW.trod enc Try.prog W 0 (fun _ => true) held n 3 [v0] = some x0 := f0
        have e1 : DataW.trod enc Try.prog W 0 (fun _ => true) held n 9 [v1] = some x1 := f1
        have e2 : DataW.trod enc Try.prog W 0 (fun _ => true) held n 54 [a0, a1, a2, a3, a4, a5] = some x2 := f2
        have e4 : DataW.trod enc Try.prog W 0 (fun _ => true) held n 51 [v4] = some x4 := f3
        have e5 : DataW.trod enc Try.prog W 0 (fun _ => true) held n 49 [v5] = some x5 := f4
        clear hf f0 f1 f2 f3 f4
        obtain ⟨k, h0, _, w0⟩ := DataW.trod_int Try.underlying3 e0
        obtain ⟨s, h1, _, w1⟩ := DataW.trod_string Try.underlying9 e1
        have hlt2 : ∀ p ∈ x2.2, p.block < W.heap.size := fun p hp => hlt p (by rw [hx]; simp [hp])
        have hlt4 : ∀ p ∈ x4.2, p.block < W.heap.size := fun p hp => hlt p (by rw [hx]; simp [hp])
        have hlt5 : ∀ p ∈ x5.2, p.block < W.heap.size := fun p hp => hlt p (by rw [hx]; simp [hp])
        obtain ⟨u, hu⟩ := open_tree n _ _ e2 hlt2
        obtain ⟨A, c, ca, ns, h4, hc1, hc2, hstr⟩ := open_strs e4 hlt4
        have g0 : v0 = .int .i64 k := by simpa using h0
        have g1 : v1 = .string s := by simpa using h1
        have g4 : v4 = .slice A c ca := by simpa using h4
        subst g0 g1 g4
        obtain ⟨B, m, cb, vs, h5, hm, hB, hE⟩ := open_rows Try.underlying49 cells_e (by omega) (fun v => ∃ t, EVal W W.heap.size v t) (fun n' hn' cs x h hlt => ih n' (by omega) cs x h hlt) e5 hlt5
        have g5 : v5 = .slice B m cb := by simpa using h5
        subst g5
        let ts : Nat → ET := fun i => if h : i < m then (hE i h).choose else .bad
        have hts : ∀ i (h : i < m), ts i = (hE i h).choose := fun i h => dif_pos h
        exact ⟨_, .mk k s a0 a1 a2 a3 a4 a5 u A c ca B m cb ns ts vs (num_of w0) w1 hu ⟨hc1, hc2⟩ hm hstr hB (fun i hi => by rw [hts i hi]; exact (hE i hi).choose_spec)⟩
set_option maxRecDepth 20000 in
theorem open_var {fuel : Nat} {cs : List Value} {x : DataW H × List MemPlace} (h : DataW.trod enc Try.prog W 0 (fun _ => true) held fuel 64 cs = some x) (hlt : ∀ p ∈ x.2, p.block < W.heap.size) : VarAt W W.heap.size cs.toArray := by
  obtain ⟨xs, n, hfu, hx, hl, hlen, hf⟩ := DataW.trod_struct Try.underlying64 h
  subst hfu
  rw [cells_var] at hl
  match cs, hl with
  | [v0, v1, t0, t1, t2, a0, a1, a2, a3, a4, a5], _ =>
    have f0 := hf 0 _ rfl
    have f1 := hf 1 _ rfl
    have f2 := hf 2 _ rfl
    have f3 := hf 3 _ rfl
    match xs, hlen with
    | [x0, x1, x2, x3], _ =>
      have e0 : DataW.trod enc Try.prog W 0 (fun _ => true) held n 9 [v0] = some x0 := f0
      have e1 : DataW.trod enc Try.prog W 0 (fun _ => true) held n 3 [v1] = some x1 := f1
      have e2 : DataW.trod enc Try.prog W 0 (fun _ => true) held n 62 [t0, t1, t2] = some x2 := f2
      have e3 : DataW.trod enc Try.prog W 0 (fun _ => true) held n 54 [a0, a1, a2, a3, a4, a5] = some x3 := f3
      clear hf f0 f1 f2 f3
      obtain ⟨s, h0, _, w0⟩ := DataW.trod_string Try.underlying9 e0
      obtain ⟨l, h1, _, _⟩ := DataW.trod_int Try.underlying3 e1
      obtain ⟨t, ht⟩ := open_ttree n _ _ e2 (fun p hp => hlt p (by rw [hx]; simp [hp]))
      obtain ⟨u, hu⟩ := open_tree n _ _ e3 (fun p hp => hlt p (by rw [hx]; simp [hp]))
      have g0 : v0 = .string s := by simpa using h0
      have g1 : v1 = .int .i64 l := by simpa using h1
      subst g0 g1
      exact ⟨s, l, t0, t1, t2, a0, a1, a2, a3, a4, a5, t, u, rfl, w0, ht, hu⟩
set_option maxRecDepth 20000 in
theorem open_msg {fuel : Nat} {cs : List Value} {x : DataW H × List MemPlace} (h : DataW.trod enc Try.prog W 0 (fun _ => true) held fuel 68 cs = some x) (hlt : ∀ p ∈ x.2, p.block < W.heap.size) : MsgAt W W.heap.size cs.toArray := by
  obtain ⟨xs, n, hfu, hx, hl, hlen, hf⟩ := DataW.trod_struct Try.underlying68 h
  subst hfu
  rw [cells_msg] at hl
  match cs, hl with
  | [v0, v1, t0, t1, t2, u0, u1, u2], _ =>
    have f0 := hf 0 _ rfl
    have f1 := hf 1 _ rfl
    have f2 := hf 2 _ rfl
    have f3 := hf 3 _ rfl
    match xs, hlen with
    | [x0, x1, x2, x3], _ =>
      have e0 : DataW.trod enc Try.prog W 0 (fun _ => true) held n 9 [v0] = some x0 := f0
      have e1 : DataW.trod enc Try.prog W 0 (fun _ => true) held n 3 [v1] = some x1 := f1
      have e2 : DataW.trod enc Try.prog W 0 (fun _ => true) held n 62 [t0, t1, t2] = some x2 := f2
      have e3 : DataW.trod enc Try.prog W 0 (fun _ => true) held n 62 [u0, u1, u2] = some x3 := f3
      clear hf f0 f1 f2 f3
      obtain ⟨s, h0, _, w0⟩ := DataW.trod_string Try.underlying9 e0
      obtain ⟨l, h1, _, _⟩ := DataW.trod_int Try.underlying3 e1
      obtain ⟨t, ht⟩ := open_ttree n _ _ e2 (fun p hp => hlt p (by rw [hx]; simp [hp]))
      obtain ⟨u, hu⟩ := open_ttree n _ _ e3 (fun p hp => hlt p (by rw [hx]; simp [hp]))
      have g0 : v0 = .string s := by simpa using h0
      have g1 : v1 = .int .i64 l := by simpa using h1
      subst g0 g1
      exact ⟨s, l, t0, t1, t2, u0, u1, u2, t, u, rfl, w0, ht, hu⟩
/-- Ints that came in. -/
theorem open_row {fuel : Nat} {cs : List Value} {x : DataW H × List MemPlace} (h : DataW.trod enc Try.prog W 0 (fun _ => true) held fuel 30 cs = some x) (hlt : ∀ p ∈ x.2, p.block < W.heap.size) :
    ∃ (A : Option Addr) (c ca : Nat) (f : Nat → Int), cs = [.slice A c ca] ∧ (c ≤ ca ∧ ca ≤ maxLen) ∧ (0 < c → ∃ g o, A = some ⟨g, o, none⟩ ∧ g < W.heap.size ∧ ∀ j, j < c → W.cell? ⟨g, o + j, none⟩ = some (.int .i64 (f j))) ∧ ∀ j, j < c → Num (f j) := by
  obtain ⟨A, c, ca, vs, e, hc, hA, hP⟩ := open_rows Try.underlying30 cells_int (by omega) (fun v => ∃ z, v = #[.int .i64 z] ∧ Num z) (fun n hn cs x h _ => by
    obtain ⟨z, h0, _, w0⟩ := DataW.trod_int Try.underlying3 h
    exact ⟨z, by rw [h0], num_of w0⟩) h hlt
  refine ⟨A, c, ca, fun j => if h : j < c then (hP j h).choose else 0, e, hc, fun h0 => ?_, fun j hj => ?_⟩
  · obtain ⟨g, o, e, hg, hx⟩ := hA h0
    refine ⟨g, o, e, hg, fun j hj => ?_⟩
    have := hx j hj 0 (by omega)
    rw [(hP j hj).choose_spec.1] at this
    simp only [Nat.mul_one, Nat.add_zero] at this
    rw [this]
    show some _ = some (Value.int .i64 (if h : j < c then (hP j h).choose else 0))
    rw [dif_pos hj]
    rfl
  · show Num (if h : j < c then (hP j h).choose else 0)
    rw [dif_pos hj]
    exact (hP j hj).choose_spec.2
set_option maxRecDepth 20000 in
set_option maxHeartbeats 1000000 in
theorem open_node {fuel : Nat} {cs : List Value} {x : DataW H × List MemPlace} (h : DataW.trod enc Try.prog W 0 (fun _ => true) held fuel 58 cs = some x) (hlt : ∀ p ∈ x.2, p.block < W.heap.size) : ∃ d, NodeAt W W.heap.size cs.toArray d := by
  obtain ⟨xs, n, hfu, hx, hl, hlen, hf⟩ := DataW.trod_struct Try.underlying58 h
  subst hfu
  rw [cells_node] at hl
  match cs, hl with
  | [v0, v1, v2, v3, e0, e1, e2, e3, e4, e5, e6, e7, e8, e9, b0, b1, b2, b3, b4, b5, b6, b7, b8, b9, v6, v7, v8, v9, v10], _ =>
    match xs, hlen with
    | [x0, x1, x2, x3, x4, x5, x6, x7, x8, x9, x10], _ =>
      have p0 : DataW.trod enc Try.prog W 0 (fun _ => true) held n 3 [v0] = some x0 := hf 0 _ rfl
      have p1 : DataW.trod enc Try.prog W 0 (fun _ => true) held n 3 [v1] = some x1 := hf 1 _ rfl
      have p2 : DataW.trod enc Try.prog W 0 (fun _ => true) held n 30 [v2] = some x2 := hf 2 _ rfl
      have p3 : DataW.trod enc Try.prog W 0 (fun _ => true) held n 49 [v3] = some x3 := hf 3 _ rfl
      have p4 : DataW.trod enc Try.prog W 0 (fun _ => true) held n 56 [e0, e1, e2, e3, e4, e5, e6, e7, e8, e9] = some x4 := hf 4 _ rfl
      have p5 : DataW.trod enc Try.prog W 0 (fun _ => true) held n 56 [b0, b1, b2, b3, b4, b5, b6, b7, b8, b9] = some x5 := hf 5 _ rfl
      have p6 : DataW.trod enc Try.prog W 0 (fun _ => true) held n 3 [v6] = some x6 := hf 6 _ rfl
      have p7 : DataW.trod enc Try.prog W 0 (fun _ => true) held n 3 [v7] = some x7 := hf 7 _ rfl
      have p8 : DataW.trod enc Try.prog W 0 (fun _ => true) held n 3 [v8] = some x8 := hf 8 _ rfl
      have p9 : DataW.trod enc Try.prog W 0 (fun _ => true) held n 3 [v9] = some x9 := hf 9 _ rfl
      have p10 : DataW.trod enc Try.prog W 0 (fun _ => true) held n 3 [v10] = some x10 := hf 10 _ rfl
      clear hf
      obtain ⟨k, h0, _, _⟩ := DataW.trod_int Try.underlying3 p0
      obtain ⟨l, h1, _, _⟩ := DataW.trod_int Try.underlying3 p1
      obtain ⟨vr, h6, _, _⟩ := DataW.trod_int Try.underlying3 p6
      obtain ⟨mg, h7, _, _⟩ := DataW.trod_int Try.underlying3 p7
      obtain ⟨ct, h8, _, w8⟩ := DataW.trod_int Try.underlying3 p8
      obtain ⟨wt, h9, _, w9⟩ := DataW.trod_int Try.underlying3 p9
      obtain ⟨fr, h10, _, _⟩ := DataW.trod_int Try.underlying3 p10
      obtain ⟨A, c, ca, f, h2, hc, hA, hf⟩ := open_row p2 (fun p hp => hlt p (by rw [hx]; simp [hp]))
      obtain ⟨B, m, cb, vs, h3, hm, hB, hE⟩ := open_rows Try.underlying49 cells_e (by omega) (fun v => ∃ t, EVal W W.heap.size v t) (fun n' _ cs x h hlt => open_etree n' cs x h hlt) p3 (fun p hp => hlt p (by rw [hx]; simp [hp]))
      obtain ⟨ex, hex⟩ := open_etree n _ _ p4 (fun p hp => hlt p (by rw [hx]; simp [hp]))
      obtain ⟨ey, hey⟩ := open_etree n _ _ p5 (fun p hp => hlt p (by rw [hx]; simp [hp]))
      have g0 : v0 = .int .i64 k := by simpa using h0
      have g1 : v1 = .int .i64 l := by simpa using h1
      have g2 : v2 = .slice A c ca := by simpa using h2
      have g3 : v3 = .slice B m cb := by simpa using h3
      have g6 : v6 = .int .i64 vr := by simpa using h6
      have g7 : v7 = .int .i64 mg := by simpa using h7
      have g8 : v8 = .int .i64 ct := by simpa using h8
      have g9 : v9 = .int .i64 wt := by simpa using h9
      have g10 : v10 = .int .i64 fr := by simpa using h10
      subst g0 g1 g2 g3 g6 g7 g8 g9 g10
      let ts : Nat → ET := fun i => if h : i < m then (hE i h).choose else .bad
      have hts : ∀ i (h : i < m), ts i = (hE i h).choose := fun i h => dif_pos h
      exact ⟨_, .mk k l A c ca B m cb e0 e1 e2 e3 e4 e5 e6 e7 e8 e9 b0 b1 b2 b3 b4 b5 b6 b7 b8 b9 vr mg ct wt fr f vs ts ex ey hc hA hf hm hB (fun i hi => by rw [hts i hi]; exact (hE i hi).choose_spec) hex hey (num_of w8) (num_of w9)⟩
set_option maxRecDepth 20000 in
set_option maxHeartbeats 1000000 in
theorem open_mcells {fuel : Nat} {cs : List Value} {x : DataW H × List MemPlace} (h : DataW.trod enc Try.prog W 0 (fun _ => true) held fuel 27 cs = some x) (hlt : ∀ p ∈ x.2, p.block < W.heap.size) : ∃ G, ModelAt W W.heap.size cs.toArray G := by
  obtain ⟨xs, n, hfu, hx, hl, hlen, hf⟩ := DataW.trod_struct Try.underlying27 h
  subst hfu
  rw [cells_model] at hl
  match cs, hl with
  | [v0, v1, v2, v3, v4, v5], _ =>
    match xs, hlen with
    | [x0, x1, x2, x3, x4, x5], _ =>
      have p0 : DataW.trod enc Try.prog W 0 (fun _ => true) held n 3 [v0] = some x0 := hf 0 _ rfl
      have p1 : DataW.trod enc Try.prog W 0 (fun _ => true) held n 22 [v1] = some x1 := hf 1 _ rfl
      have p2 : DataW.trod enc Try.prog W 0 (fun _ => true) held n 22 [v2] = some x2 := hf 2 _ rfl
      have p3 : DataW.trod enc Try.prog W 0 (fun _ => true) held n 23 [v3] = some x3 := hf 3 _ rfl
      have p4 : DataW.trod enc Try.prog W 0 (fun _ => true) held n 24 [v4] = some x4 := hf 4 _ rfl
      have p5 : DataW.trod enc Try.prog W 0 (fun _ => true) held n 25 [v5] = some x5 := hf 5 _ rfl
      clear hf
      obtain ⟨lb, h0, _, _⟩ := DataW.trod_int Try.underlying3 p0
      obtain ⟨A, a, aa, _, h1, ha, _, _⟩ := open_rows Try.underlying22 rfl (by rw [show Try.prog.cellsOf 168 = 2 by kernel_rfl]; omega) (fun _ => True) (fun _ _ _ _ _ _ => trivial) p1 (fun p hp => hlt p (by rw [hx]; simp [hp]))
      obtain ⟨B, b, bb, _, h2, hb, _, _⟩ := open_rows Try.underlying22 rfl (by rw [show Try.prog.cellsOf 168 = 2 by kernel_rfl]; omega) (fun _ => True) (fun _ _ _ _ _ _ => trivial) p2 (fun p hp => hlt p (by rw [hx]; simp [hp]))
      obtain ⟨V, p, pp, vs, h3, hp, hV, hvs⟩ := open_rows Try.underlying23 cells_var (by omega) (VarAt W W.heap.size) (fun _ _ _ _ h hlt => open_var h hlt) p3 (fun p hp => hlt p (by rw [hx]; simp [hp]))
      obtain ⟨S, q, qq, ms, h4, hq, hS, hms⟩ := open_rows Try.underlying24 cells_msg (by omega) (MsgAt W W.heap.size) (fun _ _ _ _ h hlt => open_msg h hlt) p4 (fun p hp => hlt p (by rw [hx]; simp [hp]))
      obtain ⟨N, k, nn, ns, h5, hn, hN, hns⟩ := open_rows Try.underlying25 cells_node (by omega) (fun v => ∃ d, NodeAt W W.heap.size v d) (fun _ _ _ _ h hlt => open_node h hlt) p5 (fun p hp => hlt p (by rw [hx]; simp [hp]))
      have g0 : v0 = .int .i64 lb := by simpa using h0
      have g1 : v1 = .slice A a aa := by simpa using h1
      have g2 : v2 = .slice B b bb := by simpa using h2
      have g3 : v3 = .slice V p pp := by simpa using h3
      have g4 : v4 = .slice S q qq := by simpa using h4
      have g5 : v5 = .slice N k nn := by simpa using h5
      subst g0 g1 g2 g3 g4 g5
      let dd : Nat → NT := fun i => if h : i < k then (hns i h).choose else ⟨0, fun _ => 0, 0, 0⟩
      have hdd : ∀ i (h : i < k), dd i = (hns i h).choose := fun i h => dif_pos h
      exact ⟨⟨k, dd⟩, .mk lb A a aa B b bb V p pp S q qq N k nn vs ms ns dd ha hb hp hq hn hV hvs hS hms hN (fun i hi => by rw [hdd i hi]; exact (hns i hi).choose_spec)⟩
set_option maxRecDepth 20000 in
theorem open_model {base : Nat} {v : Value} {d : DataW H} {ps : List MemPlace} (ho : Value.okWide Try.prog W .any base 27 v) (h : DataW.Trod enc Try.prog W 0 (fun _ => true) true 27 v d ps) (hlt : ∀ x ∈ ps, x.block < W.heap.size) :
    ∃ a G, v = .agg a ∧ ModelAt W W.heap.size a G := by
  obtain ⟨fuel, hf⟩ := h
  obtain ⟨a, rfl, _⟩ := okWide_struct Try.underlying27 ho
  obtain ⟨t, ht⟩ := open_mcells (fuel := fuel) (cs := a.toList) hf hlt
  exact ⟨a, t, rfl, by simpa using ht⟩
/-- It reads behind the call as it read before. -/
theorem stays_model {W' : World} {v : Value} {d : DataW H} {ps : List MemPlace} (h : DataW.Trod enc Try.prog W 0 (fun _ => true) true 27 v d ps) (hb : Below W.heap.size W W') (hlt : ∀ x ∈ ps, x.block < W.heap.size) :
    DataW.Trod enc Try.prog W' 0 (fun b => decide (b < W.heap.size)) true 27 v d ps :=
  Below.trod laidOut (by kernel_rfl) (of_decide_eq_true (by kernel_rfl)) h hb hlt
end
end Go.Proofs.Ytmbjmibjobpdgaa
