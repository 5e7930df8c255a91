/-
  SameCmd and Small of commands, of the document.
  A value that came in, opened: the tree that it is.
  A value that came in, opened, and read again behind the call.
  A command that came in, opened, and read again behind the call.
-/
import Derived.Test.YtekojglcbalhnaaGreatDoorM30
import Derived.Test.YtekojglcbalhnaaGreatDoorM23
import Derived.Test.YtekojglcbalhnaaGreatDoorM02
import Derived.Laws.StructEq
import Derived.Test.YtekojglcbalhnaaGreatDoorM01
namespace Go.Proofs.YtekojglcbalhnaaGreatDoor
open Go.RowKit

theorem two17 {w : World} {V U : Array Value} : Hid (∀ w', Below ((w.alloc (.cells V 30)).alloc (.cells U 30)).heap.size ((w.alloc (.cells V 30)).alloc (.cells U 30)) w' → (∀ j, w'.cell? ⟨w.heap.size, j, none⟩ = V[j]?) ∧ ∀ j, w'.cell? ⟨w.heap.size + 1, j, none⟩ = U[j]?) := Lib.hid fun w' hb => by
  have h1 : ((w.alloc (.cells V 30)).alloc (.cells U 30)).heap[w.heap.size]? = some (.cells V 30 (0, 0)) := by
    rw [Below.heap_alloc _ _ _ (by simp)]; exact heap_alloc_new w _
  have h2 : ((w.alloc (.cells V 30)).alloc (.cells U 30)).heap[w.heap.size + 1]? = some (.cells U 30 (0, 0)) := by
    have := heap_alloc_new (w.alloc (.cells V 30)) (.cells U 30)
    rw [World.size_alloc] at this; exact this
  have g1 := (hb.block w.heap.size (by simp; omega)).trans h1
  have g2 := (hb.block (w.heap.size + 1) (by simp)).trans h2
  exact ⟨fun j => by simp [World.cell?, g1], fun j => by simp [World.cell?, g2]⟩
def smallC (c : Cm) : Bool := smallV c.K && smallV c.V
theorem rpart0 (x y : Int) (W : World) : (part 3 #[.int .i64 x, .int .i64 y] 0).run Tryz.prog W = .ok (.int .i64 x) W := by kernel_rfl
theorem rpart1 (x y : Int) (W : World) : (part 3 #[.int .i64 x, .int .i64 y] 1).run Tryz.prog W = .ok (.int .i64 y) W := by kernel_rfl
theorem eqf (x y : Int) (W : World) : (Op.eqFields 9999 #[.int .i64 x, .int .i64 y] #[.int .i64 x, .int .i64 y] (Tryz.prog.fieldsOf 23).toList).run Tryz.prog W = .ok true W := by
  simp [Program.fieldsOf, Tryz.underlying23, Op.eqFields, rpart0, rpart1, Sem.run_bind, show (9999 : Nat) = 9998 + 1 from rfl, run_equalIn_int _ _ _ _ _ _ _ Tryz.underlying3]
theorem ref_same (x y : Int) (W : World) : (binOp .eql 23 (.agg #[.int .i64 x, .int .i64 y]) (.agg #[.int .i64 x, .int .i64 y])).run Tryz.prog W = .ok (.bool true) W := by
  rw [run_eql_struct, show (10000 : Nat) = 9999 + 1 from rfl, run_equalIn_struct W 9999 _ _ _ (by kernel_rfl) (by kernel_rfl), eqf]
  rfl
set_option maxRecDepth 20000 in
set_option maxHeartbeats 1000000 in
theorem SmallC_any {c : Cm} {v : Array Value} {w : World} (hv : CmdAt w w.heap.size v c) :
    Calls Tryz.prog 5 #[.agg v] w fun e w' => e = .returned (.bool (smallC c)) ∧ Below w.heap.size w w' := by
  obtain ⟨a0, a1, a2, a3, a4, a5, c0, c1, c2, c3, c4, c5, rfl, hK, hV⟩ := hv
  obtain ⟨p0, p1, p2, p3, p4, p5, p6, p7, p8, p9, hp⟩ := hK.eight
  obtain ⟨q0, q1, q2, q3, q4, q5, q6, q7, q8, q9, hq⟩ := hV.eight
  simp only [Array.mk.injEq, List.cons.injEq, and_true] at hp hq
  obtain ⟨rfl, rfl, rfl, rfl, rfl, rfl⟩ := hp
  obtain ⟨rfl, rfl, rfl, rfl, rfl, rfl⟩ := hq
  obtain ⟨k, n, l, i, d, K, V⟩ := c
  dsimp only at *
  unfold cfields smallC
  dsimp only
  have hb : Below w.heap.size w (w.alloc (.cells #[.int .i64 k, .int .i64 n, .int .i64 l, .int .i64 i, .int .i64 d, .int .i64 p0, .int .i64 p1, .float .f64 p2, .string p3, .slice p4 p5 p6, .slice p7 p8 p9, .int .i64 q0, .int .i64 q1, .float .f64 q2, .string q3, .slice q4 q5 q6, .slice q7 q8 q9] 30)) := (Below.refl _ _).alloc (Nat.le_refl _) _
  have hx : (w.alloc (.cells #[.int .i64 k, .int .i64 n, .int .i64 l, .int .i64 i, .int .i64 d, .int .i64 p0, .int .i64 p1, .float .f64 p2, .string p3, .slice p4 p5 p6, .slice p7 p8 p9, .int .i64 q0, .int .i64 q1, .float .f64 q2, .string q3, .slice q4 q5 q6, .slice q7 q8 q9] 30)).heap[w.heap.size]? = some (.cells #[.int .i64 k, .int .i64 n, .int .i64 l, .int .i64 i, .int .i64 d, .int .i64 p0, .int .i64 p1, .float .f64 p2, .string p3, .slice p4 p5 p6, .slice p7 p8 p9, .int .i64 q0, .int .i64 q1, .float .f64 q2, .string q3, .slice q4 q5 q6, .slice q7 q8 q9] 30 (0, 0)) := heap_alloc_new w _
  have K1 := small_any ((hK.stay hb).mono hb.size)
  have HV := Lib.hid fun w' (h' : Below (w.alloc (.cells #[.int .i64 k, .int .i64 n, .int .i64 l, .int .i64 i, .int .i64 d, .int .i64 p0, .int .i64 p1, .float .f64 p2, .string p3, .slice p4 p5 p6, .slice p7 p8 p9, .int .i64 q0, .int .i64 q1, .float .f64 q2, .string q3, .slice q4 q5 q6, .slice q7 q8 q9] 30)).heap.size (w.alloc (.cells #[.int .i64 k, .int .i64 n, .int .i64 l, .int .i64 i, .int .i64 d, .int .i64 p0, .int .i64 p1, .float .f64 p2, .string p3, .slice p4 p5 p6, .slice p7 p8 p9, .int .i64 q0, .int .i64 q1, .float .f64 q2, .string q3, .slice q4 q5 q6, .slice q7 q8 q9] 30)) w') => small_any (((hV.stay hb).mono hb.size).stay h' |>.mono h'.size)
  have HX := Lib.hid fun w' (h' : Below (w.alloc (.cells #[.int .i64 k, .int .i64 n, .int .i64 l, .int .i64 i, .int .i64 d, .int .i64 p0, .int .i64 p1, .float .f64 p2, .string p3, .slice p4 p5 p6, .slice p7 p8 p9, .int .i64 q0, .int .i64 q1, .float .f64 q2, .string q3, .slice q4 q5 q6, .slice q7 q8 q9] 30)).heap.size (w.alloc (.cells #[.int .i64 k, .int .i64 n, .int .i64 l, .int .i64 i, .int .i64 d, .int .i64 p0, .int .i64 p1, .float .f64 p2, .string p3, .slice p4 p5 p6, .slice p7 p8 p9, .int .i64 q0, .int .i64 q1, .float .f64 q2, .string q3, .slice q4 q5 q6, .slice q7 q8 q9] 30)) w') (j : Nat) => (by have := (h'.block w.heap.size (by simp)).trans hx; simp [World.cell?, this] : w'.cell? ⟨w.heap.size, j, none⟩ = (#[.int .i64 k, .int .i64 n, .int .i64 l, .int .i64 i, .int .i64 d, .int .i64 p0, .int .i64 p1, .float .f64 p2, .string p3, .slice p4 p5 p6, .slice p7 p8 p9, .int .i64 q0, .int .i64 q1, .float .f64 q2, .string q3, .slice q4 q5 q6, .slice q7 q8 q9] : Array Value)[j]?)
  have HB := Lib.hid hb
  have HK1 := Lib.hid K1
  clear hK hV hb hx K1
  cases h1 : smallV K with
  | false =>
    rw [h1] at HK1
    clear h1
    go_enter Tryz.func5, Tryz.ntmps5
    go_wp2_with fail
    refine HK1.out.mono ?_
    rintro e w1 ⟨rfl, hb1⟩
    have HB1 := Lib.hid (HB.out.trans (hb1.mono HB.out.size))
    clear hb1
    go_wp2_with fail
    go_ret
    exact ⟨rfl, HB1.out⟩
  | true =>
    rw [h1] at HK1
    rw [Bool.true_and]
    generalize smallV V = r at *
    clear h1
    go_enter Tryz.func5, Tryz.ntmps5
    go_wp2_with fail
    refine HK1.out.mono ?_
    rintro e w1 ⟨rfl, hb1⟩
    refine Hid.out ?_
    refine Lib.hid ?_
    have HB1 := Lib.hid (HB.out.trans (hb1.mono HB.out.size))
    have C := Lib.hid (HV.out w1 hb1)
    have y0 : w1.cell? ⟨w.heap.size, 11, none⟩ = some (.int .i64 q0) := HX.out w1 hb1 11
    have y1 : w1.cell? ⟨w.heap.size, 12, none⟩ = some (.int .i64 q1) := HX.out w1 hb1 12
    have y2 : w1.cell? ⟨w.heap.size, 13, none⟩ = some (.float .f64 q2) := HX.out w1 hb1 13
    have y3 : w1.cell? ⟨w.heap.size, 14, none⟩ = some (.string q3) := HX.out w1 hb1 14
    have y4 : w1.cell? ⟨w.heap.size, 15, none⟩ = some (.slice q4 q5 q6) := HX.out w1 hb1 15
    have y5 : w1.cell? ⟨w.heap.size, 16, none⟩ = some (.slice q7 q8 q9) := HX.out w1 hb1 16
    clear hb1
    go_wp2_with fail
    refine C.out.mono ?_
    rintro e w2 ⟨rfl, hb2⟩
    go_wp2_with fail
    go_ret
    exact ⟨rfl, HB1.out.trans (hb2.mono HB1.out.size)⟩
set_option maxRecDepth 20000 in
set_option maxHeartbeats 2000000 in
theorem SameCmd_yes {c c' : Cm} {v v' : Array Value} {w : World} (hv : CmdAt w w.heap.size v c) (hv' : CmdAt w w.heap.size v' c') (hk : c.k = c'.k) (hn : c.n = c'.n) (hl : c.l = c'.l) (hi : c.i = c'.i) (hd : c.d = c'.d) (hK : ordV c.K c'.K = 0) (hV : ordV c.V c'.V = 0) :
    Calls Tryz.prog 9 #[.agg v, .agg v'] w fun e w' => e = .returned (.bool true) ∧ Below w.heap.size w w' := by
  obtain ⟨a0, a1, a2, a3, a4, a5, c0, c1, c2, c3, c4, c5, rfl, aK, aV⟩ := hv
  obtain ⟨b0, b1, b2, b3, b4, b5, d0, d1, d2, d3, d4, d5, rfl, bK, bV⟩ := hv'
  obtain ⟨p0, p1, p2, p3, p4, p5, p6, p7, p8, p9, hp⟩ := aK.eight
  obtain ⟨q0, q1, q2, q3, q4, q5, q6, q7, q8, q9, hq⟩ := aV.eight
  obtain ⟨r0, r1, r2, r3, r4, r5, r6, r7, r8, r9, hr⟩ := bK.eight
  obtain ⟨s0, s1, s2, s3, s4, s5, s6, s7, s8, s9, hs⟩ := bV.eight
  simp only [Array.mk.injEq, List.cons.injEq, and_true] at hp hq hr hs
  obtain ⟨rfl, rfl, rfl, rfl, rfl, rfl⟩ := hp
  obtain ⟨rfl, rfl, rfl, rfl, rfl, rfl⟩ := hq
  obtain ⟨rfl, rfl, rfl, rfl, rfl, rfl⟩ := hr
  obtain ⟨rfl, rfl, rfl, rfl, rfl, rfl⟩ := hs
  obtain ⟨k, n, l, i, d, K, V⟩ := c
  obtain ⟨k', n', l', i', d', K', V'⟩ := c'
  dsimp only at *
  subst hk hn hl hi hd
  unfold cfields
  obtain ⟨W0, hW0⟩ : ∃ W0, W0 = (w.alloc (.cells #[.int .i64 k, .int .i64 n, .int .i64 l, .int .i64 i, .int .i64 d, .int .i64 p0, .int .i64 p1, .float .f64 p2, .string p3, .slice p4 p5 p6, .slice p7 p8 p9, .int .i64 q0, .int .i64 q1, .float .f64 q2, .string q3, .slice q4 q5 q6, .slice q7 q8 q9] 30)).alloc (.cells #[.int .i64 k, .int .i64 n, .int .i64 l, .int .i64 i, .int .i64 d, .int .i64 r0, .int .i64 r1, .float .f64 r2, .string r3, .slice r4 r5 r6, .slice r7 r8 r9, .int .i64 s0, .int .i64 s1, .float .f64 s2, .string s3, .slice s4 s5 s6, .slice s7 s8 s9] 30) := ⟨_, rfl⟩
  have hb : Below w.heap.size w W0 := by rw [hW0]; exact ((Below.refl _ _).alloc (Nat.le_refl _) _).alloc (by simp) _
  have HX := two17 (w := w) (V := #[.int .i64 k, .int .i64 n, .int .i64 l, .int .i64 i, .int .i64 d, .int .i64 p0, .int .i64 p1, .float .f64 p2, .string p3, .slice p4 p5 p6, .slice p7 p8 p9, .int .i64 q0, .int .i64 q1, .float .f64 q2, .string q3, .slice q4 q5 q6, .slice q7 q8 q9]) (U := #[.int .i64 k, .int .i64 n, .int .i64 l, .int .i64 i, .int .i64 d, .int .i64 r0, .int .i64 r1, .float .f64 r2, .string r3, .slice r4 r5 r6, .slice r7 r8 r9, .int .i64 s0, .int .i64 s1, .float .f64 s2, .string s3, .slice s4 s5 s6, .slice s7 s8 s9])
  rw [← hW0] at HX
  have K1 := same_any ((aK.stay hb).mono hb.size) ((bK.stay hb).mono hb.size)
  rw [hK, show ((0 : Int) == 0) = true by decide] at K1
  have HV := Lib.hid fun w' (h' : Below W0.heap.size W0 w') => (by
    have := same_any (((aV.stay hb).mono hb.size).stay h' |>.mono h'.size) (((bV.stay hb).mono hb.size).stay h' |>.mono h'.size)
    rwa [hV, show ((0 : Int) == 0) = true by decide] at this : Calls Tryz.prog 21 #[.agg #[.int .i64 q0, .int .i64 q1, .float .f64 q2, .string q3, .slice q4 q5 q6, .slice q7 q8 q9], .agg #[.int .i64 s0, .int .i64 s1, .float .f64 s2, .string s3, .slice s4 s5 s6, .slice s7 s8 s9]] w' fun e w'' => e = .returned (.bool true) ∧ Below w'.heap.size w' w'')
  have HB := Lib.hid hb
  have RS := ref_same l i
  have HE := Lib.hid hW0
  rw [hW0] at K1
  have HK1 := Lib.hid K1
  clear aK aV bK bV hK hV hb K1 hW0
  go_enter Tryz.func9, Tryz.ntmps9
  go_wp2_with fail
  refine HK1.out.mono ?_
  rintro e w1 ⟨rfl, hb1⟩
  rw [← HE.out] at hb1
  refine Hid.out ?_
  refine Lib.hid ?_
  have HB1 := Lib.hid (HB.out.trans (hb1.mono HB.out.size))
  have C := Lib.hid (HV.out w1 hb1)
  have HX1 := Lib.hid (HX.out w1 hb1)
  have y0 : w1.cell? ⟨w.heap.size, 11, none⟩ = some (.int .i64 q0) := HX1.out.1 11
  have y1 : w1.cell? ⟨w.heap.size, 12, none⟩ = some (.int .i64 q1) := HX1.out.1 12
  have y2 : w1.cell? ⟨w.heap.size, 13, none⟩ = some (.float .f64 q2) := HX1.out.1 13
  have y3 : w1.cell? ⟨w.heap.size, 14, none⟩ = some (.string q3) := HX1.out.1 14
  have y4 : w1.cell? ⟨w.heap.size, 15, none⟩ = some (.slice q4 q5 q6) := HX1.out.1 15
  have y5 : w1.cell? ⟨w.heap.size, 16, none⟩ = some (.slice q7 q8 q9) := HX1.out.1 16
  have z0 : w1.cell? ⟨w.heap.size + 1, 11, none⟩ = some (.int .i64 s0) := HX1.out.2 11
  have z1 : w1.cell? ⟨w.heap.size + 1, 12, none⟩ = some (.int .i64 s1) := HX1.out.2 12
  have z2 : w1.cell? ⟨w.heap.size + 1, 13, none⟩ = some (.float .f64 s2) := HX1.out.2 13
  have z3 : w1.cell? ⟨w.heap.size + 1, 14, none⟩ = some (.string s3) := HX1.out.2 14
  have z4 : w1.cell? ⟨w.heap.size + 1, 15, none⟩ = some (.slice s4 s5 s6) := HX1.out.2 15
  have z5 : w1.cell? ⟨w.heap.size + 1, 16, none⟩ = some (.slice s7 s8 s9) := HX1.out.2 16
  clear hb1 HX1
  go_wp2_with fail
  refine C.out.mono ?_
  rintro e w2 ⟨rfl, hb2⟩
  go_wp2_with fail
  go_ret
  exact ⟨rfl, HB1.out.trans (hb2.mono HB1.out.size)⟩
end Go.Proofs.YtekojglcbalhnaaGreatDoor
namespace Go.Proofs.YtekojglcbalhnaaGreatDoor
open Go.ChangeShapes Go.WideShapes Go.ChangeAt Go.RowKit

theorem own : ownKnob Tryz.prog.godebug = none := by kernel_rfl
theorem laidOut : laidOutB Tryz.prog = true := by kernel_rfl
theorem cells9 : Tryz.prog.cellsOf 9 = 1 := by kernel_rfl
theorem add_plain (g o k : Nat) : (⟨g, o, none⟩ : Addr).add k = ⟨g, o + k, none⟩ := by
  unfold Addr.add
  split
  · rename_i h; subst h; rfl
  · rfl

section
variable {H : Type} {enc : TypeId × Value → H} {w : World} {base : Nat} {spare : Nat → Bool} {held : Bool}
set_option maxRecDepth 20000 in
theorem trod_float {fuel : Nat} {cs : List Value} {x : DataW H × List MemPlace} (h : DataW.trod enc Tryz.prog w base spare held fuel 24 cs = some x) : ∃ b, cs = [.float .f64 b] ∧ (Lit.float .f64 b).wf = true := by
  cases fuel with
  | zero => simp [DataW.trod] at h
  | succ n =>
    unfold DataW.trod at h
    rw [Tryz.underlying24] at h
    split at h <;> simp_all
/-- A list of strings that came in. -/
theorem open_strs {W : World} {fuel : Nat} {cs : List Value} {x : DataW H × List MemPlace} (h : DataW.trod enc Tryz.prog W 0 (fun _ => true) held fuel 25 cs = some x) (hlt : ∀ p ∈ x.2, p.block < W.heap.size) :
    ∃ A c ca ns, cs = [.slice A c ca] ∧ c ≤ ca ∧ ca ≤ maxLen ∧ Strs W W.heap.size A c ns := by
  rcases Go.Deep.open_slice1 Tryz.underlying25 cells9 h with ⟨rfl, _⟩ | ⟨a, len, cap, m, n, V, D, Pl, rfl, _, hl, hc, hm, hx, hi⟩
  · exact ⟨none, 0, 0, fun _ => ⟨#[]⟩, rfl, Nat.le_refl _, Nat.zero_le _, fun h => absurd h (Nat.lt_irrefl 0)⟩
  · simp only [if_true] at hm
    subst hm
    have each : ∀ i, i < m → ∃ s : ByteArray, W.cell? (a.add i) = some (.string s) ∧ s.size ≤ maxLen := by
      intro i him
      obtain ⟨h1, h2⟩ := hi i him
      obtain ⟨s, hs, _, hz⟩ := DataW.trod_string Tryz.underlying9 h2
      exact ⟨s, by rw [h1]; simpa using hs, hz⟩
    let f : Nat → ByteArray := fun i => if h : i < m then (each i h).choose else ⟨#[]⟩
    refine ⟨some a, len, m, f, rfl, hl, hc, fun hpos => ?_⟩
    have hspec : ∀ i, i < len → W.cell? (a.add i) = some (.string (f i)) ∧ (f i).size ≤ maxLen := by
      intro i hil
      have him : i < m := by omega
      simp only [f, dif_pos him]
      exact (each i him).choose_spec
    obtain ⟨g, off, spot⟩ := a
    have hspot : spot = none := by simpa [Addr.add] using World.cell?_spot (hspec 0 hpos).1
    subst hspot
    refine ⟨g, off, rfl, hlt (.cell g off) ?_, fun i hil => ?_⟩
    · rw [hx]
      exact List.mem_append_left _ (MemPlace.mem_row.2 ⟨0, by omega, by simp⟩)
    · have := hspec i hil
      rw [add_plain] at this
      exact this

set_option maxRecDepth 20000 in
theorem open_tree {W : World} : ∀ (fuel : Nat) (cs : List Value) (x : DataW H × List MemPlace), DataW.trod enc Tryz.prog W 0 (fun _ => true) held fuel 28 cs = some x → (∀ p ∈ x.2, p.block < W.heap.size) →
    ∃ t, Val W W.heap.size cs.toArray t := by
  intro fuel
  induction fuel using Nat.strongRecOn with
  | ind fuel ih =>
    intro cs x h hlt
    obtain ⟨xs, n, hfu, hx, hl, hlen, hf⟩ := DataW.trod_struct Tryz.underlying28 h
    subst hfu
    rw [cells26] at hl
    match cs, hl with
    | [v0, v1, v2, v3, v4, v5], _ =>
      have f0 := hf 0 _ rfl
      have f1 := hf 1 _ rfl
      have f2 := hf 2 _ rfl
      have f3 := hf 3 _ rfl
      have f4 := hf 4 _ rfl
      have f5 := hf 5 _ rfl
      match xs, hlen with
      | [x0, x1, x2, x3, x4, x5], _ =>
        have e0 : DataW.trod enc Tryz.prog W 0 (fun _ => true) held n 3 [v0] = some x0 := f0
        have e1 : DataW.trod enc Tryz.prog W 0 (fun _ => true) held n 2 [v1] = some x1 := f1
        have e2 : DataW.trod enc Tryz.prog W 0 (fun _ => true) held n 24 [v2] = some x2 := f2
        have e3 : DataW.trod enc Tryz.prog W 0 (fun _ => true) held n 9 [v3] = some x3 := f3
        have e4 : DataW.trod enc Tryz.prog W 0 (fun _ => true) held n 25 [v4] = some x4 := f4
        have e5 : DataW.trod enc Tryz.prog W 0 (fun _ => true) held n 26 [v5] = some x5 := f5
        clear hf f0 f1 f2 f3 f4 f5
        obtain ⟨k, h0, _, w0⟩ := DataW.trod_int Tryz.underlying3 e0
        obtain ⟨n', h1, _, w1⟩ := DataW.trod_int Tryz.underlying2 e1
        obtain ⟨f, h2, w2⟩ := trod_float e2
        obtain ⟨s, h3, _, w3⟩ := DataW.trod_string Tryz.underlying9 e3
        have hlt4 : ∀ p ∈ x4.2, p.block < W.heap.size := fun p hp => hlt p (by rw [hx]; simp [hp])
        have hlt5 : ∀ p ∈ x5.2, p.block < W.heap.size := fun p hp => hlt p (by rw [hx]; simp [hp])
        obtain ⟨A, c, ca, ns, h4, hc1, hc2, hstr⟩ := open_strs e4 hlt4
        have g0 : v0 = .int .i64 k := by simpa using h0
        have g1 : v1 = .int .i64 n' := by simpa using h1
        have g2 : v2 = .float .f64 f := by simpa using h2
        have g3 : v3 = .string s := by simpa using h3
        have g4 : v4 = .slice A c ca := by simpa using h4
        subst g0 g1 g2 g3 g4
        have b0 : -9223372036854775808 ≤ k ∧ k ≤ 9223372036854775807 := by simpa [Lit.wf, IntKind.min, IntKind.max, IntKind.signed, IntKind.bits] using w0
        have b1 : -9223372036854775808 ≤ n' ∧ n' ≤ 9223372036854775807 := by simpa [Lit.wf, IntKind.min, IntKind.max, IntKind.signed, IntKind.bits] using w1
        have b2 : f < 18446744073709551616 := by simpa [Lit.wf] using w2
        rcases DataW.trod_slice Tryz.underlying26 e5 with ⟨h5, _⟩ | ⟨a, len, cap, elems, rest, n2, hn2, h5, hx5, _, hm1, hm2, hel, hat, _, _⟩
        · have g5 : v5 = .slice none 0 0 := by simpa using h5
          subst g5
          exact ⟨_, .mk k n' f s A c ca none 0 0 ns (fun _ => .bad) (fun _ => #[]) b0 b1 b2 w3 ⟨hc1, hc2⟩ ⟨Nat.le_refl _, Nat.zero_le _⟩ hstr (fun h => absurd h (Nat.lt_irrefl 0)) (fun i h => absurd h (by omega))⟩
        · have g5 : v5 = .slice (some a) len cap := by simpa using h5
          subst g5
          subst hn2
          rw [cells26] at hat
          have each : ∀ i, i < len → ∃ cs', W.cells? 0 (a.add (i * 6)) 6 = some cs' ∧ ∃ t, Val W W.heap.size cs'.toArray t := by
            intro i hi
            have h6 := hat i hi
            have hlti : i < elems.length := by omega
            rw [List.getElem?_eq_getElem hlti] at h6
            obtain ⟨cs', hc6, ht6⟩ := Option.bind_eq_some_iff.1 h6
            refine ⟨cs', hc6, ih n2 (by omega) cs' _ ht6 (fun p hp => hlt5 p ?_)⟩
            rw [hx5]
            refine List.mem_append_right _ (List.mem_flatMap.2 ⟨elems[i], List.mem_append_left _ (List.getElem_mem hlti), hp⟩)
          let vs : Nat → Array Value := fun i => if h : i < len then (each i h).choose.toArray else #[]
          let xs' : Nat → VT := fun i => if h : i < len then (each i h).choose_spec.2.choose else .bad
          have hvs : ∀ i (h : i < len), vs i = (each i h).choose.toArray := fun i h => dif_pos h
          have hxs : ∀ i (h : i < len), xs' i = (each i h).choose_spec.2.choose := fun i h => dif_pos h
          refine ⟨_, .mk k n' f s A c ca (some a) len cap ns xs' vs b0 b1 b2 w3 ⟨hc1, hc2⟩ ⟨hm1, hm2⟩ hstr (fun hpos => ?_) (fun i hi => ?_)⟩
          · have hat0 : ∀ i, i < len → ∀ j, j < 6 → W.cell? ((a.add (i * 6)).add j) = (vs i)[j]? := by
              intro i hi j hj
              obtain ⟨_, hln, hc7⟩ := World.cells?_some (each i hi).choose_spec.1
              rw [hvs i hi]
              have := hc7 j (by omega)
              rw [this]
              simp
            obtain ⟨g, off, spot⟩ := a
            have h00 := hat0 0 hpos 0 (by omega)
            have hsz : ∃ u, (vs 0)[0]? = some u := by
              obtain ⟨_, hln, _⟩ := World.cells?_some (each 0 hpos).choose_spec.1
              rw [hvs 0 hpos]
              exact ⟨_, Array.getElem?_eq_getElem (by simp [hln])⟩
            obtain ⟨u, hu⟩ := hsz
            rw [hu] at h00
            have hspot : spot = none := by simpa [Addr.add] using World.cell?_spot h00
            subst hspot
            refine ⟨g, off, rfl, hlt5 (.cell g off) ?_, fun i hi j hj => ?_⟩
            · rw [hx5]
              exact List.mem_append_left _ (MemPlace.mem_row.2 ⟨0, by rw [cells26]; omega, by simp⟩)
            · have := hat0 i hi j hj
              rwa [add_plain, add_plain] at this
          · rw [hvs i hi, hxs i hi]
            exact (each i hi).choose_spec.2.choose_spec
end
end Go.Proofs.YtekojglcbalhnaaGreatDoor
namespace Go.Proofs.YtekojglcbalhnaaGreatDoor
open Go.ChangeShapes Go.WideShapes Go.ChangeAt Go.RowKit
section
variable {H : Type} {enc : TypeId × Value → H}
set_option maxRecDepth 20000 in
theorem open_val {W : World} {base : Nat} {v : Value} {d : DataW H} {ps : List MemPlace} (ho : Value.okWide Tryz.prog W .any base 28 v) (h : DataW.Trod enc Tryz.prog W 0 (fun _ => true) true 28 v d ps) (hlt : ∀ x ∈ ps, x.block < W.heap.size) :
    ∃ a t, v = .agg a ∧ Val W W.heap.size a t := by
  obtain ⟨fuel, hf⟩ := h
  obtain ⟨a, rfl, _⟩ := okWide_struct Tryz.underlying28 ho
  obtain ⟨t, ht⟩ := open_tree fuel a.toList _ hf hlt
  exact ⟨a, t, rfl, by simpa using ht⟩
/-- It reads behind the call as it read before. -/
theorem stays_val {W W' : World} {v : Value} {d : DataW H} {ps : List MemPlace} (h : DataW.Trod enc Tryz.prog W 0 (fun _ => true) true 28 v d ps) (hb : Below W.heap.size W W') (hlt : ∀ x ∈ ps, x.block < W.heap.size) :
    DataW.Trod enc Tryz.prog W' 0 (fun b => decide (b < W.heap.size)) true 28 v d ps :=
  Below.trod laidOut (by kernel_rfl) (of_decide_eq_true (by kernel_rfl)) h hb hlt
end
end Go.Proofs.YtekojglcbalhnaaGreatDoor
namespace Go.Proofs.YtekojglcbalhnaaGreatDoor
open Go.ChangeShapes Go.WideShapes Go.ChangeAt Go.RowKit

theorem cells_cmd : Tryz.prog.cellsOf 30 = 17 := by kernel_rfl
theorem cells_ref : Tryz.prog.cellsOf 23 = 2 := by kernel_rfl
section
variable {H : Type} {enc : TypeId × Value → H} {W : World} {held : Bool}
set_option maxRecDepth 20000 in
theorem open_ref {fuel : Nat} {cs : List Value} {x : DataW H × List MemPlace} (h : DataW.trod enc Tryz.prog W 0 (fun _ => true) held fuel 23 cs = some x) : ∃ a b : Int, cs = [.int .i64 a, .int .i64 b] := by
  obtain ⟨xs, n, hfu, hx, hl, hlen, hf⟩ := DataW.trod_struct Tryz.underlying23 h
  subst hfu
  rw [cells_ref] at hl
  match cs, hl with
  | [v0, v1], _ =>
    match xs, hlen with
    | [x0, x1], _ =>
      have p0 : DataW.trod enc Tryz.prog W 0 (fun _ => true) held n 3 [v0] = some x0 := hf 0 _ rfl
      have p1 : DataW.trod enc Tryz.prog W 0 (fun _ => true) held n 3 [v1] = some x1 := hf 1 _ rfl
      obtain ⟨a, h0, _, _⟩ := DataW.trod_int Tryz.underlying3 p0
      obtain ⟨b, h1, _, _⟩ := DataW.trod_int Tryz.underlying3 p1
      have g0 : v0 = .int .i64 a := by simpa using h0
      have g1 : v1 = .int .i64 b := by simpa using h1
      exact ⟨a, b, by rw [g0, g1]⟩
set_option maxRecDepth 20000 in
set_option maxHeartbeats 1000000 in
theorem open_ccells {fuel : Nat} {cs : List Value} {x : DataW H × List MemPlace} (h : DataW.trod enc Tryz.prog W 0 (fun _ => true) held fuel 30 cs = some x) (hlt : ∀ p ∈ x.2, p.block < W.heap.size) : ∃ c, CmdAt W W.heap.size cs.toArray c := by
  obtain ⟨xs, n, hfu, hx, hl, hlen, hf⟩ := DataW.trod_struct Tryz.underlying30 h
  subst hfu
  rw [cells_cmd] at hl
  match cs, hl with
  | [v0, v1, r0, r1, v3, a0, a1, a2, a3, a4, a5, b0, b1, b2, b3, b4, b5], _ =>
    match xs, hlen with
    | [x0, x1, x2, x3, x4, x5], _ =>
      have p0 : DataW.trod enc Tryz.prog W 0 (fun _ => true) held n 3 [v0] = some x0 := hf 0 _ rfl
      have p1 : DataW.trod enc Tryz.prog W 0 (fun _ => true) held n 3 [v1] = some x1 := hf 1 _ rfl
      have p2 : DataW.trod enc Tryz.prog W 0 (fun _ => true) held n 23 [r0, r1] = some x2 := hf 2 _ rfl
      have p3 : DataW.trod enc Tryz.prog W 0 (fun _ => true) held n 3 [v3] = some x3 := hf 3 _ rfl
      have p4 : DataW.trod enc Tryz.prog W 0 (fun _ => true) held n 28 [a0, a1, a2, a3, a4, a5] = some x4 := hf 4 _ rfl
      have p5 : DataW.trod enc Tryz.prog W 0 (fun _ => true) held n 28 [b0, b1, b2, b3, b4, b5] = some x5 := hf 5 _ rfl
      clear hf
      obtain ⟨k, h0, _, _⟩ := DataW.trod_int Tryz.underlying3 p0
      obtain ⟨nn, h1, _, _⟩ := DataW.trod_int Tryz.underlying3 p1
      obtain ⟨l, i, h2⟩ := open_ref p2
      obtain ⟨d, h3, _, _⟩ := DataW.trod_int Tryz.underlying3 p3
      obtain ⟨t, ht⟩ := open_tree n _ _ p4 (fun p hp => hlt p (by rw [hx]; simp [hp]))
      obtain ⟨u, hu⟩ := open_tree n _ _ p5 (fun p hp => hlt p (by rw [hx]; simp [hp]))
      have g0 : v0 = .int .i64 k := by simpa using h0
      have g1 : v1 = .int .i64 nn := by simpa using h1
      have g3 : v3 = .int .i64 d := by simpa using h3
      simp only [List.cons.injEq, and_true] at h2
      obtain ⟨g4, g5⟩ := h2
      subst g0 g1 g3 g4 g5
      exact ⟨⟨k, nn, l, i, d, t, u⟩, a0, a1, a2, a3, a4, a5, b0, b1, b2, b3, b4, b5, rfl, ht, hu⟩
set_option maxRecDepth 20000 in
theorem open_cmd {base : Nat} {v : Value} {d : DataW H} {ps : List MemPlace} (ho : Value.okWide Tryz.prog W .any base 30 v) (h : DataW.Trod enc Tryz.prog W 0 (fun _ => true) true 30 v d ps) (hlt : ∀ x ∈ ps, x.block < W.heap.size) :
    ∃ a c, v = .agg a ∧ CmdAt W W.heap.size a c := by
  obtain ⟨fuel, hf⟩ := h
  obtain ⟨a, rfl, _⟩ := okWide_struct Tryz.underlying30 ho
  obtain ⟨t, ht⟩ := open_ccells (fuel := fuel) (cs := a.toList) hf hlt
  exact ⟨a, t, rfl, by simpa using ht⟩
set_option maxRecDepth 20000 in
/-- It reads behind the call as it read before. -/
theorem stays_cmd {W' : World} {v : Value} {d : DataW H} {ps : List MemPlace} (h : DataW.Trod enc Tryz.prog W 0 (fun _ => true) true 30 v d ps) (hb : Below W.heap.size W W') (hlt : ∀ x ∈ ps, x.block < W.heap.size) :
    DataW.Trod enc Tryz.prog W' 0 (fun b => decide (b < W.heap.size)) true 30 v d ps :=
  Below.trod laidOut (by kernel_rfl) (of_decide_eq_true (by kernel_rfl)) h hb hlt
end
end Go.Proofs.YtekojglcbalhnaaGreatDoor
