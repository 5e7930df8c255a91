/-
  A value that came in, opened: the tree that it is.
  A value that came in, opened, and read again behind the call.
  Types as they lie in memory: a tree, and what a world holds of it.
  A type that came in, opened: the tree that it is; and read again behind the call.
  Contracts of basculeref04's TDepth, TParts, TSmall.
  Contracts of basculeref04's tright, TypeRight.
  Contracts of basculeref04's tright, of lists and of records, and TypeRight.
-/
import Derived.Test.YtcmohggnehkjeaaGreatVt
import Derived.Test.YtcmohggnehkjeaaGreatVc
import Derived.Test.YtcmohggnehkjeaaGreatVn
import Derived.Test.YtcmohggnehkjeaaGreatVk
namespace Go.Proofs.YtcmohggnehkjeaaGreat
open Go.ChangeShapes Go.WideShapes Go.ChangeAt Go.RowKit

theorem own : ownKnob Tryz.prog.godebug = none := by kernel_rfl
theorem laidOut : laidOutB Tryz.prog = true := by kernel_rfl
theorem cells9 : Tryz.prog.cellsOf 9 = 1 := by kernel_rfl
theorem add_plain (g o k : Nat) : (⟨g, o, none⟩ : Addr).add k = ⟨g, o + k, none⟩ := by
  unfold Addr.add
  split
  · rename_i h; subst h; rfl
  · rfl

section
variable {H : Type} {enc : TypeId × Value → H} {w : World} {base : Nat} {spare : Nat → Bool} {held : Bool}
set_option maxRecDepth 20000 in
theorem trod_float {fuel : Nat} {cs : List Value} {x : DataW H × List MemPlace} (h : DataW.trod enc Tryz.prog w base spare held fuel 35 cs = some x) : ∃ b, cs = [.float .f64 b] ∧ (Lit.float .f64 b).wf = true := by
  cases fuel with
  | zero => simp [DataW.trod] at h
  | succ n =>
    unfold DataW.trod at h
    rw [Tryz.underlying35] at h
    split at h <;> simp_all
/-- A list of strings that came in. -/
theorem open_strs {W : World} {fuel : Nat} {cs : List Value} {x : DataW H × List MemPlace} (h : DataW.trod enc Tryz.prog W 0 (fun _ => true) held fuel 22 cs = some x) (hlt : ∀ p ∈ x.2, p.block < W.heap.size) :
    ∃ A c ca ns, cs = [.slice A c ca] ∧ c ≤ ca ∧ ca ≤ maxLen ∧ Strs W W.heap.size A c ns := by
  rcases Go.Deep.open_slice1 Tryz.underlying22 cells9 h with ⟨rfl, _⟩ | ⟨a, len, cap, m, n, V, D, Pl, rfl, _, hl, hc, hm, hx, hi⟩
  · exact ⟨none, 0, 0, fun _ => ⟨#[]⟩, rfl, Nat.le_refl _, Nat.zero_le _, fun h => absurd h (Nat.lt_irrefl 0)⟩
  · simp only [if_true] at hm
    subst hm
    have each : ∀ i, i < m → ∃ s : ByteArray, W.cell? (a.add i) = some (.string s) ∧ s.size ≤ maxLen := by
      intro i him
      obtain ⟨h1, h2⟩ := hi i him
      obtain ⟨s, hs, _, hz⟩ := DataW.trod_string Tryz.underlying9 h2
      exact ⟨s, by rw [h1]; simpa using hs, hz⟩
    let f : Nat → ByteArray := fun i => if h : i < m then (each i h).choose else ⟨#[]⟩
    refine ⟨some a, len, m, f, rfl, hl, hc, fun hpos => ?_⟩
    have hspec : ∀ i, i < len → W.cell? (a.add i) = some (.string (f i)) ∧ (f i).size ≤ maxLen := by
      intro i hil
      have him : i < m := by omega
      simp only [f, dif_pos him]
      exact (each i him).choose_spec
    obtain ⟨g, off, spot⟩ := a
    have hspot : spot = none := by simpa [Addr.add] using World.cell?_spot (hspec 0 hpos).1
    subst hspot
    refine ⟨g, off, rfl, hlt (.cell g off) ?_, fun i hil => ?_⟩
    · rw [hx]
      exact List.mem_append_left _ (MemPlace.mem_row.2 ⟨0, by omega, by simp⟩)
    · have := hspec i hil
      rw [add_plain] at this
      exact this

set_option maxRecDepth 20000 in
theorem open_tree {W : World} : ∀ (fuel : Nat) (cs : List Value) (x : DataW H × List MemPlace), DataW.trod enc Tryz.prog W 0 (fun _ => true) held fuel 38 cs = some x → (∀ p ∈ x.2, p.block < W.heap.size) →
    ∃ t, Val W W.heap.size cs.toArray t := by
  intro fuel
  induction fuel using Nat.strongRecOn with
  | ind fuel ih =>
    intro cs x h hlt
    obtain ⟨xs, n, hfu, hx, hl, hlen, hf⟩ := DataW.trod_struct Tryz.underlying38 h
    subst hfu
    rw [cells26] at hl
    match cs, hl with
    | [v0, v1, v2, v3, v4, v5], _ =>
      have f0 := hf 0 _ rfl
      have f1 := hf 1 _ rfl
      have f2 := hf 2 _ rfl
      have f3 := hf 3 _ rfl
      have f4 := hf 4 _ rfl
      have f5 := hf 5 _ rfl
      match xs, hlen with
      | [x0, x1, x2, x3, x4, x5], _ =>
        have e0 : DataW.trod enc Tryz.prog W 0 (fun _ => true) held n 3 [v0] = some x0 := f0
        have e1 : DataW.trod enc Tryz.prog W 0 (fun _ => true) held n 2 [v1] = some x1 := f1
        have e2 : DataW.trod enc Tryz.prog W 0 (fun _ => true) held n 35 [v2] = some x2 := f2
        have e3 : DataW.trod enc Tryz.prog W 0 (fun _ => true) held n 9 [v3] = some x3 := f3
        have e4 : DataW.trod enc Tryz.prog W 0 (fun _ => true) held n 22 [v4] = some x4 := f4
        have e5 : DataW.trod enc Tryz.prog W 0 (fun _ => true) held n 36 [v5] = some x5 := f5
        clear hf f0 f1 f2 f3 f4 f5
        obtain ⟨k, h0, _, w0⟩ := DataW.trod_int Tryz.underlying3 e0
        obtain ⟨n', h1, _, w1⟩ := DataW.trod_int Tryz.underlying2 e1
        obtain ⟨f, h2, w2⟩ := trod_float e2
        obtain ⟨s, h3, _, w3⟩ := DataW.trod_string Tryz.underlying9 e3
        have hlt4 : ∀ p ∈ x4.2, p.block < W.heap.size := fun p hp => hlt p (by rw [hx]; simp [hp])
        have hlt5 : ∀ p ∈ x5.2, p.block < W.heap.size := fun p hp => hlt p (by rw [hx]; simp [hp])
        obtain ⟨A, c, ca, ns, h4, hc1, hc2, hstr⟩ := open_strs e4 hlt4
        have g0 : v0 = .int .i64 k := by simpa using h0
        have g1 : v1 = .int .i64 n' := by simpa using h1
        have g2 : v2 = .float .f64 f := by simpa using h2
        have g3 : v3 = .string s := by simpa using h3
        have g4 : v4 = .slice A c ca := by simpa using h4
        subst g0 g1 g2 g3 g4
        have b0 : -9223372036854775808 ≤ k ∧ k ≤ 9223372036854775807 := by simpa [Lit.wf, IntKind.min, IntKind.max, IntKind.signed, IntKind.bits] using w0
        have b1 : -9223372036854775808 ≤ n' ∧ n' ≤ 9223372036854775807 := by simpa [Lit.wf, IntKind.min, IntKind.max, IntKind.signed, IntKind.bits] using w1
        have b2 : f < 18446744073709551616 := by simpa [Lit.wf] using w2
        rcases DataW.trod_slice Tryz.underlying36 e5 with ⟨h5, _⟩ | ⟨a, len, cap, elems, rest, n2, hn2, h5, hx5, _, hm1, hm2, hel, hat, _, _⟩
        · have g5 : v5 = .slice none 0 0 := by simpa using h5
          subst g5
          exact ⟨_, .mk k n' f s A c ca none 0 0 ns (fun _ => .bad) (fun _ => #[]) b0 b1 b2 w3 ⟨hc1, hc2⟩ ⟨Nat.le_refl _, Nat.zero_le _⟩ hstr (fun h => absurd h (Nat.lt_irrefl 0)) (fun i h => absurd h (by omega))⟩
        · have g5 : v5 = .slice (some a) len cap := by simpa using h5
          subst g5
          subst hn2
          rw [cells26] at hat
          have each : ∀ i, i < len → ∃ cs', W.cells? 0 (a.add (i * 6)) 6 = some cs' ∧ ∃ t, Val W W.heap.size cs'.toArray t := by
            intro i hi
            have h6 := hat i hi
            have hlti : i < elems.length := by omega
            rw [List.getElem?_eq_getElem hlti] at h6
            obtain ⟨cs', hc6, ht6⟩ := Option.bind_eq_some_iff.1 h6
            refine ⟨cs', hc6, ih n2 (by omega) cs' _ ht6 (fun p hp => hlt5 p ?_)⟩
            rw [hx5]
            refine List.mem_append_right _ (List.mem_flatMap.2 ⟨elems[i], List.mem_append_left _ (List.getElem_mem hlti), hp⟩)
          let vs : Nat → Array Value := fun i => if h : i < len then (each i h).choose.toArray else #[]
          let xs' : Nat → VT := fun i => if h : i < len then (each i h).choose_spec.2.choose else .bad
          have hvs : ∀ i (h : i < len), vs i = (each i h).choose.toArray := fun i h => dif_pos h
          have hxs : ∀ i (h : i < len), xs' i = (each i h).choose_spec.2.choose := fun i h => dif_pos h
          refine ⟨_, .mk k n' f s A c ca (some a) len cap ns xs' vs b0 b1 b2 w3 ⟨hc1, hc2⟩ ⟨hm1, hm2⟩ hstr (fun hpos => ?_) (fun i hi => ?_)⟩
          · have hat0 : ∀ i, i < len → ∀ j, j < 6 → W.cell? ((a.add (i * 6)).add j) = (vs i)[j]? := by
              intro i hi j hj
              obtain ⟨_, hln, hc7⟩ := World.cells?_some (each i hi).choose_spec.1
              rw [hvs i hi]
              have := hc7 j (by omega)
              rw [this]
              simp
            obtain ⟨g, off, spot⟩ := a
            have h00 := hat0 0 hpos 0 (by omega)
            have hsz : ∃ u, (vs 0)[0]? = some u := by
              obtain ⟨_, hln, _⟩ := World.cells?_some (each 0 hpos).choose_spec.1
              rw [hvs 0 hpos]
              exact ⟨_, Array.getElem?_eq_getElem (by simp [hln])⟩
            obtain ⟨u, hu⟩ := hsz
            rw [hu] at h00
            have hspot : spot = none := by simpa [Addr.add] using World.cell?_spot h00
            subst hspot
            refine ⟨g, off, rfl, hlt5 (.cell g off) ?_, fun i hi j hj => ?_⟩
            · rw [hx5]
              exact List.mem_append_left _ (MemPlace.mem_row.2 ⟨0, by rw [cells26]; omega, by simp⟩)
            · have := hat0 i hi j hj
              rwa [add_plain, add_plain] at this
          · rw [hvs i hi, hxs i hi]
            exact (each i hi).choose_spec.2.choose_spec
end
end Go.Proofs.YtcmohggnehkjeaaGreat
namespace Go.Proofs.YtcmohggnehkjeaaGreat
open Go.ChangeShapes Go.WideShapes Go.ChangeAt Go.RowKit
section
variable {H : Type} {enc : TypeId × Value → H}
set_option maxRecDepth 20000 in
theorem open_val {W : World} {base : Nat} {v : Value} {d : DataW H} {ps : List MemPlace} (ho : Value.okWide Tryz.prog W .any base 38 v) (h : DataW.Trod enc Tryz.prog W 0 (fun _ => true) true 38 v d ps) (hlt : ∀ x ∈ ps, x.block < W.heap.size) :
    ∃ a t, v = .agg a ∧ Val W W.heap.size a t := by
  obtain ⟨fuel, hf⟩ := h
  obtain ⟨a, rfl, _⟩ := okWide_struct Tryz.underlying38 ho
  obtain ⟨t, ht⟩ := open_tree fuel a.toList _ hf hlt
  exact ⟨a, t, rfl, by simpa using ht⟩
/-- It reads behind the call as it read before. -/
theorem stays_val {W W' : World} {v : Value} {d : DataW H} {ps : List MemPlace} (h : DataW.Trod enc Tryz.prog W 0 (fun _ => true) true 38 v d ps) (hb : Below W.heap.size W W') (hlt : ∀ x ∈ ps, x.block < W.heap.size) :
    DataW.Trod enc Tryz.prog W' 0 (fun b => decide (b < W.heap.size)) true 38 v d ps :=
  Below.trod laidOut (by kernel_rfl) (of_decide_eq_true (by kernel_rfl)) h hb hlt
end
end Go.Proofs.YtcmohggnehkjeaaGreat
namespace Go.Proofs.YtcmohggnehkjeaaGreat
open Go.RowKit

/-- A type: its kind, its names, and 'm' items. -/
inductive TT
  | bad
  | mk (k : Int) (c : Nat) (ns : Nat → ByteArray) (m : Nat) (xs : Nat → TT)
def tfields (k : Int) (A : Option Addr) (c ca : Nat) (B : Option Addr) (m cb : Nat) : Array Value := #[.int .i64 k, .slice A c ca, .slice B m cb]
def ThreeAt (w : World) (g o : Nat) (cs : Array Value) : Prop := ∀ j, j < 3 → w.cell? ⟨g, o + j, none⟩ = cs[j]?
/-- A type by value is this tree. -/
inductive TVal (w : World) (lim : Nat) : Array Value → TT → Prop
  | mk (k : Int) (A : Option Addr) (c ca : Nat) (B : Option Addr) (m cb : Nat) (ns : Nat → ByteArray) (xs : Nat → TT) (vs : Nat → Array Value)
      (hk : -9223372036854775808 ≤ k ∧ k ≤ 9223372036854775807) (hc : c ≤ ca ∧ ca ≤ maxLen) (hm : m ≤ cb ∧ cb ≤ maxLen)
      (hns : Strs w lim A c ns)
      (hB : 0 < m → ∃ g o, B = some ⟨g, o, none⟩ ∧ g < lim ∧ ∀ i, i < m → ThreeAt w g (o + i * 3) (vs i))
      (hxs : ∀ i, i < m → TVal w lim (vs i) (xs i)) :
      TVal w lim (tfields k A c ca B m cb) (.mk k c ns m xs)

theorem TVal.keep {w w' : World} {lim : Nat} {v : Array Value} {t : TT} (h : TVal w lim v t) (hw : ∀ g o, g < lim → w'.cell? ⟨g, o, none⟩ = w.cell? ⟨g, o, none⟩) : TVal w' lim v t := by
  induction h with
  | mk k A c ca B m cb ns xs vs hk hc hm hns hB hxs ih =>
    refine .mk k A c ca B m cb ns xs vs hk hc hm (fun h0 => ?_) (fun h0 => ?_) (fun i hi => ih i hi)
    · obtain ⟨g, o, e, hg, hx⟩ := hns h0
      exact ⟨g, o, e, hg, fun i hi => ⟨(hw _ _ hg).trans (hx i hi).1, (hx i hi).2⟩⟩
    · obtain ⟨g, o, e, hg, hx⟩ := hB h0
      exact ⟨g, o, e, hg, fun i hi j hj => (hw _ _ hg).trans (hx i hi j hj)⟩
theorem TVal.stay {w w' : World} {lim : Nat} {v : Array Value} {t : TT} (h : TVal w lim v t) (hb : Below lim w w') : TVal w' lim v t :=
  h.keep fun g o hg => hb.cell (p := ⟨g, o, none⟩) hg
theorem TVal.mono {w : World} {lim lim' : Nat} {v : Array Value} {t : TT} (h : TVal w lim v t) (hl : lim ≤ lim') : TVal w lim' v t := by
  induction h with
  | mk k A c ca B m cb ns xs vs hk hc hm hns hB hxs ih =>
    refine .mk k A c ca B m cb ns xs vs hk hc hm (fun h0 => ?_) (fun h0 => ?_) (fun i hi => ih i hi)
    · obtain ⟨g, o, e, hg, hx⟩ := hns h0
      exact ⟨g, o, e, by omega, hx⟩
    · obtain ⟨g, o, e, hg, hx⟩ := hB h0
      exact ⟨g, o, e, by omega, hx⟩
theorem TVal.three {w : World} {lim : Nat} {v : Array Value} {t : TT} (h : TVal w lim v t) : ∃ a0 a1 a2, v = #[a0, a1, a2] := by
  cases h; exact ⟨_, _, _, rfl⟩
theorem ThreeAt.cells {w : World} {g o : Nat} {a0 a1 a2 : Value} (h : ThreeAt w g o #[a0, a1, a2]) :
    w.cell? ⟨g, o, none⟩ = some a0 ∧ w.cell? ⟨g, o + 1, none⟩ = some a1 ∧ w.cell? ⟨g, o + 2, none⟩ = some a2 := ⟨h 0 (by omega), h 1 (by omega), h 2 (by omega)⟩
theorem ThreeAt.keep {w w' : World} {g o : Nat} {v : Array Value} (h : ThreeAt w g o v) (hw : ∀ o, w'.cell? ⟨g, o, none⟩ = w.cell? ⟨g, o, none⟩) : ThreeAt w' g o v := fun j hj => (hw _).trans (h j hj)
theorem cells39 : Tryz.prog.cellsOf 25 = 3 := by kernel_rfl

def tcntV : TT → Int → Int
  | .bad, _ => 0
  | .mk _ _ _ m xs, n => min (cntGo (fun i n => tcntV (xs i) n) m 0 (n + 1)) 500

theorem tcntV_in : ∀ (t : TT) (n : Int), 0 ≤ n → n < 500 → 0 ≤ tcntV t n ∧ tcntV t n ≤ 500 := by
  intro t
  induction t with
  | bad => intro n _ _; exact ⟨Int.le_refl _, by show (0 : Int) ≤ 500; omega⟩
  | mk k c ns m xs ih =>
    intro n h0 h5
    have := cntGo_in (fun i n => tcntV (xs i) n) (fun i n a b => ih i n a b) m 0 (n + 1) (by omega) (by omega)
    unfold tcntV
    omega
set_option maxHeartbeats 1000000 in
theorem tcount_any : ∀ (t : TT) (v : Array Value) (n : Int) (w : World), TVal w w.heap.size v t → 0 ≤ n → n < 500 →
    Calls Tryz.prog 66 #[.agg v, .int .i64 n] w fun e w' => e = .returned (.int .i64 (tcntV t n)) ∧ Below w.heap.size w w' := by
  intro t
  induction t with
  | bad => intro v n w hv; cases hv
  | mk k c ns m xs ih =>
    intro v n w hv h0 h5
    cases hv with
    | mk _ A _ ca B _ cb _ _ vs hk hc hm hns hB hxs =>
      have hmx : m ≤ 9223372036854775807 := by have := hm; unfold maxLen at this; omega
      unfold tfields
      go_enter Tryz.func66, Tryz.ntmps66
      go_wp2_with fail
      obtain ⟨W1, hW1⟩ : ∃ W1, W1 = w.alloc (.cells #[.int .i64 k, .slice A c ca, .slice B m cb] 25) := ⟨_, rfl⟩
      have hbW : Below w.heap.size w W1 := by rw [hW1]; exact (Below.refl _ _).alloc (Nat.le_refl _) _
      have hsz : W1.heap.size = w.heap.size + 1 := by rw [hW1]; simp
      have h2c : W1.cell? ⟨w.heap.size, 2, none⟩ = some (.slice B m cb) := by rw [hW1, World.cell?_alloc_new]; rfl
      rw [← hW1]
      have HW := Lib.hid (And.intro hW1 hsz)
      have H2 := Lib.hid h2c
      clear hW1 hsz h2c
      go_loopw [1, 5] (fun nv iv wr => ∃ (i : Nat) (q : Int), i ≤ m ∧ iv = .int .i64 i ∧ nv = .int .i64 q ∧ 0 ≤ q ∧ q ≤ 500 ∧ Hid (cntGo (fun i n => tcntV (xs i) n) (m - i) i q = cntGo (fun i n => tcntV (xs i) n) m 0 (n + 1)) ∧ Below W1.heap.size W1 wr) (fun _ iv _ => m - (intOf iv).toNat)
      case atStart => exact ⟨0, n + 1, Nat.zero_le _, rfl, rfl, by omega, by omega, Lib.hid rfl, Below.refl _ _⟩
      case round =>
        obtain ⟨i, q, hi, rfl, rfl, hq0, hq5, hh, hb⟩ := hrel
        have h2r : wr.cell? ⟨w.heap.size, 2, none⟩ = some (.slice B m cb) := (hb.cell (p := ⟨w.heap.size, 2, none⟩) (by have := HW.out.2; simp; omega)).trans H2.out
        by_cases hlt : i < m
        · by_cases hq : q < 500
          · obtain ⟨g, o, rfl, hg, hx⟩ := hB (by omega)
            have hthr := hx i hlt
            have hvi := hxs i hlt
            generalize vs i = vi at *
            have hthrr : ThreeAt wr g (o + i * 3) vi := hthr.keep fun o => (hb.cell (p := ⟨g, o, none⟩) (show g < W1.heap.size by have := HW.out.2; omega)).trans (hbW.cell (p := ⟨g, o, none⟩) hg)
            have hvr : TVal wr wr.heap.size vi (xs i) := ((hvi.stay hbW).mono (by have := HW.out.2; omega)).stay hb |>.mono hb.size
            obtain ⟨a0, a1, a2, rfl⟩ := hvi.three
            obtain ⟨c0, c1, c2⟩ := hthrr.cells
            have hcall := ih i _ q wr hvr hq0 hq
            have HB := Lib.hid hB
            have hin := tcntV_in (xs i) q hq0 hq
            have hh' : Hid (cntGo (fun i n => tcntV (xs i) n) (m - (i + 1)) (i + 1) (tcntV (xs i) q) = cntGo (fun i n => tcntV (xs i) n) m 0 (n + 1)) := Lib.hid (by
              rw [← hh.out, show m - i = (m - (i + 1)) + 1 by omega]
              conv => rhs; unfold cntGo
              rw [if_pos hq])
            generalize tcntV (xs i) q = z at *
            clear hB hx hthr hthrr hvi hvr ih hxs hns hh
            go_wp2_with (go_at_call 66; refine hcall.mono ?_; rintro e w' ⟨rfl, hb'⟩)
            go_roundw
            case rel => exact ⟨i + 1, z, by omega, by go_num, rfl, hin.1, hin.2, hh', hb.trans (hb'.mono hb.size)⟩
            case measure => simp [intOf]; omega
          · have R : Hid (tcntV (.mk k c ns m xs) n = q) := Lib.hid (by
              have e : cntGo (fun i n => tcntV (xs i) n) m 0 (n + 1) = q := by
                rw [← hh.out, show m - i = (m - (i + 1)) + 1 by omega]
                unfold cntGo
                rw [if_neg hq]
              unfold tcntV
              rw [e]; omega)
            have hfin : Below w.heap.size w wr := hbW.trans (hb.mono (by have := HW.out.2; omega))
            clear hh hns hB hxs ih
            go_wp2_with fail
            go_ret
            exact ⟨by rw [R.out]; rfl, hfin⟩
        · have R : Hid (tcntV (.mk k c ns m xs) n = q) := Lib.hid (by
            have e : cntGo (fun i n => tcntV (xs i) n) m 0 (n + 1) = q := by
              rw [← hh.out, show m - i = 0 by omega]
              rfl
            unfold tcntV
            rw [e]; omega)
          have hfin : Below w.heap.size w wr := hbW.trans (hb.mono (by have := HW.out.2; omega))
          clear hh hns hB hxs ih
          go_wp2_with fail
          go_ret
          exact ⟨by rw [R.out]; rfl, hfin⟩
end Go.Proofs.YtcmohggnehkjeaaGreat
namespace Go.Proofs.YtcmohggnehkjeaaGreat
open Go.ChangeShapes Go.WideShapes Go.ChangeAt Go.RowKit

section
variable {H : Type} {enc : TypeId × Value → H} {w : World} {base : Nat} {spare : Nat → Bool} {held : Bool}
set_option maxRecDepth 20000 in
theorem open_ttree {W : World} : ∀ (fuel : Nat) (cs : List Value) (x : DataW H × List MemPlace), DataW.trod enc Tryz.prog W 0 (fun _ => true) held fuel 25 cs = some x → (∀ p ∈ x.2, p.block < W.heap.size) →
    ∃ t, TVal W W.heap.size cs.toArray t := by
  intro fuel
  induction fuel using Nat.strongRecOn with
  | ind fuel ih =>
    intro cs x h hlt
    obtain ⟨xs, n, hfu, hx, hl, hlen, hf⟩ := DataW.trod_struct Tryz.underlying25 h
    subst hfu
    rw [cells39] at hl
    match cs, hl with
    | [v0, v4, v5], _ =>
      have f0 := hf 0 _ rfl
      have f4 := hf 1 _ rfl
      have f5 := hf 2 _ rfl
      match xs, hlen with
      | [x0, x4, x5], _ =>
        have e0 : DataW.trod enc Tryz.prog W 0 (fun _ => true) held n 3 [v0] = some x0 := f0
        have e4 : DataW.trod enc Tryz.prog W 0 (fun _ => true) held n 22 [v4] = some x4 := f4
        have e5 : DataW.trod enc Tryz.prog W 0 (fun _ => true) held n 23 [v5] = some x5 := f5
        clear hf f0 f4 f5
        obtain ⟨k, h0, _, w0⟩ := DataW.trod_int Tryz.underlying3 e0
        have hlt4 : ∀ p ∈ x4.2, p.block < W.heap.size := fun p hp => hlt p (by rw [hx]; simp [hp])
        have hlt5 : ∀ p ∈ x5.2, p.block < W.heap.size := fun p hp => hlt p (by rw [hx]; simp [hp])
        obtain ⟨A, c, ca, ns, h4, hc1, hc2, hstr⟩ := open_strs e4 hlt4
        have g0 : v0 = .int .i64 k := by simpa using h0
        have g4 : v4 = .slice A c ca := by simpa using h4
        subst g0 g4
        have b0 : -9223372036854775808 ≤ k ∧ k ≤ 9223372036854775807 := by simpa [Lit.wf, IntKind.min, IntKind.max, IntKind.signed, IntKind.bits] using w0
        rcases DataW.trod_slice Tryz.underlying23 e5 with ⟨h5, _⟩ | ⟨a, len, cap, elems, rest, n2, hn2, h5, hx5, _, hm1, hm2, hel, hat, _, _⟩
        · have g5 : v5 = .slice none 0 0 := by simpa using h5
          subst g5
          exact ⟨_, .mk k A c ca none 0 0 ns (fun _ => .bad) (fun _ => #[]) b0 ⟨hc1, hc2⟩ ⟨Nat.le_refl _, Nat.zero_le _⟩ hstr (fun h => absurd h (Nat.lt_irrefl 0)) (fun i h => absurd h (by omega))⟩
        · have g5 : v5 = .slice (some a) len cap := by simpa using h5
          subst g5
          subst hn2
          rw [cells39] at hat
          have each : ∀ i, i < len → ∃ cs', W.cells? 0 (a.add (i * 3)) 3 = some cs' ∧ ∃ t, TVal W W.heap.size cs'.toArray t := by
            intro i hi
            have h6 := hat i hi
            have hlti : i < elems.length := by omega
            rw [List.getElem?_eq_getElem hlti] at h6
            obtain ⟨cs', hc6, ht6⟩ := Option.bind_eq_some_iff.1 h6
            refine ⟨cs', hc6, ih n2 (by omega) cs' _ ht6 (fun p hp => hlt5 p ?_)⟩
            rw [hx5]
            refine List.mem_append_right _ (List.mem_flatMap.2 ⟨elems[i], List.mem_append_left _ (List.getElem_mem hlti), hp⟩)
          let vs : Nat → Array Value := fun i => if h : i < len then (each i h).choose.toArray else #[]
          let xs' : Nat → TT := fun i => if h : i < len then (each i h).choose_spec.2.choose else .bad
          have hvs : ∀ i (h : i < len), vs i = (each i h).choose.toArray := fun i h => dif_pos h
          have hxs : ∀ i (h : i < len), xs' i = (each i h).choose_spec.2.choose := fun i h => dif_pos h
          refine ⟨_, .mk k A c ca (some a) len cap ns xs' vs b0 ⟨hc1, hc2⟩ ⟨hm1, hm2⟩ hstr (fun hpos => ?_) (fun i hi => ?_)⟩
          · have hat0 : ∀ i, i < len → ∀ j, j < 3 → W.cell? ((a.add (i * 3)).add j) = (vs i)[j]? := by
              intro i hi j hj
              obtain ⟨_, hln, hc7⟩ := World.cells?_some (each i hi).choose_spec.1
              rw [hvs i hi]
              have := hc7 j (by omega)
              rw [this]
              simp
            obtain ⟨g, off, spot⟩ := a
            have h00 := hat0 0 hpos 0 (by omega)
            have hsz : ∃ u, (vs 0)[0]? = some u := by
              obtain ⟨_, hln, _⟩ := World.cells?_some (each 0 hpos).choose_spec.1
              rw [hvs 0 hpos]
              exact ⟨_, Array.getElem?_eq_getElem (by simp [hln])⟩
            obtain ⟨u, hu⟩ := hsz
            rw [hu] at h00
            have hspot : spot = none := by simpa [Addr.add] using World.cell?_spot h00
            subst hspot
            refine ⟨g, off, rfl, hlt5 (.cell g off) ?_, fun i hi j hj => ?_⟩
            · rw [hx5]
              exact List.mem_append_left _ (MemPlace.mem_row.2 ⟨0, by rw [cells39]; omega, by simp⟩)
            · have := hat0 i hi j hj
              rwa [add_plain, add_plain] at this
          · rw [hvs i hi, hxs i hi]
            exact (each i hi).choose_spec.2.choose_spec
set_option maxRecDepth 20000 in
theorem open_typ {W : World} {base : Nat} {v : Value} {d : DataW H} {ps : List MemPlace} (ho : Value.okWide Tryz.prog W .any base 25 v) (h : DataW.Trod enc Tryz.prog W 0 (fun _ => true) true 25 v d ps) (hlt : ∀ x ∈ ps, x.block < W.heap.size) :
    ∃ a t, v = .agg a ∧ TVal W W.heap.size a t := by
  obtain ⟨fuel, hf⟩ := h
  obtain ⟨a, rfl, _⟩ := okWide_struct Tryz.underlying25 ho
  obtain ⟨t, ht⟩ := open_ttree fuel a.toList _ hf hlt
  exact ⟨a, t, rfl, by simpa using ht⟩
/-- It reads behind the call as it read before. -/
theorem stays_typ {W W' : World} {v : Value} {d : DataW H} {ps : List MemPlace} (h : DataW.Trod enc Tryz.prog W 0 (fun _ => true) true 25 v d ps) (hb : Below W.heap.size W W') (hlt : ∀ x ∈ ps, x.block < W.heap.size) :
    DataW.Trod enc Tryz.prog W' 0 (fun b => decide (b < W.heap.size)) true 25 v d ps :=
  Below.trod laidOut (by kernel_rfl) (of_decide_eq_true (by kernel_rfl)) h hb hlt
end
end Go.Proofs.YtcmohggnehkjeaaGreat
namespace Go.Proofs.YtcmohggnehkjeaaGreat
open Go.RowKit

def tdepV : TT → Int → Int
  | .bad, _ => 1
  | .mk _ _ _ m xs, far => (if 0 < far then maxGo (fun i => tdepV (xs i) (far - 1)) m 0 0 else 0) + 1
theorem tdepV_in : ∀ (t : TT) (far : Int), 1 ≤ tdepV t far ∧ tdepV t far ≤ max far 0 + 1 := by
  intro t
  induction t with
  | bad => intro far; unfold tdepV; omega
  | mk k c ns m xs ih =>
    intro far
    unfold tdepV
    by_cases h : 0 < far
    · rw [if_pos h]
      have := maxGo_in (fun i => tdepV (xs i) (far - 1)) (b := far) (fun i => by have := ih i (far - 1); omega) m 0 0 (by omega) (by omega)
      omega
    · rw [if_neg h]; omega

set_option maxHeartbeats 1000000 in
theorem tdepth_any : ∀ (t : TT) (v : Array Value) (far : Int) (w : World), TVal w w.heap.size v t → 0 ≤ far → far ≤ 1000 →
    Calls Tryz.prog 30 #[.agg v, .int .i64 far] w fun e w' => e = .returned (.int .i64 (tdepV t far)) ∧ Below w.heap.size w w' := by
  intro t
  induction t with
  | bad => intro v far w hv; cases hv
  | mk k c ns m xs ih =>
    intro v far w hv h0 h5
    cases hv with
    | mk _ A _ ca B _ cb _ _ vs hk hc hm hns hB hxs =>
      have hmx : m ≤ 9223372036854775807 := by have := hm; unfold maxLen at this; omega
      have hall := tdepV_in (.mk k c ns m xs) far
      have hitem := fun i => tdepV_in (xs i) (far - 1)
      unfold tfields
      go_enter Tryz.func30, Tryz.ntmps30
      go_wp2_with fail
      obtain ⟨W1, hW1⟩ : ∃ W1, W1 = w.alloc (.cells #[.int .i64 k, .slice A c ca, .slice B m cb] 25) := ⟨_, rfl⟩
      have hbW : Below w.heap.size w W1 := by rw [hW1]; exact (Below.refl _ _).alloc (Nat.le_refl _) _
      have hsz : W1.heap.size = w.heap.size + 1 := by rw [hW1]; simp
      have h2c : W1.cell? ⟨w.heap.size, 2, none⟩ = some (.slice B m cb) := by rw [hW1, World.cell?_alloc_new]; rfl
      rw [← hW1]
      have HW := Lib.hid (And.intro hW1 hsz)
      have H2 := Lib.hid h2c
      have HI := Lib.hid hitem
      have HA := Lib.hid hall
      clear hW1 hsz h2c hitem hall
      go_loopw [5, 6] (fun nv iv wr => ∃ (i : Nat) (q : Int), i ≤ m ∧ iv = .int .i64 i ∧ nv = .int .i64 q ∧ 0 ≤ q ∧ q ≤ 1000 ∧ Hid (tdepV (.mk k c ns m xs) far = (if 0 < far then maxGo (fun i => tdepV (xs i) (far - 1)) (m - i) i q else q) + 1) ∧ Below W1.heap.size W1 wr) (fun _ iv _ => m - (intOf iv).toNat)
      case atStart => exact ⟨0, 0, Nat.zero_le _, rfl, rfl, by omega, by omega, Lib.hid rfl, Below.refl _ _⟩
      case round =>
        obtain ⟨i, q, hi, rfl, rfl, hq0, hq5, hh, hb⟩ := hrel
        have h2r : wr.cell? ⟨w.heap.size, 2, none⟩ = some (.slice B m cb) := (hb.cell (p := ⟨w.heap.size, 2, none⟩) (by have := HW.out.2; simp; omega)).trans H2.out
        by_cases hlt : i < m
        · by_cases hq : 0 < far
          · obtain ⟨g, o, rfl, hg, hx⟩ := hB (by omega)
            have hthr := hx i hlt
            have hvi := hxs i hlt
            generalize vs i = vi at *
            have hthrr : ThreeAt wr g (o + i * 3) vi := hthr.keep fun o => (hb.cell (p := ⟨g, o, none⟩) (show g < W1.heap.size by have := HW.out.2; omega)).trans (hbW.cell (p := ⟨g, o, none⟩) hg)
            have hvr : TVal wr wr.heap.size vi (xs i) := ((hvi.stay hbW).mono (by have := HW.out.2; omega)).stay hb |>.mono hb.size
            obtain ⟨a0, a1, a2, rfl⟩ := hvi.three
            obtain ⟨c0, c1, c2⟩ := hthrr.cells
            have hcall := ih i _ (far - 1) wr hvr (by omega) (by omega)
            have hin := HI.out i
            have hh' : Hid (tdepV (.mk k c ns m xs) far = (if 0 < far then maxGo (fun i => tdepV (xs i) (far - 1)) (m - (i + 1)) (i + 1) (max q (tdepV (xs i) (far - 1))) else max q (tdepV (xs i) (far - 1))) + 1) := Lib.hid (by
              rw [hh.out, if_pos hq, if_pos hq, show m - i = (m - (i + 1)) + 1 by omega]
              rfl)
            generalize tdepV (xs i) (far - 1) = z at *
            have hz : z ≤ 1000 := by omega
            clear hB hx hthr hthrr hvi hvr ih hxs hns hh
            go_wp2_with (go_at_call 30; refine hcall.mono ?_; rintro e w' ⟨rfl, hb'⟩)
            go_roundw
            case rel => exact ⟨i + 1, max q z, by omega, by go_num, by rw [show max q z = if q < z then z else q by split <;> omega], by omega, by omega, hh', hb.trans (hb'.mono hb.size)⟩
            case measure => simp [intOf]; omega
          · have R : Hid (tdepV (.mk k c ns m xs) far = q + 1) := Lib.hid (by rw [hh.out, if_neg hq])
            have hfin : Below w.heap.size w wr := hbW.trans (hb.mono (by have := HW.out.2; omega))
            clear hh hns hB hxs ih
            go_wp2_with fail
            go_ret
            exact ⟨by rw [R.out]; rfl, hfin⟩
        · have R : Hid (tdepV (.mk k c ns m xs) far = q + 1) := Lib.hid (by
            rw [hh.out, show m - i = 0 by omega]
            split <;> rfl)
          have hfin : Below w.heap.size w wr := hbW.trans (hb.mono (by have := HW.out.2; omega))
          clear hh hns hB hxs ih
          go_wp2_with fail
          go_ret
          exact ⟨by rw [R.out]; rfl, hfin⟩

/-- A value boxed anew is loaded as it was. -/
theorem tparts_any {t : TT} {v : Array Value} {w : World} (hv : TVal w w.heap.size v t) : Calls Tryz.prog 31 #[.agg v] w fun e w' => e = .returned (.int .i64 (tcntV t 0)) ∧ Below w.heap.size w w' := by
  have hbW : Below w.heap.size w (w.alloc (.cells v 25)) := (Below.refl _ _).alloc (Nat.le_refl _) _
  have C := tcount_any t v 0 (w.alloc (.cells v 25)) ((hv.stay hbW).mono hbW.size) (by omega) (by omega)
  obtain ⟨a0, a1, a2, rfl⟩ := hv.three
  clear hv
  go_enter Tryz.func31, Tryz.ntmps31
  go_wp2_with (go_at_call 66; refine C.mono ?_; rintro e w' ⟨rfl, hb'⟩)
  go_ret
  exact ⟨rfl, hbW.trans (hb'.mono hbW.size)⟩
def tsmallV (t : TT) : Bool := decide (tdepV t 40 ≤ 30) && decide (tcntV t 0 < 500)
theorem tsmall_any {t : TT} {v : Array Value} {w : World} (hv : TVal w w.heap.size v t) : Calls Tryz.prog 10 #[.agg v] w fun e w' => e = .returned (.bool (tsmallV t)) ∧ Below w.heap.size w w' := by
  have hbW : Below w.heap.size w (w.alloc (.cells v 25)) := (Below.refl _ _).alloc (Nat.le_refl _) _
  have hvW := (hv.stay hbW).mono hbW.size
  have D := tdepth_any t v 40 (w.alloc (.cells v 25)) hvW (by omega) (by omega)
  have P := fun w' (hb : Below (w.alloc (.cells v 25)).heap.size (w.alloc (.cells v 25)) w') => tparts_any ((hvW.stay hb).mono hb.size)
  have K := fun w' (hb : Below (w.alloc (.cells v 25)).heap.size (w.alloc (.cells v 25)) w') o => hb.cell (p := ⟨w.heap.size, o, none⟩) (by simp)
  obtain ⟨a0, a1, a2, rfl⟩ := hv.three
  unfold tsmallV
  have h1 := tdepV_in t 40
  have h2 := tcntV_in t 0 (by omega) (by omega)
  generalize tdepV t 40 = d at *
  generalize tcntV t 0 = p at *
  clear hv hvW
  have hK : ∀ w', Below (w.alloc (.cells #[a0, a1, a2] 25)).heap.size (w.alloc (.cells #[a0, a1, a2] 25)) w' → w'.cell? ⟨w.heap.size, 0, none⟩ = some a0 ∧ w'.cell? ⟨w.heap.size, 1, none⟩ = some a1 ∧ w'.cell? ⟨w.heap.size, 2, none⟩ = some a2 := fun w' hb => by
    refine ⟨?_, ?_, ?_⟩ <;> (rw [K w' hb, World.cell?_alloc_new]; rfl)
  clear K
  have HK := Lib.hid hK
  have HP := Lib.hid P
  clear hK P
  go_enter Tryz.func10, Tryz.ntmps10
  go_wp2_with fail
  refine D.mono ?_
  rintro e w1 ⟨rfl, hb1⟩
  obtain ⟨c0, c1, c2⟩ := HK.out w1 hb1
  have hfin := hbW.trans (hb1.mono hbW.size)
  go_wp2_with (go_at_call 31; refine (HP.out w1 hb1).mono ?_; rintro e w2 ⟨rfl, hb2⟩)
  · go_ret
    exact ⟨by simp [*], hfin.trans (hb2.mono hfin.size)⟩
  · go_ret
    exact ⟨by simp; omega, hfin⟩
end Go.Proofs.YtcmohggnehkjeaaGreat
namespace Go.Proofs.YtcmohggnehkjeaaGreat
open Go.RowKit

/-- The three cells of a box stay. -/
theorem box3_stays {w : World} {a0 a1 a2 : Value} {t : TypeId} : Hid (∀ w', Below (w.alloc (.cells #[a0, a1, a2] t)).heap.size (w.alloc (.cells #[a0, a1, a2] t)) w' →
    w'.cell? ⟨w.heap.size, 0, none⟩ = some a0 ∧ w'.cell? ⟨w.heap.size, 1, none⟩ = some a1 ∧ w'.cell? ⟨w.heap.size, 2, none⟩ = some a2) := Lib.hid fun w' hb => by
  have K := fun o => hb.cell (p := ⟨w.heap.size, o, none⟩) (by simp)
  refine ⟨?_, ?_, ?_⟩ <;> (rw [K, World.cell?_alloc_new]; rfl)

def theadB (k : Int) (c : Nat) (ns : Nat → ByteArray) (m : Nat) : Bool :=
  if k = 5 then decide (m = 1) && decide (c = 0) else riseB c ns && ((c : Int) == (m : Int))
def tplainB (k : Int) (c m : Nat) : Bool := decide (1 ≤ k) && (decide (k ≤ 7) && (decide (m = 0) && decide (c = 0)))
def trightV : TT → Int → Bool
  | .bad, _ => false
  | .mk k c ns m xs, far => decide (1 ≤ far) && (if k = 5 ∨ k = 6 then theadB k c ns m && (List.range m).all (fun i => trightV (xs i) (far - 1)) else tplainB k c m)

theorem tright_far {k : Int} {A : Option Addr} {c ca : Nat} {B : Option Addr} {m cb : Nat} {w : World} {far : Int} (h0 : ¬ 1 ≤ far) :
    Calls Tryz.prog 38 #[.agg (tfields k A c ca B m cb), .int .i64 far] w fun e w' => e = .returned (.bool false) ∧ Below w.heap.size w w' := by
  have hbW : ∀ o, Below w.heap.size w (w.alloc o) := fun o => (Below.refl _ _).alloc (Nat.le_refl _) _
  unfold tfields at *
  go_enter Tryz.func38, Tryz.ntmps38
  go_wp2
  all_goals (go_ret; exact ⟨rfl, hbW _⟩)
theorem tright_out {k : Int} {A : Option Addr} {c ca : Nat} {B : Option Addr} {m cb : Nat} {w : World} {far : Int} (h0 : 1 ≤ far) (hk : ¬ (1 ≤ k ∧ k ≤ 7)) :
    Calls Tryz.prog 38 #[.agg (tfields k A c ca B m cb), .int .i64 far] w fun e w' => e = .returned (.bool false) ∧ Below w.heap.size w w' := by
  have hbW : ∀ o, Below w.heap.size w (w.alloc o) := fun o => (Below.refl _ _).alloc (Nat.le_refl _) _
  unfold tfields at *
  by_cases h1 : 1 ≤ k
  · have h7 : ¬ k ≤ 7 := fun h => hk ⟨h1, h⟩
    clear hk
    go_enter Tryz.func38, Tryz.ntmps38
    go_wp2
    all_goals (go_ret; exact ⟨rfl, hbW _⟩)
  · clear hk
    go_enter Tryz.func38, Tryz.ntmps38
    go_wp2
    all_goals (go_ret; exact ⟨rfl, hbW _⟩)
set_option maxHeartbeats 1000000 in
theorem tright_plain {k : Int} {A : Option Addr} {c ca : Nat} {B : Option Addr} {m cb : Nat} {w : World} {far : Int} (h0 : 1 ≤ far) (hk : 1 ≤ k ∧ k ≤ 7) (h5 : k ≠ 5) (h6 : k ≠ 6) :
    Calls Tryz.prog 38 #[.agg (tfields k A c ca B m cb), .int .i64 far] w fun e w' => e = .returned (.bool (decide (m = 0) && decide (c = 0))) ∧ Below w.heap.size w w' := by
  have hbW : ∀ o, Below w.heap.size w (w.alloc o) := fun o => (Below.refl _ _).alloc (Nat.le_refl _) _
  have t5 : (k == 5) = false := by simpa using h5
  have t6 : (k == 6) = false := by simpa using h6
  unfold tfields at *
  by_cases hm : m = 0
  · by_cases hc : c = 0
    · have R : Hid ((decide (m = 0) && decide (c = 0)) = true) := Lib.hid (by simp [hm, hc])
      have tm : ((m : Int) == 0) = true := by simp; omega
      have tc : ((c : Int) == 0) = true := by simp; omega
      clear hm hc h5 h6
      go_enter Tryz.func38, Tryz.ntmps38
      go_wp2
      all_goals (go_ret; exact ⟨by rw [R.out]; rfl, hbW _⟩)
    · have R : Hid ((decide (m = 0) && decide (c = 0)) = false) := Lib.hid (by simp [hc])
      have tm : ((m : Int) == 0) = true := by simp; omega
      have tc : ((c : Int) == 0) = false := by simp; omega
      clear hm hc h5 h6
      go_enter Tryz.func38, Tryz.ntmps38
      go_wp2
      all_goals (go_ret; exact ⟨by rw [R.out]; rfl, hbW _⟩)
  · have R : Hid ((decide (m = 0) && decide (c = 0)) = false) := Lib.hid (by simp [hm])
    have tm : ((m : Int) == 0) = false := by simp; omega
    clear hm h5 h6
    go_enter Tryz.func38, Tryz.ntmps38
    go_wp2
    all_goals (go_ret; exact ⟨by rw [R.out]; rfl, hbW _⟩)
end Go.Proofs.YtcmohggnehkjeaaGreat
namespace Go.Proofs.YtcmohggnehkjeaaGreat
open Go.RowKit

set_option maxHeartbeats 2000000 in
set_option maxRecDepth 10000 in
theorem tright_5 {A : Option Addr} {c ca : Nat} {B : Option Addr} {m cb : Nat} {w : World} {far : Int} {ns : Nat → ByteArray} {vs : Nat → Array Value} {xs : Nat → TT} (h0 : 1 ≤ far) (h9 : far ≤ 1000) (hmx : m ≤ 9223372036854775807)
    (hB : 0 < m → ∃ g o, B = some ⟨g, o, none⟩ ∧ g < w.heap.size ∧ ∀ i, i < m → ThreeAt w g (o + i * 3) (vs i)) (hxs : ∀ i, i < m → TVal w w.heap.size (vs i) (xs i))
    (ih : ∀ (i : Nat) (v : Array Value) (far : Int) (w : World), TVal w w.heap.size v (xs i) → 0 ≤ far → far ≤ 1000 → Calls Tryz.prog 38 #[.agg v, .int .i64 far] w fun e w' => e = .returned (.bool (trightV (xs i) far)) ∧ Below w.heap.size w w') :
    Calls Tryz.prog 38 #[.agg (tfields 5 A c ca B m cb), .int .i64 far] w fun e w' => e = .returned (.bool (theadB 5 c ns m && (List.range m).all (fun i => trightV (xs i) (far - 1)))) ∧ Below w.heap.size w w' := by
  have hbW : Below w.heap.size w (w.alloc (.cells (tfields 5 A c ca B m cb) 25)) := (Below.refl _ _).alloc (Nat.le_refl _) _
  have hsz : (w.alloc (.cells (tfields 5 A c ca B m cb) 25)).heap.size = w.heap.size + 1 := by simp
  have HZ := Lib.hid hsz
  clear hsz
  unfold tfields at *
  have HK := box3_stays (w := w) (a0 := .int .i64 5) (a1 := .slice A c ca) (a2 := .slice B m cb) (t := 25)
  have HBW := Lib.hid hbW
  obtain ⟨T, hT0⟩ : ∃ T, T = (theadB 5 c ns m && (List.range m).all (fun i => trightV (xs i) (far - 1))) := ⟨_, rfl⟩
  rw [← hT0]
  by_cases hm : m = 1
  · by_cases hc : c = 0
    · have hT : Hid (T = (List.range m).all (fun i => trightV (xs i) (far - 1))) := Lib.hid (by rw [hT0]; unfold theadB; simp [hc, hm])
      have tm : ((m : Int) == 1) = true := by simp; omega
      have tm2 : ((m : Int) != 1) = false := by simp; omega
      have tc : ((c : Int) == 0) = true := by simp; omega
      have tc2 : ((c : Int) != 0) = false := by simp; omega
      clear hc hT0
      obtain ⟨w1, hw1⟩ : ∃ w1, w1 = w.alloc (.cells #[.int .i64 5, .slice A c ca, .slice B m cb] 25) := ⟨_, rfl⟩
      obtain ⟨q0, q1, q2⟩ := HK.out _ (Below.refl _ _)
      have hz1 : w1.heap.size = w.heap.size + 1 := by rw [hw1]; exact HZ.out
      rw [← hw1] at q0 q1 q2 hbW
      have HM := Lib.hid hm
      clear hm
      go_enter Tryz.func38, Tryz.ntmps38
      go_wp2_with fail
      rw [← hw1]
      have HW1 := Lib.hid hw1
      clear hw1
      have HW := Lib.hid (And.intro hbW (show w.heap.size < w1.heap.size by omega))
      have H2 := Lib.hid q2
      clear hz1 hbW q0 q1 q2 HK HBW HZ
      go_loopw [5] (fun iv wr => ∃ i : Nat, i ≤ m ∧ iv = .int .i64 i ∧ Hid (∀ j, j < i → trightV (xs j) (far - 1) = true) ∧ Below w1.heap.size w1 wr) (fun iv _ => m - (intOf iv).toNat)
      case atStart => exact ⟨0, Nat.zero_le _, rfl, Lib.hid fun j hj => absurd hj (by omega), Below.refl _ _⟩
      case round =>
        obtain ⟨i, hi, rfl, hh, hb⟩ := hrel
        have h2r : wr.cell? ⟨w.heap.size, 2, none⟩ = some (.slice B m cb) := (hb.cell (p := ⟨w.heap.size, 2, none⟩) HW.out.2).trans H2.out
        have hfin : Below w.heap.size w wr := HW.out.1.trans (hb.mono HW.out.1.size)
        by_cases hlt : i < m
        · obtain ⟨g, o, rfl, hg, hx⟩ := hB (by omega)
          have hvr := ((hxs i hlt).stay hfin).mono hfin.size
          have hcall := ih i (vs i) (far - 1) wr hvr (by omega) (by omega)
          have hthr := (hx i hlt).keep (w' := wr) fun o => hfin.cell (p := ⟨g, o, none⟩) hg
          obtain ⟨a0, a1, a2, hv0⟩ := (hxs i hlt).three
          rw [hv0] at hthr hcall
          obtain ⟨e0, e1, e2⟩ := hthr.cells
          have yes : trightV (xs i) (far - 1) = true → Hid (∀ j, j < i + 1 → trightV (xs j) (far - 1) = true) := fun hy => Lib.hid fun j hj => by
            by_cases e : j = i
            · subst e; exact hy
            · exact hh.out j (by omega)
          have no : trightV (xs i) (far - 1) = false → Hid (T = false) := fun hn => Lib.hid (by
            rw [hT.out, List.all_eq_false.2 ⟨i, List.mem_range.2 hlt, by rw [hn]; simp⟩])
          clear hv0 hthr hvr hx hB ih hxs hh
          cases hr : trightV (xs i) (far - 1)
          · have N := no hr
            rw [hr] at hcall
            clear yes no hr hT
            go_wp2_with (go_at_call 38; refine hcall.mono ?_; rintro e w3 ⟨rfl, hb3⟩)
            go_ret
            exact ⟨by rw [N.out]; rfl, hfin.trans (hb3.mono hfin.size)⟩
          · have Y := yes hr
            rw [hr] at hcall
            clear yes no hr hT
            go_wp2_with (go_at_call 38; refine hcall.mono ?_; rintro e w3 ⟨rfl, hb3⟩)
            go_roundw
            case rel => exact ⟨i + 1, by omega, by go_num, Y, hb.trans (hb3.mono hb.size)⟩
            case measure => simp [intOf]; omega
        · have R : Hid (T = true) := Lib.hid (by rw [hT.out, List.all_eq_true.2 fun j hj => hh.out j (by have := List.mem_range.1 hj; omega)])
          clear hh hT ih hxs hB
          go_wp2_with fail
          go_ret
          exact ⟨by rw [R.out]; rfl, hfin⟩
    · have R : Hid (T = false) := Lib.hid (by rw [hT0]; unfold theadB; simp [hc])
      have tm : ((m : Int) == 1) = true := by simp; omega
      have tm2 : ((m : Int) != 1) = false := by simp; omega
      have tc : ((c : Int) == 0) = false := by simp; omega
      have tc2 : ((c : Int) != 0) = true := by simp; omega
      clear hc hT0 ih hxs hB hm
      go_enter Tryz.func38, Tryz.ntmps38
      go_wp2_with fail
      go_ret
      exact ⟨by rw [R.out]; rfl, hbW⟩
  · have R : Hid (T = false) := Lib.hid (by rw [hT0]; unfold theadB; simp [hm])
    have tm : ((m : Int) == 1) = false := by simp; omega
    have tm2 : ((m : Int) != 1) = true := by simp; omega
    clear hT0 ih hxs hB hm
    go_enter Tryz.func38, Tryz.ntmps38
    go_wp2_with fail
    go_ret
    exact ⟨by rw [R.out]; rfl, hbW⟩
set_option maxHeartbeats 2000000 in
set_option maxRecDepth 10000 in
theorem tright_6 {A : Option Addr} {c ca : Nat} {B : Option Addr} {m cb : Nat} {w : World} {far : Int} {ns : Nat → ByteArray} {vs : Nat → Array Value} {xs : Nat → TT} (h0 : 1 ≤ far) (h9 : far ≤ 1000) (hmx : m ≤ 9223372036854775807) (hcx : c ≤ 9223372036854775807) (hns : Strs w w.heap.size A c ns)
    (hB : 0 < m → ∃ g o, B = some ⟨g, o, none⟩ ∧ g < w.heap.size ∧ ∀ i, i < m → ThreeAt w g (o + i * 3) (vs i)) (hxs : ∀ i, i < m → TVal w w.heap.size (vs i) (xs i))
    (ih : ∀ (i : Nat) (v : Array Value) (far : Int) (w : World), TVal w w.heap.size v (xs i) → 0 ≤ far → far ≤ 1000 → Calls Tryz.prog 38 #[.agg v, .int .i64 far] w fun e w' => e = .returned (.bool (trightV (xs i) far)) ∧ Below w.heap.size w w') :
    Calls Tryz.prog 38 #[.agg (tfields 6 A c ca B m cb), .int .i64 far] w fun e w' => e = .returned (.bool (theadB 6 c ns m && (List.range m).all (fun i => trightV (xs i) (far - 1)))) ∧ Below w.heap.size w w' := by
  have hbW : Below w.heap.size w (w.alloc (.cells (tfields 6 A c ca B m cb) 25)) := (Below.refl _ _).alloc (Nat.le_refl _) _
  have hsz : (w.alloc (.cells (tfields 6 A c ca B m cb) 25)).heap.size = w.heap.size + 1 := by simp
  have HZ := Lib.hid hsz
  clear hsz
  have Nm := fun (w' : World) (hb : Below w.heap.size w w') => names_any (n := (m : Int)) (ca := ca) (strs_keep hns hb) hb.size hcx
  clear hns
  unfold tfields at *
  have HK := box3_stays (w := w) (a0 := .int .i64 6) (a1 := .slice A c ca) (a2 := .slice B m cb) (t := 25)
  have HBW := Lib.hid hbW
  obtain ⟨T, hT0⟩ : ∃ T, T = (theadB 6 c ns m && (List.range m).all (fun i => trightV (xs i) (far - 1))) := ⟨_, rfl⟩
  rw [← hT0]
  cases hg : (riseB c ns && ((c : Int) == (m : Int)))
  · have R : Hid (T = false) := Lib.hid (by rw [hT0]; unfold theadB; simp only [hg]; simp)
    rw [hg] at Nm
    clear hg hT0 ih hxs hB
    go_enter Tryz.func38, Tryz.ntmps38
    go_wp2_with (go_at_call 73; refine (Nm _ HBW.out).mono ?_; rintro e w1 ⟨rfl, hb1⟩; obtain ⟨q0, q1, q2⟩ := HK.out w1 hb1)
    go_ret
    exact ⟨by rw [R.out]; rfl, hbW.trans (hb1.mono hbW.size)⟩
  · have hT : Hid (T = (List.range m).all (fun i => trightV (xs i) (far - 1))) := Lib.hid (by rw [hT0]; unfold theadB; simp only [hg]; simp)
    rw [hg] at Nm
    clear hg hT0
    go_enter Tryz.func38, Tryz.ntmps38
    go_wp2_with (go_at_call 73; refine (Nm _ HBW.out).mono ?_; rintro e w1 ⟨rfl, hb1⟩; obtain ⟨q0, q1, q2⟩ := HK.out w1 hb1)
    have HW := Lib.hid (And.intro (hbW.trans (hb1.mono hbW.size)) (show w.heap.size < w1.heap.size by have := hb1.size; have := HZ.out; omega))
    have H2 := Lib.hid q2
    clear hbW hb1 Nm q0 q1 q2 HK HBW HZ
    go_loopw [5] (fun iv wr => ∃ i : Nat, i ≤ m ∧ iv = .int .i64 i ∧ Hid (∀ j, j < i → trightV (xs j) (far - 1) = true) ∧ Below w1.heap.size w1 wr) (fun iv _ => m - (intOf iv).toNat)
    case atStart => exact ⟨0, Nat.zero_le _, rfl, Lib.hid fun j hj => absurd hj (by omega), Below.refl _ _⟩
    case round =>
      obtain ⟨i, hi, rfl, hh, hb⟩ := hrel
      have h2r : wr.cell? ⟨w.heap.size, 2, none⟩ = some (.slice B m cb) := (hb.cell (p := ⟨w.heap.size, 2, none⟩) HW.out.2).trans H2.out
      have hfin : Below w.heap.size w wr := HW.out.1.trans (hb.mono HW.out.1.size)
      by_cases hlt : i < m
      · obtain ⟨g, o, rfl, hg, hx⟩ := hB (by omega)
        have hvr := ((hxs i hlt).stay hfin).mono hfin.size
        have hcall := ih i (vs i) (far - 1) wr hvr (by omega) (by omega)
        have hthr := (hx i hlt).keep (w' := wr) fun o => hfin.cell (p := ⟨g, o, none⟩) hg
        obtain ⟨a0, a1, a2, hv0⟩ := (hxs i hlt).three
        rw [hv0] at hthr hcall
        obtain ⟨e0, e1, e2⟩ := hthr.cells
        have yes : trightV (xs i) (far - 1) = true → Hid (∀ j, j < i + 1 → trightV (xs j) (far - 1) = true) := fun hy => Lib.hid fun j hj => by
          by_cases e : j = i
          · subst e; exact hy
          · exact hh.out j (by omega)
        have no : trightV (xs i) (far - 1) = false → Hid (T = false) := fun hn => Lib.hid (by
          rw [hT.out, List.all_eq_false.2 ⟨i, List.mem_range.2 hlt, by rw [hn]; simp⟩])
        clear hv0 hthr hvr hx hB ih hxs hh
        cases hr : trightV (xs i) (far - 1)
        · have N := no hr
          rw [hr] at hcall
          clear yes no hr hT
          go_wp2_with (go_at_call 38; refine hcall.mono ?_; rintro e w3 ⟨rfl, hb3⟩)
          go_ret
          exact ⟨by rw [N.out]; rfl, hfin.trans (hb3.mono hfin.size)⟩
        · have Y := yes hr
          rw [hr] at hcall
          clear yes no hr hT
          go_wp2_with (go_at_call 38; refine hcall.mono ?_; rintro e w3 ⟨rfl, hb3⟩)
          go_roundw
          case rel => exact ⟨i + 1, by omega, by go_num, Y, hb.trans (hb3.mono hb.size)⟩
          case measure => simp [intOf]; omega
      · have R : Hid (T = true) := Lib.hid (by rw [hT.out, List.all_eq_true.2 fun j hj => hh.out j (by have := List.mem_range.1 hj; omega)])
        clear hh hT ih hxs hB
        go_wp2_with fail
        go_ret
        exact ⟨by rw [R.out]; rfl, hfin⟩

theorem tright_any : ∀ (t : TT) (v : Array Value) (far : Int) (w : World), TVal w w.heap.size v t → 0 ≤ far → far ≤ 1000 →
    Calls Tryz.prog 38 #[.agg v, .int .i64 far] w fun e w' => e = .returned (.bool (trightV t far)) ∧ Below w.heap.size w w' := by
  intro t
  induction t with
  | bad => intro v far w h; cases h
  | mk k c ns m xs ih =>
    intro v far w h h0 h9
    cases h with
    | mk _ A _ ca B _ cb _ _ vs hk hc hm hns hB hxs =>
      have hcx : c ≤ 9223372036854775807 := by have := hc; unfold maxLen at this; omega
      have hmx : m ≤ 9223372036854775807 := by have := hm; unfold maxLen at this; omega
      unfold trightV
      by_cases h1 : 1 ≤ far
      · rw [decide_eq_true h1, Bool.true_and]
        by_cases k5 : k = 5
        · subst k5
          rw [if_pos (.inl rfl)]
          exact tright_5 h1 h9 hmx hB hxs fun i => ih i
        · by_cases k6 : k = 6
          · subst k6
            rw [if_pos (.inr rfl)]
            exact tright_6 h1 h9 hmx hcx hns hB hxs fun i => ih i
          · rw [if_neg (by omega)]
            unfold tplainB
            by_cases kr : 1 ≤ k ∧ k ≤ 7
            · rw [decide_eq_true kr.1, decide_eq_true kr.2, Bool.true_and, Bool.true_and]
              exact tright_plain h1 kr k5 k6
            · have e : (decide (1 ≤ k) && (decide (k ≤ 7) && (decide (m = 0) && decide (c = 0)))) = false := by
                by_cases a : 1 ≤ k
                · rw [decide_eq_false (show ¬ k ≤ 7 from fun h => kr ⟨a, h⟩), Bool.false_and, Bool.and_false]
                · rw [decide_eq_false a, Bool.false_and]
              rw [e]
              exact tright_out h1 kr
      · rw [decide_eq_false h1, Bool.false_and]
        exact tright_far h1
def tokV (t : TT) : Bool := decide (tcntV t 0 ≤ 200) && trightV t 12
theorem TypeRight_any {t : TT} {v : Array Value} {w : World} (hv : TVal w w.heap.size v t) : Calls Tryz.prog 16 #[.agg v] w fun e w' => e = .returned (.bool (tokV t)) ∧ Below w.heap.size w w' := by
  have hbW : Below w.heap.size w (w.alloc (.cells v 25)) := (Below.refl _ _).alloc (Nat.le_refl _) _
  have hvW := (hv.stay hbW).mono hbW.size
  have P := tparts_any hvW
  have R := fun w' (hb : Below (w.alloc (.cells v 25)).heap.size (w.alloc (.cells v 25)) w') => tright_any t v 12 w' ((hvW.stay hb).mono hb.size) (by omega) (by omega)
  obtain ⟨a0, a1, a2, rfl⟩ := hv.three
  have HK := box3_stays (w := w) (a0 := a0) (a1 := a1) (a2 := a2) (t := 25)
  have HR := Lib.hid R
  unfold tokV
  have h2 := tcntV_in t 0 (by omega) (by omega)
  generalize tcntV t 0 = p at *
  generalize trightV t 12 = r at *
  clear hv hvW R
  by_cases hp : p ≤ 200
  · go_enter Tryz.func16, Tryz.ntmps16
    go_wp2_with fail
    refine P.mono ?_
    rintro e w1 ⟨rfl, hb1⟩
    obtain ⟨c0, c1, c2⟩ := HK.out w1 hb1
    have hfin := hbW.trans (hb1.mono hbW.size)
    go_wp2_with (go_at_call 38; refine (HR.out w1 hb1).mono ?_; rintro e w2 ⟨rfl, hb2⟩)
    go_ret
    exact ⟨by rw [decide_eq_true hp, Bool.true_and]; rfl, hfin.trans (hb2.mono hfin.size)⟩
  · go_enter Tryz.func16, Tryz.ntmps16
    go_wp2_with fail
    refine P.mono ?_
    rintro e w1 ⟨rfl, hb1⟩
    have hfin := hbW.trans (hb1.mono hbW.size)
    go_wp2_with fail
    go_ret
    exact ⟨by simp only [decide_eq_false (show ¬ p ≤ 200 by omega), Bool.false_and]; rfl, hfin⟩
end Go.Proofs.YtcmohggnehkjeaaGreat
