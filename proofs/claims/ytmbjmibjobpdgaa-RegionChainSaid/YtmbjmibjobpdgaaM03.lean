/-
  A value that came in, opened: the tree that it is.
  Types as they lie in memory: a tree, and what a world holds of it.
  A type that came in, opened: the tree that it is; and read again behind the call.
  A value that came in, opened, and read again behind the call.
-/
import Derived.Test.YtmbjmibjobpdgaaM01
namespace Go.Proofs.Ytmbjmibjobpdgaa
open Go.ChangeShapes Go.WideShapes Go.ChangeAt Go.RowKit

theorem own : ownKnob Try.prog.godebug = none := by kernel_rfl
theorem laidOut : laidOutB Try.prog = true := by kernel_rfl
theorem cells9 : Try.prog.cellsOf 9 = 1 := by kernel_rfl
theorem add_plain (g o k : Nat) : (⟨g, o, none⟩ : Addr).add k = ⟨g, o + k, none⟩ := by
  unfold Addr.add
  split
  · rename_i h; subst h; rfl
  · rfl

section
variable {H : Type} {enc : TypeId × Value → H} {w : World} {base : Nat} {spare : Nat → Bool} {held : Bool}
set_option maxRecDepth 20000 in
theorem trod_float {fuel : Nat} {cs : List Value} {x : DataW H × List MemPlace} (h : DataW.trod enc Try.prog w base spare held fuel 50 cs = some x) : ∃ b, cs = [.float .f64 b] ∧ (Lit.float .f64 b).wf = true := by
  cases fuel with
  | zero => simp [DataW.trod] at h
  | succ n =>
    unfold DataW.trod at h
    rw [Try.underlying50] at h
    split at h <;> simp_all
/-- A list of strings that came in. -/
theorem open_strs {W : World} {fuel : Nat} {cs : List Value} {x : DataW H × List MemPlace} (h : DataW.trod enc Try.prog W 0 (fun _ => true) held fuel 51 cs = some x) (hlt : ∀ p ∈ x.2, p.block < W.heap.size) :
    ∃ A c ca ns, cs = [.slice A c ca] ∧ c ≤ ca ∧ ca ≤ maxLen ∧ Strs W W.heap.size A c ns := by
  rcases Go.Deep.open_slice1 Try.underlying51 cells9 h with ⟨rfl, _⟩ | ⟨a, len, cap, m, n, V, D, Pl, rfl, _, hl, hc, hm, hx, hi⟩
  · exact ⟨none, 0, 0, fun _ => ⟨#[]⟩, rfl, Nat.le_refl _, Nat.zero_le _, fun h => absurd h (Nat.lt_irrefl 0)⟩
  · simp only [if_true] at hm
    subst hm
    have each : ∀ i, i < m → ∃ s : ByteArray, W.cell? (a.add i) = some (.string s) ∧ s.size ≤ maxLen := by
      intro i him
      obtain ⟨h1, h2⟩ := hi i him
      obtain ⟨s, hs, _, hz⟩ := DataW.trod_string Try.underlying9 h2
      exact ⟨s, by rw [h1]; simpa using hs, hz⟩
    let f : Nat → ByteArray := fun i => if h : i < m then (each i h).choose else ⟨#[]⟩
    refine ⟨some a, len, m, f, rfl, hl, hc, fun hpos => ?_⟩
    have hspec : ∀ i, i < len → W.cell? (a.add i) = some (.string (f i)) ∧ (f i).size ≤ maxLen := by
      intro i hil
      have him : i < m := by omega
      simp only [f, dif_pos him]
      exact (each i him).choose_spec
    obtain ⟨g, off, spot⟩ := a
    have hspot : spot = none := by simpa [Addr.add] using World.cell?_spot (hspec 0 hpos).1
    subst hspot
    refine ⟨g, off, rfl, hlt (.cell g off) ?_, fun i hil => ?_⟩
    · rw [hx]
      exact List.mem_append_left _ (MemPlace.mem_row.2 ⟨0, by omega, by simp⟩)
    · have := hspec i hil
      rw [add_plain] at this
      exact this

set_option maxRecDepth 20000 in
theorem open_tree {W : World} : ∀ (fuel : Nat) (cs : List Value) (x : DataW H × List MemPlace), DataW.trod enc Try.prog W 0 (fun _ => true) held fuel 54 cs = some x → (∀ p ∈ x.2, p.block < W.heap.size) →
    ∃ t, Val W W.heap.size cs.toArray t := by
  intro fuel
  induction fuel using Nat.strongRecOn with
  | ind fuel ih =>
    intro cs x h hlt
    obtain ⟨xs, n, hfu, hx, hl, hlen, hf⟩ := DataW.trod_struct Try.underlying54 h
    subst hfu
    rw [cells26] at hl
    match cs, hl with
    | [v0, v1, v2, v3, v4, v5], _ =>
      have f0 := hf 0 _ rfl
      have f1 := hf 1 _ rfl
      have f2 := hf 2 _ rfl
      have f3 := hf 3 _ rfl
      have f4 := hf 4 _ rfl
      have f5 := hf 5 _ rfl
      match xs, hlen with
      | [x0, x1, x2, x3, x4, x5], _ =>
        have e0 : DataW.trod enc Try.prog W 0 (fun _ => true) held n 3 [v0] = some x0 := f0
        have e1 : DataW.trod enc Try.prog W 0 (fun _ => true) held n 2 [v1] = some x1 := f1
        have e2 : DataW.trod enc Try.prog W 0 (fun _ => true) held n 50 [v2] = some x2 := f2
        have e3 : DataW.trod enc Try.prog W 0 (fun _ => true) held n 9 [v3] = some x3 := f3
        have e4 : DataW.trod enc Try.prog W 0 (fun _ => true) held n 51 [v4] = some x4 := f4
        have e5 : DataW.trod enc Try.prog W 0 (fun _ => true) held n 52 [v5] = some x5 := f5
        clear hf f0 f1 f2 f3 f4 f5
        obtain ⟨k, h0, _, w0⟩ := DataW.trod_int Try.underlying3 e0
        obtain ⟨n', h1, _, w1⟩ := DataW.trod_int Try.underlying2 e1
        obtain ⟨f, h2, w2⟩ := trod_float e2
        obtain ⟨s, h3, _, w3⟩ := DataW.trod_string Try.underlying9 e3
        have hlt4 : ∀ p ∈ x4.2, p.block < W.heap.size := fun p hp => hlt p (by rw [hx]; simp [hp])
        have hlt5 : ∀ p ∈ x5.2, p.block < W.heap.size := fun p hp => hlt p (by rw [hx]; simp [hp])
        obtain ⟨A, c, ca, ns, h4, hc1, hc2, hstr⟩ := open_strs e4 hlt4
        have g0 : v0 = .int .i64 k := by simpa using h0
        have g1 : v1 = .int .i64 n' := by simpa using h1
        have g2 : v2 = .float .f64 f := by simpa using h2
        have g3 : v3 = .string s := by simpa using h3
        have g4 : v4 = .slice A c ca := by simpa using h4
        subst g0 g1 g2 g3 g4
        have b0 : -9223372036854775808 ≤ k ∧ k ≤ 9223372036854775807 := by simpa [Lit.wf, IntKind.min, IntKind.max, IntKind.signed, IntKind.bits] using w0
        have b1 : -9223372036854775808 ≤ n' ∧ n' ≤ 9223372036854775807 := by simpa [Lit.wf, IntKind.min, IntKind.max, IntKind.signed, IntKind.bits] using w1
        have b2 : f < 18446744073709551616 := by simpa [Lit.wf] using w2
        rcases DataW.trod_slice Try.underlying52 e5 with ⟨h5, _⟩ | ⟨a, len, cap, elems, rest, n2, hn2, h5, hx5, _, hm1, hm2, hel, hat, _, _⟩
        · have g5 : v5 = .slice none 0 0 := by simpa using h5
          subst g5
          exact ⟨_, .mk k n' f s A c ca none 0 0 ns (fun _ => .bad) (fun _ => #[]) b0 b1 b2 w3 ⟨hc1, hc2⟩ ⟨Nat.le_refl _, Nat.zero_le _⟩ hstr (fun h => absurd h (Nat.lt_irrefl 0)) (fun i h => absurd h (by omega))⟩
        · have g5 : v5 = .slice (some a) len cap := by simpa using h5
          subst g5
          subst hn2
          rw [cells26] at hat
          have each : ∀ i, i < len → ∃ cs', W.cells? 0 (a.add (i * 6)) 6 = some cs' ∧ ∃ t, Val W W.heap.size cs'.toArray t := by
            intro i hi
            have h6 := hat i hi
            have hlti : i < elems.length := by omega
            rw [List.getElem?_eq_getElem hlti] at h6
            obtain ⟨cs', hc6, ht6⟩ := Option.bind_eq_some_iff.1 h6
            refine ⟨cs', hc6, ih n2 (by omega) cs' _ ht6 (fun p hp => hlt5 p ?_)⟩
            rw [hx5]
            refine List.mem_append_right _ (List.mem_flatMap.2 ⟨elems[i], List.mem_append_left _ (List.getElem_mem hlti), hp⟩)
          let vs : Nat → Array Value := fun i => if h : i < len then (each i h).choose.toArray else #[]
          let xs' : Nat → VT := fun i => if h : i < len then (each i h).choose_spec.2.choose else .bad
          have hvs : ∀ i (h : i < len), vs i = (each i h).choose.toArray := fun i h => dif_pos h
          have hxs : ∀ i (h : i < len), xs' i = (each i h).choose_spec.2.choose := fun i h => dif_pos h
          refine ⟨_, .mk k n' f s A c ca (some a) len cap ns xs' vs b0 b1 b2 w3 ⟨hc1, hc2⟩ ⟨hm1, hm2⟩ hstr (fun hpos => ?_) (fun i hi => ?_)⟩
          · have hat0 : ∀ i, i < len → ∀ j, j < 6 → W.cell? ((a.add (i * 6)).add j) = (vs i)[j]? := by
              intro i hi j hj
              obtain ⟨_, hln, hc7⟩ := World.cells?_some (each i hi).choose_spec.1
              rw [hvs i hi]
              have := hc7 j (by omega)
              rw [this]
              simp
            obtain ⟨g, off, spot⟩ := a
            have h00 := hat0 0 hpos 0 (by omega)
            have hsz : ∃ u, (vs 0)[0]? = some u := by
              obtain ⟨_, hln, _⟩ := World.cells?_some (each 0 hpos).choose_spec.1
              rw [hvs 0 hpos]
              exact ⟨_, Array.getElem?_eq_getElem (by simp [hln])⟩
            obtain ⟨u, hu⟩ := hsz
            rw [hu] at h00
            have hspot : spot = none := by simpa [Addr.add] using World.cell?_spot h00
            subst hspot
            refine ⟨g, off, rfl, hlt5 (.cell g off) ?_, fun i hi j hj => ?_⟩
            · rw [hx5]
              exact List.mem_append_left _ (MemPlace.mem_row.2 ⟨0, by rw [cells26]; omega, by simp⟩)
            · have := hat0 i hi j hj
              rwa [add_plain, add_plain] at this
          · rw [hvs i hi, hxs i hi]
            exact (each i hi).choose_spec.2.choose_spec
end
end Go.Proofs.Ytmbjmibjobpdgaa
namespace Go.Proofs.Ytmbjmibjobpdgaa
open Go.RowKit

/-- A type: its kind, its names, and 'm' items. -/
inductive TT
  | bad
  | mk (k : Int) (c : Nat) (ns : Nat → ByteArray) (m : Nat) (xs : Nat → TT)
def tfields (k : Int) (A : Option Addr) (c ca : Nat) (B : Option Addr) (m cb : Nat) : Array Value := #[.int .i64 k, .slice A c ca, .slice B m cb]
def ThreeAt (w : World) (g o : Nat) (cs : Array Value) : Prop := ∀ j, j < 3 → w.cell? ⟨g, o + j, none⟩ = cs[j]?
/-- A type by value is this tree. -/
inductive TVal (w : World) (lim : Nat) : Array Value → TT → Prop
  | mk (k : Int) (A : Option Addr) (c ca : Nat) (B : Option Addr) (m cb : Nat) (ns : Nat → ByteArray) (xs : Nat → TT) (vs : Nat → Array Value)
      (hk : -9223372036854775808 ≤ k ∧ k ≤ 9223372036854775807) (hc : c ≤ ca ∧ ca ≤ maxLen) (hm : m ≤ cb ∧ cb ≤ maxLen)
      (hns : Strs w lim A c ns)
      (hB : 0 < m → ∃ g o, B = some ⟨g, o, none⟩ ∧ g < lim ∧ ∀ i, i < m → ThreeAt w g (o + i * 3) (vs i))
      (hxs : ∀ i, i < m → TVal w lim (vs i) (xs i)) :
      TVal w lim (tfields k A c ca B m cb) (.mk k c ns m xs)

theorem TVal.keep {w w' : World} {lim : Nat} {v : Array Value} {t : TT} (h : TVal w lim v t) (hw : ∀ g o, g < lim → w'.cell? ⟨g, o, none⟩ = w.cell? ⟨g, o, none⟩) : TVal w' lim v t := by
  induction h with
  | mk k A c ca B m cb ns xs vs hk hc hm hns hB hxs ih =>
    refine .mk k A c ca B m cb ns xs vs hk hc hm (fun h0 => ?_) (fun h0 => ?_) (fun i hi => ih i hi)
    · obtain ⟨g, o, e, hg, hx⟩ := hns h0
      exact ⟨g, o, e, hg, fun i hi => ⟨(hw _ _ hg).trans (hx i hi).1, (hx i hi).2⟩⟩
    · obtain ⟨g, o, e, hg, hx⟩ := hB h0
      exact ⟨g, o, e, hg, fun i hi j hj => (hw _ _ hg).trans (hx i hi j hj)⟩
theorem TVal.stay {w w' : World} {lim : Nat} {v : Array Value} {t : TT} (h : TVal w lim v t) (hb : Below lim w w') : TVal w' lim v t :=
  h.keep fun g o hg => hb.cell (p := ⟨g, o, none⟩) hg
theorem TVal.mono {w : World} {lim lim' : Nat} {v : Array Value} {t : TT} (h : TVal w lim v t) (hl : lim ≤ lim') : TVal w lim' v t := by
  induction h with
  | mk k A c ca B m cb ns xs vs hk hc hm hns hB hxs ih =>
    refine .mk k A c ca B m cb ns xs vs hk hc hm (fun h0 => ?_) (fun h0 => ?_) (fun i hi => ih i hi)
    · obtain ⟨g, o, e, hg, hx⟩ := hns h0
      exact ⟨g, o, e, by omega, hx⟩
    · obtain ⟨g, o, e, hg, hx⟩ := hB h0
      exact ⟨g, o, e, by omega, hx⟩
theorem TVal.three {w : World} {lim : Nat} {v : Array Value} {t : TT} (h : TVal w lim v t) : ∃ a0 a1 a2, v = #[a0, a1, a2] := by
  cases h; exact ⟨_, _, _, rfl⟩
theorem ThreeAt.cells {w : World} {g o : Nat} {a0 a1 a2 : Value} (h : ThreeAt w g o #[a0, a1, a2]) :
    w.cell? ⟨g, o, none⟩ = some a0 ∧ w.cell? ⟨g, o + 1, none⟩ = some a1 ∧ w.cell? ⟨g, o + 2, none⟩ = some a2 := ⟨h 0 (by omega), h 1 (by omega), h 2 (by omega)⟩
theorem ThreeAt.keep {w w' : World} {g o : Nat} {v : Array Value} (h : ThreeAt w g o v) (hw : ∀ o, w'.cell? ⟨g, o, none⟩ = w.cell? ⟨g, o, none⟩) : ThreeAt w' g o v := fun j hj => (hw _).trans (h j hj)
theorem cells39 : Try.prog.cellsOf 62 = 3 := by kernel_rfl

def tcntV : TT → Int → Int
  | .bad, _ => 0
  | .mk _ _ _ m xs, n => min (cntGo (fun i n => tcntV (xs i) n) m 0 (n + 1)) 500

theorem tcntV_in : ∀ (t : TT) (n : Int), 0 ≤ n → n < 500 → 0 ≤ tcntV t n ∧ tcntV t n ≤ 500 := by
  intro t
  induction t with
  | bad => intro n _ _; exact ⟨Int.le_refl _, by show (0 : Int) ≤ 500; omega⟩
  | mk k c ns m xs ih =>
    intro n h0 h5
    have := cntGo_in (fun i n => tcntV (xs i) n) (fun i n a b => ih i n a b) m 0 (n + 1) (by omega) (by omega)
    unfold tcntV
    omega
set_option maxHeartbeats 1000000 in
theorem tcount_any : ∀ (t : TT) (v : Array Value) (n : Int) (w : World), TVal w w.heap.size v t → 0 ≤ n → n < 500 →
    Calls Try.prog 76 #[.agg v, .int .i64 n] w fun e w' => e = .returned (.int .i64 (tcntV t n)) ∧ Below w.heap.size w w' := by
  intro t
  induction t with
  | bad => intro v n w hv; cases hv
  | mk k c ns m xs ih =>
    intro v n w hv h0 h5
    cases hv with
    | mk _ A _ ca B _ cb _ _ vs hk hc hm hns hB hxs =>
      have hmx : m ≤ 9223372036854775807 := by have := hm; unfold maxLen at this; omega
      unfold tfields
      go_enter Try.func76, Try.ntmps76
      go_wp2_with fail
      obtain ⟨W1, hW1⟩ : ∃ W1, W1 = w.alloc (.cells #[.int .i64 k, .slice A c ca, .slice B m cb] 62) := ⟨_, rfl⟩
      have hbW : Below w.heap.size w W1 := by rw [hW1]; exact (Below.refl _ _).alloc (Nat.le_refl _) _
      have hsz : W1.heap.size = w.heap.size + 1 := by rw [hW1]; simp
      have h2c : W1.cell? ⟨w.heap.size, 2, none⟩ = some (.slice B m cb) := by rw [hW1, World.cell?_alloc_new]; rfl
      rw [← hW1]
      have HW := Lib.hid (And.intro hW1 hsz)
      have H2 := Lib.hid h2c
      clear hW1 hsz h2c
      go_loopw [1, 5] (fun nv iv wr => ∃ (i : Nat) (q : Int), i ≤ m ∧ iv = .int .i64 i ∧ nv = .int .i64 q ∧ 0 ≤ q ∧ q ≤ 500 ∧ Hid (cntGo (fun i n => tcntV (xs i) n) (m - i) i q = cntGo (fun i n => tcntV (xs i) n) m 0 (n + 1)) ∧ Below W1.heap.size W1 wr) (fun _ iv _ => m - (intOf iv).toNat)
      case atStart => exact ⟨0, n + 1, Nat.zero_le _, rfl, rfl, by omega, by omega, Lib.hid rfl, Below.refl _ _⟩
      case round =>
        obtain ⟨i, q, hi, rfl, rfl, hq0, hq5, hh, hb⟩ := hrel
        have h2r : wr.cell? ⟨w.heap.size, 2, none⟩ = some (.slice B m cb) := (hb.cell (p := ⟨w.heap.size, 2, none⟩) (by have := HW.out.2; simp; omega)).trans H2.out
        by_cases hlt : i < m
        · by_cases hq : q < 500
          · obtain ⟨g, o, rfl, hg, hx⟩ := hB (by omega)
            have hthr := hx i hlt
            have hvi := hxs i hlt
            generalize vs i = vi at *
            have hthrr : ThreeAt wr g (o + i * 3) vi := hthr.keep fun o => (hb.cell (p := ⟨g, o, none⟩) (show g < W1.heap.size by have := HW.out.2; omega)).trans (hbW.cell (p := ⟨g, o, none⟩) hg)
            have hvr : TVal wr wr.heap.size vi (xs i) := ((hvi.stay hbW).mono (by have := HW.out.2; omega)).stay hb |>.mono hb.size
            obtain ⟨a0, a1, a2, rfl⟩ := hvi.three
            obtain ⟨c0, c1, c2⟩ := hthrr.cells
            have hcall := ih i _ q wr hvr hq0 hq
            have HB := Lib.hid hB
            have hin := tcntV_in (xs i) q hq0 hq
            have hh' : Hid (cntGo (fun i n => tcntV (xs i) n) (m - (i + 1)) (i + 1) (tcntV (xs i) q) = cntGo (fun i n => tcntV (xs i) n) m 0 (n + 1)) := Lib.hid (by
              rw [← hh.out, show m - i = (m - (i + 1)) + 1 by omega]
              conv => rhs; unfold cntGo
              rw [if_pos hq])
            generalize tcntV (xs i) q = z at *
            clear hB hx hthr hthrr hvi hvr ih hxs hns hh
            go_wp2_with (go_at_call 76; refine hcall.mono ?_; rintro e w' ⟨rfl, hb'⟩)
            go_roundw
            case rel => exact ⟨i + 1, z, by omega, by go_num, rfl, hin.1, hin.2, hh', hb.trans (hb'.mono hb.size)⟩
            case measure => simp [intOf]; omega
          · have R : Hid (tcntV (.mk k c ns m xs) n = q) := Lib.hid (by
              have e : cntGo (fun i n => tcntV (xs i) n) m 0 (n + 1) = q := by
                rw [← hh.out, show m - i = (m - (i + 1)) + 1 by omega]
                unfold cntGo
                rw [if_neg hq]
              unfold tcntV
              rw [e]; omega)
            have hfin : Below w.heap.size w wr := hbW.trans (hb.mono (by have := HW.out.2; omega))
            clear hh hns hB hxs ih
            go_wp2_with fail
            go_ret
            exact ⟨by rw [R.out]; rfl, hfin⟩
        · have R : Hid (tcntV (.mk k c ns m xs) n = q) := Lib.hid (by
            have e : cntGo (fun i n => tcntV (xs i) n) m 0 (n + 1) = q := by
              rw [← hh.out, show m - i = 0 by omega]
              rfl
            unfold tcntV
            rw [e]; omega)
          have hfin : Below w.heap.size w wr := hbW.trans (hb.mono (by have := HW.out.2; omega))
          clear hh hns hB hxs ih
          go_wp2_with fail
          go_ret
          exact ⟨by rw [R.out]; rfl, hfin⟩
end Go.Proofs.Ytmbjmibjobpdgaa
namespace Go.Proofs.Ytmbjmibjobpdgaa
open Go.ChangeShapes Go.WideShapes Go.ChangeAt Go.RowKit

section
variable {H : Type} {enc : TypeId × Value → H} {w : World} {base : Nat} {spare : Nat → Bool} {held : Bool}
set_option maxRecDepth 20000 in
theorem open_ttree {W : World} : ∀ (fuel : Nat) (cs : List Value) (x : DataW H × List MemPlace), DataW.trod enc Try.prog W 0 (fun _ => true) held fuel 62 cs = some x → (∀ p ∈ x.2, p.block < W.heap.size) →
    ∃ t, TVal W W.heap.size cs.toArray t := by
  intro fuel
  induction fuel using Nat.strongRecOn with
  | ind fuel ih =>
    intro cs x h hlt
    obtain ⟨xs, n, hfu, hx, hl, hlen, hf⟩ := DataW.trod_struct Try.underlying62 h
    subst hfu
    rw [cells39] at hl
    match cs, hl with
    | [v0, v4, v5], _ =>
      have f0 := hf 0 _ rfl
      have f4 := hf 1 _ rfl
      have f5 := hf 2 _ rfl
      match xs, hlen with
      | [x0, x4, x5], _ =>
        have e0 : DataW.trod enc Try.prog W 0 (fun _ => true) held n 3 [v0] = some x0 := f0
        have e4 : DataW.trod enc Try.prog W 0 (fun _ => true) held n 51 [v4] = some x4 := f4
        have e5 : DataW.trod enc Try.prog W 0 (fun _ => true) held n 60 [v5] = some x5 := f5
        clear hf f0 f4 f5
        obtain ⟨k, h0, _, w0⟩ := DataW.trod_int Try.underlying3 e0
        have hlt4 : ∀ p ∈ x4.2, p.block < W.heap.size := fun p hp => hlt p (by rw [hx]; simp [hp])
        have hlt5 : ∀ p ∈ x5.2, p.block < W.heap.size := fun p hp => hlt p (by rw [hx]; simp [hp])
        obtain ⟨A, c, ca, ns, h4, hc1, hc2, hstr⟩ := open_strs e4 hlt4
        have g0 : v0 = .int .i64 k := by simpa using h0
        have g4 : v4 = .slice A c ca := by simpa using h4
        subst g0 g4
        have b0 : -9223372036854775808 ≤ k ∧ k ≤ 9223372036854775807 := by simpa [Lit.wf, IntKind.min, IntKind.max, IntKind.signed, IntKind.bits] using w0
        rcases DataW.trod_slice Try.underlying60 e5 with ⟨h5, _⟩ | ⟨a, len, cap, elems, rest, n2, hn2, h5, hx5, _, hm1, hm2, hel, hat, _, _⟩
        · have g5 : v5 = .slice none 0 0 := by simpa using h5
          subst g5
          exact ⟨_, .mk k A c ca none 0 0 ns (fun _ => .bad) (fun _ => #[]) b0 ⟨hc1, hc2⟩ ⟨Nat.le_refl _, Nat.zero_le _⟩ hstr (fun h => absurd h (Nat.lt_irrefl 0)) (fun i h => absurd h (by omega))⟩
        · have g5 : v5 = .slice (some a) len cap := by simpa using h5
          subst g5
          subst hn2
          rw [cells39] at hat
          have each : ∀ i, i < len → ∃ cs', W.cells? 0 (a.add (i * 3)) 3 = some cs' ∧ ∃ t, TVal W W.heap.size cs'.toArray t := by
            intro i hi
            have h6 := hat i hi
            have hlti : i < elems.length := by omega
            rw [List.getElem?_eq_getElem hlti] at h6
            obtain ⟨cs', hc6, ht6⟩ := Option.bind_eq_some_iff.1 h6
            refine ⟨cs', hc6, ih n2 (by omega) cs' _ ht6 (fun p hp => hlt5 p ?_)⟩
            rw [hx5]
            refine List.mem_append_right _ (List.mem_flatMap.2 ⟨elems[i], List.mem_append_left _ (List.getElem_mem hlti), hp⟩)
          let vs : Nat → Array Value := fun i => if h : i < len then (each i h).choose.toArray else #[]
          let xs' : Nat → TT := fun i => if h : i < len then (each i h).choose_spec.2.choose else .bad
          have hvs : ∀ i (h : i < len), vs i = (each i h).choose.toArray := fun i h => dif_pos h
          have hxs : ∀ i (h : i < len), xs' i = (each i h).choose_spec.2.choose := fun i h => dif_pos h
          refine ⟨_, .mk k A c ca (some a) len cap ns xs' vs b0 ⟨hc1, hc2⟩ ⟨hm1, hm2⟩ hstr (fun hpos => ?_) (fun i hi => ?_)⟩
          · have hat0 : ∀ i, i < len → ∀ j, j < 3 → W.cell? ((a.add (i * 3)).add j) = (vs i)[j]? := by
              intro i hi j hj
              obtain ⟨_, hln, hc7⟩ := World.cells?_some (each i hi).choose_spec.1
              rw [hvs i hi]
              have := hc7 j (by omega)
              rw [this]
              simp
            obtain ⟨g, off, spot⟩ := a
            have h00 := hat0 0 hpos 0 (by omega)
            have hsz : ∃ u, (vs 0)[0]? = some u := by
              obtain ⟨_, hln, _⟩ := World.cells?_some (each 0 hpos).choose_spec.1
              rw [hvs 0 hpos]
              exact ⟨_, Array.getElem?_eq_getElem (by simp [hln])⟩
            obtain ⟨u, hu⟩ := hsz
            rw [hu] at h00
            have hspot : spot = none := by simpa [Addr.add] using World.cell?_spot h00
            subst hspot
            refine ⟨g, off, rfl, hlt5 (.cell g off) ?_, fun i hi j hj => ?_⟩
            · rw [hx5]
              exact List.mem_append_left _ (MemPlace.mem_row.2 ⟨0, by rw [cells39]; omega, by simp⟩)
            · have := hat0 i hi j hj
              rwa [add_plain, add_plain] at this
          · rw [hvs i hi, hxs i hi]
            exact (each i hi).choose_spec.2.choose_spec
set_option maxRecDepth 20000 in
theorem open_typ {W : World} {base : Nat} {v : Value} {d : DataW H} {ps : List MemPlace} (ho : Value.okWide Try.prog W .any base 62 v) (h : DataW.Trod enc Try.prog W 0 (fun _ => true) true 62 v d ps) (hlt : ∀ x ∈ ps, x.block < W.heap.size) :
    ∃ a t, v = .agg a ∧ TVal W W.heap.size a t := by
  obtain ⟨fuel, hf⟩ := h
  obtain ⟨a, rfl, _⟩ := okWide_struct Try.underlying62 ho
  obtain ⟨t, ht⟩ := open_ttree fuel a.toList _ hf hlt
  exact ⟨a, t, rfl, by simpa using ht⟩
/-- It reads behind the call as it read before. -/
theorem stays_typ {W W' : World} {v : Value} {d : DataW H} {ps : List MemPlace} (h : DataW.Trod enc Try.prog W 0 (fun _ => true) true 62 v d ps) (hb : Below W.heap.size W W') (hlt : ∀ x ∈ ps, x.block < W.heap.size) :
    DataW.Trod enc Try.prog W' 0 (fun b => decide (b < W.heap.size)) true 62 v d ps :=
  Below.trod laidOut (by kernel_rfl) (of_decide_eq_true (by kernel_rfl)) h hb hlt
end
end Go.Proofs.Ytmbjmibjobpdgaa
namespace Go.Proofs.Ytmbjmibjobpdgaa
open Go.ChangeShapes Go.WideShapes Go.ChangeAt Go.RowKit
section
variable {H : Type} {enc : TypeId × Value → H}
set_option maxRecDepth 20000 in
theorem open_val {W : World} {base : Nat} {v : Value} {d : DataW H} {ps : List MemPlace} (ho : Value.okWide Try.prog W .any base 54 v) (h : DataW.Trod enc Try.prog W 0 (fun _ => true) true 54 v d ps) (hlt : ∀ x ∈ ps, x.block < W.heap.size) :
    ∃ a t, v = .agg a ∧ Val W W.heap.size a t := by
  obtain ⟨fuel, hf⟩ := h
  obtain ⟨a, rfl, _⟩ := okWide_struct Try.underlying54 ho
  obtain ⟨t, ht⟩ := open_tree fuel a.toList _ hf hlt
  exact ⟨a, t, rfl, by simpa using ht⟩
/-- It reads behind the call as it read before. -/
theorem stays_val {W W' : World} {v : Value} {d : DataW H} {ps : List MemPlace} (h : DataW.Trod enc Try.prog W 0 (fun _ => true) true 54 v d ps) (hb : Below W.heap.size W W') (hlt : ∀ x ∈ ps, x.block < W.heap.size) :
    DataW.Trod enc Try.prog W' 0 (fun b => decide (b < W.heap.size)) true 54 v d ps :=
  Below.trod laidOut (by kernel_rfl) (of_decide_eq_true (by kernel_rfl)) h hb hlt
end
end Go.Proofs.Ytmbjmibjobpdgaa
