/-
  The document's number: an int, or a float.
-/
import Derived.Test.YtcmohggnehkjeaaGreatUb
namespace Go.Proofs.YtcmohggnehkjeaaGreat
open Go.RowKit

/-- A token's six cells. -/
def ktokV (k a b n : Int) (f : Nat) (s : ByteArray) : Array Value := #[.int .i64 k, .int .i64 a, .int .i64 b, .int .i64 n, .float .f64 f, .string s]
theorem heap_alloc_new (w : World) (o : Obj) : (w.alloc o).heap[w.heap.size]? = some o := by
  unfold World.alloc
  exact Array.getElem?_push_size
def Bx (w : World) (R : Nat) (cs : Array Value) : Prop := w.heap[R]? = some (.cells cs 174 (0, 0))
theorem Bx.new (w : World) (cs : Array Value) : Bx (w.alloc (.cells cs 174)) w.heap.size cs := heap_alloc_new w _
theorem Bx.lt {w : World} {R : Nat} {cs : Array Value} (h : Bx w R cs) : R < w.heap.size := (Array.getElem?_eq_some_iff.1 h).1
theorem Bx.alloc {w : World} {R : Nat} {cs : Array Value} (h : Bx w R cs) (x : Obj) : Bx (w.alloc x) R cs := (Below.heap_alloc _ _ _ h.lt).trans h
theorem Bx.below {B : Nat} {w w' : World} {R : Nat} {cs : Array Value} (h : Bx w R cs) (hp : Below B w w') (hR : R < B) : Bx w' R cs := (hp.block R hR).trans h
theorem Bx.other {w : World} {R : Nat} {cs : Array Value} (h : Bx w R cs) {S : Nat} (hR : S ≠ R) (o : Nat) (v : Value) : Bx (w.setCell ⟨S, o, none⟩ v) R cs := (Below.heap_setCell _ _ _ _ (by simp; omega)).trans h
theorem Bx.set {w : World} {R : Nat} {cs : Array Value} (h : Bx w R cs) (o : Nat) (v : Value) : Bx (w.setCell ⟨R, o, none⟩ v) R (cs.setIfInBounds o v) := by
  unfold Bx at *
  simp [World.setCell, Array.getElem?_modify, h]
theorem Bx.cells {w : World} {R : Nat} {a0 a1 a2 a3 a4 a5 : Value} (h : Bx w R #[a0, a1, a2, a3, a4, a5]) :
    w.cell? ⟨R, 0, none⟩ = some a0 ∧ w.cell? ⟨R, 1, none⟩ = some a1 ∧ w.cell? ⟨R, 2, none⟩ = some a2 ∧ w.cell? ⟨R, 3, none⟩ = some a3 ∧ w.cell? ⟨R, 4, none⟩ = some a4 ∧ w.cell? ⟨R, 5, none⟩ = some a5 ∧ (∀ o, w.frozen? ⟨R, o, none⟩ = false) := by
  unfold Bx at h
  refine ⟨?_, ?_, ?_, ?_, ?_, ?_, fun o => ?_⟩
  all_goals first | (simp [World.cell?, h]; done) | (simp [World.frozen?, h]; done)
/-- A token is laid into its box. -/
def six (w : World) (R : Nat) (v0 v1 v2 v3 v4 v5 : Value) : World := (((((w.setCell ⟨R, 0, none⟩ v0).setCell ⟨R, 1, none⟩ v1).setCell ⟨R, 2, none⟩ v2).setCell ⟨R, 3, none⟩ v3).setCell ⟨R, 4, none⟩ v4).setCell ⟨R, 5, none⟩ v5
theorem Bx.six {w : World} {R : Nat} {a0 a1 a2 a3 a4 a5 : Value} (h : Bx w R #[a0, a1, a2, a3, a4, a5]) (v0 v1 v2 v3 v4 v5 : Value) : Bx (six w R v0 v1 v2 v3 v4 v5) R #[v0, v1, v2, v3, v4, v5] :=
  (((((h.set 0 v0).set 1 v1).set 2 v2).set 3 v3).set 4 v4).set 5 v5
theorem below_six {B : Nat} {a w : World} (h : Below B a w) {R : Nat} (hR : B ≤ R) (v0 v1 v2 v3 v4 v5 : Value) : Below B a (six w R v0 v1 v2 v3 v4 v5) :=
  (((((h.setCell hR _).setCell hR _).setCell hR _).setCell hR _).setCell hR _).setCell hR _
theorem info25 : (Tryz.prog.info? 174).map (·.size) = some 6 := by kernel_rfl
theorem float_store (b : Nat) (a : Addr) (w : World) : (store a (.float .f64 b) .plain).run Tryz.prog w = stored Tryz.prog w a (.float .f64 b) .plain := run_store Tryz.prog w a _ .plain rfl
/-- A token and an error come back: the token out of its box. -/
theorem results_tok {fn : Func} (h : fn.results = #[.cell 4 174, .tmp 5]) (tmps : Array Value) (w : World) (R : Nat) (a0 a1 a2 a3 a4 a5 : Value) (y : Value)
    (hp : tmps.getD 4 undef = .pointer (some ⟨R, 0, none⟩)) (h5 : tmps.getD 5 undef = y) (hg : Bx w R #[a0, a1, a2, a3, a4, a5]) :
    (results fn tmps).run Tryz.prog w = .ok (.tuple #[.agg #[a0, a1, a2, a3, a4, a5], y]) w := by
  have hp' : tmps[4]?.getD undef = .pointer (some ⟨R, 0, none⟩) := by simpa using hp
  have h5' : tmps[5]?.getD undef = y := by simpa using h5
  simp [results, h, hp', h5', asAddr, run_loadVar_row w R 174 174 #[a0, a1, a2, a3, a4, a5] (0, 0) _ hg Tryz.underlying174 rfl (by rw [info25]; rfl)]
/-- What a token's reader answers. -/
def HdEnds (a : Nat) (h : Hd) (w : World) (e : Ending) (w' : World) : Prop :=
  (match h with
    | .ok t => e = .returned (.tuple #[.agg (ktokV t.k a ((a + t.len : Nat) : Int) t.n t.f (strL t.s)), .int .i64 0])
    | .err y => ∃ k i b n f s, e = .returned (.tuple #[.agg (ktokV k i b n f s), .int .i64 y])) ∧ Below w.heap.size w w'
def tok0 (a : Nat) : Array Value := ktokV 1 a a 0 0 ⟨#[]⟩
/-- Amid a reader: the token's box, and the result's. -/
structure RW (w wr : World) (cs : Array Value) : Prop where
  below : Below w.heap.size w wr
  size : w.heap.size + 2 ≤ wr.heap.size
  tok : Bx wr w.heap.size cs
  res : ∃ a0 a1 a2 a3 a4 a5, Bx wr (w.heap.size + 1) #[a0, a1, a2, a3, a4, a5]
theorem RW.start (w : World) (cs : Array Value) : RW w ((w.alloc (.cells cs 174)).alloc (.cells #[.int .i64 0, .int .i64 0, .int .i64 0, .int .i64 0, .float .f64 0, .string ⟨#[]⟩] 174)) cs := by
  have h := Bx.new (w.alloc (.cells cs 174)) #[.int .i64 0, .int .i64 0, .int .i64 0, .int .i64 0, .float .f64 0, .string ⟨#[]⟩]
  rw [show (w.alloc (.cells cs 174)).heap.size = w.heap.size + 1 by simp] at h
  exact ⟨((Below.refl _ _).alloc (Nat.le_refl _) _).alloc (by simp) _, by simp, (Bx.new _ _).alloc _, _, _, _, _, _, _, h⟩
theorem RW.step {w wr w' : World} {cs : Array Value} (h : RW w wr cs) (hb : Below wr.heap.size wr w') : RW w w' cs := by
  obtain ⟨a0, a1, a2, a3, a4, a5, hr⟩ := h.res
  have := h.size
  have := hb.size
  exact ⟨h.below.trans (hb.mono h.below.size), by omega, h.tok.below hb (by omega), a0, a1, a2, a3, a4, a5, hr.below hb (by omega)⟩
theorem RW.set {w wr : World} {cs : Array Value} (h : RW w wr cs) (o : Nat) (v : Value) : RW w (wr.setCell ⟨w.heap.size, o, none⟩ v) (cs.setIfInBounds o v) := by
  obtain ⟨a0, a1, a2, a3, a4, a5, hr⟩ := h.res
  exact ⟨h.below.setCell (Nat.le_refl _) _, by simpa [World.setCell] using h.size, h.tok.set o v, a0, a1, a2, a3, a4, a5, hr.other (by omega) o v⟩
theorem RW.free {w wr : World} {cs : Array Value} (h : RW w wr cs) : ∀ o, wr.frozen? ⟨w.heap.size + 1, o, none⟩ = false := by
  obtain ⟨a0, a1, a2, a3, a4, a5, hr⟩ := h.res
  exact hr.cells.2.2.2.2.2.2
theorem RW.out6 {w wr : World} {cs : Array Value} (h : RW w wr cs) : ∃ a0 a1 a2 a3 a4 a5, wr.cell? ⟨w.heap.size + 1, 0, none⟩ = some a0 ∧ wr.cell? ⟨w.heap.size + 1, 1, none⟩ = some a1 ∧ wr.cell? ⟨w.heap.size + 1, 2, none⟩ = some a2 ∧ wr.cell? ⟨w.heap.size + 1, 3, none⟩ = some a3 ∧ wr.cell? ⟨w.heap.size + 1, 4, none⟩ = some a4 ∧ wr.cell? ⟨w.heap.size + 1, 5, none⟩ = some a5 := by
  obtain ⟨a0, a1, a2, a3, a4, a5, hr⟩ := h.res
  obtain ⟨h0, h1, h2, h3, h4, h5, _⟩ := hr.cells
  exact ⟨a0, a1, a2, a3, a4, a5, h0, h1, h2, h3, h4, h5⟩
theorem RW.done {w wr : World} {cs : Array Value} (h : RW w wr cs) (v0 v1 v2 v3 v4 v5 : Value) : Bx (six wr (w.heap.size + 1) v0 v1 v2 v3 v4 v5) (w.heap.size + 1) #[v0, v1, v2, v3, v4, v5] ∧ Below w.heap.size w (six wr (w.heap.size + 1) v0 v1 v2 v3 v4 v5) := by
  obtain ⟨a0, a1, a2, a3, a4, a5, hr⟩ := h.res
  exact ⟨hr.six v0 v1 v2 v3 v4 v5, below_six h.below (by simp) v0 v1 v2 v3 v4 v5⟩
theorem RW.bad {fn : Func} (hfn : fn.results = #[.cell 4 174, .tmp 5]) {w wr : World} {cs : Array Value} (h : RW w wr cs) {k a b n : Int} {f : Nat} {s : ByteArray} {y : Int} {tmps : Array Value} {at_ : Nat}
    (hp : tmps.getD 4 undef = .pointer (some ⟨w.heap.size + 1, 0, none⟩)) (h5 : tmps.getD 5 undef = .int .i64 y) :
    bodyPost Tryz.prog fn (fun e w' => HdEnds at_ (.err y) w e w') Exit.ret ⟨tmps, []⟩ (six wr (w.heap.size + 1) (.int .i64 k) (.int .i64 a) (.int .i64 b) (.int .i64 n) (.float .f64 f) (.string s)) := by
  obtain ⟨h1, h2⟩ := h.done (.int .i64 k) (.int .i64 a) (.int .i64 b) (.int .i64 n) (.float .f64 f) (.string s)
  exact bodyPost_ret (results_tok hfn _ _ (w.heap.size + 1) _ _ _ _ _ _ _ hp h5 h1) rfl ⟨⟨k, a, b, n, f, s, rfl⟩, h2⟩
theorem RW.good {fn : Func} (hfn : fn.results = #[.cell 4 174, .tmp 5]) {w wr : World} {cs : Array Value} (h : RW w wr cs) {b n : Int} {s : ByteArray} {t : Tk} {tmps : Array Value} {at_ : Nat}
    (hp : tmps.getD 4 undef = .pointer (some ⟨w.heap.size + 1, 0, none⟩)) (h5 : tmps.getD 5 undef = .int .i64 0) (hb : b = ((at_ + t.len : Nat) : Int)) (hn : n = (t.n : Int)) (hs : s = strL t.s) :
    bodyPost Tryz.prog fn (fun e w' => HdEnds at_ (.ok t) w e w') Exit.ret ⟨tmps, []⟩ (six wr (w.heap.size + 1) (.int .i64 t.k) (.int .i64 at_) (.int .i64 b) (.int .i64 n) (.float .f64 t.f) (.string s)) := by
  subst hb hn hs
  obtain ⟨h1, h2⟩ := h.done (.int .i64 t.k) (.int .i64 at_) (.int .i64 ((at_ + t.len : Nat) : Int)) (.int .i64 t.n) (.float .f64 t.f) (.string (strL t.s))
  exact bodyPost_ret (results_tok hfn _ _ (w.heap.size + 1) _ _ _ _ _ _ _ hp h5 h1) rfl ⟨rfl, h2⟩
end Go.Proofs.YtcmohggnehkjeaaGreat
