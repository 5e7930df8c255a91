/-
  The document's Next.
-/
import Derived.Test.YtcmohggnehkjeaaGreatUh
namespace Go.Proofs.YtcmohggnehkjeaaGreat
open Go.RowKit

/-- What Next finds. -/
inductive Nx
  | range
  | tok (b : Nat) (t : Tk)
  | err (b : Nat) (e : Int)
def nxOf (b : Nat) : Hd → Nx
  | .ok t => .tok b t
  | .err e => .err b e
def nextN (s : ByteArray) (a : Int) : Nx := if a < 0 ∨ (s.size : Int) < a ∨ 2000 < s.size then .range else nxOf (a.toNat + blkN (left s a.toNat)) (headT (left s (a.toNat + blkN (left s a.toNat))))
def zeroT : Array Value := ktokV 0 0 0 0 0 ⟨#[]⟩
def tkV (b : Nat) (t : Tk) : Array Value := ktokV t.k b ((b + t.len : Nat) : Int) t.n t.f (strL t.s)
def refV : Nx → Value
  | .range => .tuple #[.agg zeroT, .int .i64 0, .int .i64 3]
  | .tok b t => .tuple #[.agg (tkV b t), .int .i64 b, .int .i64 0]
  | .err b e => .tuple #[.agg zeroT, .int .i64 b, .int .i64 e]
theorem floT_err {R r : List UInt8} {d : Nat} {e : Int} (h : floT R r d = .err e) : e ≠ 0 := by
  unfold floT at h
  split at h
  · injection h with h; omega
  · split at h
    · cases h
    · rename_i h2; injection h with h; rw [← h]; exact h2
theorem intT_err {d : List UInt8} {e : Int} (h : intT d = .err e) : e ≠ 0 := by
  unfold intT at h
  split at h
  · injection h with h; omega
  · split at h
    · injection h with h; omega
    · cases h
theorem strR_err : ∀ (l : List UInt8) {e : Int}, strR l = .err e → e ≠ 0
  | [], e, h => by
    unfold strR at h
    injection h with h; omega
  | [c], e, h => by
    unfold strR at h
    split at h
    · cases h
    · injection h with h; omega
  | c :: x :: r, e, h => by
    unfold strR at h
    split at h
    · cases h
    · split at h
      · split at h
        · cases hr : strR r with
          | ok l k => rw [hr] at h; cases h
          | err e' => rw [hr] at h; injection h with h; rw [← h]; exact strR_err r hr
        · injection h with h; omega
      · cases hr : strR (x :: r) with
        | ok l k => rw [hr] at h; cases h
        | err e' => rw [hr] at h; injection h with h; rw [← h]; exact strR_err (x :: r) hr
theorem headT_cons (c : UInt8) (R : List UInt8) : headT (c :: R) = if isD c = true then numT (c :: R) else if letB c = true then nameT (c :: R) else if c = 34 then strT (c :: R) else signT (c :: R) c := rfl
theorem numT_err {l : List UInt8} {e : Int} (h : numT l = .err e) : e ≠ 0 := by
  unfold numT at h
  split at h
  · exact floT_err h
  · exact intT_err h
theorem nameT_err {l : List UInt8} {e : Int} (h : nameT l = .err e) : e ≠ 0 := by
  unfold nameT wrdT at h
  split at h
  · cases h
  · split at h
    · injection h with h; omega
    · cases h
theorem strH_err {r : Hs} {e : Int} (h : strH r = .err e) (hr : ∀ y, r = .err y → y ≠ 0) : e ≠ 0 := by
  cases r with
  | ok l k =>
    have h2 : (if 200 < l.length then Hd.err 3 else Hd.ok ⟨4, k + 1, 0, 0, l⟩) = .err e := h
    split at h2
    · injection h2 with h2; omega
    · cases h2
  | err y =>
    have h2 : Hd.err y = .err e := h
    injection h2 with h2
    rw [← h2]; exact hr y rfl
theorem signT_err {l : List UInt8} {c : UInt8} {e : Int} (h : signT l c = .err e) : e ≠ 0 := by
  unfold signT at h
  split at h
  · cases h
  · unfold oneT at h
    split at h
    · cases h
    · injection h with h; omega
theorem headT_err {l : List UInt8} {e : Int} (h : headT l = .err e) : e ≠ 0 := by
  cases l with
  | nil => cases h
  | cons c R =>
    rw [headT_cons] at h
    split at h
    · exact numT_err h
    · split at h
      · exact nameT_err h
      · split at h
        · exact strH_err h (fun y hy => strR_err _ hy)
        · exact signT_err h
/-- Amid Next: the result's box, and the token's. -/
structure NW (w wr : World) (cs : Array Value) : Prop where
  below : Below w.heap.size w wr
  size : w.heap.size + 2 ≤ wr.heap.size
  res : ∃ a0 a1 a2 a3 a4 a5, Bx wr w.heap.size #[a0, a1, a2, a3, a4, a5]
  tok : Bx wr (w.heap.size + 1) cs
theorem NW.start (w : World) (cs : Array Value) : NW w ((w.alloc (.cells zeroT 174)).alloc (.cells cs 174)) cs := by
  have h := Bx.new (w.alloc (.cells zeroT 174)) cs
  rw [show (w.alloc (.cells zeroT 174)).heap.size = w.heap.size + 1 by simp] at h
  exact ⟨((Below.refl _ _).alloc (Nat.le_refl _) _).alloc (by simp) _, by simp, ⟨_, _, _, _, _, _, (Bx.new _ _).alloc _⟩, h⟩
theorem NW.step {w wr w' : World} {cs : Array Value} (h : NW w wr cs) (hb : Below wr.heap.size wr w') : NW w w' cs := by
  obtain ⟨a0, a1, a2, a3, a4, a5, hr⟩ := h.res
  have := h.size
  have := hb.size
  exact ⟨h.below.trans (hb.mono h.below.size), by omega, ⟨a0, a1, a2, a3, a4, a5, hr.below hb (by omega)⟩, h.tok.below hb (by omega)⟩
theorem NW.out6 {w wr : World} {cs : Array Value} (h : NW w wr cs) : ∃ a0 a1 a2 a3 a4 a5, wr.cell? ⟨w.heap.size, 0, none⟩ = some a0 ∧ wr.cell? ⟨w.heap.size, 1, none⟩ = some a1 ∧ wr.cell? ⟨w.heap.size, 2, none⟩ = some a2 ∧ wr.cell? ⟨w.heap.size, 3, none⟩ = some a3 ∧ wr.cell? ⟨w.heap.size, 4, none⟩ = some a4 ∧ wr.cell? ⟨w.heap.size, 5, none⟩ = some a5 ∧ ∀ o, wr.frozen? ⟨w.heap.size, o, none⟩ = false := by
  obtain ⟨a0, a1, a2, a3, a4, a5, hr⟩ := h.res
  obtain ⟨h0, h1, h2, h3, h4, h5, hf⟩ := hr.cells
  exact ⟨a0, a1, a2, a3, a4, a5, h0, h1, h2, h3, h4, h5, hf⟩
theorem results_next {fn : Func} (h : fn.results = #[.cell 4 174, .tmp 5, .tmp 6]) (tmps : Array Value) (w : World) (R : Nat) (a0 a1 a2 a3 a4 a5 : Value) (y z : Value)
    (hp : tmps.getD 4 undef = .pointer (some ⟨R, 0, none⟩)) (h5 : tmps.getD 5 undef = y) (h6 : tmps.getD 6 undef = z) (hg : Bx w R #[a0, a1, a2, a3, a4, a5]) :
    (results fn tmps).run Tryz.prog w = .ok (.tuple #[.agg #[a0, a1, a2, a3, a4, a5], y, z]) w := by
  have hp' : tmps[4]?.getD undef = .pointer (some ⟨R, 0, none⟩) := by simpa using hp
  have h5' : tmps[5]?.getD undef = y := by simpa using h5
  have h6' : tmps[6]?.getD undef = z := by simpa using h6
  simp [results, h, hp', h5', h6', asAddr, run_loadVar_row w R 174 174 #[a0, a1, a2, a3, a4, a5] (0, 0) _ hg Tryz.underlying174 rfl (by rw [info25]; rfl)]
/-- The end: the token's box and the result's are filled alike. -/
theorem six_ends {fn : Func} (hfn : fn.results = #[.cell 4 174, .tmp 5, .tmp 6]) {w wr : World} {cs : Array Value} (h : NW w wr cs) {v0 v1 v2 v3 v4 v5 y z r : Value} {tmps : Array Value}
    (hp : tmps.getD 4 undef = .pointer (some ⟨w.heap.size, 0, none⟩)) (h5 : tmps.getD 5 undef = y) (h6 : tmps.getD 6 undef = z) (hr : r = .tuple #[.agg #[v0, v1, v2, v3, v4, v5], y, z]) :
    bodyPost Tryz.prog fn (fun e w' => e = .returned r ∧ Below w.heap.size w w') Exit.ret ⟨tmps, []⟩ (six wr w.heap.size v0 v1 v2 v3 v4 v5) := by
  obtain ⟨a0, a1, a2, a3, a4, a5, hb⟩ := h.res
  refine bodyPost_ret (results_next hfn _ _ w.heap.size _ _ _ _ _ _ _ _ hp h5 h6 (hb.six v0 v1 v2 v3 v4 v5)) rfl ⟨by rw [hr], below_six h.below (Nat.le_refl _) v0 v1 v2 v3 v4 v5⟩
theorem NW.fill {w wr : World} {cs : Array Value} (h : NW w wr cs) {a0 a1 a2 a3 a4 a5 : Value} (hc : cs = #[a0, a1, a2, a3, a4, a5]) (v0 v1 v2 v3 v4 v5 : Value) : NW w (six wr (w.heap.size + 1) v0 v1 v2 v3 v4 v5) #[v0, v1, v2, v3, v4, v5] := by
  obtain ⟨b0, b1, b2, b3, b4, b5, hb⟩ := h.res
  subst hc
  refine ⟨below_six h.below (by omega) v0 v1 v2 v3 v4 v5, ?_, ⟨b0, b1, b2, b3, b4, b5, ?_⟩, h.tok.six v0 v1 v2 v3 v4 v5⟩
  · have := h.size
    simpa [six, World.setCell] using this
  · exact (((((hb.other (by omega) 0 v0).other (by omega) 1 v1).other (by omega) 2 v2).other (by omega) 3 v3).other (by omega) 4 v4).other (by omega) 5 v5
set_option maxRecDepth 20000 in
set_option maxHeartbeats 4000000 in
theorem Next_range {s : ByteArray} {a : Int} (h : a < 0 ∨ (s.size : Int) < a ∨ 2000 < s.size) (w : World) : Calls Tryz.prog 141 #[.string s, .int .i64 a] w fun e w' => e = .returned (refV .range) ∧ Below w.heap.size w w' := by
  have SF := float_store
  have hb : Below w.heap.size w (w.alloc (.cells #[.int .i64 0, .int .i64 0, .int .i64 0, .int .i64 0, .float .f64 0, .string ⟨#[]⟩] 174)) := (Below.refl _ _).alloc (Nat.le_refl _) _
  have hx := Bx.new w #[.int .i64 0, .int .i64 0, .int .i64 0, .int .i64 0, .float .f64 0, .string ⟨#[]⟩]
  have HB := Lib.hid hb
  have HX := Lib.hid hx
  clear hb hx
  unfold refV zeroT ktokV
  by_cases h1 : a < 0
  · clear h
    go_enter Tryz.func141, Tryz.ntmps141
    go_wp2_with fail
    exact bodyPost_ret (results_next rfl _ _ w.heap.size _ _ _ _ _ _ _ _ rfl rfl rfl HX.out) rfl ⟨rfl, HB.out⟩
  · by_cases h2 : (s.size : Int) < a
    · clear h
      go_enter Tryz.func141, Tryz.ntmps141
      go_wp2_with fail
      exact bodyPost_ret (results_next rfl _ _ w.heap.size _ _ _ _ _ _ _ _ rfl rfl rfl HX.out) rfl ⟨rfl, HB.out⟩
    · have h3 : 2000 < s.size := by omega
      clear h
      go_enter Tryz.func141, Tryz.ntmps141
      go_wp2_with fail
      exact bodyPost_ret (results_next rfl _ _ w.heap.size _ _ _ _ _ _ _ _ rfl rfl rfl HX.out) rfl ⟨rfl, HB.out⟩
end Go.Proofs.YtcmohggnehkjeaaGreat
