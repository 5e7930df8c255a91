/-
  The world amid rise.
-/
import Derived.Test.YtmnbalmihehodaaUp
namespace Go.Proofs.Ytmnbalmihehodaa
open Go.RowKit

/-- labels in block gl, first in gf, next in gn, left in ge, the stack in blocks from Bo on. -/
structure RW (w0 wr : World) (Bx gl gf gn ge Bo m len : Nat) (p c ce : Nat → Int) (v : Value) (st : List Nat) : Prop where
  o0 : Bx ≤ gl
  o1 : gl < gf
  o2 : gf < gn
  o3 : gn < ge
  o4 : ge < Bo
  sz : Bo ≤ wr.heap.size
  lab : IB wr gl m c
  fst : IB wr gf m (foF p len)
  nxt : IB wr gn len (foN p len)
  lft : IB wr ge m ce
  own : wr.ownsRow Bo 3 1 v st.length (intsOf st)
  below : Below Bx w0 wr

theorem below_drewN {B : Nat} {w0 w : World} (h : Below B w0 w) (k : Nat) : Below B w0 (w.drewN k) := ⟨h.os, h.tape, h.output, h.size, h.block⟩

section
variable {w0 wr w' : World} {Bx gl gf gn ge Bo m len : Nat} {p c ce : Nat → Int} {v : Value} {st : List Nat}

theorem RW.drewN (h : RW w0 wr Bx gl gf gn ge Bo m len p c ce v st) (k : Nat) : RW w0 (wr.drewN k) Bx gl gf gn ge Bo m len p c ce v st :=
  ⟨h.o0, h.o1, h.o2, h.o3, h.o4, h.sz, h.lab, h.fst, h.nxt, h.lft, h.own, below_drewN h.below k⟩
theorem RW.drew (h : RW w0 wr Bx gl gf gn ge Bo m len p c ce v st) : RW w0 wr.drew Bx gl gf gn ge Bo m len p c ce v st :=
  ⟨h.o0, h.o1, h.o2, h.o3, h.o4, h.sz, h.lab, h.fst, h.nxt, h.lft, h.own, h.below.drew⟩
theorem RW.keep (h : RW w0 wr Bx gl gf gn ge Bo m len p c ce v st) (hb : Below wr.heap.size wr w') : RW w0 w' Bx gl gf gn ge Bo m len p c ce v st :=
  ⟨h.o0, h.o1, h.o2, h.o3, h.o4, Nat.le_trans h.sz hb.size, h.lab.keep hb, h.fst.keep hb, h.nxt.keep hb, h.lft.keep hb, own_below h.own hb,
    h.below.trans (hb.mono (by have := h.o0; have := h.lab.lt; omega))⟩
theorem RW.setLeft (h : RW w0 wr Bx gl gf gn ge Bo m len p c ce v st) (x : Nat) (z : Int) : RW w0 (wr.setCell ⟨ge, x, none⟩ (.int .i64 z)) Bx gl gf gn ge Bo m len p c (updI ce x z) v st := by
  have h0 := h.o0; have h1 := h.o1; have h2 := h.o2; have h3 := h.o3
  exact ⟨h.o0, h.o1, h.o2, h.o3, h.o4, by simpa [World.setCell] using h.sz, h.lab.far (by show gl ≠ ge; omega) _, h.fst.far (by show gf ≠ ge; omega) _, h.nxt.far (by show gn ≠ ge; omega) _, h.lft.set _ _,
    ownsRow_setCell_below h.own h.o4 _, h.below.setCell (by show Bx ≤ ge; omega) _⟩
theorem RW.setLab (h : RW w0 wr Bx gl gf gn ge Bo m len p c ce v st) (x : Nat) (z : Int) : RW w0 (wr.setCell ⟨gl, x, none⟩ (.int .i64 z)) Bx gl gf gn ge Bo m len p (updI c x z) ce v st := by
  have h0 := h.o0; have h1 := h.o1; have h2 := h.o2; have h3 := h.o3; have h4 := h.o4
  exact ⟨h.o0, h.o1, h.o2, h.o3, h.o4, by simpa [World.setCell] using h.sz, h.lab.set _ _, h.fst.far (by show gf ≠ gl; omega) _, h.nxt.far (by show gn ≠ gl; omega) _, h.lft.far (by show ge ≠ gl; omega) _,
    ownsRow_setCell_below h.own (by show gl < Bo; omega) _, h.below.setCell h0 _⟩
theorem RW.push {o : Obj} {y : Nat} {v' : Value} {w1 : World} (h : RW w0 wr Bx gl gf gn ge Bo m len p c ce v st)
    (hown : w1.ownsRow Bo 3 1 v' (st.length + 1) (intsOf st ++ [.int .i64 (y : Int)])) (hgrow : (wr.alloc o).grownBy w1 v.ownBlock) : RW w0 w1 Bx gl gf gn ge Bo m len p c ce v' (st ++ [y]) := by
  have h0 := h.o0; have h1 := h.o1; have h2 := h.o2; have h3 := h.o3; have h4 := h.o4; have h5 := h.sz
  have hlt : ∀ k, k < Bo → w1.heap[k]? = wr.heap[k]? := by
    intro k hk
    rw [hgrow.block k (by simp; omega) (fun e => by have := (h.own.lt k e.symm).1; omega)]
    exact Below.heap_alloc _ _ _ (by omega)
  refine ⟨h.o0, h.o1, h.o2, h.o3, h.o4, ?_, h.lab.block (hlt _ (by omega)), h.fst.block (hlt _ (by omega)), h.nxt.block (hlt _ (by omega)), h.lft.block (hlt _ (by omega)), ?_, ?_⟩
  · have := hgrow.size
    simp at this
    omega
  · rw [List.length_append, List.length_singleton]
    simpa [intsOf] using hown
  · exact (h.below.alloc (by omega) o).grown hgrow (by simp; omega) (fun k hk => by have := (h.own.lt k hk).1; omega)

/-- The stack's shape. -/
theorem RW.shape {x : Nat} (h : RW w0 wr Bx gl gf gn ge Bo m len p c ce v (st ++ [x])) :
    ∃ go cap, v = .slice (some ⟨go, 0, none⟩) (st.length + 1) cap ∧ wr.cell? ⟨go, st.length, none⟩ = some (.int .i64 (x : Int)) ∧ RW w0 wr Bx gl gf gn ge Bo m len p c ce (.slice (some ⟨go, 0, none⟩) st.length cap) st ∧ st.length + 1 ≤ cap := by
  have ho := h.own
  rw [List.length_append, List.length_singleton] at ho
  rcases ho.2 with ⟨_, h0⟩ | ⟨go, cap, cur, rfl, hb, hg, h1, h2, h3, h4⟩
  · omega
  · have hat : wr.cell? ⟨go, st.length, none⟩ = some (.int .i64 (x : Int)) := by
      rw [ho.cellAt st.length (by omega)]
      simp [intsOf]
    refine ⟨go, cap, rfl, hat, ⟨h.o0, h.o1, h.o2, h.o3, h.o4, h.sz, h.lab, h.fst, h.nxt, h.lft, ⟨by simp [intsOf], .inr ⟨go, cap, cur, rfl, hb, hg, by omega, h2, h3, ?_⟩⟩, h.below⟩, h1⟩
    have := congrArg (List.take (st.length * 1)) h4
    rw [List.take_take] at this
    rw [show min (st.length * 1) ((st.length + 1) * 1) = st.length * 1 by omega] at this
    rw [this]
    simp [intsOf]
theorem RW.shape0 (h : RW w0 wr Bx gl gf gn ge Bo m len p c ce v []) : ∃ A cap, v = .slice A 0 cap := by
  rcases h.own.2 with ⟨rfl, _⟩ | ⟨go, cap, cur, rfl, _⟩
  · exact ⟨none, 0, rfl⟩
  · exact ⟨_, cap, rfl⟩
end

/-- A lattice in a low block stays. -/
theorem Lat.low {w w' : World} {g n Bx : Nat} {A B : Nat → Nat} (h : Lat w g n A B) (hg : g < Bx) (hb : Below Bx w w') : Lat w' g n A B := ⟨(hb.block g hg).trans h.blk, h.n8, h.a8, h.b8⟩

theorem leq_still {g n : Nat} {A B : Nat → Nat} (a b : Int) (w : World) (h : Lat w g n A B) :
    Calls Try.prog 19 #[.pointer (some ⟨g, 0, none⟩), .int .i64 a, .int .i64 b] w fun e w' => e = .returned (.bool (leqB n A a b)) ∧ w' = w :=
  (leq_any a b w h).mono fun _ _ h => ⟨h.1, h.2.symm⟩
end Go.Proofs.Ytmnbalmihehodaa
