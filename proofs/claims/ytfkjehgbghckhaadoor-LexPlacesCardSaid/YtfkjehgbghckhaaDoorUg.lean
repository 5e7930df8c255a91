/-
  The document's str; bytes of the call's own.
-/
import Derived.Test.YtfkjehgbghckhaaDoorUf
import Derived.Lib.BufferRead
import Derived.OwnWalk
import Derived.Laws.AppendOwn
import Derived.Lib.UnsafeStr
namespace Go.Proofs.YtfkjehgbghckhaaDoor
open Go.RowKit

theorem info5 : (Tryd.prog.info? 5).map (fun i => (i.zero, i.size, i.bytes)) = some (some (.int .u8 0), 1, 1) := by kernel_rfl
/-- A slice of the call's own that holds these bytes. -/
def OwnB (base : Nat) (w : World) (v : Value) (L : List UInt8) : Prop := w.ownsRow base 5 1 v L.length (Lib.byteCells L) ∧ base ≤ w.heap.size
theorem OwnB.alloc {base : Nat} {w : World} {v : Value} {L : List UInt8} (h : OwnB base w v L) (x : Obj) : OwnB base (w.alloc x) v L := ⟨h.1.alloc x, by have := h.2; simp; omega⟩
theorem OwnB.slice {base : Nat} {w : World} {v : Value} {L : List UInt8} (h : OwnB base w v L) (hL : 0 < L.length) : ∃ g cap, v = .slice (some ⟨g, 0, none⟩) L.length cap := by
  rcases h.1.2 with ⟨_, h⟩ | ⟨g, cap, _, h, _⟩
  · omega
  · exact ⟨g, cap, h⟩
theorem bc_append (L M : List UInt8) : Lib.byteCells L ++ Lib.byteCells M = Lib.byteCells (L ++ M) := by simp [Lib.byteCells]
theorem bc_one (L : List UInt8) : ∀ u ∈ Lib.byteCells L, u.oneCell' = true := fun u h => by
  simp [Lib.byteCells] at h
  obtain ⟨a, _, rfl⟩ := h
  rfl
theorem bc_len (L : List UInt8) : (Lib.byteCells L).length = L.length := by simp [Lib.byteCells]
/-- Bytes appended. -/
theorem wp_app {base : Nat} {w : World} {ops : Array Oper} {rest : List Oper} {o : Oper} {a : Act} {Q : Exit → Act → World → Prop} (hg : o.guard = none) (s x : Operand)
    (hop : o.op = Op.call { callee := Callee.builtin Builtin.append, args := #[s, x], argTypes := #[22, 22] }) {v : Value} {L : List UInt8} (hs : a.eval s = v) (hO : OwnB base w v L)
    (ad : Addr) (m : Nat) (M : List UInt8) (hx : a.eval x = .slice (some ad) m m) (hm : M.length = m) (hc : ∀ j u, (Lib.byteCells M)[j]? = some u → w.cell? (ad.add j) = some u) (hlen : L.length + m ≤ 1000000)
    (hK : ∀ v' w', OwnB base w' v' (L ++ M) → Below base w w' → wpList Tryd.prog ops Q rest (a.put o.dst v') w') : wpList Tryd.prog ops Q (o :: rest) a w := by
  obtain ⟨i0, hi, hz0, hz1, hz2⟩ := info_parts info5
  refine wpList_append_own w hg s x 22 hop base 5 i0 (.int .u8 0) 1 1 Tryd.underlying22 hi hz0 hz1 hz2 rfl (by decide) v L.length _ hs hO.1 ad m m (Lib.byteCells M) hx (by rw [bc_len]; omega) hc (bc_one M) (by unfold maxLen; omega) (by omega) hO.2 ?_
  intro v' w' hown hgrow _
  have hb := (Below.refl base w).grown hgrow hO.2 (fun k e => (hO.1.lt k e).1)
  refine hK v' w' ⟨?_, by have := hO.2; have := hb.size; omega⟩ hb
  rw [bc_append] at hown
  rw [List.length_append, hm]
  exact hown
/-- Such a slice as a string. -/
theorem OwnB.conv {base : Nat} {w : World} {g cap : Nat} {L : List UInt8} (h : OwnB base w (.slice (some ⟨g, 0, none⟩) L.length cap) L) : (convert 22 9 (.slice (some ⟨g, 0, none⟩) L.length cap)).run Tryd.prog w = .ok (.string (strL L)) w := by
  refine run_convert_bytes_back (P := Tryd.prog) w 22 9 5 ⟨g, 0, none⟩ cap L Tryd.underlying22 Tryd.underlying5 Tryd.underlying9 ?_
  intro j hj
  refine h.1.cells (g := g) rfl j _ ?_
  simp [Lib.byteCells, hj]
theorem OwnB.below {base : Nat} {w w' : World} {v : Value} {L : List UInt8} (h : OwnB base w v L) (hb : Below w.heap.size w w') : OwnB base w' v L := by
  have h0 := h.1
  obtain ⟨⟨h1, h2⟩, h3⟩ := h
  refine ⟨⟨h1, ?_⟩, by have := hb.size; omega⟩
  rcases h2 with h2 | ⟨k, cap, cur, hv, hbk, hh, r⟩
  · exact .inl h2
  · exact .inr ⟨k, cap, cur, hv, hbk, by rw [hb.block k (by subst hv; exact (h0.lt k rfl).2)]; exact hh, r⟩
theorem new_cells (w : World) (M : List UInt8) (cs : Array Value) (h : cs.toList = Lib.byteCells M) : ∀ j u, (Lib.byteCells M)[j]? = some u → (w.alloc (.cells cs 5)).cell? ((⟨w.heap.size, 0, none⟩ : Addr).add j) = some u := fun j u hj => by
  rw [Addr.add_lit, Nat.zero_add, World.cell?_alloc_new, ← hj, ← h]
  simp
theorem newb (w : World) (c : UInt8) : ∀ j u, (Lib.byteCells [c])[j]? = some u → (w.alloc (.cells #[.int .u8 c.toNat] 5)).cell? ((⟨w.heap.size, 0, none⟩ : Addr).add j) = some u :=
  new_cells w _ _ (by simp [Lib.byteCells])
theorem OwnB.form {base : Nat} {w : World} {v : Value} {L : List UInt8} (h : OwnB base w v L) : ∃ ao cap, v = .slice ao L.length cap := by
  rcases h.1.2 with ⟨h1, h2⟩ | ⟨g, cap, _, h1, _⟩
  · exact ⟨none, 0, by rw [h1, h2]⟩
  · exact ⟨_, cap, h1⟩
theorem conv_none (w : World) : (convert 22 9 (.slice none 0 0)).run Tryd.prog w = .ok (.string ⟨#[]⟩) w := Lib.run_convert_nil_bytes w _ _ _ 0 Tryd.underlying22 Tryd.underlying5 Tryd.underlying9
theorem OwnB.convs {base : Nat} {w : World} {ao : Option Addr} {cap : Nat} {L : List UInt8} (h : OwnB base w (.slice ao L.length cap) L) : (convert 22 9 (.slice ao L.length cap)).run Tryd.prog w = .ok (.string (strL L)) w := by
  rcases h.1.2 with ⟨h1, h2⟩ | ⟨g, cap', _, h1, _⟩
  · have hL : L = [] := List.length_eq_zero_iff.1 h2
    subst hL
    rw [h1, conv_none]
    rfl
  · obtain ⟨h2, -, -⟩ := Value.slice.inj h1
    subst h2
    exact h.conv
theorem OwnB.new (w : World) {base : Nat} (hb : base ≤ w.heap.size) : OwnB base (w.alloc (.cells #[] 5)) (.slice (some ⟨w.heap.size, 0, none⟩) 0 0) [] :=
  ⟨⟨rfl, .inr ⟨w.heap.size, 0, #[], rfl, hb, heap_alloc_new _ _, Nat.le_refl _, by unfold maxLen; omega, rfl, rfl⟩⟩, by simp; omega⟩
theorem RW.stepB {w wr w' : World} {cs : Array Value} (h : RW w wr cs) (hb : Below (w.heap.size + 2) wr w') : RW w w' cs := by
  obtain ⟨a0, a1, a2, a3, a4, a5, hr⟩ := h.res
  have := h.size
  have := hb.size
  exact ⟨h.below.trans (hb.mono (by omega)), by omega, h.tok.below hb (by omega), a0, a1, a2, a3, a4, a5, hr.below hb (by omega)⟩
theorem strR_mark (r : List UInt8) : strR (34 :: r) = .ok [] 1 := by
  cases r <;> (unfold strR; rw [if_pos rfl])
theorem strR_other {c : UInt8} (h1 : ¬ c = 34) (h2 : ¬ c = 92) (r : List UInt8) : strR (c :: r) = Hs.add [c] 1 (strR r) := by
  cases r with
  | nil => unfold strR; rw [if_neg h1]; rfl
  | cons x r => rw [strR, if_neg h1, if_neg h2]
theorem strR_esc {x : UInt8} (h : x = 92 ∨ x = 34) (r : List UInt8) : strR (92 :: x :: r) = Hs.add [x] 2 (strR r) := by
  rw [strR, if_neg (by decide), if_pos rfl, if_pos h]
theorem strR_form {x : UInt8} (h : ¬ (x = 92 ∨ x = 34)) (r : List UInt8) : strR (92 :: x :: r) = .err 5 := by
  rw [strR, if_neg (by decide), if_pos rfl, if_neg h]
theorem strR_end : strR [92] = .err 14 := by rw [strR, if_neg (by decide)]
theorem add_add (l m : List UInt8) (j k : Nat) (h : Hs) : Hs.add l j (Hs.add m k h) = Hs.add (l ++ m) (j + k) h := by
  cases h with
  | ok n i => simp [Hs.add, Nat.add_assoc]
  | err e => rfl
theorem add_zero (h : Hs) : Hs.add [] 0 h = h := by
  cases h with
  | ok n i => simp [Hs.add]
  | err e => rfl
theorem u8_eqI {c : UInt8} (n : Nat) (d : UInt8) (hd : d.toNat = n) : ((c.toNat : Int) == (n : Int)) = decide (c = d) := by
  rw [Bool.eq_iff_iff, beq_iff_eq, decide_eq_true_eq, u8_eq, hd]; omega
theorem OwnB.other {base : Nat} {w : World} {v : Value} {L : List UInt8} (h : OwnB base w v L) {g : Nat} (hg : g < base) (o : Nat) (x : Value) : OwnB base (w.setCell ⟨g, o, none⟩ x) v L := by
  obtain ⟨⟨h1, h2⟩, h3⟩ := h
  refine ⟨⟨h1, ?_⟩, by simpa [World.setCell] using h3⟩
  rcases h2 with h2 | ⟨k, cap, cur, hv, hbk, hh, r⟩
  · exact .inl h2
  · exact .inr ⟨k, cap, cur, hv, hbk, by rw [Below.heap_setCell _ _ _ _ (by simp; omega)]; exact hh, r⟩
end Go.Proofs.YtfkjehgbghckhaaDoor
