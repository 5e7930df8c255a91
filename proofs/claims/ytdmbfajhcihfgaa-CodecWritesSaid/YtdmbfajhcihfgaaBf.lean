/-
  Bytes in a buffer of the call's own, whatever mark its block bears: '[]byte(s)', then grown by append.
-/
import Derived.Test.YtdmbfajhcihfgaaCu
import Derived.ArgAppend
namespace Go.Proofs.Ytdmbfajhcihfgaa
open Go.RowKit

/-- A slice of the call's own that holds these bytes, with room behind that may be written. -/
def Buf (w : World) (base : Nat) (v : Value) (L : List UInt8) : Prop :=
  ∃ g cap, v = .slice (some ⟨g, 0, none⟩) L.length cap ∧ base ≤ g ∧ g < w.heap.size ∧ (∀ j u, (Lib.byteCells L)[j]? = some u → w.cell? ⟨g, j, none⟩ = some u) ∧
    ∀ j, L.length ≤ j → j < cap → (w.cell? ⟨g, j, none⟩).isSome = true ∧ w.frozen? ⟨g, j, none⟩ = false
theorem Buf.of_owns {w : World} {base : Nat} {v : Value} {L : List UInt8} (h : w.ownsRow base 5 1 v L.length (Lib.byteCells L)) (hL : 0 < L.length) : Buf w base v L := by
  rcases h.2 with ⟨_, h0⟩ | ⟨g, cap, cur, hv, hg, hh, hn, hm, hc, ht⟩
  · omega
  · subst hv
    have hlt := (h.lt g rfl).2
    refine ⟨g, cap, rfl, hg, hlt, fun j u hj => ?_, fun j h1 h2 => ⟨?_, h.frozenAt j⟩⟩
    · have := h.cells (g := g) rfl j u hj
      rw [Addr.add_lit] at this
      simpa using this
    · have : j < cur.size := by omega
      simp [World.cell?, hh, this]
theorem Buf.keep {w w' : World} {base lim : Nat} {v : Value} {L : List UInt8} (h : Buf w base v L) (hb : Below lim w w') (hl : ∀ g cap, v = .slice (some ⟨g, 0, none⟩) L.length cap → g < lim) : Buf w' base v L := by
  obtain ⟨g, cap, rfl, hg, hlt, hc, hf⟩ := h
  have hgl := hl g cap rfl
  have := hb.size
  exact ⟨g, cap, rfl, hg, by omega, fun j u hj => (hb.cell (p := ⟨g, j, none⟩) hgl).trans (hc j u hj), fun j h1 h2 => by
    rw [hb.cell (p := ⟨g, j, none⟩) hgl, hb.frozen (p := ⟨g, j, none⟩) hgl]; exact hf j h1 h2⟩
theorem Buf.alloc {w : World} {base : Nat} {v : Value} {L : List UInt8} (h : Buf w base v L) (x : Obj) : Buf (w.alloc x) base v L := by
  obtain ⟨g, cap, e, hg, hlt, hc, hf⟩ := h
  exact Buf.keep ⟨g, cap, e, hg, hlt, hc, hf⟩ ((Below.refl w.heap.size w).alloc (Nat.le_refl _) x) (fun g' cap' e' => by rw [e] at e'; simp at e'; omega)
/-- One byte more. -/
theorem wpList_push {w : World} {base : Nat} {ops : Array Oper} {rest : List Oper} {o : Oper} {a : Act} {Q : Exit → Act → World → Prop}
    (hg : o.guard = none) (s x : Operand) (hop : o.op = Op.call { callee := Callee.builtin Builtin.append, args := #[s, x], argTypes := #[67, 67] })
    (v : Value) (L : List UInt8) (b : UInt8) (hs : a.eval s = v) (hbuf : Buf w base v L) (hbase : base ≤ w.heap.size) (hL : L.length ≤ 1000000000)
    (ad : Addr) (hx : a.eval x = .slice (some ad) 1 1) (hc : w.cell? ad = some (.int .u8 b.toNat))
    (hK : ∀ v' w', Buf w' base v' (L ++ [b]) → Below base w w' → wpList Try.prog ops Q rest (a.put o.dst v') w') :
    wpList Try.prog ops Q (o :: rest) a w := by
  obtain ⟨i0, hi, hz0, hz1, hz2⟩ := info_parts info5
  obtain ⟨g, cap, rfl, hgb, hlt, hcell, hfree⟩ := hbuf
  refine wpList_append_arg w hg s x 67 hop 5 i0 (.int .u8 0) 1 1 Try.underlying67 hi hz0 hz1 hz2 rfl (by decide) g 0 L.length cap (Lib.byteCells L) hs (by simp [Lib.byteCells]) (fun j u hj => by simpa using hcell j u hj)
    ad 1 1 [.int .u8 b.toNat] hx rfl (fun j u hj => by
      have : j = 0 := by
        have := (List.getElem?_eq_some_iff.1 hj).1
        simpa using this
      subst this
      simp at hj
      rw [← hj, ← hc]
      congr 1) (fun u hu => by simp at hu; subst hu; rfl) (fun hr j hj => ?_) (by unfold maxLen; omega) (by omega) (fun hr => ?_) (fun hr v' w' hown hgrow => ?_)
  · have := hfree (L.length + j) (by omega) (by simp at hj; omega)
    simpa using this
  · have e0 : w.setCells g (0 + L.length * 1) [.int .u8 b.toNat] = w.setCell ⟨g, L.length, none⟩ (.int .u8 b.toNat) := by
      simp [World.setCells]
    rw [e0]
    refine hK _ _ ⟨g, cap, by simp, hgb, by simpa [World.setCell] using hlt, fun j u hj => ?_, fun j h1 h2 => ?_⟩ ((Below.refl _ _).setCell hgb _)
    · by_cases e : j = L.length
      · subst e
        obtain ⟨old, ho⟩ := Option.isSome_iff_exists.1 (hfree L.length (Nat.le_refl _) (by omega)).1
        rw [World.cell?_setCell_same _ _ _ ho]
        simpa [Lib.byteCells] using hj
      · have hjl : j < L.length := by
          have := (List.getElem?_eq_some_iff.1 hj).1
          simp [Lib.byteCells] at this
          omega
        rw [World.cell?_setCell_other _ _ _ _ (by intro h; injection h; omega)]
        refine hcell j u ?_
        rw [← hj]
        simp only [Lib.byteCells, List.map_append]
        rw [List.getElem?_append_left (by simpa using hjl)]
    · have hjl : L.length < j := by simp at h1; omega
      rw [World.cell?_setCell_other _ _ _ _ (by intro h; injection h; omega), World.frozen?_setCell]
      exact hfree j (by omega) h2
  · have hown' : w'.ownsRow w.heap.size 5 1 v' (L ++ [b]).length (Lib.byteCells (L ++ [b])) := by
      simpa [Lib.byteCells] using hown
    obtain ⟨g', cap', e1, e2, e3⟩ := Buf.of_owns hown' (by simp)
    exact hK _ _ ⟨g', cap', e1, by omega, e3⟩ (((Below.refl base w).grown hgrow hbase (fun k h => by cases h)))
/-- '[]byte(s)'. -/
theorem conv_buf (s : ByteArray) (w : World) : ∃ v w', (convert 9 67 (.string s)).run Try.prog w = .ok v w' ∧ Buf w' w.heap.size v s.data.toList ∧ Below w.heap.size w w' := by
  have h := run_bytes_of_string (P := Try.prog) w 9 67 5 s Try.underlying9 Try.underlying67 Try.underlying5
  have hb : Below w.heap.size w (w.drew.alloc (.cells (bytesRow s (grownCap w s.size 0 5)) 5 ((bytesRow s (grownCap w s.size 0 5)).size, (bytesRow s (grownCap w s.size 0 5)).size + 1))) := (Below.refl _ _).drew.alloc (Nat.le_refl _) _
  have hge := grownCap_ge w s.size 0 5
  have hsz : (bytesRow s (grownCap w s.size 0 5)).size = grownCap w s.size 0 5 := by
    unfold bytesRow; simp; omega
  refine ⟨_, _, h, ⟨w.heap.size, grownCap w s.size 0 5, ?_, Nat.le_refl _, ?_, fun j u hj => ?_, fun j h1 h2 => ?_⟩, hb⟩
  · simp
  · simp
  · have := World.cell?_alloc_mark w.drew (bytesRow s (grownCap w s.size 0 5)) 5 ((bytesRow s (grownCap w s.size 0 5)).size, (bytesRow s (grownCap w s.size 0 5)).size + 1) j
    refine this.trans ?_
    rw [← hj]
    have hjl : j < s.data.size := by
      have := (List.getElem?_eq_some_iff.1 hj).1
      simpa [Lib.byteCells] using this
    unfold bytesRow
    rw [Array.getElem?_append_left (by simpa using hjl)]
    simp [Lib.byteCells]
  · have := World.cell?_alloc_mark w.drew (bytesRow s (grownCap w s.size 0 5)) 5 ((bytesRow s (grownCap w s.size 0 5)).size, (bytesRow s (grownCap w s.size 0 5)).size + 1) j
    constructor
    · refine (congrArg Option.isSome this).trans ?_
      rw [Array.getElem?_eq_getElem (by omega)]; rfl
    · have f := World.frozen?_alloc_mark w.drew (bytesRow s (grownCap w s.size 0 5)) 5 (bytesRow s (grownCap w s.size 0 5)).size ((bytesRow s (grownCap w s.size 0 5)).size + 1) j
      refine f.trans ?_
      rw [decide_eq_false (by omega), Bool.false_and]
end Go.Proofs.Ytdmbfajhcihfgaa
