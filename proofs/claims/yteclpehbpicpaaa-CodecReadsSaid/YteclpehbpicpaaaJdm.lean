/-
  The document's reader: what a record of types gathers.
-/
import Derived.Test.YteclpehbpicpaaaJcm
namespace Go.Proofs.Yteclpehbpicpaaa
open Go.RowKit

theorem TRc.name {wr w4 w5 : World} {g base V : Nat} {nv itv : Value} {N : List ByteArray} {L : List (Array Value × TT)} {t : ByteArray} {x : Obj} {nv5 u : Value} (h : TRc wr base nv N itv L) (hp : Past g wr w4) (hg : g < base) (hV : V < base)
    (ht : t.size ≤ maxLen) (hown : w5.ownsRow base 9 1 nv5 (N.length + 1) (N.map Value.string ++ [.string t])) (hgrow : (w4.alloc x).grownBy w5 nv.ownBlock)
    (hat : nv5.ownBlock = nv.ownBlock ∨ nv5.ownBlock = some (w4.alloc x).heap.size) :
    TRc (w5.setCell ⟨V, 1, none⟩ u) base nv5 (N ++ [t]) itv L := by
  obtain ⟨⟨hN, hNs⟩, ⟨hI, hL⟩, hd⟩ := h
  have size4 := hp.size
  have hlt := hI.lt
  have fresh : ∀ b, b < w4.heap.size → nv.ownBlock ≠ some b → nv5.ownBlock ≠ some b := fun b hb hn => by
    rcases hat with e | e
    · rw [e]; exact hn
    · rw [e]; simp; omega
  refine ⟨⟨ownsRow_setCell_below (by simpa using hown) hV _, fun y hy => ?_⟩, ⟨?_, fun y hy => ?_⟩, fun k hk => fresh k (by have := (hlt k hk).2; omega) (hd k hk)⟩
  · rcases List.mem_append.1 hy with hy | hy
    · exact hNs y hy
    · obtain rfl : y = t := by simpa using hy
      exact ht
  · refine ownsRow_setCell_below (owns_keep hI fun k hk => ?_) hV _
    obtain ⟨h1, h2⟩ := hlt k hk
    exact (hgrow.block k (by simp; omega) (fun e => hd k hk e.symm)).trans ((Below.heap_alloc _ _ _ (by omega)).trans (hp.block k h2 (by omega)))
  · have ho := ((hL y hy).past hp (fun hh => by have := hh.1; omega)).imp (Q := fun b => (base ≤ b ∧ itv.ownBlock ≠ some b ∧ nv.ownBlock ≠ some b) ∧ b < w4.heap.size) fun b hb hl => ⟨hb, hl⟩
    refine (ho.keep (w' := w5.setCell ⟨V, 1, none⟩ u) (by have := hgrow.size; simp at this; simp [World.setCell]; omega) fun k hk hl => ?_).imp fun b hb _ => ⟨hb.1.1, hb.1.2.1, fresh b hb.2 hb.1.2.2⟩
    rw [Below.heap_setCell _ _ _ _ (by have := hk.1.1; simp; omega), hgrow.block k (by simp; omega) (fun e => hk.1.2.2 e.symm), Below.heap_alloc _ _ _ hl]
theorem TRc.item {wr w4 w5 : World} {g base V : Nat} {nv itv : Value} {N : List ByteArray} {L : List (Array Value × TT)} {v : Array Value} {t : TT} {x : Obj} {itv5 u : Value} (h : TRc wr base nv N itv L) (hp : Past g wr w4) (hg : g < base) (hV : V < base) (hbr : base ≤ wr.heap.size)
    (hv : TOwn w4 (fun b => wr.heap.size ≤ b) v t) (hown : w5.ownsRow base 30 3 itv5 (L.length + 1) ((L.map (·.1.toList)).flatten ++ v.toList)) (hgrow : (w4.alloc x).grownBy w5 itv.ownBlock)
    (hat : itv5.ownBlock = itv.ownBlock ∨ itv5.ownBlock = some (w4.alloc x).heap.size) :
    TRc (w5.setCell ⟨V, 2, none⟩ u) base nv N itv5 (L ++ [(v, t)]) := by
  obtain ⟨⟨hN, hNs⟩, ⟨hI, hL⟩, hd⟩ := h
  have size4 := hp.size
  have hlt := hI.lt
  have hltN := hN.lt
  have fresh : ∀ b, b < w4.heap.size → itv.ownBlock ≠ some b → itv5.ownBlock ≠ some b := fun b hb hn => by
    rcases hat with e | e
    · rw [e]; exact hn
    · rw [e]; simp; omega
  have keep : ∀ {P : Nat → Prop} {v' : Array Value} {t' : TT}, TOwn w4 P v' t' → (∀ b, P b → itv.ownBlock ≠ some b) → (∀ b, P b → V ≠ b) → TOwn (w5.setCell ⟨V, 2, none⟩ u) P v' t' := fun hh h1 h2 =>
    hh.keep (by have := hgrow.size; simp at this; simp [World.setCell]; omega) fun k hk hlt => by
      rw [Below.heap_setCell _ _ _ _ (by have := h2 k hk; simp; omega), hgrow.block k (by simp; omega) (fun e => h1 k hk e.symm), Below.heap_alloc _ _ _ hlt]
  refine ⟨⟨?_, hNs⟩, ⟨ownsRow_setCell_below (by simpa using hown) hV _, fun y hy => ?_⟩, fun k hk hn => ?_⟩
  · refine ownsRow_setCell_below (owns_keep hN fun k hk => ?_) hV _
    obtain ⟨h1, h2⟩ := hltN k hk
    exact (hgrow.block k (by simp; omega) (fun e => hd k e.symm hk)).trans ((Below.heap_alloc _ _ _ (by omega)).trans (hp.block k h2 (by omega)))
  · rcases List.mem_append.1 hy with hy | hy
    · have ho := (hL y hy).past hp (fun hh => by have := hh.1; omega)
      refine ((keep (ho.imp (Q := fun b => (base ≤ b ∧ itv.ownBlock ≠ some b ∧ nv.ownBlock ≠ some b) ∧ b < w4.heap.size) fun b hb hl => ⟨hb, hl⟩) (fun b hb => hb.1.2.1) (fun b hb => by have := hb.1.1; omega))).imp fun b hb _ => ⟨hb.1.1, fresh b hb.2 hb.1.2.1, hb.1.2.2⟩
    · obtain rfl : y = (v, t) := by simpa using hy
      refine ((keep (hv.imp (Q := fun b => wr.heap.size ≤ b ∧ b < w4.heap.size) fun b hb hl => ⟨hb, hl⟩) (fun b hb e => by have := (hlt b e).2; omega) (fun b hb => by omega))).imp fun b hb _ => ⟨by omega, fresh b hb.2 (fun e => by have := (hlt b e).2; omega), fun e => by have := (hltN b e).2; omega⟩
  · have h2 := (hltN k hn).2
    exact fresh k (by omega) (fun e => hd k e hn) hk
theorem TEnds.form {s : ByteArray} {w w' : World} {g : Nat} {r : Except Nat (TT × Nat × List UInt8)} {x : Ending} (h : TEnds s w g r x w') :
    ∃ (b0 : Int) (b1 : Option Addr) (b2 b3 : Nat) (b4 : Option Addr) (b5 b6 : Nat), x = .returned (.agg #[.int .i64 b0, .slice b1 b2 b3, .slice b4 b5 b6]) := by
  obtain ⟨_, h⟩ := h
  cases r with
  | error c =>
    obtain ⟨⟨k, A, m, ca, B, m', cb, rfl⟩, _⟩ := h
    exact ⟨_, _, _, _, _, _, _, rfl⟩
  | ok q =>
    obtain ⟨t, p, l⟩ := q
    obtain ⟨⟨v, rfl, hv⟩, _⟩ := h
    obtain ⟨b0, b1, b2, b3, b4, b5, b6, rfl⟩ := hv.val.four
    exact ⟨_, _, _, _, _, _, _, rfl⟩
def tendP : Except Nat (List (ByteArray × TT) × Nat × List UInt8) → Except Nat (TT × Nat × List UInt8)
  | .error c => .error c
  | .ok (xs, p, l) => .ok (trec xs, p, l)
/-- A name is read, or the reader has failed: in both cases it is known how the item behind it is read. -/
theorem TStrEnd {w w' : World} {g : Nat} {s : ByteArray} {aa pp : Nat} {d : Int} {x : Ending} {F : Nat → List UInt8 → Except Nat (TT × Nat × List UInt8)} (hF : ∀ p l t p' r, F p l = .ok (t, p', r) → p' ≤ 200)
    (ih : ∀ (w : World) (a p : Nat), Rdr w g s a 0 p → a ≤ s.size → p ≤ 200 → Calls Try.prog 65 #[.pointer (some ⟨g, 0, none⟩), .int .i64 (d + 1)] w fun x w' => TEnds s w g (F p (left s a)) x w') (hpp : pp ≤ 200)
    (h : Ends s w g pp (sP 30 (left s aa)) x w' (.string ⟨#[]⟩) (fun t => .string t)) :
    ∃ t, x = .returned (.string t) ∧ t.size ≤ maxLen ∧ Past g w w' ∧ ∃ (a4 e4 : Int) (r : Except Nat (TT × Nat × List UInt8)), Rdr w' g s a4 e4 pp ∧
      (∀ W, Rdr W g s a4 e4 pp → Calls Try.prog 65 #[.pointer (some ⟨g, 0, none⟩), .int .i64 (d + 1)] W fun x w' => TEnds s W g r x w') ∧
      (∀ k, titemsP F (k + 1) pp (left s aa) = tstepP t r (titemsP F k)) ∧ ∀ t p1 l1, r = .ok (t, p1, l1) → p1 ≤ 200 := by
  cases hS : sP 30 (left s aa) with
  | error c =>
    rw [hS] at h
    obtain ⟨hp, rfl, hc, a, hr⟩ := h
    refine ⟨_, rfl, by decide, hp, a, c, .error c, hr, fun W hW => ?_, fun k => titemsP_err hS _, fun t p1 l1 e => by cases e⟩
    refine (RType_err hW (by omega) (by omega)).mono ?_
    rintro x w' ⟨rfl, h1, h2⟩
    exact ⟨h1, ⟨0, none, 0, 0, none, 0, 0, rfl⟩, hc, a, pp + 1, by omega, h2⟩
  | ok q =>
    obtain ⟨t, l1⟩ := q
    rw [hS] at h
    obtain ⟨hp, rfl, a, ha, hl, hr⟩ := h
    subst hl
    exact ⟨t, rfl, sP_size hS, hp, a, 0, F pp (left s a), hr, fun W hW => ih W a pp hW ha hpp, fun k => titemsP_ok hS, fun t p1 l1 e => hF _ _ _ _ _ e⟩
end Go.Proofs.Yteclpehbpicpaaa
