/-
  The walk of DiskBack.
-/
import Derived.Test.YtbjapcikmpoehaaDw
namespace Go.Proofs.Ytbjapcikmpoehaa.lawDiskBack
open Go.RowKit

def Yes (w : World) (e : Ending) (w' : World) : Prop := e = .returned (.bool true) ∧ Below w.heap.size w w'
/-- A disk made, one segment, with a there. -/
structure Made (w : World) (g : Nat) (T : ByteArray) (w' : World) : Prop where
  below : Below w.heap.size w w'
  lo : w.heap.size ≤ g
  at_ : ∃ L, DAt w' g 1 L ∧ L 0 = T
theorem Made.read {w w' : World} {g : Nat} {T : ByteArray} (h : Made w g T w') : Calls Try.prog 17 #[.pointer (some ⟨g, 0, none⟩), .int .i64 0] w' fun e w'' => e = .returned (.string T) ∧ Made w g T w'' := by
  obtain ⟨L, hd, hT⟩ := h.at_
  refine (Read_ok 0 _ hd (by omega)).mono ?_
  rintro e w2 ⟨rfl, hb⟩
  exact ⟨by rw [hT], h.below.trans (hb.mono h.below.size), h.lo, L, hd.clone hb, hT⟩
theorem Made.drew {w w' : World} {g : Nat} {T : ByteArray} (h : Made w g T w') : Made w g T w'.drew := by
  obtain ⟨L, hd, hT⟩ := h.at_
  exact ⟨h.below.drew, h.lo, L, ⟨hd.blk, hd.n8, hd.sz⟩, hT⟩
/-- What a call of Tear leaves. -/
def Torn (w : World) (g : Nat) (T : ByteArray) (e : Ending) (w' : World) : Prop := e = .returned (.int .i64 0) ∧ Made w g T w'
theorem Made.tear {w w' : World} {g : Nat} {T s : ByteArray} {k : Int} (h : Made w g T w') (hs : T.size + s.size ≤ 4000) :
    Calls Try.prog 12 #[.pointer (some ⟨g, 0, none⟩), .int .i64 0, .string s, .int .i64 k] w' (Torn w g (T ++ cutS s k)) := by
  obtain ⟨L, hd, rfl⟩ := h.at_
  refine (Tear_any 0 k s _ hd).mono ?_
  rintro e w2 ⟨rfl, hg, hd2⟩
  have h0 : isS 1 0 = true := by decide
  have hc : tearC 1 L 0 s = 0 := by simp [tearC, h0, hs]
  have hl : tearL 1 L 0 s k = upd L 0 (L 0 ++ cutS s k) := by simp [tearL, hc]
  rw [hc]
  rw [hl] at hd2
  exact ⟨rfl, h.below.grown hg h.below.size (by intro k e; cases e; exact h.lo), h.lo, _, hd2, by simp [upd]⟩
theorem Made.append {w w' : World} {g : Nat} {T s : ByteArray} (h : Made w g T w') (hs : T.size + s.size ≤ 4000) :
    Calls Try.prog 10 #[.pointer (some ⟨g, 0, none⟩), .int .i64 0, .string s] w' (Torn w g (T ++ s)) := by
  obtain ⟨L, hd, rfl⟩ := h.at_
  refine (Append_any 0 s _ hd).mono ?_
  rintro e w2 ⟨rfl, hg, hd2⟩
  have h0 : isS 1 0 = true := by decide
  have hc : tearC 1 L 0 s = 0 := by simp [tearC, h0, hs]
  have hl : tearL 1 L 0 s s.size = upd L 0 (L 0 ++ s) := by
    simp only [tearL, hc, if_true]
    rw [cutS_all s (Int.le_refl _)]
    rfl
  rw [hc]
  rw [hl] at hd2
  exact ⟨rfl, h.below.grown hg h.below.size (by intro k e; cases e; exact h.lo), h.lo, _, hd2, by simp [upd]⟩
theorem Made.full {w w' : World} {g : Nat} {T s : ByteArray} {k : Int} (h : Made w g T w') (hs : ¬ T.size + s.size ≤ 4000) :
    Calls Try.prog 12 #[.pointer (some ⟨g, 0, none⟩), .int .i64 0, .string s, .int .i64 k] w' fun e w'' => e = .returned (.int .i64 4) ∧ Made w g T w'' := by
  obtain ⟨L, hd, rfl⟩ := h.at_
  refine (Tear_full 0 k s _ hd (by omega) hs).mono ?_
  rintro e w2 ⟨rfl, rfl⟩
  exact ⟨rfl, h.below, h.lo, L, hd, rfl⟩
theorem Made.cut {w w' : World} {g : Nat} {T : ByteArray} {m : Nat} (h : Made w g T w') (hm : m ≤ T.size) :
    Calls Try.prog 14 #[.pointer (some ⟨g, 0, none⟩), .int .i64 0, .int .i64 m] w' (Torn w g (T.extract 0 m)) := by
  obtain ⟨L, hd, rfl⟩ := h.at_
  refine (Cut_any 0 m _ hd).mono ?_
  rintro e w2 ⟨rfl, hg, hd2⟩
  have h0 : isS 1 0 = true := by decide
  have hc : cutC 1 L 0 m = 0 := by simp [cutC, h0, hm]
  have hl : cutL 1 L 0 m = upd L 0 ((L 0).extract 0 m) := by simp [cutL, hc]
  rw [hc]
  rw [hl] at hd2
  exact ⟨rfl, h.below.grown hg h.below.size (by intro k e; cases e; exact h.lo), h.lo, _, hd2, by simp [upd]⟩
theorem made_new (w : World) : Made w w.heap.size ⟨#[]⟩ (w.alloc (.cells (dcells 1 emptyL) 52)) :=
  ⟨(Below.refl _ _).alloc (Nat.le_refl _) _, Nat.le_refl _, _, DAt.new w emptyL (by omega) emptyL_size, rfl⟩
theorem Made.awake {w w' : World} {g : Nat} {T : ByteArray} (h : Made w g T w') : Calls Try.prog 8 #[] w' fun e w'' => e = .returned (.bool true) ∧ Made w g T w'' := by
  refine (awake_any _).mono ?_
  rintro e w2 ⟨rfl, hb⟩
  obtain ⟨L, hd, hT⟩ := h.at_
  have hlt : g < w'.heap.size := by
    have := hd.blk
    rw [Array.getElem?_eq_some_iff] at this
    exact this.1
  exact ⟨rfl, h.below.trans (hb.mono h.below.size), h.lo, L, ⟨by rw [hb.block g hlt]; exact hd.blk, hd.n8, hd.sz⟩, hT⟩
end Go.Proofs.Ytbjapcikmpoehaa.lawDiskBack
