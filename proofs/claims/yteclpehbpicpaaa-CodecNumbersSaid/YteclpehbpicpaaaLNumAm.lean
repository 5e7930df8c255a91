/-
  What CodecNumbers calls: each reader, the program's and the document's, and the walk.
-/
import Derived.Test.YteclpehbpicpaaaM40
import Derived.Test.YteclpehbpicpaaaM38
namespace Go.Proofs.Yteclpehbpicpaaa.codecNumbers
open Go.RowKit

def Yes (w : World) (e : Ending) (w' : World) : Prop := e = .returned (.bool true) ∧ Below w.heap.size w w'
/-- The program's three readers answer these. -/
def Reads (s : ByteArray) (i m : Int) (u x t : Value) : Prop :=
  (∀ W, Calls Try.prog 24 #[.string s, .int .i64 i] W fun e w' => e = .returned u ∧ Below W.heap.size W w') ∧
  (∀ W, Calls Try.prog 25 #[.string s, .int .i64 i] W fun e w' => e = .returned x ∧ Below W.heap.size W w') ∧
  (∀ W, Calls Try.prog 26 #[.string s, .int .i64 i, .int .i64 m] W fun e w' => e = .returned t ∧ Below W.heap.size W w')
theorem reads_any {s : ByteArray} {i m : Int} (hs : s.size ≤ 1000) (hm : -9223372036854775808 ≤ m ∧ m ≤ 9223372036854775807) : Reads s i m (rdU s i) (rdI s i) (rdS s i m) :=
  ⟨fun W => ReadUint_f (by omega), fun W => ReadInt_f (by omega), fun W => ReadStr_f (by omega) hm⟩
/-- The document's Begin, behind w. -/
def Begins (w : World) (s : ByteArray) (i E : Int) : Prop := ∀ W, Below w.heap.size w W →
  Calls Try.prog 27 #[.string s, .int .i64 i] W fun x w' => ∃ g, x = .returned (.pointer (some ⟨g, 0, none⟩)) ∧ w.heap.size ≤ g ∧ Rdr w' g s i E 0 ∧ Below w.heap.size w w'
theorem begins_bad (w : World) {s : ByteArray} {i : Int} (h : i < 0 ∨ (s.size : Int) < i) : Begins w s i 3 := fun W hW =>
  (Begin_any W).mono fun x w' ⟨e, h1, h2⟩ => ⟨_, e, hW.size, by rw [if_pos h] at h1; exact h1, hW.trans (h2.mono hW.size)⟩
theorem begins_ok (w : World) {s : ByteArray} {i : Int} (h : ¬ (i < 0 ∨ (s.size : Int) < i)) : Begins w s i 0 := fun W hW =>
  (Begin_any W).mono fun x w' ⟨e, h1, h2⟩ => ⟨_, e, hW.size, by rw [if_neg h] at h1; exact h1, hW.trans (h2.mono hW.size)⟩
/-- A method of the document's reader, at the place i, ends so. -/
def Goes (w : World) (f : Nat) (av : Value → Array Value) (s : ByteArray) (i : Int) (v : Value) (nx E : Int) : Prop := ∀ W g, Below w.heap.size w W → w.heap.size ≤ g → Rdr W g s i 0 0 →
  Calls Try.prog f (av (.pointer (some ⟨g, 0, none⟩))) W fun x w' => x = .returned v ∧ Rdr w' g s nx E 0 ∧ Below w.heap.size w w'
/-- The same, where it fails: the place is any. -/
def Fails (w : World) (f : Nat) (av : Value → Array Value) (s : ByteArray) (i : Int) (v : Value) (E : Int) : Prop := ∀ W g, Below w.heap.size w W → w.heap.size ≤ g → Rdr W g s i 0 0 →
  Calls Try.prog f (av (.pointer (some ⟨g, 0, none⟩))) W fun x w' => x = .returned v ∧ (∃ a : Int, Rdr w' g s a E 0) ∧ Below w.heap.size w w'
theorem past_below {w W w' : World} {g : Nat} (hW : Below w.heap.size w W) (hg : w.heap.size ≤ g) {s : ByteArray} {i E p : Int} (h : Rdr W g s i E p) (hp : Past g W w') : Below w.heap.size w w' := hW.trans (hp.below hg h.lt)
theorem ends_ok {w W : World} {g : Nat} {s : ByteArray} {α : Type} {r : Except Nat (α × List UInt8)} {x : Ending} {w' : World} {zero : Value} {val : α → Value} {i : Int} (hW : Below w.heap.size w W) (hg : w.heap.size ≤ g) (h : Rdr W g s i 0 0) (H : Ends s W g 0 r x w' zero val) {n : α} {l : List UInt8} (hr : r = .ok (n, l)) :
    x = .returned (val n) ∧ Rdr w' g s ((s.size - l.length : Nat) : Int) 0 0 ∧ Below w.heap.size w w' := by
  subst hr
  obtain ⟨hp, e, a, ha, hl, h1⟩ := H
  refine ⟨e, ?_, past_below hW hg h hp⟩
  rw [hl, left_at ha]; exact h1
theorem ends_bad {w W : World} {g : Nat} {s : ByteArray} {α : Type} {r : Except Nat (α × List UInt8)} {x : Ending} {w' : World} {zero : Value} {val : α → Value} {i : Int} (hW : Below w.heap.size w W) (hg : w.heap.size ≤ g) (h : Rdr W g s i 0 0) (H : Ends s W g 0 r x w' zero val) {c : Nat} (hr : r = .error c) :
    x = .returned zero ∧ (∃ a : Int, Rdr w' g s a c 0) ∧ Below w.heap.size w w' := by
  subst hr
  obtain ⟨hp, e, _, a, h1⟩ := H
  exact ⟨e, ⟨_, h1⟩, past_below hW hg h hp⟩
theorem iP_err {l : List UInt8} {c : Nat} (h : uP 0 0 l = .error c) : iP l = .error c := by unfold iP; rw [h]
theorem iP_ok {l r : List UInt8} {n : Nat} (h : uP 0 0 l = .ok (n, r)) : iP l = .ok (zag n, r) := by unfold iP; rw [h]
theorem sP_err {l : List UInt8} {c : Nat} {m : Int} (h : uP 0 0 l = .error c) : sP m l = .error c := by unfold sP; rw [h]
theorem sP_ne {l : List UInt8} {m : Int} {c : Nat} (h : sP m l = .error c) : c ≠ 0 := by
  unfold sP at h
  cases hu : uP 0 0 l with
  | error c' => rw [hu] at h; cases h; have := uP_err _ _ _ _ hu; omega
  | ok z =>
    rw [hu] at h
    dsimp only at h
    split at h
    · cases h; decide
    · split at h
      · cases h; decide
      · cases h
section
variable {w : World} {s : ByteArray} {i : Nat} (hi : i ≤ s.size) (hs : s.size ≤ 1000)
include hi hs
theorem uint_fails {c : Nat} (hu : uP 0 0 (left s i) = .error c) : Fails w 28 (fun p => #[p]) s i (.int .u64 0) c := fun W g hW hg h =>
  (Uint_ok h hi (by omega)).mono fun x w' H => ends_bad hW hg h H hu
theorem uint_goes {n : Nat} {l : List UInt8} (hu : uP 0 0 (left s i) = .ok (n, l)) : Goes w 28 (fun p => #[p]) s i (.int .u64 n) ((s.size - l.length : Nat) : Int) 0 := fun W g hW hg h =>
  (Uint_ok h hi (by omega)).mono fun x w' H => ends_ok hW hg h H hu
theorem int_fails {c : Nat} (hu : iP (left s i) = .error c) : Fails w 29 (fun p => #[p]) s i (.int .i64 0) c := fun W g hW hg h =>
  (Int_ok h hi (by omega)).mono fun x w' H => ends_bad hW hg h H hu
theorem int_goes {n : Int} {l : List UInt8} (hu : iP (left s i) = .ok (n, l)) : Goes w 29 (fun p => #[p]) s i (.int .i64 n) ((s.size - l.length : Nat) : Int) 0 := fun W g hW hg h =>
  (Int_ok h hi (by omega)).mono fun x w' H => ends_ok hW hg h H hu
theorem str_fails {m : Int} (hm : -9223372036854775808 ≤ m ∧ m ≤ 9223372036854775807) {c : Nat} (hu : sP m (left s i) = .error c) : Fails w 30 (fun p => #[p, .int .i64 m]) s i (.string ⟨#[]⟩) c := fun W g hW hg h =>
  (Str_ok h hi (by omega) hm).mono fun x w' H => ends_bad hW hg h H hu
theorem str_goes {m : Int} (hm : -9223372036854775808 ≤ m ∧ m ≤ 9223372036854775807) {t : ByteArray} {l : List UInt8} (hu : sP m (left s i) = .ok (t, l)) : Goes w 30 (fun p => #[p, .int .i64 m]) s i (.string t) ((s.size - l.length : Nat) : Int) 0 := fun W g hW hg h =>
  (Str_ok h hi (by omega) hm).mono fun x w' H => ends_ok hW hg h H hu
end
end Go.Proofs.Yteclpehbpicpaaa.codecNumbers
