/-
  The document's reader: its state in memory; fail, Byte.
-/
import Derived.Test.YtdmbfajhcihfgaaCu
import Derived.StillTailTactics
import Derived.Test.YtdmbfajhcihfgaaVr
namespace Go.Proofs.Ytdmbfajhcihfgaa
open Go.RowKit

/-- A reader's block: the bytes, the place, the error, the parts. -/
def Rdr (w : World) (g : Nat) (s : ByteArray) (at' e p : Int) : Prop := w.heap[g]? = some (.cells #[.string s, .int .i64 at', .int .i64 e, .int .i64 p] 83 (0, 0))
theorem Rdr.cells {w : World} {g : Nat} {s : ByteArray} {a e p : Int} (h : Rdr w g s a e p) :
    w.cell? ⟨g, 0, none⟩ = some (.string s) ∧ w.cell? ⟨g, 1, none⟩ = some (.int .i64 a) ∧ w.cell? ⟨g, 2, none⟩ = some (.int .i64 e) ∧ w.cell? ⟨g, 3, none⟩ = some (.int .i64 p) ∧ ∀ o, w.frozen? ⟨g, o, none⟩ = false := by
  unfold Rdr at h
  refine ⟨?_, ?_, ?_, ?_, fun o => ?_⟩
  · simp [World.cell?, h]
  · simp [World.cell?, h]
  · simp [World.cell?, h]
  · simp [World.cell?, h]
  · simp [World.frozen?, h]
theorem Rdr.lt {w : World} {g : Nat} {s : ByteArray} {a e p : Int} (h : Rdr w g s a e p) : g < w.heap.size := (Array.getElem?_eq_some_iff.1 h).1
theorem Rdr.set1 {w : World} {g : Nat} {s : ByteArray} {a e p : Int} (h : Rdr w g s a e p) (a' : Int) : Rdr (w.setCell ⟨g, 1, none⟩ (.int .i64 a')) g s a' e p := by
  unfold Rdr at *
  simp [World.setCell, Array.getElem?_modify, h]
theorem Rdr.set2 {w : World} {g : Nat} {s : ByteArray} {a e p : Int} (h : Rdr w g s a e p) (e' : Int) : Rdr (w.setCell ⟨g, 2, none⟩ (.int .i64 e')) g s a e' p := by
  unfold Rdr at *
  simp [World.setCell, Array.getElem?_modify, h]
theorem Rdr.set3 {w : World} {g : Nat} {s : ByteArray} {a e p : Int} (h : Rdr w g s a e p) (p' : Int) : Rdr (w.setCell ⟨g, 3, none⟩ (.int .i64 p')) g s a e p' := by
  unfold Rdr at *
  simp [World.setCell, Array.getElem?_modify, h]
/-- But for block g all that was there is as it was. -/
structure Past (g : Nat) (w w' : World) : Prop where
  os : w'.os = w.os
  tape : w'.tape = w.tape
  output : w'.output = w.output
  size : w.heap.size ≤ w'.heap.size
  block : ∀ k, k < w.heap.size → k ≠ g → w'.heap[k]? = w.heap[k]?
theorem Past.refl (g : Nat) (w : World) : Past g w w := ⟨rfl, rfl, rfl, Nat.le_refl _, fun _ _ _ => rfl⟩
theorem Past.trans {g : Nat} {a b c : World} (h : Past g a b) (k : Past g b c) : Past g a c :=
  ⟨k.os.trans h.os, k.tape.trans h.tape, k.output.trans h.output, Nat.le_trans h.size k.size, fun i hi hn => (k.block i (by have := h.size; omega) hn).trans (h.block i hi hn)⟩
theorem Past.drew {g : Nat} {a w : World} (h : Past g a w) : Past g a w.drew := ⟨h.os, h.tape, h.output, h.size, h.block⟩
theorem Past.set {g : Nat} {a w : World} (h : Past g a w) (o : Nat) (v : Value) : Past g a (w.setCell ⟨g, o, none⟩ v) :=
  h.trans ⟨rfl, rfl, rfl, by simp [World.setCell], fun k _ hn => Below.heap_setCell _ _ _ _ hn⟩
theorem Past.alloc {g : Nat} {a w : World} (h : Past g a w) (x : Obj) : Past g a (w.alloc x) :=
  h.trans ⟨rfl, rfl, rfl, by simp, fun k hk _ => Below.heap_alloc _ _ _ hk⟩
theorem Past.below {g : Nat} {w w' : World} (h : Past g w w') {B : Nat} (hB : B ≤ g) (hg : g < w.heap.size) : Below B w w' :=
  ⟨h.os, h.tape, h.output, h.size, fun k hk => h.block k (by omega) (by omega)⟩
theorem Past.of_below {g : Nat} {w w' : World} (h : Below w.heap.size w w') : Past g w w' := ⟨h.os, h.tape, h.output, h.size, fun k hk _ => h.block k hk⟩
theorem Past.cell {g : Nat} {w w' : World} (h : Past g w w') {p : Addr} (hp : p.block < w.heap.size) (hn : p.block ≠ g) : w'.cell? p = w.cell? p := World.cell?_of_block (w := w) (h.block p.block hp hn)
theorem Past.frozen {g : Nat} {w w' : World} (h : Past g w w') {p : Addr} (hp : p.block < w.heap.size) (hn : p.block ≠ g) : w'.frozen? p = w.frozen? p := World.frozen?_of_block (w := w) (h.block p.block hp hn)
theorem Rdr.past {w w' : World} {g : Nat} {s : ByteArray} {a e p : Int} (h : Rdr w g s a e p) (hb : Below w.heap.size w w') : Rdr w' g s a e p := (hb.block g h.lt).trans h

theorem fail_any {w : World} {g : Nat} {s : ByteArray} {a e p : Int} (h : Rdr w g s a e p) (c : Int) :
    Calls Try.prog 49 #[.pointer (some ⟨g, 0, none⟩), .int .i64 c] w fun x w' => x = .returned (.tuple #[]) ∧ Rdr w' g s a (if e = 0 then c else e) p ∧ Past g w w' := by
  obtain ⟨c0, c1, c2, c3, cf⟩ := h.cells
  have hs2 := h.set2 c
  have HH := Lib.hid h
  clear h
  by_cases he : e = 0
  · rw [if_pos he]
    have t : (e == 0) = true := by simpa using he
    clear he
    go_enter Try.func49, Try.ntmps49
    go_wp2_with fail
    go_end0
    exact ⟨rfl, hs2, (Past.refl _ _).set _ _⟩
  · rw [if_neg he]
    have t : (e == 0) = false := by simpa using he
    clear he
    go_enter Try.func49, Try.ntmps49
    go_wp2_with fail
    go_end0
    exact ⟨rfl, HH.out, Past.refl _ _⟩
theorem fail_0 {w : World} {g : Nat} {s : ByteArray} {a p : Int} (h : Rdr w g s a 0 p) (c : Int) :
    Calls Try.prog 49 #[.pointer (some ⟨g, 0, none⟩), .int .i64 c] w fun x w' => x = .returned (.tuple #[]) ∧ Rdr w' g s a c p ∧ Past g w w' := by
  have := fail_any h c
  rw [if_pos rfl] at this
  exact this
/-- Amid an error no byte is read. -/
theorem Byte_err {w : World} {g : Nat} {s : ByteArray} {a e p : Int} (h : Rdr w g s a e p) (he : e ≠ 0) :
    Calls Try.prog 78 #[.pointer (some ⟨g, 0, none⟩)] w fun x w' => x = .returned (.int .i64 0) ∧ Rdr w' g s a e p ∧ Past g w w' := by
  obtain ⟨c0, c1, c2, c3, cf⟩ := h.cells
  have HH := Lib.hid h
  have t : (e != 0) = true := by simpa using he
  clear h he
  go_enter Try.func78, Try.ntmps78
  go_wp2_with fail
  go_ret
  exact ⟨rfl, HH.out, Past.refl _ _⟩
theorem Byte_end {w : World} {g : Nat} {s : ByteArray} {a : Nat} {p : Int} (h : Rdr w g s a 0 p) (ha : s.size ≤ a) :
    Calls Try.prog 78 #[.pointer (some ⟨g, 0, none⟩)] w fun x w' => x = .returned (.int .i64 0) ∧ Rdr w' g s a 14 p ∧ Past g w w' := by
  obtain ⟨c0, c1, c2, c3, cf⟩ := h.cells
  have F := fun w1 (hb : Below w.heap.size w w1) => fail_0 (h.past hb) 14
  have HF := Lib.hid F
  clear h F
  go_enter Try.func78, Try.ntmps78
  go_wp2_with fail
  go_quiet (fail)
  have hd : Below w.heap.size w (w.drewN nq) := below_drewN (Below.refl _ _) _
  generalize w.drewN nq = w2 at hd ⊢
  have F2 := HF.out w2 hd
  have P2 := Lib.hid (Past.of_below (g := g) hd)
  clear hd
  go_wp2_with (go_at_call 49; refine F2.mono ?_; rintro e w3 ⟨rfl, h3, hp3⟩)
  go_ret
  exact ⟨rfl, h3, P2.out.trans hp3⟩
theorem Byte_ok {w : World} {g : Nat} {s : ByteArray} {a : Nat} {p : Int} (h : Rdr w g s a 0 p) (ha : a < s.size) (hs : s.size ≤ 9223372036854775807) :
    Calls Try.prog 78 #[.pointer (some ⟨g, 0, none⟩)] w fun x w' => x = .returned (.int .i64 (s[a].toNat : Nat)) ∧ Rdr w' g s ((a + 1 : Nat) : Int) 0 p ∧ Past g w w' := by
  obtain ⟨c0, c1, c2, c3, cf⟩ := h.cells
  have HH := Lib.hid h
  obtain ⟨b, hb0⟩ : ∃ b, s[a] = b := ⟨_, rfl⟩
  rw [hb0]
  clear h
  go_enter Try.func78, Try.ntmps78
  go_wp2_with fail
  go_quiet (fail)
  have hd : Below w.heap.size w (w.drewN nq) := below_drewN (Below.refl _ _) _
  generalize w.drewN nq = w2 at hd ⊢
  obtain ⟨d0, d1, d2, d3, df⟩ := (HH.out.past hd).cells
  have h2 := Lib.hid ((HH.out.past hd).set1 ((a : Int) + 1))
  have P2 := Lib.hid ((Past.of_below (g := g) hd).set 1 (.int .i64 ((a : Int) + 1)))
  clear hd c0 c1 c2 c3 cf
  go_wp2_with fail
  obtain ⟨w3, hw3⟩ : ∃ w3, w3 = w2.setCell ⟨g, 1, none⟩ (.int .i64 ((a : Int) + 1)) := ⟨_, rfl⟩
  rw [← hw3]
  have h3 := h2.out
  rw [← hw3] at h3
  have P3 := P2.out
  rw [← hw3] at P3
  obtain ⟨f0, f1, f2, f3, ff⟩ := h3.cells
  have H3 := Lib.hid h3
  have HP3 := Lib.hid P3
  clear hw3 h2 P2 d0 d1 d2 d3 df h3 P3 HH
  have i0 : ((a : Int) + 1 - 1).toNat = a := by omega
  have i1 : (a : Int) + 1 - 1 = a := by omega
  have E : wrap64 ((b.toNat : Nat) : Int) = b.toNat := by
    have := b.toNat_lt
    unfold wrap64; omega
  have HE := Lib.hid E
  clear E
  go_quiet (fail)
  have hd : Below w3.heap.size w3 (w3.drewN nq) := below_drewN (Below.refl _ _) _
  generalize w3.drewN nq = w4 at hd ⊢
  have HD := Lib.hid hd
  clear hd
  go_wp2_with fail
  go_ret
  exact ⟨by show Ending.returned (.int .i64 (wrap64 _)) = _; rw [HE.out], H3.out.past HD.out, HP3.out.trans (Past.of_below HD.out)⟩
end Go.Proofs.Ytdmbfajhcihfgaa
