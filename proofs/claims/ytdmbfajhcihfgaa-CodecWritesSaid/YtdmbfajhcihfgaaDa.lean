/-
  Contracts of the program's reader: insist, take, readByte. A reader gives up by a panic of the error.
-/
import Derived.Test.YtdmbfajhcihfgaaRs
import Derived.WalkLawsBesides
namespace Go.Proofs.Ytdmbfajhcihfgaa
open Go.RowKit

/-- A panic of this error. -/
def errL (c : Int) : List PanicEntry := [{ v := .iface 34 (.int .i64 c), recovered := false }]
/-- The program's reader: the bytes, the place, the parts. -/
def Dr (w : World) (g : Nat) (s : ByteArray) (a p : Int) : Prop := w.heap[g]? = some (.cells #[.string s, .int .i64 a, .int .i64 p] 109 (0, 0))
theorem Dr.cells {w : World} {g : Nat} {s : ByteArray} {a p : Int} (h : Dr w g s a p) :
    w.cell? ⟨g, 0, none⟩ = some (.string s) ∧ w.cell? ⟨g, 1, none⟩ = some (.int .i64 a) ∧ w.cell? ⟨g, 2, none⟩ = some (.int .i64 p) ∧ ∀ o, w.frozen? ⟨g, o, none⟩ = false := by
  unfold Dr at h
  refine ⟨?_, ?_, ?_, fun o => ?_⟩
  · simp [World.cell?, h]
  · simp [World.cell?, h]
  · simp [World.cell?, h]
  · simp [World.frozen?, h]
theorem Dr.lt {w : World} {g : Nat} {s : ByteArray} {a p : Int} (h : Dr w g s a p) : g < w.heap.size := (Array.getElem?_eq_some_iff.1 h).1
theorem Dr.set1 {w : World} {g : Nat} {s : ByteArray} {a p : Int} (h : Dr w g s a p) (a' : Int) : Dr (w.setCell ⟨g, 1, none⟩ (.int .i64 a')) g s a' p := by
  unfold Dr at *
  simp [World.setCell, Array.getElem?_modify, h]
theorem Dr.set2 {w : World} {g : Nat} {s : ByteArray} {a p : Int} (h : Dr w g s a p) (p' : Int) : Dr (w.setCell ⟨g, 2, none⟩ (.int .i64 p')) g s a p' := by
  unfold Dr at *
  simp [World.setCell, Array.getElem?_modify, h]
theorem Dr.past {w w' : World} {g : Nat} {s : ByteArray} {a p : Int} (h : Dr w g s a p) (hb : Below w.heap.size w w') : Dr w' g s a p := (hb.block g h.lt).trans h
theorem insist_yes (w : World) : Calls Try.prog 76 #[.bool true] w fun e w' => e = .returned (.tuple #[]) ∧ w = w' := by
  go_enter Try.func76, Try.ntmps76
  go_wp2_with fail
  go_end0
  exact ⟨rfl, rfl⟩
theorem insist_no (w : World) : Calls Try.prog 76 #[.bool false] w fun e w' => e = .panicked (errL 5) ∧ w = w' := by
  go_enter Try.func76, Try.ntmps76
  go_wp2_with fail
  exact ⟨rfl, rfl, rfl⟩
theorem take_torn {w : World} {g : Nat} {s : ByteArray} {a n : Nat} {p : Int} (h : Dr w g s a p) (ha : a ≤ s.size) (hs : s.size ≤ 1000000000) (hn : s.size < a + n) :
    Calls Try.prog 109 #[.pointer (some ⟨g, 0, none⟩), .int .u64 n] w fun x w' => x = .panicked (errL 14) ∧ Past g w w' := by
  obtain ⟨c0, c1, c2, cf⟩ := h.cells
  have E1 : IntKind.i64.wrap ((s.size : Int) - a) = (s.size : Int) - a := by rw [IntKind.wrap_i64]; omega
  have E2 : IntKind.u64.wrap ((s.size : Int) - a) = (s.size : Int) - a := by rw [IntKind.wrap_u64]; omega
  have t1 : decide ((s.size : Int) - a < (n : Int)) = true := by simp; omega
  clear h
  go_enter Try.func109, Try.ntmps109
  go_wp2_with fail
  go_quiet (fail)
  have hd : Below w.heap.size w (w.drewN nq) := below_drewN (Below.refl _ _) _
  generalize w.drewN nq = w2 at hd ⊢
  have P2 := Lib.hid (Past.of_below (g := g) hd)
  clear hd
  go_wp2_with fail
  exact ⟨rfl, rfl, P2.out⟩
set_option maxHeartbeats 1000000 in
theorem take_ok {w : World} {g : Nat} {s : ByteArray} {a n : Nat} {p : Int} (h : Dr w g s a p) (hs : s.size ≤ 1000000000) (hn : a + n ≤ s.size) :
    Calls Try.prog 109 #[.pointer (some ⟨g, 0, none⟩), .int .u64 n] w fun x w' => x = .returned (.string (s.extract a (a + n))) ∧ Dr w' g s ((a + n : Nat) : Int) p ∧ Past g w w' := by
  obtain ⟨c0, c1, c2, cf⟩ := h.cells
  have E1 : IntKind.i64.wrap ((s.size : Int) - a) = (s.size : Int) - a := by rw [IntKind.wrap_i64]; omega
  have E2 : IntKind.u64.wrap ((s.size : Int) - a) = (s.size : Int) - a := by rw [IntKind.wrap_u64]; omega
  have E3 : IntKind.i64.wrap (n : Int) = n := by rw [IntKind.wrap_i64]; omega
  have t1 : decide ((s.size : Int) - a < (n : Int)) = false := by simp; omega
  have HH := Lib.hid h
  clear h
  go_enter Try.func109, Try.ntmps109
  go_wp2_with fail
  go_quiet (fail)
  have hd : Below w.heap.size w (w.drewN nq) := below_drewN (Below.refl _ _) _
  generalize w.drewN nq = w2 at hd ⊢
  obtain ⟨d0, d1, d2, df⟩ := (HH.out.past hd).cells
  have h2 := Lib.hid ((HH.out.past hd).set1 ((a : Int) + n))
  have P2 := Lib.hid ((Past.of_below (g := g) hd).set 1 (.int .i64 ((a : Int) + n)))
  clear hd c0 c1 c2 cf
  go_wp2_with fail
  obtain ⟨w3, hw3⟩ : ∃ w3, w3 = w2.setCell ⟨g, 1, none⟩ (.int .i64 ((a : Int) + n)) := ⟨_, rfl⟩
  rw [← hw3]
  have h3 := h2.out
  rw [← hw3] at h3
  have P3 := P2.out
  rw [← hw3] at P3
  obtain ⟨f0, f1, f2, ff⟩ := h3.cells
  have H3 := Lib.hid h3
  have HP3 := Lib.hid P3
  clear hw3 h2 P2 d0 d1 d2 df h3 P3 HH
  go_quiet (fail)
  have hd : Below w3.heap.size w3 (w3.drewN nq) := below_drewN (Below.refl _ _) _
  generalize w3.drewN nq = w4 at hd ⊢
  have HD := Lib.hid hd
  clear hd
  go_wp2_with fail
  go_ret
  exact ⟨rfl, H3.out.past HD.out, HP3.out.trans (Past.of_below HD.out)⟩
theorem readByte_ok {w : World} {g : Nat} {s : ByteArray} {a : Nat} {p : Int} (h : Dr w g s a p) (hs : s.size ≤ 1000000000) (hn : a < s.size) :
    Calls Try.prog 89 #[.pointer (some ⟨g, 0, none⟩)] w fun x w' => x = .returned (.int .u8 (s[a].toNat : Nat)) ∧ Dr w' g s ((a + 1 : Nat) : Int) p ∧ Past g w w' := by
  have T := take_ok (n := 1) h hs (by omega)
  have hx : (s.extract a (a + 1)).size = 1 := by rw [ByteArray.size_extract]; omega
  obtain ⟨b, hb⟩ : ∃ b, b = s[a] := ⟨_, rfl⟩
  have hg : ∀ i, (s.extract a (a + 1))[0]'i = b := fun i => by rw [hb]; exact (ByteArray.getElem_extract i).trans rfl
  rw [← hb]
  obtain ⟨t, ht⟩ : ∃ t, t = s.extract a (a + 1) := ⟨_, rfl⟩
  rw [← ht] at T hx
  have hg' : ∀ i, t[0]'i = b := by subst ht; exact hg
  have hbt : t[0]'(by omega) = b := hg' _
  clear h hg hb ht hg'
  go_enter Try.func89, Try.ntmps89
  go_wp2_with (go_at_call 109; refine T.mono ?_; rintro e w1 ⟨rfl, h1, hp1⟩)
  go_ret
  exact ⟨rfl, h1, hp1⟩
theorem readByte_end {w : World} {g : Nat} {s : ByteArray} {a : Nat} {p : Int} (h : Dr w g s a p) (hs : s.size ≤ 1000000000) (ha : a = s.size) :
    Calls Try.prog 89 #[.pointer (some ⟨g, 0, none⟩)] w fun x w' => x = .panicked (errL 14) ∧ Past g w w' := by
  have T := take_torn (n := 1) h (by omega) hs (by omega)
  have HH := Lib.hid h
  clear h
  go_enter Try.func89, Try.ntmps89
  go_wp2_with (go_at_call 109; refine T.mono ?_; rintro e w1 ⟨rfl, hp1⟩)
  exact ⟨rfl, rfl, hp1⟩
end Go.Proofs.Ytdmbfajhcihfgaa
