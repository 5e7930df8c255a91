/-
  Contracts of the program's reader: insist, take, readByte. A reader gives up by a panic of the error.
  The document's reader: Value, amid an error and where it stops.
  The document's reader: Value, plainly; values that it made.
  The document's reader: Value, of plain kinds.
-/
import Derived.Test.YtekojglcbalhnaaGreatDoorM11
import Derived.WalkLawsBesides
import Derived.Test.YtekojglcbalhnaaGreatDoorM05
import Derived.Test.YtekojglcbalhnaaGreatDoorM04
namespace Go.Proofs.YtekojglcbalhnaaGreatDoor
open Go.RowKit

/-- A panic of this error. -/
def errL (c : Int) : List PanicEntry := [{ v := .iface 33 (.int .i64 c), recovered := false }]
/-- The program's reader: the bytes, the place, the parts. -/
def Dr (w : World) (g : Nat) (s : ByteArray) (a p : Int) : Prop := w.heap[g]? = some (.cells #[.string s, .int .i64 a, .int .i64 p] 197 (0, 0))
theorem Dr.cells {w : World} {g : Nat} {s : ByteArray} {a p : Int} (h : Dr w g s a p) :
    w.cell? ⟨g, 0, none⟩ = some (.string s) ∧ w.cell? ⟨g, 1, none⟩ = some (.int .i64 a) ∧ w.cell? ⟨g, 2, none⟩ = some (.int .i64 p) ∧ ∀ o, w.frozen? ⟨g, o, none⟩ = false := by
  unfold Dr at h
  refine ⟨?_, ?_, ?_, fun o => ?_⟩
  · simp [World.cell?, h]
  · simp [World.cell?, h]
  · simp [World.cell?, h]
  · simp [World.frozen?, h]
theorem Dr.lt {w : World} {g : Nat} {s : ByteArray} {a p : Int} (h : Dr w g s a p) : g < w.heap.size := (Array.getElem?_eq_some_iff.1 h).1
theorem Dr.set1 {w : World} {g : Nat} {s : ByteArray} {a p : Int} (h : Dr w g s a p) (a' : Int) : Dr (w.setCell ⟨g, 1, none⟩ (.int .i64 a')) g s a' p := by
  unfold Dr at *
  simp [World.setCell, Array.getElem?_modify, h]
theorem Dr.set2 {w : World} {g : Nat} {s : ByteArray} {a p : Int} (h : Dr w g s a p) (p' : Int) : Dr (w.setCell ⟨g, 2, none⟩ (.int .i64 p')) g s a p' := by
  unfold Dr at *
  simp [World.setCell, Array.getElem?_modify, h]
theorem Dr.past {w w' : World} {g : Nat} {s : ByteArray} {a p : Int} (h : Dr w g s a p) (hb : Below w.heap.size w w') : Dr w' g s a p := (hb.block g h.lt).trans h
theorem insist_yes (w : World) : Calls Tryz.prog 141 #[.bool true] w fun e w' => e = .returned (.tuple #[]) ∧ w = w' := by
  go_enter Tryz.func141, Tryz.ntmps141
  go_wp2_with fail
  go_end0
  exact ⟨rfl, rfl⟩
theorem insist_no (w : World) : Calls Tryz.prog 141 #[.bool false] w fun e w' => e = .panicked (errL 5) ∧ w = w' := by
  go_enter Tryz.func141, Tryz.ntmps141
  go_wp2_with fail
  exact ⟨rfl, rfl, rfl⟩
theorem take_torn {w : World} {g : Nat} {s : ByteArray} {a n : Nat} {p : Int} (h : Dr w g s a p) (ha : a ≤ s.size) (hs : s.size ≤ 1000000000) (hn : s.size < a + n) :
    Calls Tryz.prog 165 #[.pointer (some ⟨g, 0, none⟩), .int .u64 n] w fun x w' => x = .panicked (errL 14) ∧ Past g w w' := by
  obtain ⟨c0, c1, c2, cf⟩ := h.cells
  have E1 : IntKind.i64.wrap ((s.size : Int) - a) = (s.size : Int) - a := by rw [IntKind.wrap_i64]; omega
  have E2 : IntKind.u64.wrap ((s.size : Int) - a) = (s.size : Int) - a := by rw [IntKind.wrap_u64]; omega
  have t1 : decide ((s.size : Int) - a < (n : Int)) = true := by simp; omega
  clear h
  go_enter Tryz.func165, Tryz.ntmps165
  go_wp2_with fail
  go_quiet (fail)
  have hd : Below w.heap.size w (w.drewN nq) := below_drewN (Below.refl _ _) _
  generalize w.drewN nq = w2 at hd ⊢
  have P2 := Lib.hid (Past.of_below (g := g) hd)
  clear hd
  go_wp2_with fail
  exact ⟨rfl, rfl, P2.out⟩
set_option maxHeartbeats 1000000 in
theorem take_ok {w : World} {g : Nat} {s : ByteArray} {a n : Nat} {p : Int} (h : Dr w g s a p) (hs : s.size ≤ 1000000000) (hn : a + n ≤ s.size) :
    Calls Tryz.prog 165 #[.pointer (some ⟨g, 0, none⟩), .int .u64 n] w fun x w' => x = .returned (.string (s.extract a (a + n))) ∧ Dr w' g s ((a + n : Nat) : Int) p ∧ Past g w w' := by
  obtain ⟨c0, c1, c2, cf⟩ := h.cells
  have E1 : IntKind.i64.wrap ((s.size : Int) - a) = (s.size : Int) - a := by rw [IntKind.wrap_i64]; omega
  have E2 : IntKind.u64.wrap ((s.size : Int) - a) = (s.size : Int) - a := by rw [IntKind.wrap_u64]; omega
  have E3 : IntKind.i64.wrap (n : Int) = n := by rw [IntKind.wrap_i64]; omega
  have t1 : decide ((s.size : Int) - a < (n : Int)) = false := by simp; omega
  have HH := Lib.hid h
  clear h
  go_enter Tryz.func165, Tryz.ntmps165
  go_wp2_with fail
  go_quiet (fail)
  have hd : Below w.heap.size w (w.drewN nq) := below_drewN (Below.refl _ _) _
  generalize w.drewN nq = w2 at hd ⊢
  obtain ⟨d0, d1, d2, df⟩ := (HH.out.past hd).cells
  have h2 := Lib.hid ((HH.out.past hd).set1 ((a : Int) + n))
  have P2 := Lib.hid ((Past.of_below (g := g) hd).set 1 (.int .i64 ((a : Int) + n)))
  clear hd c0 c1 c2 cf
  go_wp2_with fail
  obtain ⟨w3, hw3⟩ : ∃ w3, w3 = w2.setCell ⟨g, 1, none⟩ (.int .i64 ((a : Int) + n)) := ⟨_, rfl⟩
  rw [← hw3]
  have h3 := h2.out
  rw [← hw3] at h3
  have P3 := P2.out
  rw [← hw3] at P3
  obtain ⟨f0, f1, f2, ff⟩ := h3.cells
  have H3 := Lib.hid h3
  have HP3 := Lib.hid P3
  clear hw3 h2 P2 d0 d1 d2 df h3 P3 HH
  go_quiet (fail)
  have hd : Below w3.heap.size w3 (w3.drewN nq) := below_drewN (Below.refl _ _) _
  generalize w3.drewN nq = w4 at hd ⊢
  have HD := Lib.hid hd
  clear hd
  go_wp2_with fail
  go_ret
  exact ⟨rfl, H3.out.past HD.out, HP3.out.trans (Past.of_below HD.out)⟩
theorem readByte_ok {w : World} {g : Nat} {s : ByteArray} {a : Nat} {p : Int} (h : Dr w g s a p) (hs : s.size ≤ 1000000000) (hn : a < s.size) :
    Calls Tryz.prog 140 #[.pointer (some ⟨g, 0, none⟩)] w fun x w' => x = .returned (.int .u8 (s[a].toNat : Nat)) ∧ Dr w' g s ((a + 1 : Nat) : Int) p ∧ Past g w w' := by
  have T := take_ok (n := 1) h hs (by omega)
  have hx : (s.extract a (a + 1)).size = 1 := by rw [ByteArray.size_extract]; omega
  obtain ⟨b, hb⟩ : ∃ b, b = s[a] := ⟨_, rfl⟩
  have hg : ∀ i, (s.extract a (a + 1))[0]'i = b := fun i => by rw [hb]; exact (ByteArray.getElem_extract i).trans rfl
  rw [← hb]
  obtain ⟨t, ht⟩ : ∃ t, t = s.extract a (a + 1) := ⟨_, rfl⟩
  rw [← ht] at T hx
  have hg' : ∀ i, t[0]'i = b := by subst ht; exact hg
  have hbt : t[0]'(by omega) = b := hg' _
  clear h hg hb ht hg'
  go_enter Tryz.func140, Tryz.ntmps140
  go_wp2_with (go_at_call 165; refine T.mono ?_; rintro e w1 ⟨rfl, h1, hp1⟩)
  go_ret
  exact ⟨rfl, h1, hp1⟩
theorem readByte_end {w : World} {g : Nat} {s : ByteArray} {a : Nat} {p : Int} (h : Dr w g s a p) (hs : s.size ≤ 1000000000) (ha : a = s.size) :
    Calls Tryz.prog 140 #[.pointer (some ⟨g, 0, none⟩)] w fun x w' => x = .panicked (errL 14) ∧ Past g w w' := by
  have T := take_torn (n := 1) h (by omega) hs (by omega)
  have HH := Lib.hid h
  clear h
  go_enter Tryz.func140, Tryz.ntmps140
  go_wp2_with (go_at_call 165; refine T.mono ?_; rintro e w1 ⟨rfl, hp1⟩)
  exact ⟨rfl, rfl, hp1⟩
end Go.Proofs.YtekojglcbalhnaaGreatDoor
namespace Go.Proofs.YtekojglcbalhnaaGreatDoor
open Go.RowKit

theorem begin_err {w : World} {g : Nat} {s : ByteArray} {a e p d : Int} (h : Rdr w g s a e p) (he : e ≠ 0) (hp : 0 ≤ p ∧ p ≤ 1000000) :
    Calls Tryz.prog 144 #[.pointer (some ⟨g, 0, none⟩), .int .i64 d] w fun x w' => x = .returned (.tuple #[]) ∧ Past g w w' ∧ Rdr w' g s a e (p + 1) := by
  obtain ⟨c0, c1, c2, c3, cf⟩ := h.cells
  have h1 := h.set3 (p + 1)
  have hp1 : Past g w (w.setCell ⟨g, 3, none⟩ (.int .i64 (p + 1))) := (Past.refl _ _).set _ _
  have F := fail_any h1 5
  rw [if_neg he] at F
  have H1 := Lib.hid h1
  have HP1 := Lib.hid hp1
  clear h h1 hp1
  by_cases hd : 12 < d
  · go_enter Tryz.func144, Tryz.ntmps144
    go_wp2_with (go_at_call 84; refine F.mono ?_; rintro e w2 ⟨rfl, h2, hp2⟩)
    go_end0
    exact ⟨rfl, HP1.out.trans hp2, h2⟩
  · by_cases h200 : 200 < p + 1
    · go_enter Tryz.func144, Tryz.ntmps144
      go_wp2_with (go_at_call 84; refine F.mono ?_; rintro e w2 ⟨rfl, h2, hp2⟩)
      go_end0
      exact ⟨rfl, HP1.out.trans hp2, h2⟩
    · go_enter Tryz.func144, Tryz.ntmps144
      go_wp2_with fail
      go_end0
      exact ⟨rfl, HP1.out, H1.out⟩
theorem Past.setNew {g : Nat} {a w : World} (h : Past g a w) {R : Nat} (hR : a.heap.size ≤ R) (o : Nat) (v : Value) : Past g a (w.setCell ⟨R, o, none⟩ v) :=
  ⟨h.os, h.tape, h.output, by have := h.size; simpa [World.setCell] using this, fun k hk hn => (Below.heap_setCell _ _ _ _ (by simp; omega)).trans (h.block k hk hn)⟩
theorem Rdr.other {w : World} {g : Nat} {s : ByteArray} {a e p : Int} (h : Rdr w g s a e p) {R : Nat} (hR : R ≠ g) (o : Nat) (v : Value) : Rdr (w.setCell ⟨R, o, none⟩ v) g s a e p :=
  (Below.heap_setCell _ _ _ _ (by simp; omega)).trans h
theorem Rdr.alloc {w : World} {g : Nat} {s : ByteArray} {a e p : Int} (h : Rdr w g s a e p) (x : Obj) : Rdr (w.alloc x) g s a e p := h.past ((Below.refl _ _).alloc (Nat.le_refl _) x)
/-- A block that holds a value. -/
def Bx (w : World) (R : Nat) (cs : Array Value) : Prop := w.heap[R]? = some (.cells cs 28 (0, 0))
theorem Bx.new (w : World) (cs : Array Value) : Bx (w.alloc (.cells cs 28)) w.heap.size cs := heap_alloc_new w _
theorem Bx.lt {w : World} {R : Nat} {cs : Array Value} (h : Bx w R cs) : R < w.heap.size := (Array.getElem?_eq_some_iff.1 h).1
theorem Bx.alloc {w : World} {R : Nat} {cs : Array Value} (h : Bx w R cs) (x : Obj) : Bx (w.alloc x) R cs := (Below.heap_alloc _ _ _ h.lt).trans h
theorem Bx.past {g : Nat} {w w' : World} {R : Nat} {cs : Array Value} (h : Bx w R cs) (hp : Past g w w') (hR : R ≠ g) : Bx w' R cs := (hp.block R h.lt hR).trans h
theorem Bx.below {B : Nat} {w w' : World} {R : Nat} {cs : Array Value} (h : Bx w R cs) (hp : Below B w w') (hR : R < B) : Bx w' R cs := (hp.block R hR).trans h
theorem Bx.other {w : World} {R : Nat} {cs : Array Value} (h : Bx w R cs) {S : Nat} (hR : S ≠ R) (o : Nat) (v : Value) : Bx (w.setCell ⟨S, o, none⟩ v) R cs := (Below.heap_setCell _ _ _ _ (by simp; omega)).trans h
theorem Bx.set {w : World} {R : Nat} {cs : Array Value} (h : Bx w R cs) (o : Nat) (v : Value) : Bx (w.setCell ⟨R, o, none⟩ v) R (cs.setIfInBounds o v) := by
  unfold Bx at *
  simp [World.setCell, Array.getElem?_modify, h]
theorem Bx.cells {w : World} {R : Nat} {a0 a1 a2 a3 a4 a5 : Value} (h : Bx w R #[a0, a1, a2, a3, a4, a5]) :
    w.cell? ⟨R, 0, none⟩ = some a0 ∧ w.cell? ⟨R, 1, none⟩ = some a1 ∧ w.cell? ⟨R, 2, none⟩ = some a2 ∧ w.cell? ⟨R, 3, none⟩ = some a3 ∧ w.cell? ⟨R, 4, none⟩ = some a4 ∧ w.cell? ⟨R, 5, none⟩ = some a5 ∧ (∀ o, w.frozen? ⟨R, o, none⟩ = false) ∧ R < w.heap.size := by
  have hl := h.lt
  unfold Bx at h
  refine ⟨?_, ?_, ?_, ?_, ?_, ?_, fun o => ?_, hl⟩
  all_goals first | (simp [World.cell?, h]; done) | (simp [World.frozen?, h]; done)
/-- The result is laid into its box. -/
theorem Past.six {g : Nat} {a w : World} (h : Past g a w) {R : Nat} (hR : a.heap.size ≤ R) (v0 v1 v2 v3 v4 v5 : Value) :
    Past g a ((((((w.setCell ⟨R, 0, none⟩ v0).setCell ⟨R, 1, none⟩ v1).setCell ⟨R, 2, none⟩ v2).setCell ⟨R, 3, none⟩ v3).setCell ⟨R, 4, none⟩ v4).setCell ⟨R, 5, none⟩ v5) :=
  (((((h.setNew hR 0 v0).setNew hR 1 v1).setNew hR 2 v2).setNew hR 3 v3).setNew hR 4 v4).setNew hR 5 v5
theorem Rdr.six {w : World} {g : Nat} {s : ByteArray} {a e p : Int} (h : Rdr w g s a e p) {R : Nat} (hR : R ≠ g) (v0 v1 v2 v3 v4 v5 : Value) :
    Rdr ((((((w.setCell ⟨R, 0, none⟩ v0).setCell ⟨R, 1, none⟩ v1).setCell ⟨R, 2, none⟩ v2).setCell ⟨R, 3, none⟩ v3).setCell ⟨R, 4, none⟩ v4).setCell ⟨R, 5, none⟩ v5) g s a e p :=
  (((((h.other hR 0 v0).other hR 1 v1).other hR 2 v2).other hR 3 v3).other hR 4 v4).other hR 5 v5
theorem Bx.six {w : World} {R : Nat} {a0 a1 a2 a3 a4 a5 : Value} (h : Bx w R #[a0, a1, a2, a3, a4, a5]) (v0 v1 v2 v3 v4 v5 : Value) :
    Bx ((((((w.setCell ⟨R, 0, none⟩ v0).setCell ⟨R, 1, none⟩ v1).setCell ⟨R, 2, none⟩ v2).setCell ⟨R, 3, none⟩ v3).setCell ⟨R, 4, none⟩ v4).setCell ⟨R, 5, none⟩ v5) R #[v0, v1, v2, v3, v4, v5] :=
  (((((h.set 0 v0).set 1 v1).set 2 v2).set 3 v3).set 4 v4).set 5 v5
theorem info27 : (Tryz.prog.info? 28).map (·.size) = some 6 := by kernel_rfl
theorem results_six {fn : Func} (h : fn.results = #[.cell 4 28]) (tmps : Array Value) (w : World) (R : Nat) (a0 a1 a2 a3 a4 a5 : Value)
    (hp : tmps.getD 4 undef = .pointer (some ⟨R, 0, none⟩)) (hg : Bx w R #[a0, a1, a2, a3, a4, a5]) :
    (results fn tmps).run Tryz.prog w = .ok (.agg #[a0, a1, a2, a3, a4, a5]) w := by
  have hp' : tmps[4]?.getD undef = .pointer (some ⟨R, 0, none⟩) := by simpa using hp
  simp [results, h, hp', asAddr, run_loadVar_row w R 28 28 #[a0, a1, a2, a3, a4, a5] (0, 0) _ hg Tryz.underlying28 rfl (by rw [info27]; rfl)]
/-- The zero value, but for its kind. -/
def bare (k : Int) : Array Value := fields k 0 0 ⟨#[]⟩ none 0 0 none 0 0
def zero6 : Array Value := #[.int .i64 0, .int .i64 0, .float .f64 0, .string ⟨#[]⟩, .slice none 0 0, .slice none 0 0]
set_option maxHeartbeats 2000000 in
theorem RValue_err {w : World} {g : Nat} {s : ByteArray} {a e p d : Int} (h : Rdr w g s a e p) (he : e ≠ 0) (hp : 0 ≤ p ∧ p ≤ 1000000) :
    Calls Tryz.prog 115 #[.pointer (some ⟨g, 0, none⟩), .int .i64 d] w fun x w' => x = .returned (.agg (bare 0)) ∧ Past g w w' ∧ Rdr w' g s a e (p + 1) := by
  have hW : Past g w (w.alloc (.cells #[.int .i64 0, .int .i64 0, .float .f64 0, .string ⟨#[]⟩, .slice none 0 0, .slice none 0 0] 28)) := (Past.refl g w).alloc _
  have hR := Bx.new w #[.int .i64 0, .int .i64 0, .float .f64 0, .string ⟨#[]⟩, .slice none 0 0, .slice none 0 0]
  have hg := h.lt
  have B := begin_err (d := d) (h.alloc (.cells #[.int .i64 0, .int .i64 0, .float .f64 0, .string ⟨#[]⟩, .slice none 0 0, .slice none 0 0] 28)) he hp
  have te : (e == 0) = false := by simpa using he
  have te' : (e != 0) = true := by simpa using he
  have HR := Lib.hid hR
  have HW := Lib.hid hW
  have HG := Lib.hid hg
  have SF := float_store
  unfold bare fields
  clear h hR hW
  go_enter Tryz.func115, Tryz.ntmps115
  go_wp2_with (first | (go_at_call 144; refine B.mono ?_; rintro x w1 ⟨rfl, hp1, h1⟩; have Y := Byte_err h1 he) | (go_at_call 49; refine Y.mono ?_; rintro x w2 ⟨rfl, h2, hp2⟩; obtain ⟨d0, d1, d2, d3, df⟩ := h2.cells; have hg2 : g < w2.heap.size := h2.lt; have hR2 := HR.out.past (hp1.trans hp2) (by have := HG.out; omega); obtain ⟨r0, r1, r2, r3, r4, r5, rf, rl⟩ := hR2.cells))
  refine bodyPost_ret (results_six rfl _ _ w.heap.size (.int .i64 0) (.int .i64 0) (.float .f64 0) (.string ⟨#[]⟩) (.slice none 0 0) (.slice none 0 0) rfl ((hR2.six _ _ _ _ _ _).alloc _)) rfl ⟨rfl, ?_, ?_⟩
  · exact ((HW.out.trans (hp1.trans hp2)).six (Nat.le_refl _) _ _ _ _ _ _).alloc _
  · exact (h2.six (by have := HG.out; omega) _ _ _ _ _ _).alloc _
end Go.Proofs.YtekojglcbalhnaaGreatDoor
namespace Go.Proofs.YtekojglcbalhnaaGreatDoor
open Go.RowKit

/-- Strings in blocks of the reader's own. -/
def StrsOwn (w : World) (P : Nat → Prop) (A : Option Addr) (c : Nat) (ns : Nat → ByteArray) : Prop :=
  0 < c → ∃ g o, A = some ⟨g, o, none⟩ ∧ P g ∧ g < w.heap.size ∧ ∀ i, i < c → w.cell? ⟨g, o + i, none⟩ = some (.string (ns i)) ∧ (ns i).size ≤ maxLen
/-- A value by value is this tree, and lies in blocks that meet P. -/
inductive VOwn (w : World) (P : Nat → Prop) : Array Value → VT → Prop
  | mk (k n : Int) (f : Nat) (s : ByteArray) (A : Option Addr) (c ca : Nat) (B : Option Addr) (m cb : Nat) (ns : Nat → ByteArray) (xs : Nat → VT) (vs : Nat → Array Value)
      (hk : -9223372036854775808 ≤ k ∧ k ≤ 9223372036854775807) (hn : -9223372036854775808 ≤ n ∧ n ≤ 9223372036854775807) (hf : f < 18446744073709551616) (hs : s.size ≤ maxLen) (hc : c ≤ ca ∧ ca ≤ maxLen) (hm : m ≤ cb ∧ cb ≤ maxLen)
      (hns : StrsOwn w P A c ns)
      (hB : 0 < m → ∃ g o, B = some ⟨g, o, none⟩ ∧ P g ∧ g < w.heap.size ∧ ∀ i, i < m → SixAt w g (o + i * 6) (vs i))
      (hxs : ∀ i, i < m → VOwn w P (vs i) (xs i)) :
      VOwn w P (fields k n f s A c ca B m cb) (.mk k n f s c ns m xs)
theorem VOwn.val {w : World} {P : Nat → Prop} {v : Array Value} {t : VT} (h : VOwn w P v t) : Val w w.heap.size v t := by
  induction h with
  | mk k n f s A c ca B m cb ns xs vs hk hn hf hs hc hm hns hB hxs ih =>
    refine .mk k n f s A c ca B m cb ns xs vs hk hn hf hs hc hm (fun h0 => ?_) (fun h0 => ?_) ih
    · obtain ⟨g, o, e, _, hg, hx⟩ := hns h0
      exact ⟨g, o, e, hg, hx⟩
    · obtain ⟨g, o, e, _, hg, hx⟩ := hB h0
      exact ⟨g, o, e, hg, hx⟩
/-- What keeps all these blocks keeps the value. -/
theorem VOwn.keep {w w' : World} {P : Nat → Prop} {v : Array Value} {t : VT} (h : VOwn w P v t) (hs' : w.heap.size ≤ w'.heap.size) (hw : ∀ g, P g → g < w.heap.size → w'.heap[g]? = w.heap[g]?) : VOwn w' P v t := by
  have hc' : ∀ g o, P g → g < w.heap.size → w'.cell? ⟨g, o, none⟩ = w.cell? ⟨g, o, none⟩ := fun g o h1 h2 => World.cell?_of_block (w := w) (a := ⟨g, o, none⟩) (hw g h1 h2)
  induction h with
  | mk k n f s A c ca B m cb ns xs vs hk hn hf hs hc hm hns hB hxs ih =>
    refine .mk k n f s A c ca B m cb ns xs vs hk hn hf hs hc hm (fun h0 => ?_) (fun h0 => ?_) ih
    · obtain ⟨g, o, e, hl, hg, hx⟩ := hns h0
      exact ⟨g, o, e, hl, by omega, fun i hi => ⟨(hc' _ _ hl hg).trans (hx i hi).1, (hx i hi).2⟩⟩
    · obtain ⟨g, o, e, hl, hg, hx⟩ := hB h0
      exact ⟨g, o, e, hl, by omega, fun i hi j hj => (hc' _ _ hl hg).trans (hx i hi j hj)⟩
theorem VOwn.imp {w : World} {P Q : Nat → Prop} {v : Array Value} {t : VT} (h : VOwn w P v t) (hi : ∀ g, P g → g < w.heap.size → Q g) : VOwn w Q v t := by
  induction h with
  | mk k n f s A c ca B m cb ns xs vs hk hn hf hs hc hm hns hB hxs ih =>
    refine .mk k n f s A c ca B m cb ns xs vs hk hn hf hs hc hm (fun h0 => ?_) (fun h0 => ?_) ih
    · obtain ⟨g, o, e, hl, hg, hx⟩ := hns h0
      exact ⟨g, o, e, hi g hl hg, hg, hx⟩
    · obtain ⟨g, o, e, hl, hg, hx⟩ := hB h0
      exact ⟨g, o, e, hi g hl hg, hg, hx⟩
theorem VOwn.past {g : Nat} {w w' : World} {P : Nat → Prop} {v : Array Value} {t : VT} (h : VOwn w P v t) (hp : Past g w w') (hg : ¬ P g) : VOwn w' P v t :=
  h.keep hp.size fun k h1 h2 => hp.block k h2 (fun e => hg (e ▸ h1))
/-- A value without names and items. -/
def leaf (k n : Int) (f : Nat) (s : ByteArray) : VT := .mk k n f s 0 (fun _ => ⟨#[]⟩) 0 (fun _ => .bad)
theorem VOwn.leaf {w : World} {P : Nat → Prop} {k n : Int} {f : Nat} {s : ByteArray} (hk : -9223372036854775808 ≤ k ∧ k ≤ 9223372036854775807) (hn : -9223372036854775808 ≤ n ∧ n ≤ 9223372036854775807) (hf : f < 18446744073709551616) (hs : s.size ≤ maxLen) :
    VOwn w P (fields k n f s none 0 0 none 0 0) (leaf k n f s) :=
  .mk k n f s none 0 0 none 0 0 _ _ (fun _ => #[]) hk hn hf hs ⟨Nat.le_refl _, Nat.zero_le _⟩ ⟨Nat.le_refl _, Nat.zero_le _⟩ (fun h => absurd h (Nat.lt_irrefl 0)) (fun h => absurd h (Nat.lt_irrefl 0)) (fun i h => absurd h (Nat.not_lt_zero i))

/-! ### What is read -/
/-- The eight bytes of a word, the highest first. -/
def wP : Nat → Nat → List UInt8 → Except Nat (Nat × List UInt8)
  | 0, b, l => .ok (b, l)
  | _ + 1, _, [] => .error 14
  | j + 1, b, c :: r => wP j (b * 256 + c.toNat) r
/-- A plain value behind its kind. -/
def plainP (k : Nat) (l : List UInt8) : Except Nat (VT × List UInt8) :=
  if k = 1 then (match l with | [] => .error 14 | c :: r => if 1 < c.toNat then .error 5 else .ok (leaf 1 c.toNat 0 ⟨#[]⟩, r))
  else if k = 2 then (match iP l with | .error c => .error c | .ok (n, r) => .ok (leaf 2 n 0 ⟨#[]⟩, r))
  else if k = 3 then (match wP 8 0 l with | .error c => .error c | .ok (b, r) => if canonW b = b then .ok (leaf 3 0 b ⟨#[]⟩, r) else .error 5)
  else (match sP 200 l with | .error c => .error c | .ok (t, r) => .ok (leaf 4 0 0 t, r))
/-- So many items, each with its name in a record. -/
def itemsP (F : Nat → List UInt8 → Except Nat (VT × Nat × List UInt8)) (k : Nat) : Nat → Nat → List UInt8 → Except Nat (List (ByteArray × VT) × Nat × List UInt8)
  | 0, p, l => .ok ([], p, l)
  | n + 1, p, l =>
    match (if k = 6 then sP 30 l else .ok (⟨#[]⟩, l)) with
    | .error c => .error c
    | .ok (nm, l1) => match F p l1 with
      | .error c => .error c
      | .ok (t, p1, l2) => match itemsP F k n p1 l2 with
        | .error c => .error c
        | .ok (xs, p2, l3) => .ok ((nm, t) :: xs, p2, l3)
def treeOf (k : Nat) (xs : List (ByteArray × VT)) : VT :=
  .mk k 0 0 ⟨#[]⟩ (if k = 6 then xs.length else 0) (fun i => (xs.getD i (⟨#[]⟩, .bad)).1) xs.length (fun i => (xs.getD i (⟨#[]⟩, .bad)).2)
/-- A value, q levels deep at most, p parts ahead of it. -/
def vP : Nat → Nat → List UInt8 → Except Nat (VT × Nat × List UInt8)
  | 0, _, _ => .error 5
  | q + 1, p, l =>
    if 200 < p + 1 then .error 5 else
    match l with
    | [] => .error 14
    | b :: r =>
      if b.toNat < 1 ∨ 6 < b.toNat then .error 5
      else if b.toNat ≤ 4 then (match plainP b.toNat r with | .error c => .error c | .ok (t, r) => .ok (t, p + 1, r))
      else match mP r with
        | .error c => .error c
        | .ok (n, r) => match itemsP (vP q) b.toNat n (p + 1) r with
          | .error c => .error c
          | .ok (xs, p', r) => .ok (treeOf b.toNat xs, p', r)
/-- How the reading of a value ends. -/
def VEnds (s : ByteArray) (w : World) (g : Nat) (r : Except Nat (VT × Nat × List UInt8)) (x : Ending) (w' : World) : Prop :=
  Past g w w' ∧ match r with
  | .error c => (∃ k n f t A m ca B m' cb, x = .returned (.agg (fields k n f t A m ca B m' cb))) ∧ c ≠ 0 ∧ ∃ a p : Nat, p ≤ 1000000 ∧ Rdr w' g s a c p
  | .ok (t, p, l) => (∃ v, x = .returned (.agg v) ∧ VOwn w' (fun b => w.heap.size ≤ b) v t) ∧ ∃ a : Nat, a ≤ s.size ∧ l = left s a ∧ Rdr w' g s a 0 p
set_option maxHeartbeats 2000000 in
theorem RValue_begin {w : World} {g : Nat} {s : ByteArray} {a p : Nat} {d : Int} (h : Rdr w g s a 0 p) (hp : p ≤ 1000) (hd : 12 < d ∨ 200 < p + 1) :
    Calls Tryz.prog 115 #[.pointer (some ⟨g, 0, none⟩), .int .i64 d] w fun x w' => VEnds s w g (.error 5) x w' := by
  have hW : Past g w (w.alloc (.cells #[.int .i64 0, .int .i64 0, .float .f64 0, .string ⟨#[]⟩, .slice none 0 0, .slice none 0 0] 28)) := (Past.refl g w).alloc _
  have hR := Bx.new w #[.int .i64 0, .int .i64 0, .float .f64 0, .string ⟨#[]⟩, .slice none 0 0, .slice none 0 0]
  have hg := h.lt
  have B := begin_ok (d := d) (h.alloc (.cells #[.int .i64 0, .int .i64 0, .float .f64 0, .string ⟨#[]⟩, .slice none 0 0, .slice none 0 0] 28)) (by omega)
  rw [if_pos (by omega)] at B
  have HR := Lib.hid hR
  have HW := Lib.hid hW
  have HG := Lib.hid hg
  have SF := float_store
  clear h hR hW
  go_enter Tryz.func115, Tryz.ntmps115
  go_wp2_with (first | (go_at_call 144; refine B.mono ?_; rintro x w1 ⟨rfl, hp1, h1⟩; have Y := Byte_err h1 (by decide)) | (go_at_call 49; refine Y.mono ?_; rintro x w2 ⟨rfl, h2, hp2⟩; obtain ⟨d0, d1, d2, d3, df⟩ := h2.cells; have hg2 : g < w2.heap.size := h2.lt; have hR2 := HR.out.past (hp1.trans hp2) (by have := HG.out; omega); obtain ⟨r0, r1, r2, r3, r4, r5, rf, rl⟩ := hR2.cells))
  refine bodyPost_ret (results_six rfl _ _ w.heap.size (.int .i64 0) (.int .i64 0) (.float .f64 0) (.string ⟨#[]⟩) (.slice none 0 0) (.slice none 0 0) rfl ((hR2.six _ _ _ _ _ _).alloc _)) rfl ⟨?_, ⟨0, 0, 0, ⟨#[]⟩, none, 0, 0, none, 0, 0, rfl⟩, by decide, a, p + 1, by omega, ?_⟩
  · exact ((HW.out.trans (hp1.trans hp2)).six (Nat.le_refl _) _ _ _ _ _ _).alloc _
  · exact (h2.six (by have := HG.out; omega) _ _ _ _ _ _).alloc _
set_option maxHeartbeats 2000000 in
theorem RValue_end {w : World} {g : Nat} {s : ByteArray} {a p : Nat} {d : Int} (h : Rdr w g s a 0 p) (hp : ¬ (12 < d ∨ 200 < p + 1)) (ha : s.size ≤ a) :
    Calls Tryz.prog 115 #[.pointer (some ⟨g, 0, none⟩), .int .i64 d] w fun x w' => VEnds s w g (.error 14) x w' := by
  have hW : Past g w (w.alloc (.cells #[.int .i64 0, .int .i64 0, .float .f64 0, .string ⟨#[]⟩, .slice none 0 0, .slice none 0 0] 28)) := (Past.refl g w).alloc _
  have hR := Bx.new w #[.int .i64 0, .int .i64 0, .float .f64 0, .string ⟨#[]⟩, .slice none 0 0, .slice none 0 0]
  have hg := h.lt
  have B := begin_ok (d := d) (h.alloc (.cells #[.int .i64 0, .int .i64 0, .float .f64 0, .string ⟨#[]⟩, .slice none 0 0, .slice none 0 0] 28)) (by omega)
  rw [if_neg (by omega)] at B
  have HR := Lib.hid hR
  have HW := Lib.hid hW
  have HG := Lib.hid hg
  have SF := float_store
  clear h hR hW
  go_enter Tryz.func115, Tryz.ntmps115
  go_wp2_with (first | (go_at_call 144; refine B.mono ?_; rintro x w1 ⟨rfl, hp1, h1⟩; have Y := Byte_end h1 ha) | (go_at_call 49; refine Y.mono ?_; rintro x w2 ⟨rfl, h2, hp2⟩; obtain ⟨d0, d1, d2, d3, df⟩ := h2.cells; have hg2 : g < w2.heap.size := h2.lt; have hR2 := HR.out.past (hp1.trans hp2) (by have := HG.out; omega); obtain ⟨r0, r1, r2, r3, r4, r5, rf, rl⟩ := hR2.cells))
  refine bodyPost_ret (results_six rfl _ _ w.heap.size (.int .i64 0) (.int .i64 0) (.float .f64 0) (.string ⟨#[]⟩) (.slice none 0 0) (.slice none 0 0) rfl ((hR2.six _ _ _ _ _ _).alloc _)) rfl ⟨?_, ⟨0, 0, 0, ⟨#[]⟩, none, 0, 0, none, 0, 0, rfl⟩, by decide, a, p + 1, by omega, ?_⟩
  · exact ((HW.out.trans (hp1.trans hp2)).six (Nat.le_refl _) _ _ _ _ _ _).alloc _
  · exact (h2.six (by have := HG.out; omega) _ _ _ _ _ _).alloc _
end Go.Proofs.YtekojglcbalhnaaGreatDoor
namespace Go.Proofs.YtekojglcbalhnaaGreatDoor
open Go.RowKit

set_option maxHeartbeats 2000000 in
theorem RValue_kind {w : World} {g : Nat} {s : ByteArray} {a p : Nat} {d k : Int} (h : Rdr w g s a 0 p) (hp : ¬ (12 < d ∨ 200 < p + 1)) (ha : a < s.size) (hs : s.size ≤ 1000000000) (hkb : ((s[a].toNat : Nat) : Int) = k) (hk : k < 1 ∨ 6 < k) :
    Calls Tryz.prog 115 #[.pointer (some ⟨g, 0, none⟩), .int .i64 d] w fun x w' => VEnds s w g (.error 5) x w' := by
  have hW : Past g w (w.alloc (.cells #[.int .i64 0, .int .i64 0, .float .f64 0, .string ⟨#[]⟩, .slice none 0 0, .slice none 0 0] 28)) := (Past.refl g w).alloc _
  have hR := Bx.new w #[.int .i64 0, .int .i64 0, .float .f64 0, .string ⟨#[]⟩, .slice none 0 0, .slice none 0 0]
  have hg := h.lt
  have B := begin_ok (d := d) (h.alloc (.cells #[.int .i64 0, .int .i64 0, .float .f64 0, .string ⟨#[]⟩, .slice none 0 0, .slice none 0 0] 28)) (by omega)
  rw [if_neg (by omega)] at B
  have HR := Lib.hid hR
  have HW := Lib.hid hW
  have HG := Lib.hid hg
  have HP := Lib.hid hp
  have SF := float_store
  clear h hR hW hp
  go_enter Tryz.func115, Tryz.ntmps115
  go_wp2_with (first
    | (go_at_call 144; refine B.mono ?_; rintro x w1 ⟨rfl, hp1, h1⟩; have Y := Byte_ok h1 ha (by omega); rw [hkb] at Y)
    | (go_at_call 49; refine Y.mono ?_; rintro x w2 ⟨rfl, h2, hp2⟩; obtain ⟨d0, d1, d2, d3, df⟩ := h2.cells; have hg2 : g < w2.heap.size := h2.lt; have hR2 := HR.out.past (hp1.trans hp2) (by have := HG.out; omega); obtain ⟨r0, r1, r2, r3, r4, r5, rf, rl⟩ := hR2.cells; have F := fail_0 (h2.alloc (.cells #[.int .i64 k, .int .i64 0, .float .f64 0, .string ⟨#[]⟩, .slice none 0 0, .slice none 0 0] 28)) 5)
    | (go_at_call 84; refine F.mono ?_; rintro x w3 ⟨rfl, h3, hp3⟩; obtain ⟨e0, e1, e2, e3, ef⟩ := h3.cells; have hR3 := (hR2.alloc _).past hp3 (by have := HG.out; omega); obtain ⟨q0, q1, q2, q3, q4, q5, qf, ql⟩ := hR3.cells; have hV3 := (Bx.new w2 #[.int .i64 k, .int .i64 0, .float .f64 0, .string ⟨#[]⟩, .slice none 0 0, .slice none 0 0]).past hp3 (by omega); obtain ⟨v0, v1, v2, v3, v4, v5, vf, vl⟩ := hV3.cells))
  all_goals
    refine bodyPost_ret (results_six rfl _ _ w.heap.size (.int .i64 k) (.int .i64 0) (.float .f64 0) (.string ⟨#[]⟩) (.slice none 0 0) (.slice none 0 0) rfl (hR3.six _ _ _ _ _ _)) rfl ⟨?_, ⟨k, 0, 0, ⟨#[]⟩, none, 0, 0, none, 0, 0, rfl⟩, by decide, a + 1, p + 1, by have := HP.out; omega, ?_⟩
    · exact ((HW.out.trans (hp1.trans (hp2.trans (((Past.refl _ _).alloc _).trans hp3)))).six (Nat.le_refl _) _ _ _ _ _ _)
    · exact (h3.six (by have := HG.out; omega) _ _ _ _ _ _)
-- GENERATED
set_option maxRecDepth 20000 in
set_option maxHeartbeats 4000000 in
theorem RValue_2e {w : World} {g : Nat} {s : ByteArray} {a p : Nat} {d : Int} {c : Nat} (hi : iP (left s (a + 1)) = .error c) (h : Rdr w g s a 0 p) (hp : ¬ (12 < d ∨ 200 < p + 1)) (ha : a < s.size) (hs : s.size ≤ 1000000000) (hkb : ((s[a].toNat : Nat) : Int) = 2) :
    Calls Tryz.prog 115 #[.pointer (some ⟨g, 0, none⟩), .int .i64 d] w fun x w' => VEnds s w g (.error c) x w' := by
  have hW : Past g w (w.alloc (.cells #[.int .i64 0, .int .i64 0, .float .f64 0, .string ⟨#[]⟩, .slice none 0 0, .slice none 0 0] 28)) := (Past.refl g w).alloc _
  have hR := Bx.new w #[.int .i64 0, .int .i64 0, .float .f64 0, .string ⟨#[]⟩, .slice none 0 0, .slice none 0 0]
  have hg := h.lt
  have B := begin_ok (d := d) (h.alloc (.cells #[.int .i64 0, .int .i64 0, .float .f64 0, .string ⟨#[]⟩, .slice none 0 0, .slice none 0 0] 28)) (by omega)
  rw [if_neg (by omega)] at B
  have HR := Lib.hid hR
  have HW := Lib.hid hW
  have HG := Lib.hid hg
  have HP := Lib.hid hp
  have SF := float_store
  clear h hR hW hp
  go_enter Tryz.func115, Tryz.ntmps115
  go_wp2_with (first
    | (go_at_call 144; refine B.mono ?_; rintro x w1 ⟨rfl, hp1, h1⟩; have Y := Byte_ok h1 ha (by omega); rw [hkb] at Y)
    | (go_at_call 49; refine Y.mono ?_; rintro x w2 ⟨rfl, h2, hp2⟩; obtain ⟨d0, d1, d2, d3, df⟩ := h2.cells; have hg2 : g < w2.heap.size := h2.lt; have hR2 := HR.out.past (hp1.trans hp2) (by have := HG.out; omega); obtain ⟨r0, r1, r2, r3, r4, r5, rf, rl⟩ := hR2.cells; have h2v := h2.alloc (.cells #[.int .i64 2, .int .i64 0, .float .f64 0, .string ⟨#[]⟩, .slice none 0 0, .slice none 0 0] 28); have I := Int_ok h2v ha hs; rw [hi] at I)
    | (go_at_call 145; refine I.mono ?_; rintro x w3 ⟨hp3, rfl, hc, a3, h3⟩; obtain ⟨e0, e1, e2, e3, ef⟩ := h3.cells; have hR3 := (hR2.alloc _).past hp3 (by have := HG.out; omega); obtain ⟨q0, q1, q2, q3, q4, q5, qf, ql⟩ := hR3.cells; have hV3 := (Bx.new w2 #[.int .i64 2, .int .i64 0, .float .f64 0, .string ⟨#[]⟩, .slice none 0 0, .slice none 0 0]).past hp3 (by omega); obtain ⟨v0, v1, v2, v3, v4, v5, vf, vl⟩ := hV3.cells))
  refine bodyPost_ret (results_six rfl _ _ w.heap.size (.int .i64 2) (.int .i64 0) (.float .f64 0) (.string ⟨#[]⟩) (.slice none 0 0) (.slice none 0 0) rfl ((hR3.other (by omega) _ _).six _ _ _ _ _ _)) rfl ⟨?_, ⟨2, 0, 0, ⟨#[]⟩, none, 0, 0, none, 0, 0, rfl⟩, hc, a3, p + 1, by have := HP.out; omega, ?_⟩
  · exact (((HW.out.trans (hp1.trans (hp2.trans (((Past.refl _ _).alloc _).trans hp3)))).setNew (by have := hp1.size; have := hp2.size; have := HW.out.size; omega) _ _).six (Nat.le_refl _) _ _ _ _ _ _)
  · exact ((h3.other (by omega) _ _).six (by have := HG.out; omega) _ _ _ _ _ _)
set_option maxRecDepth 20000 in
set_option maxHeartbeats 4000000 in
theorem RValue_2 {w : World} {g : Nat} {s : ByteArray} {a p : Nat} {d : Int} {n : Int} {l : List UInt8} (hi : iP (left s (a + 1)) = .ok (n, l)) (hn : -9223372036854775808 ≤ n ∧ n ≤ 9223372036854775807) (h : Rdr w g s a 0 p) (hp : ¬ (12 < d ∨ 200 < p + 1)) (ha : a < s.size) (hs : s.size ≤ 1000000000) (hkb : ((s[a].toNat : Nat) : Int) = 2) :
    Calls Tryz.prog 115 #[.pointer (some ⟨g, 0, none⟩), .int .i64 d] w fun x w' => VEnds s w g (.ok (leaf 2 n 0 ⟨#[]⟩, p + 1, l)) x w' := by
  have hW : Past g w (w.alloc (.cells #[.int .i64 0, .int .i64 0, .float .f64 0, .string ⟨#[]⟩, .slice none 0 0, .slice none 0 0] 28)) := (Past.refl g w).alloc _
  have hR := Bx.new w #[.int .i64 0, .int .i64 0, .float .f64 0, .string ⟨#[]⟩, .slice none 0 0, .slice none 0 0]
  have hg := h.lt
  have B := begin_ok (d := d) (h.alloc (.cells #[.int .i64 0, .int .i64 0, .float .f64 0, .string ⟨#[]⟩, .slice none 0 0, .slice none 0 0] 28)) (by omega)
  rw [if_neg (by omega)] at B
  have HR := Lib.hid hR
  have HW := Lib.hid hW
  have HG := Lib.hid hg
  have HP := Lib.hid hp
  have SF := float_store
  clear h hR hW hp
  go_enter Tryz.func115, Tryz.ntmps115
  go_wp2_with (first
    | (go_at_call 144; refine B.mono ?_; rintro x w1 ⟨rfl, hp1, h1⟩; have Y := Byte_ok h1 ha (by omega); rw [hkb] at Y)
    | (go_at_call 49; refine Y.mono ?_; rintro x w2 ⟨rfl, h2, hp2⟩; obtain ⟨d0, d1, d2, d3, df⟩ := h2.cells; have hg2 : g < w2.heap.size := h2.lt; have hR2 := HR.out.past (hp1.trans hp2) (by have := HG.out; omega); obtain ⟨r0, r1, r2, r3, r4, r5, rf, rl⟩ := hR2.cells; have h2v := h2.alloc (.cells #[.int .i64 2, .int .i64 0, .float .f64 0, .string ⟨#[]⟩, .slice none 0 0, .slice none 0 0] 28); have I := Int_ok h2v ha hs; rw [hi] at I)
    | (go_at_call 145; refine I.mono ?_; rintro x w3 ⟨hp3, rfl, a3, ha3, hl3, h3⟩; obtain ⟨e0, e1, e2, e3, ef⟩ := h3.cells; have hR3 := (hR2.alloc _).past hp3 (by have := HG.out; omega); obtain ⟨q0, q1, q2, q3, q4, q5, qf, ql⟩ := hR3.cells; have hV3 := (Bx.new w2 #[.int .i64 2, .int .i64 0, .float .f64 0, .string ⟨#[]⟩, .slice none 0 0, .slice none 0 0]).past hp3 (by omega); obtain ⟨v0, v1, v2, v3, v4, v5, vf, vl⟩ := hV3.cells))
  refine bodyPost_ret (results_six rfl _ _ w.heap.size (.int .i64 2) (.int .i64 n) (.float .f64 0) (.string ⟨#[]⟩) (.slice none 0 0) (.slice none 0 0) rfl ((hR3.other (by omega) _ _).six _ _ _ _ _ _)) rfl ⟨?_, ⟨_, rfl, VOwn.leaf (by omega) hn (by decide) (by decide)⟩, a3, ha3, hl3, ?_⟩
  · exact (((HW.out.trans (hp1.trans (hp2.trans (((Past.refl _ _).alloc _).trans hp3)))).setNew (by have := hp1.size; have := hp2.size; have := HW.out.size; omega) _ _).six (Nat.le_refl _) _ _ _ _ _ _)
  · exact ((h3.other (by omega) _ _).six (by have := HG.out; omega) _ _ _ _ _ _)
set_option maxRecDepth 20000 in
set_option maxHeartbeats 4000000 in
theorem RValue_4e {w : World} {g : Nat} {s : ByteArray} {a p : Nat} {d : Int} {c : Nat} (hi : sP 200 (left s (a + 1)) = .error c) (h : Rdr w g s a 0 p) (hp : ¬ (12 < d ∨ 200 < p + 1)) (ha : a < s.size) (hs : s.size ≤ 1000000000) (hkb : ((s[a].toNat : Nat) : Int) = 4) :
    Calls Tryz.prog 115 #[.pointer (some ⟨g, 0, none⟩), .int .i64 d] w fun x w' => VEnds s w g (.error c) x w' := by
  have hW : Past g w (w.alloc (.cells #[.int .i64 0, .int .i64 0, .float .f64 0, .string ⟨#[]⟩, .slice none 0 0, .slice none 0 0] 28)) := (Past.refl g w).alloc _
  have hR := Bx.new w #[.int .i64 0, .int .i64 0, .float .f64 0, .string ⟨#[]⟩, .slice none 0 0, .slice none 0 0]
  have hg := h.lt
  have B := begin_ok (d := d) (h.alloc (.cells #[.int .i64 0, .int .i64 0, .float .f64 0, .string ⟨#[]⟩, .slice none 0 0, .slice none 0 0] 28)) (by omega)
  rw [if_neg (by omega)] at B
  have HR := Lib.hid hR
  have HW := Lib.hid hW
  have HG := Lib.hid hg
  have HP := Lib.hid hp
  have SF := float_store
  clear h hR hW hp
  go_enter Tryz.func115, Tryz.ntmps115
  go_wp2_with (first
    | (go_at_call 144; refine B.mono ?_; rintro x w1 ⟨rfl, hp1, h1⟩; have Y := Byte_ok h1 ha (by omega); rw [hkb] at Y)
    | (go_at_call 49; refine Y.mono ?_; rintro x w2 ⟨rfl, h2, hp2⟩; obtain ⟨d0, d1, d2, d3, df⟩ := h2.cells; have hg2 : g < w2.heap.size := h2.lt; have hR2 := HR.out.past (hp1.trans hp2) (by have := HG.out; omega); obtain ⟨r0, r1, r2, r3, r4, r5, rf, rl⟩ := hR2.cells; have h2v := h2.alloc (.cells #[.int .i64 4, .int .i64 0, .float .f64 0, .string ⟨#[]⟩, .slice none 0 0, .slice none 0 0] 28); have I := Str_ok (most := 200) h2v ha hs (by omega); rw [hi] at I)
    | (go_at_call 146; refine I.mono ?_; rintro x w3 ⟨hp3, rfl, hc, a3, h3⟩; obtain ⟨e0, e1, e2, e3, ef⟩ := h3.cells; have hR3 := (hR2.alloc _).past hp3 (by have := HG.out; omega); obtain ⟨q0, q1, q2, q3, q4, q5, qf, ql⟩ := hR3.cells; have hV3 := (Bx.new w2 #[.int .i64 4, .int .i64 0, .float .f64 0, .string ⟨#[]⟩, .slice none 0 0, .slice none 0 0]).past hp3 (by omega); obtain ⟨v0, v1, v2, v3, v4, v5, vf, vl⟩ := hV3.cells))
  refine bodyPost_ret (results_six rfl _ _ w.heap.size (.int .i64 4) (.int .i64 0) (.float .f64 0) (.string ⟨#[]⟩) (.slice none 0 0) (.slice none 0 0) rfl ((hR3.other (by omega) _ _).six _ _ _ _ _ _)) rfl ⟨?_, ⟨4, 0, 0, ⟨#[]⟩, none, 0, 0, none, 0, 0, rfl⟩, hc, a3, p + 1, by have := HP.out; omega, ?_⟩
  · exact (((HW.out.trans (hp1.trans (hp2.trans (((Past.refl _ _).alloc _).trans hp3)))).setNew (by have := hp1.size; have := hp2.size; have := HW.out.size; omega) _ _).six (Nat.le_refl _) _ _ _ _ _ _)
  · exact ((h3.other (by omega) _ _).six (by have := HG.out; omega) _ _ _ _ _ _)
set_option maxRecDepth 20000 in
set_option maxHeartbeats 4000000 in
theorem RValue_4 {w : World} {g : Nat} {s : ByteArray} {a p : Nat} {d : Int} {t : ByteArray} {l : List UInt8} (hi : sP 200 (left s (a + 1)) = .ok (t, l)) (ht : t.size ≤ maxLen) (h : Rdr w g s a 0 p) (hp : ¬ (12 < d ∨ 200 < p + 1)) (ha : a < s.size) (hs : s.size ≤ 1000000000) (hkb : ((s[a].toNat : Nat) : Int) = 4) :
    Calls Tryz.prog 115 #[.pointer (some ⟨g, 0, none⟩), .int .i64 d] w fun x w' => VEnds s w g (.ok (leaf 4 0 0 t, p + 1, l)) x w' := by
  have hW : Past g w (w.alloc (.cells #[.int .i64 0, .int .i64 0, .float .f64 0, .string ⟨#[]⟩, .slice none 0 0, .slice none 0 0] 28)) := (Past.refl g w).alloc _
  have hR := Bx.new w #[.int .i64 0, .int .i64 0, .float .f64 0, .string ⟨#[]⟩, .slice none 0 0, .slice none 0 0]
  have hg := h.lt
  have B := begin_ok (d := d) (h.alloc (.cells #[.int .i64 0, .int .i64 0, .float .f64 0, .string ⟨#[]⟩, .slice none 0 0, .slice none 0 0] 28)) (by omega)
  rw [if_neg (by omega)] at B
  have HR := Lib.hid hR
  have HW := Lib.hid hW
  have HG := Lib.hid hg
  have HP := Lib.hid hp
  have SF := float_store
  clear h hR hW hp
  go_enter Tryz.func115, Tryz.ntmps115
  go_wp2_with (first
    | (go_at_call 144; refine B.mono ?_; rintro x w1 ⟨rfl, hp1, h1⟩; have Y := Byte_ok h1 ha (by omega); rw [hkb] at Y)
    | (go_at_call 49; refine Y.mono ?_; rintro x w2 ⟨rfl, h2, hp2⟩; obtain ⟨d0, d1, d2, d3, df⟩ := h2.cells; have hg2 : g < w2.heap.size := h2.lt; have hR2 := HR.out.past (hp1.trans hp2) (by have := HG.out; omega); obtain ⟨r0, r1, r2, r3, r4, r5, rf, rl⟩ := hR2.cells; have h2v := h2.alloc (.cells #[.int .i64 4, .int .i64 0, .float .f64 0, .string ⟨#[]⟩, .slice none 0 0, .slice none 0 0] 28); have I := Str_ok (most := 200) h2v ha hs (by omega); rw [hi] at I)
    | (go_at_call 146; refine I.mono ?_; rintro x w3 ⟨hp3, rfl, a3, ha3, hl3, h3⟩; obtain ⟨e0, e1, e2, e3, ef⟩ := h3.cells; have hR3 := (hR2.alloc _).past hp3 (by have := HG.out; omega); obtain ⟨q0, q1, q2, q3, q4, q5, qf, ql⟩ := hR3.cells; have hV3 := (Bx.new w2 #[.int .i64 4, .int .i64 0, .float .f64 0, .string ⟨#[]⟩, .slice none 0 0, .slice none 0 0]).past hp3 (by omega); obtain ⟨v0, v1, v2, v3, v4, v5, vf, vl⟩ := hV3.cells))
  refine bodyPost_ret (results_six rfl _ _ w.heap.size (.int .i64 4) (.int .i64 0) (.float .f64 0) (.string t) (.slice none 0 0) (.slice none 0 0) rfl ((hR3.other (by omega) _ _).six _ _ _ _ _ _)) rfl ⟨?_, ⟨_, rfl, VOwn.leaf (by omega) (by omega) (by decide) ht⟩, a3, ha3, hl3, ?_⟩
  · exact (((HW.out.trans (hp1.trans (hp2.trans (((Past.refl _ _).alloc _).trans hp3)))).setNew (by have := hp1.size; have := hp2.size; have := HW.out.size; omega) _ _).six (Nat.le_refl _) _ _ _ _ _ _)
  · exact ((h3.other (by omega) _ _).six (by have := HG.out; omega) _ _ _ _ _ _)
end Go.Proofs.YtekojglcbalhnaaGreatDoor
