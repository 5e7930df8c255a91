/-
  The document's reader: its state in memory; fail, Byte.
  The document's reader: Uint.
  The document's reader: Int, begin, many.
  The document's reader: Str.
-/
import Derived.Test.YtekojglcbalhnaaGreatDoorM01
import Derived.StillTailTactics
import Derived.Laws.DeepStrings4
namespace Go.Proofs.YtekojglcbalhnaaGreatDoor
open Go.RowKit

/-- A reader's block: the bytes, the place, the error, the parts. -/
def Rdr (w : World) (g : Nat) (s : ByteArray) (at' e p : Int) : Prop := w.heap[g]? = some (.cells #[.string s, .int .i64 at', .int .i64 e, .int .i64 p] 76 (0, 0))
theorem Rdr.cells {w : World} {g : Nat} {s : ByteArray} {a e p : Int} (h : Rdr w g s a e p) :
    w.cell? ⟨g, 0, none⟩ = some (.string s) ∧ w.cell? ⟨g, 1, none⟩ = some (.int .i64 a) ∧ w.cell? ⟨g, 2, none⟩ = some (.int .i64 e) ∧ w.cell? ⟨g, 3, none⟩ = some (.int .i64 p) ∧ ∀ o, w.frozen? ⟨g, o, none⟩ = false := by
  unfold Rdr at h
  refine ⟨?_, ?_, ?_, ?_, fun o => ?_⟩
  · simp [World.cell?, h]
  · simp [World.cell?, h]
  · simp [World.cell?, h]
  · simp [World.cell?, h]
  · simp [World.frozen?, h]
theorem Rdr.lt {w : World} {g : Nat} {s : ByteArray} {a e p : Int} (h : Rdr w g s a e p) : g < w.heap.size := (Array.getElem?_eq_some_iff.1 h).1
theorem Rdr.set1 {w : World} {g : Nat} {s : ByteArray} {a e p : Int} (h : Rdr w g s a e p) (a' : Int) : Rdr (w.setCell ⟨g, 1, none⟩ (.int .i64 a')) g s a' e p := by
  unfold Rdr at *
  simp [World.setCell, Array.getElem?_modify, h]
theorem Rdr.set2 {w : World} {g : Nat} {s : ByteArray} {a e p : Int} (h : Rdr w g s a e p) (e' : Int) : Rdr (w.setCell ⟨g, 2, none⟩ (.int .i64 e')) g s a e' p := by
  unfold Rdr at *
  simp [World.setCell, Array.getElem?_modify, h]
theorem Rdr.set3 {w : World} {g : Nat} {s : ByteArray} {a e p : Int} (h : Rdr w g s a e p) (p' : Int) : Rdr (w.setCell ⟨g, 3, none⟩ (.int .i64 p')) g s a e p' := by
  unfold Rdr at *
  simp [World.setCell, Array.getElem?_modify, h]
/-- But for block g all that was there is as it was. -/
structure Past (g : Nat) (w w' : World) : Prop where
  os : w'.os = w.os
  tape : w'.tape = w.tape
  output : w'.output = w.output
  size : w.heap.size ≤ w'.heap.size
  block : ∀ k, k < w.heap.size → k ≠ g → w'.heap[k]? = w.heap[k]?
theorem Past.refl (g : Nat) (w : World) : Past g w w := ⟨rfl, rfl, rfl, Nat.le_refl _, fun _ _ _ => rfl⟩
theorem Past.trans {g : Nat} {a b c : World} (h : Past g a b) (k : Past g b c) : Past g a c :=
  ⟨k.os.trans h.os, k.tape.trans h.tape, k.output.trans h.output, Nat.le_trans h.size k.size, fun i hi hn => (k.block i (by have := h.size; omega) hn).trans (h.block i hi hn)⟩
theorem Past.drew {g : Nat} {a w : World} (h : Past g a w) : Past g a w.drew := ⟨h.os, h.tape, h.output, h.size, h.block⟩
theorem Past.set {g : Nat} {a w : World} (h : Past g a w) (o : Nat) (v : Value) : Past g a (w.setCell ⟨g, o, none⟩ v) :=
  h.trans ⟨rfl, rfl, rfl, by simp [World.setCell], fun k _ hn => Below.heap_setCell _ _ _ _ hn⟩
theorem Past.alloc {g : Nat} {a w : World} (h : Past g a w) (x : Obj) : Past g a (w.alloc x) :=
  h.trans ⟨rfl, rfl, rfl, by simp, fun k hk _ => Below.heap_alloc _ _ _ hk⟩
theorem Past.below {g : Nat} {w w' : World} (h : Past g w w') {B : Nat} (hB : B ≤ g) (hg : g < w.heap.size) : Below B w w' :=
  ⟨h.os, h.tape, h.output, h.size, fun k hk => h.block k (by omega) (by omega)⟩
theorem Past.of_below {g : Nat} {w w' : World} (h : Below w.heap.size w w') : Past g w w' := ⟨h.os, h.tape, h.output, h.size, fun k hk _ => h.block k hk⟩
theorem Past.cell {g : Nat} {w w' : World} (h : Past g w w') {p : Addr} (hp : p.block < w.heap.size) (hn : p.block ≠ g) : w'.cell? p = w.cell? p := World.cell?_of_block (w := w) (h.block p.block hp hn)
theorem Past.frozen {g : Nat} {w w' : World} (h : Past g w w') {p : Addr} (hp : p.block < w.heap.size) (hn : p.block ≠ g) : w'.frozen? p = w.frozen? p := World.frozen?_of_block (w := w) (h.block p.block hp hn)
theorem Rdr.past {w w' : World} {g : Nat} {s : ByteArray} {a e p : Int} (h : Rdr w g s a e p) (hb : Below w.heap.size w w') : Rdr w' g s a e p := (hb.block g h.lt).trans h

theorem fail_any {w : World} {g : Nat} {s : ByteArray} {a e p : Int} (h : Rdr w g s a e p) (c : Int) :
    Calls Tryz.prog 84 #[.pointer (some ⟨g, 0, none⟩), .int .i64 c] w fun x w' => x = .returned (.tuple #[]) ∧ Rdr w' g s a (if e = 0 then c else e) p ∧ Past g w w' := by
  obtain ⟨c0, c1, c2, c3, cf⟩ := h.cells
  have hs2 := h.set2 c
  have HH := Lib.hid h
  clear h
  by_cases he : e = 0
  · rw [if_pos he]
    have t : (e == 0) = true := by simpa using he
    clear he
    go_enter Tryz.func84, Tryz.ntmps84
    go_wp2_with fail
    go_end0
    exact ⟨rfl, hs2, (Past.refl _ _).set _ _⟩
  · rw [if_neg he]
    have t : (e == 0) = false := by simpa using he
    clear he
    go_enter Tryz.func84, Tryz.ntmps84
    go_wp2_with fail
    go_end0
    exact ⟨rfl, HH.out, Past.refl _ _⟩
theorem fail_0 {w : World} {g : Nat} {s : ByteArray} {a p : Int} (h : Rdr w g s a 0 p) (c : Int) :
    Calls Tryz.prog 84 #[.pointer (some ⟨g, 0, none⟩), .int .i64 c] w fun x w' => x = .returned (.tuple #[]) ∧ Rdr w' g s a c p ∧ Past g w w' := by
  have := fail_any h c
  rw [if_pos rfl] at this
  exact this
/-- Amid an error no byte is read. -/
theorem Byte_err {w : World} {g : Nat} {s : ByteArray} {a e p : Int} (h : Rdr w g s a e p) (he : e ≠ 0) :
    Calls Tryz.prog 49 #[.pointer (some ⟨g, 0, none⟩)] w fun x w' => x = .returned (.int .i64 0) ∧ Rdr w' g s a e p ∧ Past g w w' := by
  obtain ⟨c0, c1, c2, c3, cf⟩ := h.cells
  have HH := Lib.hid h
  have t : (e != 0) = true := by simpa using he
  clear h he
  go_enter Tryz.func49, Tryz.ntmps49
  go_wp2_with fail
  go_ret
  exact ⟨rfl, HH.out, Past.refl _ _⟩
theorem Byte_end {w : World} {g : Nat} {s : ByteArray} {a : Nat} {p : Int} (h : Rdr w g s a 0 p) (ha : s.size ≤ a) :
    Calls Tryz.prog 49 #[.pointer (some ⟨g, 0, none⟩)] w fun x w' => x = .returned (.int .i64 0) ∧ Rdr w' g s a 14 p ∧ Past g w w' := by
  obtain ⟨c0, c1, c2, c3, cf⟩ := h.cells
  have F := fun w1 (hb : Below w.heap.size w w1) => fail_0 (h.past hb) 14
  have HF := Lib.hid F
  clear h F
  go_enter Tryz.func49, Tryz.ntmps49
  go_wp2_with fail
  go_quiet (fail)
  have hd : Below w.heap.size w (w.drewN nq) := below_drewN (Below.refl _ _) _
  generalize w.drewN nq = w2 at hd ⊢
  have F2 := HF.out w2 hd
  have P2 := Lib.hid (Past.of_below (g := g) hd)
  clear hd
  go_wp2_with (go_at_call 84; refine F2.mono ?_; rintro e w3 ⟨rfl, h3, hp3⟩)
  go_ret
  exact ⟨rfl, h3, P2.out.trans hp3⟩
theorem Byte_ok {w : World} {g : Nat} {s : ByteArray} {a : Nat} {p : Int} (h : Rdr w g s a 0 p) (ha : a < s.size) (hs : s.size ≤ 9223372036854775807) :
    Calls Tryz.prog 49 #[.pointer (some ⟨g, 0, none⟩)] w fun x w' => x = .returned (.int .i64 (s[a].toNat : Nat)) ∧ Rdr w' g s ((a + 1 : Nat) : Int) 0 p ∧ Past g w w' := by
  obtain ⟨c0, c1, c2, c3, cf⟩ := h.cells
  have HH := Lib.hid h
  obtain ⟨b, hb0⟩ : ∃ b, s[a] = b := ⟨_, rfl⟩
  rw [hb0]
  clear h
  go_enter Tryz.func49, Tryz.ntmps49
  go_wp2_with fail
  go_quiet (fail)
  have hd : Below w.heap.size w (w.drewN nq) := below_drewN (Below.refl _ _) _
  generalize w.drewN nq = w2 at hd ⊢
  obtain ⟨d0, d1, d2, d3, df⟩ := (HH.out.past hd).cells
  have h2 := Lib.hid ((HH.out.past hd).set1 ((a : Int) + 1))
  have P2 := Lib.hid ((Past.of_below (g := g) hd).set 1 (.int .i64 ((a : Int) + 1)))
  clear hd c0 c1 c2 c3 cf
  go_wp2_with fail
  obtain ⟨w3, hw3⟩ : ∃ w3, w3 = w2.setCell ⟨g, 1, none⟩ (.int .i64 ((a : Int) + 1)) := ⟨_, rfl⟩
  rw [← hw3]
  have h3 := h2.out
  rw [← hw3] at h3
  have P3 := P2.out
  rw [← hw3] at P3
  obtain ⟨f0, f1, f2, f3, ff⟩ := h3.cells
  have H3 := Lib.hid h3
  have HP3 := Lib.hid P3
  clear hw3 h2 P2 d0 d1 d2 d3 df h3 P3 HH
  have i0 : ((a : Int) + 1 - 1).toNat = a := by omega
  have i1 : (a : Int) + 1 - 1 = a := by omega
  have E : wrap64 ((b.toNat : Nat) : Int) = b.toNat := by
    have := b.toNat_lt
    unfold wrap64; omega
  have HE := Lib.hid E
  clear E
  go_quiet (fail)
  have hd : Below w3.heap.size w3 (w3.drewN nq) := below_drewN (Below.refl _ _) _
  generalize w3.drewN nq = w4 at hd ⊢
  have HD := Lib.hid hd
  clear hd
  go_wp2_with fail
  go_ret
  exact ⟨by show Ending.returned (.int .i64 (wrap64 _)) = _; rw [HE.out], H3.out.past HD.out, HP3.out.trans (Past.of_below HD.out)⟩
end Go.Proofs.YtekojglcbalhnaaGreatDoor
namespace Go.Proofs.YtekojglcbalhnaaGreatDoor
open Go.RowKit

/-- The number at the front of these bytes, behind i groups that make n. -/
def uP : Nat → Nat → List UInt8 → Except Nat (Nat × List UInt8)
  | _, _, [] => .error 14
  | i, n, b :: r =>
    if 9 < i ∨ (i = 9 ∧ 1 < b.toNat) ∨ (0 < i ∧ b.toNat = 0) then .error 5
    else if b.toNat < 128 then .ok (n + b.toNat % 128 * 2 ^ (7 * i), r) else uP (i + 1) (n + b.toNat % 128 * 2 ^ (7 * i)) r
theorem uP_nil (i n : Nat) : uP i n [] = .error 14 := by rw [uP]
theorem uP_bad {i n : Nat} {b : UInt8} {r : List UInt8} (h : 9 < i ∨ (i = 9 ∧ 1 < b.toNat) ∨ (0 < i ∧ b.toNat = 0)) : uP i n (b :: r) = .error 5 := by rw [uP, if_pos h]
theorem uP_last {i n : Nat} {b : UInt8} {r : List UInt8} (h : ¬ (9 < i ∨ (i = 9 ∧ 1 < b.toNat) ∨ (0 < i ∧ b.toNat = 0))) (hb : b.toNat < 128) : uP i n (b :: r) = .ok (n + b.toNat % 128 * 2 ^ (7 * i), r) := by rw [uP, if_neg h, if_pos hb]
theorem uP_more {i n : Nat} {b : UInt8} {r : List UInt8} (h : ¬ (9 < i ∨ (i = 9 ∧ 1 < b.toNat) ∨ (0 < i ∧ b.toNat = 0))) (hb : ¬ b.toNat < 128) : uP i n (b :: r) = uP (i + 1) (n + b.toNat % 128 * 2 ^ (7 * i)) r := by rw [uP, if_neg h, if_neg hb]
/-- What is left from a place on. -/
def left (s : ByteArray) (a : Nat) : List UInt8 := s.data.toList.drop a
theorem left_nil {s : ByteArray} {a : Nat} (h : s.size ≤ a) : left s a = [] := by
  unfold left
  rw [List.drop_eq_nil_iff]; simpa using h
theorem left_cons {s : ByteArray} {a : Nat} (h : a < s.size) : left s a = s[a] :: left s (a + 1) := by
  unfold left
  rw [List.drop_eq_getElem_cons (by simpa using h)]
  rfl
theorem left_len (s : ByteArray) (a : Nat) : (left s a).length = s.size - a := by
  unfold left; simp
/-- How a reading ends: an error, or what is read and the place behind it. -/
def Ends (s : ByteArray) (w : World) (g : Nat) (p : Int) {α : Type} (r : Except Nat (α × List UInt8)) (x : Ending) (w' : World) (zero : Value) (val : α → Value) : Prop :=
  Past g w w' ∧ match r with
  | .error c => x = .returned zero ∧ c ≠ 0 ∧ ∃ a : Nat, Rdr w' g s a c p
  | .ok (n, l) => x = .returned (val n) ∧ ∃ a : Nat, a ≤ s.size ∧ l = left s a ∧ Rdr w' g s a 0 p
theorem acc_eq {i n b : Nat} (hn : i ≤ 9 → n < 2 ^ (7 * i)) (h : ¬ (9 < i ∨ (i = 9 ∧ 1 < b) ∨ (0 < i ∧ b = 0))) (hb : b < 2 ^ 8) :
    IntKind.u64.wrap ((n : Int) + IntKind.u64.wrap ((b : Int) % 128 * 2 ^ (7 * i))) = ((n + b % 128 * 2 ^ (7 * i) : Nat) : Int) ∧ (i + 1 ≤ 9 → n + b % 128 * 2 ^ (7 * i) < 2 ^ (7 * (i + 1))) := by
  have hn := hn (by omega)
  rw [IntKind.wrap_u64, IntKind.wrap_u64]
  obtain rfl | rfl | rfl | rfl | rfl | rfl | rfl | rfl | rfl | rfl : i = 0 ∨ i = 1 ∨ i = 2 ∨ i = 3 ∨ i = 4 ∨ i = 5 ∨ i = 6 ∨ i = 7 ∨ i = 8 ∨ i = 9 := by omega
  case inr.inr.inr.inr.inr.inr.inr.inr.inr =>
    obtain rfl : b = 1 := by omega
    simp only [Nat.reduceMul, Nat.reduceAdd, Nat.reducePow, Int.reducePow] at *
    constructor <;> omega
  all_goals
    simp only [Nat.reduceMul, Nat.reduceAdd, Nat.reducePow, Int.reducePow] at *
    constructor <;> omega
theorem acc_0 {n b : Nat} (hn : n < 2 ^ (7 * 0)) : IntKind.u64.wrap ((n : Int) + (b : Int) % 128) = ((n + b % 128 * 2 ^ (7 * 0) : Nat) : Int) := by
  rw [IntKind.wrap_u64]
  simp only [Nat.reduceMul, Nat.reducePow] at *
  omega
theorem acc_9 {n b : Nat} (hn : n < 2 ^ (7 * 9)) (hb : b = 1) : IntKind.u64.wrap ((n : Int) + 9223372036854775808) = ((n + b % 128 * 2 ^ (7 * 9) : Nat) : Int) := by
  subst hb
  rw [IntKind.wrap_u64]
  simp only [Nat.reduceMul, Nat.reducePow] at *
  omega
set_option maxRecDepth 20000 in
set_option maxHeartbeats 4000000 in
theorem Uint_ok {w : World} {g : Nat} {s : ByteArray} {a : Nat} {p : Int} (h : Rdr w g s a 0 p) (ha : a ≤ s.size) (hs : s.size ≤ 1000000000) :
    Calls Tryz.prog 47 #[.pointer (some ⟨g, 0, none⟩)] w fun x w' => Ends s w g p (uP 0 0 (left s a)) x w' (.int .u64 0) (fun n => .int .u64 n) := by
  have HH := Lib.hid h
  clear h
  go_enter Tryz.func47, Tryz.ntmps47
  go_wp2_with fail
  go_loopw [3, 4] (fun nv iv wr => ∃ (i c n : Nat), i ≤ 10 ∧ c ≤ s.size ∧ nv = .int .u64 n ∧ iv = .int .i64 i ∧ (i ≤ 9 → n < 2 ^ (7 * i)) ∧ Hid (uP i n (left s c) = uP 0 0 (left s a)) ∧ Rdr wr g s c 0 p ∧ Past g w wr) (fun _ iv _ => 11 - (intOf iv).toNat)
  case atStart => exact ⟨0, a, 0, by omega, ha, rfl, rfl, fun _ => by decide, Lib.hid rfl, HH.out, Past.refl _ _⟩
  case round =>
    obtain ⟨i, c, n, hi, hc, rfl, rfl, hn, hu, hr, hp⟩ := hrel
    by_cases hlt : c < s.size
    · have B := Byte_ok hr hlt (by omega)
      obtain ⟨b, hb0⟩ : ∃ b, s[c] = b := ⟨_, rfl⟩
      have hu' := hu.out
      rw [left_cons hlt, hb0] at hu'
      rw [hb0] at B
      have hb256 := b.toNat_lt
      by_cases hbad : 9 < i ∨ (i = 9 ∧ 1 < b.toNat) ∨ (0 < i ∧ b.toNat = 0)
      · rw [uP_bad hbad] at hu'
        have HU := Lib.hid hu'
        have HP := Lib.hid hp
        clear hu hu' hr hb0 hp hn
        by_cases i10 : i = 10
        · subst i10
          go_wp2_with (first | (go_at_call 49; refine B.mono ?_; rintro e w1 ⟨rfl, h1, hp1⟩; obtain ⟨d0, d1, d2, d3, df⟩ := h1.cells; have F := fail_0 h1 5) | (go_at_call 84; refine F.mono ?_; rintro e w2 ⟨rfl, h2, hp2⟩))
          go_ret
          refine ⟨(HP.out.trans hp1).trans hp2, ?_⟩
          rw [← HU.out]
          exact ⟨rfl, by decide, _, h2⟩
        · by_cases i9 : i = 9
          · subst i9
            by_cases b1 : 1 < b.toNat
            · have t1 : decide ((1 : Int) < (b.toNat : Int)) = true := by simp; omega
              go_wp2_with (first | (go_at_call 49; refine B.mono ?_; rintro e w1 ⟨rfl, h1, hp1⟩; obtain ⟨d0, d1, d2, d3, df⟩ := h1.cells; have F := fail_0 h1 5) | (go_at_call 84; refine F.mono ?_; rintro e w2 ⟨rfl, h2, hp2⟩))
              go_ret
              refine ⟨(HP.out.trans hp1).trans hp2, ?_⟩
              rw [← HU.out]
              exact ⟨rfl, by decide, _, h2⟩
            · have t1 : decide ((1 : Int) < (b.toNat : Int)) = false := by simp; omega
              have t0 : ((b.toNat : Int) == 0) = true := by simp; omega
              go_wp2_with (first | (go_at_call 49; refine B.mono ?_; rintro e w1 ⟨rfl, h1, hp1⟩; obtain ⟨d0, d1, d2, d3, df⟩ := h1.cells; have F := fail_0 h1 5) | (go_at_call 84; refine F.mono ?_; rintro e w2 ⟨rfl, h2, hp2⟩))
              go_ret
              refine ⟨(HP.out.trans hp1).trans hp2, ?_⟩
              rw [← HU.out]
              exact ⟨rfl, by decide, _, h2⟩
          · have t9 : decide ((9 : Int) < (i : Int)) = false := by simp; omega
            have t9' : ((i : Int) == 9) = false := by simp; omega
            have ti : decide ((0 : Int) < (i : Int)) = true := by simp; omega
            have t0 : ((b.toNat : Int) == 0) = true := by simp; omega
            go_wp2_with (first | (go_at_call 49; refine B.mono ?_; rintro e w1 ⟨rfl, h1, hp1⟩; obtain ⟨d0, d1, d2, d3, df⟩ := h1.cells; have F := fail_0 h1 5) | (go_at_call 84; refine F.mono ?_; rintro e w2 ⟨rfl, h2, hp2⟩))
            go_ret
            refine ⟨(HP.out.trans hp1).trans hp2, ?_⟩
            rw [← HU.out]
            exact ⟨rfl, by decide, _, h2⟩
      · have hE := acc_eq hn hbad hb256
        by_cases hl : b.toNat < 128
        · rw [uP_last hbad hl] at hu'
          have HU := Lib.hid hu'
          have HP := Lib.hid hp
          have HE := Lib.hid hE
          have HN := Lib.hid hn
          clear hu hu' hr hb0 hp hE hn
          by_cases i0 : i = 0
          · subst i0
            have H0 := Lib.hid (acc_0 (b := b.toNat) (HN.out (by omega)))
            have tl : decide ((b.toNat : Int) < 128) = true := by simp; omega
            go_wp2_with (go_at_call 49; refine B.mono ?_; rintro e w1 ⟨rfl, h1, hp1⟩; obtain ⟨d0, d1, d2, d3, df⟩ := h1.cells)
            go_ret
            refine ⟨HP.out.trans hp1, ?_⟩
            rw [← HU.out]
            exact ⟨congrArg (fun z => Ending.returned (Value.int .u64 z)) H0.out, _, hlt, rfl, h1⟩
          · by_cases i9 : i = 9
            · subst i9
              have hb1 : b.toNat = 1 := by omega
              have t1 : decide ((1 : Int) < (b.toNat : Int)) = false := by simp; omega
              have t0 : ((b.toNat : Int) == 0) = false := by simp; omega
              have H9 := Lib.hid (acc_9 (HN.out (by omega)) hb1)
              have tl : decide ((b.toNat : Int) < 128) = true := by simp; omega
              go_wp2_with (go_at_call 49; refine B.mono ?_; rintro e w1 ⟨rfl, h1, hp1⟩; obtain ⟨d0, d1, d2, d3, df⟩ := h1.cells)
              go_ret
              refine ⟨HP.out.trans hp1, ?_⟩
              rw [← HU.out]
              exact ⟨congrArg (fun z => Ending.returned (Value.int .u64 z)) H9.out, _, hlt, rfl, h1⟩
            · have t9 : decide ((9 : Int) < (i : Int)) = false := by simp; omega
              have t9' : ((i : Int) == 9) = false := by simp; omega
              have ti : decide ((0 : Int) < (i : Int)) = true := by simp; omega
              have t0 : ((b.toNat : Int) == 0) = false := by simp; omega
              have tl : decide ((b.toNat : Int) < 128) = true := by simp; omega
              go_wp2_with (go_at_call 49; refine B.mono ?_; rintro e w1 ⟨rfl, h1, hp1⟩; obtain ⟨d0, d1, d2, d3, df⟩ := h1.cells)
              go_ret
              refine ⟨HP.out.trans hp1, ?_⟩
              rw [← HU.out]
              exact ⟨congrArg (fun z => Ending.returned (Value.int .u64 z)) HE.out.1, _, hlt, rfl, h1⟩
        · rw [uP_more hbad hl] at hu'
          have HU := Lib.hid hu'
          have HP := Lib.hid hp
          have HE := Lib.hid hE
          have HN := Lib.hid hn
          clear hu hu' hr hb0 hp hE hn
          by_cases i0 : i = 0
          · subst i0
            have H0 := Lib.hid (acc_0 (b := b.toNat) (HN.out (by omega)))
            have tl : decide ((b.toNat : Int) < 128) = false := by simp; omega
            go_wp2_with (go_at_call 49; refine B.mono ?_; rintro e w1 ⟨rfl, h1, hp1⟩; obtain ⟨d0, d1, d2, d3, df⟩ := h1.cells)
            go_roundw
            case rel => exact ⟨1, c + 1, _, by omega, hlt, congrArg (Value.int .u64) H0.out, by go_num, HE.out.2, HU, h1, HP.out.trans hp1⟩
            case measure => simp [intOf] <;> omega
          · by_cases i9 : i = 9
            · subst i9
              have hb1 : b.toNat = 1 := by omega
              omega
            · have t9 : decide ((9 : Int) < (i : Int)) = false := by simp; omega
              have t9' : ((i : Int) == 9) = false := by simp; omega
              have ti : decide ((0 : Int) < (i : Int)) = true := by simp; omega
              have t0 : ((b.toNat : Int) == 0) = false := by simp; omega
              have tl : decide ((b.toNat : Int) < 128) = false := by simp; omega
              go_wp2_with (go_at_call 49; refine B.mono ?_; rintro e w1 ⟨rfl, h1, hp1⟩; obtain ⟨d0, d1, d2, d3, df⟩ := h1.cells)
              go_roundw
              case rel => exact ⟨i + 1, c + 1, _, by omega, hlt, congrArg (Value.int .u64) HE.out.1, by go_num, HE.out.2, HU, h1, HP.out.trans hp1⟩
              case measure => simp [intOf] <;> omega
    · have B := Byte_end hr (by omega)
      have hu' := hu.out
      rw [left_nil (by omega), uP_nil] at hu'
      have HU := Lib.hid hu'
      have HP := Lib.hid hp
      clear hu hu' hr hp
      go_wp2_with (go_at_call 49; refine B.mono ?_; rintro e w1 ⟨rfl, h1, hp1⟩; obtain ⟨d0, d1, d2, d3, df⟩ := h1.cells)
      go_ret
      refine ⟨HP.out.trans hp1, ?_⟩
      rw [← HU.out]
      exact ⟨rfl, by decide, _, h1⟩
end Go.Proofs.YtekojglcbalhnaaGreatDoor
namespace Go.Proofs.YtekojglcbalhnaaGreatDoor
open Go.RowKit

theorem uP_lt : ∀ (l : List UInt8) (i n v : Nat) (r : List UInt8), (i ≤ 9 → n < 2 ^ (7 * i)) → uP i n l = .ok (v, r) → v < 18446744073709551616 := by
  intro l
  induction l with
  | nil => intro i n v r _ h; rw [uP_nil] at h; cases h
  | cons b l ih =>
    intro i n v r hn h
    by_cases hbad : 9 < i ∨ (i = 9 ∧ 1 < b.toNat) ∨ (0 < i ∧ b.toNat = 0)
    · rw [uP_bad hbad] at h; cases h
    · have hE := acc_eq hn hbad b.toNat_lt
      by_cases hl : b.toNat < 128
      · rw [uP_last hbad hl] at h
        cases h
        have h1 := hE.1
        rw [IntKind.wrap_u64] at h1
        omega
      · rw [uP_more hbad hl] at h
        exact ih (i + 1) _ v r hE.2 h
theorem uP_err : ∀ (l : List UInt8) (i n c : Nat), uP i n l = .error c → c = 5 ∨ c = 14 := by
  intro l
  induction l with
  | nil => intro i n c h; rw [uP_nil] at h; cases h; right; rfl
  | cons b l ih =>
    intro i n c h
    by_cases hbad : 9 < i ∨ (i = 9 ∧ 1 < b.toNat) ∨ (0 < i ∧ b.toNat = 0)
    · rw [uP_bad hbad] at h; cases h; left; rfl
    · by_cases hl : b.toNat < 128
      · rw [uP_last hbad hl] at h; cases h
      · rw [uP_more hbad hl] at h
        exact ih _ _ _ h
/-- A number read from a place on, both ways that it may end. -/
theorem Uint_bad {w : World} {g : Nat} {s : ByteArray} {a : Nat} {p : Int} {c : Nat} (h : Rdr w g s a 0 p) (ha : a ≤ s.size) (hs : s.size ≤ 1000000000) (hu : uP 0 0 (left s a) = .error c) :
    Calls Tryz.prog 47 #[.pointer (some ⟨g, 0, none⟩)] w fun x w' => x = .returned (.int .u64 0) ∧ Past g w w' ∧ ∃ a : Nat, Rdr w' g s a c p := by
  have U := Uint_ok h ha hs
  rw [hu] at U
  exact U.mono fun x w' hx => ⟨hx.2.1, hx.1, hx.2.2.2⟩
theorem Uint_good {w : World} {g : Nat} {s : ByteArray} {a : Nat} {p : Int} {n : Nat} {l : List UInt8} (h : Rdr w g s a 0 p) (ha : a ≤ s.size) (hs : s.size ≤ 1000000000) (hu : uP 0 0 (left s a) = .ok (n, l)) :
    Calls Tryz.prog 47 #[.pointer (some ⟨g, 0, none⟩)] w fun x w' => x = .returned (.int .u64 n) ∧ Past g w w' ∧ ∃ a : Nat, a ≤ s.size ∧ l = left s a ∧ Rdr w' g s a 0 p := by
  have U := Uint_ok h ha hs
  rw [hu] at U
  exact U.mono fun x w' hx => ⟨hx.2.1, hx.1, hx.2.2⟩
theorem Uint_err {w : World} {g : Nat} {s : ByteArray} {a e p : Int} (h : Rdr w g s a e p) (he : e ≠ 0) :
    Calls Tryz.prog 47 #[.pointer (some ⟨g, 0, none⟩)] w fun x w' => x = .returned (.int .u64 0) ∧ Rdr w' g s a e p ∧ Past g w w' := by
  have B := Byte_err h he
  have HH := Lib.hid h
  have te : (e != 0) = true := by simpa using he
  clear h
  go_enter Tryz.func47, Tryz.ntmps47
  go_wp2_with fail
  go_loopw [3, 4] (fun nv iv wr => nv = .int .u64 0 ∧ iv = .int .i64 0 ∧ wr = w) (fun _ _ _ => 0)
  case atStart => exact ⟨rfl, rfl, rfl⟩
  case round =>
    obtain ⟨rfl, rfl, rfl⟩ := hrel
    go_wp2_with (go_at_call 49; refine B.mono ?_; rintro e w1 ⟨rfl, h1, hp1⟩; obtain ⟨d0, d1, d2, d3, df⟩ := h1.cells)
    go_ret
    exact ⟨rfl, h1, hp1⟩
/-! ### Int -/
def zag (n : Nat) : Int := if n % 2 = 1 then -1 - (n / 2 : Nat) else (n / 2 : Nat)
def iP (l : List UInt8) : Except Nat (Int × List UInt8) := match uP 0 0 l with | .error c => .error c | .ok (n, r) => .ok (zag n, r)
set_option maxRecDepth 20000 in
theorem Int_ok {w : World} {g : Nat} {s : ByteArray} {a : Nat} {p : Int} (h : Rdr w g s a 0 p) (ha : a ≤ s.size) (hs : s.size ≤ 1000000000) :
    Calls Tryz.prog 145 #[.pointer (some ⟨g, 0, none⟩)] w fun x w' => Ends s w g p (iP (left s a)) x w' (.int .i64 0) (fun n => .int .i64 n) := by
  unfold iP
  cases hu : uP 0 0 (left s a) with
  | error c =>
    have U := Uint_bad h ha hs hu
    have hc := uP_err _ _ _ _ hu
    clear h hu
    go_enter Tryz.func145, Tryz.ntmps145
    go_wp2_with (go_at_call 47; refine U.mono ?_; rintro e w1 ⟨rfl, hp1, a1, h1⟩)
    go_ret
    exact ⟨hp1, rfl, by omega, a1, h1⟩
  | ok q =>
    obtain ⟨n, l⟩ := q
    have U := Uint_good h ha hs hu
    have hn := uP_lt _ 0 0 n l (fun _ => by decide) hu
    clear h hu
    by_cases ho : n % 2 = 1
    · have t : ((n : Int) % 2 == 1) = true := by simp; omega
      have HZ : Hid (zag n = wrap64 (-1 - wrap64 (IntKind.u64.wrap ((n : Int) / 2)))) := Lib.hid (by unfold zag; rw [if_pos ho, IntKind.wrap_u64]; unfold wrap64; omega)
      clear hn ho
      go_enter Tryz.func145, Tryz.ntmps145
      go_wp2_with (go_at_call 47; refine U.mono ?_; rintro e w1 ⟨rfl, hp1, a1, ha1, hl, h1⟩)
      go_ret
      exact ⟨hp1, congrArg (fun z => Ending.returned (Value.int .i64 z)) HZ.out.symm, a1, ha1, hl, h1⟩
    · have t : ((n : Int) % 2 == 1) = false := by simp; omega
      have HZ : Hid (zag n = wrap64 (IntKind.u64.wrap ((n : Int) / 2))) := Lib.hid (by unfold zag; rw [if_neg ho, IntKind.wrap_u64]; unfold wrap64; omega)
      clear hn ho
      go_enter Tryz.func145, Tryz.ntmps145
      go_wp2_with (go_at_call 47; refine U.mono ?_; rintro e w1 ⟨rfl, hp1, a1, ha1, hl, h1⟩)
      go_ret
      exact ⟨hp1, congrArg (fun z => Ending.returned (Value.int .i64 z)) HZ.out.symm, a1, ha1, hl, h1⟩
/-! ### many -/
def mP (l : List UInt8) : Except Nat (Nat × List UInt8) := match uP 0 0 l with | .error c => .error c | .ok (n, r) => if 200 < n then .error 5 else .ok (n, r)
set_option maxRecDepth 20000 in
theorem many_ok {w : World} {g : Nat} {s : ByteArray} {a : Nat} {p : Int} (h : Rdr w g s a 0 p) (ha : a ≤ s.size) (hs : s.size ≤ 1000000000) :
    Calls Tryz.prog 147 #[.pointer (some ⟨g, 0, none⟩)] w fun x w' => Ends s w g p (mP (left s a)) x w' (.int .i64 0) (fun n => .int .i64 n) := by
  cases hu : uP 0 0 (left s a) with
  | error c =>
    have U := Uint_bad h ha hs hu
    have hc := uP_err _ _ _ _ hu
    have e : mP (left s a) = .error c := by unfold mP; rw [hu]
    rw [e]
    clear h hu e
    go_enter Tryz.func147, Tryz.ntmps147
    go_wp2_with (go_at_call 47; refine U.mono ?_; rintro e w1 ⟨rfl, hp1, a1, h1⟩)
    go_ret
    exact ⟨hp1, rfl, by omega, a1, h1⟩
  | ok q =>
    obtain ⟨n, l⟩ := q
    have U := Uint_good h ha hs hu
    by_cases ho : 200 < n
    · have e : mP (left s a) = .error 5 := by unfold mP; rw [hu]; exact if_pos ho
      rw [e]
      clear h hu e
      go_enter Tryz.func147, Tryz.ntmps147
      go_wp2_with (first | (go_at_call 47; refine U.mono ?_; rintro e w1 ⟨rfl, hp1, a1, ha1, hl, h1⟩; have F := fail_0 h1 5) | (go_at_call 84; refine F.mono ?_; rintro e w2 ⟨rfl, h2, hp2⟩))
      go_ret
      exact ⟨hp1.trans hp2, rfl, by decide, a1, h2⟩
    · have e : mP (left s a) = .ok (n, l) := by unfold mP; rw [hu]; exact if_neg ho
      rw [e]
      clear h hu e
      have E1 : IntKind.i64.wrap (n : Int) = n := by rw [IntKind.wrap_i64]; omega
      go_enter Tryz.func147, Tryz.ntmps147
      go_wp2_with (go_at_call 47; refine U.mono ?_; rintro e w1 ⟨rfl, hp1, a1, ha1, hl, h1⟩)
      go_ret
      exact ⟨hp1, rfl, a1, ha1, hl, h1⟩
/-! ### begin -/
theorem begin_ok {w : World} {g : Nat} {s : ByteArray} {a : Nat} {p d : Int} (h : Rdr w g s a 0 p) (hp : 0 ≤ p ∧ p ≤ 1000) :
    Calls Tryz.prog 144 #[.pointer (some ⟨g, 0, none⟩), .int .i64 d] w fun x w' => x = .returned (.tuple #[]) ∧ Past g w w' ∧ Rdr w' g s a (if 12 < d ∨ 200 < p + 1 then 5 else 0) (p + 1) := by
  obtain ⟨c0, c1, c2, c3, cf⟩ := h.cells
  have h1 := h.set3 (p + 1)
  have hp1 : Past g w (w.setCell ⟨g, 3, none⟩ (.int .i64 (p + 1))) := (Past.refl _ _).set _ _
  have F := fail_0 h1 5
  have H1 := Lib.hid h1
  have HP1 := Lib.hid hp1
  clear h h1 hp1
  by_cases hd : 12 < d
  · rw [if_pos (.inl hd)]
    go_enter Tryz.func144, Tryz.ntmps144
    go_wp2_with (go_at_call 84; refine F.mono ?_; rintro e w2 ⟨rfl, h2, hp2⟩)
    go_end0
    exact ⟨rfl, HP1.out.trans hp2, h2⟩
  · by_cases h200 : 200 < p + 1
    · rw [if_pos (.inr h200)]
      go_enter Tryz.func144, Tryz.ntmps144
      go_wp2_with (go_at_call 84; refine F.mono ?_; rintro e w2 ⟨rfl, h2, hp2⟩)
      go_end0
      exact ⟨rfl, HP1.out.trans hp2, h2⟩
    · rw [if_neg (by omega)]
      go_enter Tryz.func144, Tryz.ntmps144
      go_wp2_with fail
      go_end0
      exact ⟨rfl, HP1.out, H1.out⟩
end Go.Proofs.YtekojglcbalhnaaGreatDoor
namespace Go.Proofs.YtekojglcbalhnaaGreatDoor
open Go.RowKit

def sP (most : Int) (l : List UInt8) : Except Nat (ByteArray × List UInt8) :=
  match uP 0 0 l with
  | .error c => .error c
  | .ok (n, r) => if most < 0 ∨ most < n then .error 5 else if r.length < n then .error 14 else .ok (strL (r.take n), r.drop n)
theorem cut_left (s : ByteArray) (a n : Nat) : s.extract a (a + n) = strL ((left s a).take n) := by
  apply ByteArray.ext
  unfold strL left
  rw [ByteArray.data_extract]
  apply Array.ext'
  simp
set_option maxRecDepth 20000 in
set_option maxHeartbeats 2000000 in
theorem Str_ok {w : World} {g : Nat} {s : ByteArray} {a : Nat} {p most : Int} (h : Rdr w g s a 0 p) (ha : a ≤ s.size) (hs : s.size ≤ 1000000000) (hm : -9223372036854775808 ≤ most ∧ most ≤ 9223372036854775807) :
    Calls Tryz.prog 146 #[.pointer (some ⟨g, 0, none⟩), .int .i64 most] w fun x w' => Ends s w g p (sP most (left s a)) x w' (.string ⟨#[]⟩) (fun t => .string t) := by
  cases hu : uP 0 0 (left s a) with
  | error c =>
    have U := Uint_bad h ha hs hu
    have hc := uP_err _ _ _ _ hu
    have e : sP most (left s a) = .error c := by unfold sP; rw [hu]
    rw [e]
    have tc : ((c : Int) != 0) = true := by simp; omega
    clear h hu e hm
    go_enter Tryz.func146, Tryz.ntmps146
    go_wp2_with (go_at_call 47; refine U.mono ?_; rintro e w1 ⟨rfl, hp1, a1, h1⟩; obtain ⟨d0, d1, d2, d3, df⟩ := h1.cells)
    go_ret
    exact ⟨hp1, rfl, by omega, a1, h1⟩
  | ok q =>
    obtain ⟨n, l⟩ := q
    have U := Uint_good h ha hs hu
    have hn := uP_lt _ 0 0 n l (fun _ => by decide) hu
    by_cases hbad : most < 0 ∨ most < n
    · have e : sP most (left s a) = .error 5 := by unfold sP; rw [hu]; exact if_pos hbad
      rw [e]
      clear h hu e
      by_cases h0 : most < 0
      · clear hn
        go_enter Tryz.func146, Tryz.ntmps146
        go_wp2_with (first | (go_at_call 47; refine U.mono ?_; rintro e w1 ⟨rfl, hp1, a1, ha1, hl, h1⟩; obtain ⟨d0, d1, d2, d3, df⟩ := h1.cells; have F := fail_0 h1 5) | (go_at_call 84; refine F.mono ?_; rintro e w2 ⟨rfl, h2, hp2⟩))
        go_ret
        exact ⟨hp1.trans hp2, rfl, by decide, a1, h2⟩
      · have E1 : IntKind.u64.wrap most = most := by rw [IntKind.wrap_u64]; omega
        have hlt : most < n := by omega
        clear hn hbad
        go_enter Tryz.func146, Tryz.ntmps146
        go_wp2_with (first | (go_at_call 47; refine U.mono ?_; rintro e w1 ⟨rfl, hp1, a1, ha1, hl, h1⟩; obtain ⟨d0, d1, d2, d3, df⟩ := h1.cells; have F := fail_0 h1 5) | (go_at_call 84; refine F.mono ?_; rintro e w2 ⟨rfl, h2, hp2⟩))
        go_ret
        exact ⟨hp1.trans hp2, rfl, by decide, a1, h2⟩
    · have E1 : IntKind.u64.wrap most = most := by rw [IntKind.wrap_u64]; omega
      have hle : (n : Int) ≤ most := by omega
      have h0 : 0 ≤ most := by omega
      by_cases hlen : l.length < n
      · have e : sP most (left s a) = .error 14 := by unfold sP; rw [hu]; exact (if_neg hbad).trans (if_pos hlen)
        rw [e]
        clear h hu e hn hbad hm
        go_enter Tryz.func146, Tryz.ntmps146
        go_wp2_with (first | (go_at_call 47; refine U.mono ?_; rintro e w1 ⟨rfl, hp1, a1, ha1, hl, h1⟩; obtain ⟨d0, d1, d2, d3, df⟩ := h1.cells))
        have hl2 : s.size - a1 < n := by rw [← left_len, ← hl]; exact hlen
        go_quiet (fail)
        have hd : Below w1.heap.size w1 (w1.drewN nq) := below_drewN (Below.refl _ _) _
        generalize w1.drewN nq = w2 at hd ⊢
        have F := fail_0 (h1.past hd) 14
        have P2 := Lib.hid (hp1.trans (Past.of_below hd))
        clear hd
        go_wp2_with (go_at_call 84; refine F.mono ?_; rintro e w3 ⟨rfl, h3, hp3⟩)
        go_ret
        exact ⟨P2.out.trans hp3, rfl, by decide, a1, h3⟩
      · have e : sP most (left s a) = .ok (strL (l.take n), l.drop n) := by unfold sP; rw [hu]; exact (if_neg hbad).trans (if_neg hlen)
        rw [e]
        clear h hu e hn hbad hm
        go_enter Tryz.func146, Tryz.ntmps146
        go_wp2_with (first | (go_at_call 47; refine U.mono ?_; rintro e w1 ⟨rfl, hp1, a1, ha1, hl, h1⟩; obtain ⟨d0, d1, d2, d3, df⟩ := h1.cells))
        have hl2 : n ≤ s.size - a1 := by rw [← left_len, ← hl]; omega
        have E2 : IntKind.i64.wrap (n : Int) = n := by rw [IntKind.wrap_i64]; omega
        have H1 := Lib.hid h1
        have HL := Lib.hid hl
        clear h1 hl hlen U
        go_quiet (fail)
        have hd : Below w1.heap.size w1 (w1.drewN nq) := below_drewN (Below.refl _ _) _
        generalize w1.drewN nq = w2 at hd ⊢
        obtain ⟨f0, f1, f2, f3, ff⟩ := (H1.out.past hd).cells
        have h2 := Lib.hid ((H1.out.past hd).set1 ((a1 : Int) + n))
        have P2 := Lib.hid ((hp1.trans (Past.of_below (g := g) hd)).set 1 (.int .i64 ((a1 : Int) + n)))
        clear hd d0 d1 d2 d3 df
        go_wp2_with fail
        obtain ⟨w3, hw3⟩ : ∃ w3, w3 = w2.setCell ⟨g, 1, none⟩ (.int .i64 ((a1 : Int) + n)) := ⟨_, rfl⟩
        rw [← hw3]
        have h3 := h2.out
        rw [← hw3] at h3
        have P3 := P2.out
        rw [← hw3] at P3
        obtain ⟨e0, e1, e2, e3, ef⟩ := h3.cells
        have H3 := Lib.hid h3
        have HP3 := Lib.hid P3
        clear hw3 h2 P2 f0 f1 f2 f3 ff h3 P3
        have i1 : (a1 : Int) + n - n = a1 := by omega
        have i2 : ((a1 : Int) + n).toNat = a1 + n := by omega
        have HC := Lib.hid (cut_left s a1 n)
        have SL : ∀ w : World, (Instr.slice 9 (.string s) (some (.int .i64 (a1 : Int))) (some (.int .i64 ((a1 : Int) + n))) none).run Tryz.prog w = .ok (.string (s.extract a1 (a1 + n))) w := fun w => by
          rw [run_slice_string_if w 9 s .i64 .i64 _ _ Tryz.underlying9, if_pos (by omega), if_pos (by omega), i2, Int.toNat_natCast]
        go_quiet (fail)
        have hd : Below w3.heap.size w3 (w3.drewN nq) := below_drewN (Below.refl _ _) _
        generalize w3.drewN nq = w4 at hd ⊢
        have HD := Lib.hid hd
        clear hd
        go_wp2_with fail
        go_ret
        refine ⟨HP3.out.trans (Past.of_below HD.out), ?_, a1 + n, by omega, ?_, ?_⟩
        · rw [HL.out, ← HC.out]; rfl
        · rw [HL.out]; unfold left; rw [List.drop_drop]
        · rw [Int.natCast_add]; exact H3.out.past HD.out
end Go.Proofs.YtekojglcbalhnaaGreatDoor
