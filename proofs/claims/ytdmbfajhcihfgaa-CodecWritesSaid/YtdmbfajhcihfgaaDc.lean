/-
  The face of the program's readers: the deferred closure that recovers, and read.
-/
import Derived.Test.YtdmbfajhcihfgaaDb
import Derived.Defers
import Derived.Recover
namespace Go.Proofs.Ytdmbfajhcihfgaa
open Go.RowKit

theorem catch_idle (q : Addr) (w : World) : CallsD Try.prog 88 #[.pointer (some q)] .returning w fun e u' w' => e = .returned (.tuple #[]) ∧ u' = .returning ∧ w' = w := by
  refine callsD_of_wpS Try.func88 rfl fun c₀ cs hu => ?_
  apply wpS_seq
  apply wpS_region
  simp [wpOpsS, go_sem, recoverD, hu, Try.ntmps88, Exit.thenS]
  refine wpS_of_wp ?_
  go_wp2_with fail
  cases c₀
  simp_all [bodyPostS, results, Try.results88]
theorem assert_errno (c : Int) (w : World) : (Instr.typeAssert (.iface 34 (.int .i64 c)) 20 34 true).run Try.prog w = .ok (.tuple #[.int .i64 c, .bool true]) w := by kernel_rfl
set_option maxRecDepth 100000 in
theorem catch_panics (q : Addr) (x c : Int) (older : List PanicEntry) (w : World) (hc : w.cell? q = some (.int .i64 x)) (hz : w.frozen? q = false) :
    CallsD Try.prog 88 #[.pointer (some q)] (.panicking ({ v := .iface 34 (.int .i64 c), recovered := false } :: older)) w fun e u' w' => e = .returned (.tuple #[]) ∧ u' = .panicking ({ v := .iface 34 (.int .i64 c), recovered := true } :: older) ∧ w' = w.setCell q (.int .i64 c) := by
  have TA := assert_errno c w
  refine callsD_of_wpS Try.func88 rfl fun c₀ cs hu => ?_
  apply wpS_seq
  apply wpS_region
  simp [wpOpsS, go_sem, recoverD, hu, Try.ntmps88, Exit.thenS]
  have hf : #[Value.pointer (some q)] ++ (Array.replicate 10 undef).setIfInBounds 3 (Value.iface 34 (Value.int IntKind.i64 c)) = #[.pointer (some q), undef, undef, undef, .iface 34 (.int .i64 c), undef, undef, undef, undef, undef, undef] := rfl
  rw [hf]
  refine wpS_of_wp ?_
  go_wp2_with fail
  simp [bodyPostS, results, Try.results88]
theorem makeFunc_run (fn : Fn) (first cap : Array Value) (w : World) : (Instr.makeFunc fn first cap).run Try.prog w = .ok (.func fn first cap) w := rfl
/-- A place that is none. -/
theorem readU_range {s : ByteArray} {a : Int} {f : Value} {w : World} (ha : a < 0 ∨ (s.size : Int) < a) :
    Calls Try.prog 54 #[.string s, .int .i64 a, f] w fun e w' => e = .returned (.tuple #[.int .u64 0, .int .i64 0, .int .i64 3]) ∧ Below w.heap.size w w' := by
  have hbW : Below w.heap.size w (w.alloc (.cells #[.int .i64 3] 34)) := (Below.refl _ _).alloc (Nat.le_refl _) _
  by_cases h : a < 0
  · go_enter_defers Try.func54, Try.ntmps54
    go_wp2_with fail
    simp [bodyPostD, Leaves, results, Try.results54, go_sem, hbW]
  · have h2 : (s.size : Int) < a := by omega
    go_enter_defers Try.func54, Try.ntmps54
    go_wp2_with fail
    simp [bodyPostD, Leaves, results, Try.results54, go_sem, hbW]
/-- What a face answers, and where it goes on. -/
def faceV {α : Type} (s : ByteArray) (val : α → Value) (zero : Value) : Except Nat (α × List UInt8) → Value
  | .error c => .tuple #[zero, .int .i64 0, .int .i64 c]
  | .ok (n, l) => .tuple #[val n, .int .i64 ((s.size - l.length : Nat) : Int), .int .i64 0]
theorem left_at {s : ByteArray} {a : Nat} (h : a ≤ s.size) : s.size - (left s a).length = a := by rw [left_len]; omega
/-- The world ahead of what a face calls: the error's place, and the reader. -/
theorem face_world {w : World} {s : ByteArray} {a : Int} {W1 : World} (hW1 : W1 = (w.alloc (.cells #[.int .i64 0] 34)).alloc (.cells #[.string s, .int .i64 a, .int .i64 0] 109)) :
    Dr W1 (w.heap.size + 1) s a 0 ∧ Below w.heap.size w W1 ∧ W1.heap[w.heap.size]? = some (.cells #[.int .i64 0] 34 (0, 0)) ∧ w.heap.size < W1.heap.size := by
  subst hW1
  refine ⟨?_, ((Below.refl _ _).alloc (Nat.le_refl _) _).alloc (by simp) _, ?_, by simp; omega⟩
  · have := heap_alloc_new (w.alloc (.cells #[.int .i64 0] 34)) (.cells #[.string s, .int .i64 a, .int .i64 0] 109)
    rw [World.size_alloc] at this
    exact this
  · rw [Below.heap_alloc _ _ _ (by simp)]; exact heap_alloc_new _ _
theorem face_cell {W1 w1 : World} {k : Nat} (hE : W1.heap[k]? = some (.cells #[.int .i64 0] 34 (0, 0))) (hk : k < W1.heap.size) (hp : Past (k + 1) W1 w1) :
    w1.cell? ⟨k, 0, none⟩ = some (.int .i64 0) ∧ w1.frozen? ⟨k, 0, none⟩ = false := by
  have h := (hp.block k hk (by omega)).trans hE
  exact ⟨by simp [World.cell?, h], by simp [World.frozen?, h]⟩
theorem face_below {w W1 w1 : World} (hb : Below w.heap.size w W1) (hk : w.heap.size < W1.heap.size) (hp : Past (w.heap.size + 1) W1 w1) : Below w.heap.size w w1 :=
  hb.trans ⟨hp.os, hp.tape, hp.output, hp.size, fun i hi => hp.block i (by omega) (by omega)⟩
set_option maxRecDepth 100000 in
set_option maxHeartbeats 1000000 in
theorem readU_ok {s : ByteArray} {a : Nat} {w : World} (ha : a ≤ s.size) (hs : s.size ≤ 1000000000) :
    Calls Try.prog 54 #[.string s, .int .i64 a, .func (.func 55) #[] #[]] w fun e w' => e = .returned (faceV s (fun n : Nat => .int .u64 n) (.int .u64 0) (uP 0 0 (left s a))) ∧ Below w.heap.size w w' := by
  obtain ⟨W1, hW1⟩ : ∃ W1, W1 = (w.alloc (.cells #[.int .i64 0] 34)).alloc (.cells #[.string s, .int .i64 a, .int .i64 0] 109) := ⟨_, rfl⟩
  obtain ⟨hD, hbW, hE, hlt⟩ := face_world hW1
  have R := readUint_ok hD ha hs
  have MF := makeFunc_run
  have t1 : decide ((s.size : Int) < (a : Int)) = false := by simp; omega
  generalize uP 0 0 (left s a) = r at *
  have HB := Lib.hid hbW
  have HE := Lib.hid hE
  have HL := Lib.hid hlt
  clear hD hbW hE hlt
  cases r with
  | error c =>
    have R1 : Calls Try.prog 55 #[.pointer (some ⟨w.heap.size + 1, 0, none⟩)] W1 fun e w1 => e = .panicked (errL c) ∧ Past (w.heap.size + 1) W1 w1 := R.mono fun e w1 h => ⟨h.2, h.1⟩
    unfold errL at R1
    have HR := Lib.hid R1
    have HW := Lib.hid hW1
    clear R R1 hW1
    go_enter_defers Try.func54, Try.ntmps54
    rw [HW.out] at HR
    go_wp2_with (go_at_call 55; refine HR.out.mono ?_; rintro e w1 ⟨rfl, hp1⟩; rw [← HW.out] at hp1)
    obtain ⟨q0, q1⟩ := face_cell HE.out HL.out hp1
    have hb1 := face_below HB.out HL.out hp1
    refine leaves_cons (f := 88) (args := #[.pointer (some ⟨w.heap.size, 0, none⟩)]) (by simp) (by simp [go_sem]) ?_
    refine (catch_panics ⟨w.heap.size, 0, none⟩ 0 c [] _ q0 q1).mono ?_
    rintro e u' w2 ⟨rfl, rfl, rfl⟩
    have hfin : Below w.heap.size w (w1.setCell ⟨w.heap.size, 0, none⟩ (.int .i64 c)) := hb1.setCell (Nat.le_refl _) _
    simp [Leaves, settle, results, Try.results54, go_sem, q0, faceV, hfin]
  | ok z =>
    obtain ⟨n, l⟩ := z
    have R1 : Calls Try.prog 55 #[.pointer (some ⟨w.heap.size + 1, 0, none⟩)] W1 fun e w1 => e = .returned (.int .u64 n) ∧ Past (w.heap.size + 1) W1 w1 ∧ Dr w1 (w.heap.size + 1) s ((s.size - l.length : Nat) : Int) 0 := R.mono fun e w1 h => by
      obtain ⟨hp, hx, a', ha', hl, hr⟩ := h
      refine ⟨hx, hp, ?_⟩
      rw [hl, left_at ha']; exact hr
    have e : faceV s (fun n : Nat => .int .u64 n) (.int .u64 0) (.ok (n, l)) = .tuple #[.int .u64 n, .int .i64 ((s.size - l.length : Nat) : Int), .int .i64 0] := rfl
    rw [e]
    clear e
    have HR := Lib.hid R1
    have HW := Lib.hid hW1
    generalize s.size - l.length = nx at *
    clear R R1 hW1
    go_enter_defers Try.func54, Try.ntmps54
    rw [HW.out] at HR
    go_wp2_with (go_at_call 55; refine HR.out.mono ?_; rintro e w1 ⟨rfl, hp1, hr1⟩; rw [← HW.out] at hp1)
    obtain ⟨q0, q1⟩ := face_cell HE.out HL.out hp1
    obtain ⟨d0, d1, d2, df⟩ := hr1.cells
    have hb1 := Lib.hid (face_below HB.out HL.out hp1)
    clear hp1 hr1 d0 d2
    go_region
    go_wp2_with fail
    obtain ⟨w2, hw2⟩ : ∃ w2, w2 = (w1.setCell ⟨w.heap.size, 0, none⟩ (.int .i64 0)).drew := ⟨_, rfl⟩
    have hb2 : Below w.heap.size w w2 := by rw [hw2]; exact (hb1.out.setCell (Nat.le_refl _) _).drew
    have q2 : w2.cell? ⟨w.heap.size, 0, none⟩ = some (.int .i64 0) := by
      rw [hw2, World.cell?_drew]; exact World.cell?_setCell_same _ _ _ q0
    rw [← hw2]
    clear hw2 q0 q1
    refine leaves_cons (f := 88) (args := #[.pointer (some ⟨w.heap.size, 0, none⟩)]) (by simp) (by simp [go_sem]) ?_
    refine (catch_idle ⟨w.heap.size, 0, none⟩ _).mono ?_
    rintro e u' w3 ⟨rfl, rfl, rfl⟩
    simp [Leaves, settle, results, Try.results54, go_sem, q2, hb2]
end Go.Proofs.Ytdmbfajhcihfgaa
