/-
  Contract of the program's readRightValue.
  The face of the program's readers: the deferred closure that recovers, and read.
  Contract of the program's ReadUint.
  Contract of the program's face of a value's reader.
-/
import Derived.Test.YteclpehbpicpaaaM28
import Derived.Test.YteclpehbpicpaaaM13
import Derived.Test.YteclpehbpicpaaaM24
import Derived.Defers
import Derived.Recover
namespace Go.Proofs.Yteclpehbpicpaaa
open Go.RowKit

/-- What readRightValue answers. -/
def rrV (l : List UInt8) : Except Nat (VT × List UInt8) := match vP 12 0 l with | .error c => .error c | .ok (t, _, r) => if okV t = true then .ok (t, r) else .error 5
def RREnds (s : ByteArray) (w : World) (g : Nat) (r : Except Nat (VT × List UInt8)) (x : Ending) (w' : World) : Prop :=
  Past g w w' ∧ match r with
  | .error c => x = .panicked (errL c)
  | .ok (t, l) => (∃ v, x = .returned (.agg v) ∧ VOwn w' (fun b => w.heap.size ≤ b) v t) ∧ ∃ a p : Nat, a ≤ s.size ∧ l = left s a ∧ Dr w' g s a p
theorem results_box {fn : Func} {k : Nat} (h : fn.results = #[.cell k 27]) (tmps : Array Value) (w : World) (R : Nat) (a0 a1 a2 a3 a4 a5 : Value)
    (hp : tmps.getD k undef = .pointer (some ⟨R, 0, none⟩)) (hg : Bx w R #[a0, a1, a2, a3, a4, a5]) :
    (results fn tmps).run Try.prog w = .ok (.agg #[a0, a1, a2, a3, a4, a5]) w := by
  have hp' : tmps[k]?.getD undef = .pointer (some ⟨R, 0, none⟩) := by simpa using hp
  simp [results, h, hp', asAddr, run_loadVar_row w R 27 27 #[a0, a1, a2, a3, a4, a5] (0, 0) _ hg Try.underlying27 rfl (by rw [info27]; rfl)]
theorem VOwn.alloc {w : World} {P : Nat → Prop} {v : Array Value} {t : VT} (h : VOwn w P v t) (x : Obj) : VOwn (w.alloc x) P v t := h.keep (by simp) fun k _ hk => Below.heap_alloc _ _ _ hk
set_option maxRecDepth 20000 in
theorem rr_any {w : World} {g : Nat} {s : ByteArray} {a : Nat} (h : Dr w g s a 0) (ha : a ≤ s.size) (hs : s.size ≤ 1000000000) :
    Calls Try.prog 61 #[.pointer (some ⟨g, 0, none⟩)] w fun x w' => RREnds s w g (rrV (left s a)) x w' := by
  have hW : Past g w (w.alloc (.cells #[.int .i64 0, .int .i64 0, .float .f64 0, .string ⟨#[]⟩, .slice none 0 0, .slice none 0 0] 27)) := (Past.refl g w).alloc _
  have hR := Bx.new w #[.int .i64 0, .int .i64 0, .float .f64 0, .string ⟨#[]⟩, .slice none 0 0, .slice none 0 0]
  have V := rv_any hs 12 _ a 0 (by omega) (h.alloc (.cells #[.int .i64 0, .int .i64 0, .float .f64 0, .string ⟨#[]⟩, .slice none 0 0, .slice none 0 0] 27)) ha (by omega)
  have SF := float_store
  have HW := Lib.hid hW
  have HR := Lib.hid hR
  have e0 : (12 : Int) - ((12 : Nat) : Int) = 0 := by omega
  rw [e0] at V
  have hg := h.lt
  have hgw : g ≠ w.heap.size := by omega
  clear hW hR
  have Y := Lib.hid insist_yes
  have N := Lib.hid insist_no
  unfold rrV
  cases hv : vP 12 0 (left s a) with
  | error c =>
    rw [hv] at V
    have V' := V.mono fun e w1 h => DVEnds.error h
    clear V h hv
    go_enter Try.func61, Try.ntmps61
    go_wp2_with (go_at_call 91; refine V'.mono ?_; rintro x w1 ⟨rfl, hp1⟩)
    exact ⟨rfl, HW.out.trans hp1, rfl⟩
  | ok z =>
    obtain ⟨t, p, l⟩ := z
    rw [hv] at V
    clear hv
    have V' := V.mono fun e w1 h => DVEnds.okay h
    dsimp only
    cases hok : okV t with
    | false =>
      rw [if_neg Bool.false_ne_true]
      have HOK := Lib.hid hok
      clear V h hok
      go_enter Try.func61, Try.ntmps61
      go_wp2_with (first
        | (go_at_call 91; refine V'.mono ?_; rintro x w1 ⟨b0, b1, b2, b3, b4, b5, b6, b7, b8, b9, rfl, hp1, hv1, a1, ha1, hl1, hr1⟩; have hR1 := HR.out.past hp1 hgw.symm; obtain ⟨r0, r1, r2, r3, r4, r5, rf, rl⟩ := hR1.cells; have hVb := Bx.new w1 #[.int .i64 b0, .int .i64 b1, .float .f64 b2, .string b3, .slice b4 b5 b6, .slice b7 b8 b9]; have hv2 := hv1.alloc (.cells #[.int .i64 b0, .int .i64 b1, .float .f64 b2, .string b3, .slice b4 b5 b6, .slice b7 b8 b9] 27); have R := right_f hv2.val; rw [HOK.out] at R; have hlt1 := hr1.lt; clear hv1 hr1 ha1 hl1)
        | (go_at_call 41; refine R.mono ?_; rintro x w2 ⟨rfl, hb2⟩)
        | (go_at_call 85; refine (N.out _).mono ?_; rintro x w3 ⟨rfl, rfl⟩))
      exact ⟨rfl, HW.out.trans (hp1.trans (((Past.refl g w1).alloc (.cells #[.int .i64 b0, .int .i64 b1, .float .f64 b2, .string b3, .slice b4 b5 b6, .slice b7 b8 b9] 27)).trans (Past.of_below hb2))), rfl⟩
    | true =>
      rw [if_pos rfl]
      have HOK := Lib.hid hok
      clear V h hok
      go_enter Try.func61, Try.ntmps61
      go_wp2_with (first
        | (go_at_call 91; refine V'.mono ?_; rintro x w1 ⟨b0, b1, b2, b3, b4, b5, b6, b7, b8, b9, rfl, hp1, hv1, a1, ha1, hl1, hr1⟩; have hR1 := HR.out.past hp1 hgw.symm; obtain ⟨r0, r1, r2, r3, r4, r5, rf, rl⟩ := hR1.cells; have hVb := Bx.new w1 #[.int .i64 b0, .int .i64 b1, .float .f64 b2, .string b3, .slice b4 b5 b6, .slice b7 b8 b9]; have hv2 := hv1.alloc (.cells #[.int .i64 b0, .int .i64 b1, .float .f64 b2, .string b3, .slice b4 b5 b6, .slice b7 b8 b9] 27); have R := right_f hv2.val; rw [HOK.out] at R; have HV1 := Lib.hid hv2; have HR1 := Lib.hid hr1; have HA1 := Lib.hid ha1; have HL1 := Lib.hid hl1; clear hv1 hr1 ha1 hl1)
        | (go_at_call 41; refine R.mono ?_; rintro x w2 ⟨rfl, hb2⟩; have hV2 := hVb.below hb2 (by simp); obtain ⟨v0, v1, v2, v3, v4, v5, vf, vl⟩ := hV2.cells; have hR2 := (hR1.alloc (.cells #[.int .i64 b0, .int .i64 b1, .float .f64 b2, .string b3, .slice b4 b5 b6, .slice b7 b8 b9] 27)).below hb2 (by simp; omega); obtain ⟨q0, q1, q2, q3, q4, q5, qf, ql⟩ := hR2.cells; have HR2 := Lib.hid hR2; clear hR2)
        | (go_at_call 85; refine (Y.out _).mono ?_; rintro x w3 ⟨rfl, rfl⟩))
      have hne : g ≠ w.heap.size := hgw
      refine bodyPost_ret (results_box rfl _ _ w.heap.size (.int .i64 b0) (.int .i64 b1) (.float .f64 b2) (.string b3) (.slice b4 b5 b6) (.slice b7 b8 b9) rfl (HR2.out.six _ _ _ _ _ _)) rfl ⟨?_, ⟨_, rfl, ?_⟩, a1, p, HA1.out, HL1.out, ?_⟩
      · exact (HW.out.trans (hp1.trans (((Past.refl g w1).alloc (.cells #[.int .i64 b0, .int .i64 b1, .float .f64 b2, .string b3, .slice b4 b5 b6, .slice b7 b8 b9] 27)).trans (Past.of_below hb2)))).six (Nat.le_refl _) _ _ _ _ _ _
      · have hv := HV1.out.keep hb2.size (fun k _ hk => hb2.block k hk)
        have hz : w.heap.size < (w.alloc (.cells #[.int .i64 0, .int .i64 0, .float .f64 0, .string ⟨#[]⟩, .slice none 0 0, .slice none 0 0] 27)).heap.size := by simp
        generalize (w.alloc (.cells #[.int .i64 0, .int .i64 0, .float .f64 0, .string ⟨#[]⟩, .slice none 0 0, .slice none 0 0] 27)).heap.size = B1 at hv hz
        exact (hv.six (by omega) _ _ _ _ _ _).imp fun b hb _ => by omega
      · exact ((HR1.out.alloc _).past hb2).six (by omega) _ _ _ _ _ _
end Go.Proofs.Yteclpehbpicpaaa
namespace Go.Proofs.Yteclpehbpicpaaa
open Go.RowKit

theorem catch_idle (q : Addr) (w : World) : CallsD Try.prog 83 #[.pointer (some q)] .returning w fun e u' w' => e = .returned (.tuple #[]) ∧ u' = .returning ∧ w' = w := by
  refine callsD_of_wpS Try.func83 rfl fun c₀ cs hu => ?_
  apply wpS_seq
  apply wpS_region
  simp [wpOpsS, go_sem, recoverD, hu, Try.ntmps83, Exit.thenS]
  refine wpS_of_wp ?_
  go_wp2_with fail
  cases c₀
  simp_all [bodyPostS, results, Try.results83]
theorem assert_errno (c : Int) (w : World) : (Instr.typeAssert (.iface 34 (.int .i64 c)) 20 34 true).run Try.prog w = .ok (.tuple #[.int .i64 c, .bool true]) w := by kernel_rfl
set_option maxRecDepth 100000 in
theorem catch_panics (q : Addr) (x c : Int) (older : List PanicEntry) (w : World) (hc : w.cell? q = some (.int .i64 x)) (hz : w.frozen? q = false) :
    CallsD Try.prog 83 #[.pointer (some q)] (.panicking ({ v := .iface 34 (.int .i64 c), recovered := false } :: older)) w fun e u' w' => e = .returned (.tuple #[]) ∧ u' = .panicking ({ v := .iface 34 (.int .i64 c), recovered := true } :: older) ∧ w' = w.setCell q (.int .i64 c) := by
  have TA := assert_errno c w
  refine callsD_of_wpS Try.func83 rfl fun c₀ cs hu => ?_
  apply wpS_seq
  apply wpS_region
  simp [wpOpsS, go_sem, recoverD, hu, Try.ntmps83, Exit.thenS]
  have hf : #[Value.pointer (some q)] ++ (Array.replicate 10 undef).setIfInBounds 3 (Value.iface 34 (Value.int IntKind.i64 c)) = #[.pointer (some q), undef, undef, undef, .iface 34 (.int .i64 c), undef, undef, undef, undef, undef, undef] := rfl
  rw [hf]
  refine wpS_of_wp ?_
  go_wp2_with fail
  simp [bodyPostS, results, Try.results83]
theorem makeFunc_run (fn : Fn) (first cap : Array Value) (w : World) : (Instr.makeFunc fn first cap).run Try.prog w = .ok (.func fn first cap) w := rfl
/-- A place that is none. -/
theorem readU_range {s : ByteArray} {a : Int} {f : Value} {w : World} (ha : a < 0 ∨ (s.size : Int) < a) :
    Calls Try.prog 51 #[.string s, .int .i64 a, f] w fun e w' => e = .returned (.tuple #[.int .u64 0, .int .i64 0, .int .i64 3]) ∧ Below w.heap.size w w' := by
  have hbW : Below w.heap.size w (w.alloc (.cells #[.int .i64 3] 34)) := (Below.refl _ _).alloc (Nat.le_refl _) _
  by_cases h : a < 0
  · go_enter_defers Try.func51, Try.ntmps51
    go_wp2_with fail
    simp [bodyPostD, Leaves, results, Try.results51, go_sem, hbW]
  · have h2 : (s.size : Int) < a := by omega
    go_enter_defers Try.func51, Try.ntmps51
    go_wp2_with fail
    simp [bodyPostD, Leaves, results, Try.results51, go_sem, hbW]
/-- What a face answers, and where it goes on. -/
def faceV {α : Type} (s : ByteArray) (val : α → Value) (zero : Value) : Except Nat (α × List UInt8) → Value
  | .error c => .tuple #[zero, .int .i64 0, .int .i64 c]
  | .ok (n, l) => .tuple #[val n, .int .i64 ((s.size - l.length : Nat) : Int), .int .i64 0]
theorem left_at {s : ByteArray} {a : Nat} (h : a ≤ s.size) : s.size - (left s a).length = a := by rw [left_len]; omega
/-- The world ahead of what a face calls: the error's place, and the reader. -/
theorem face_world {w : World} {s : ByteArray} {a : Int} {W1 : World} (hW1 : W1 = (w.alloc (.cells #[.int .i64 0] 34)).alloc (.cells #[.string s, .int .i64 a, .int .i64 0] 116)) :
    Dr W1 (w.heap.size + 1) s a 0 ∧ Below w.heap.size w W1 ∧ W1.heap[w.heap.size]? = some (.cells #[.int .i64 0] 34 (0, 0)) ∧ w.heap.size < W1.heap.size := by
  subst hW1
  refine ⟨?_, ((Below.refl _ _).alloc (Nat.le_refl _) _).alloc (by simp) _, ?_, by simp; omega⟩
  · have := heap_alloc_new (w.alloc (.cells #[.int .i64 0] 34)) (.cells #[.string s, .int .i64 a, .int .i64 0] 116)
    rw [World.size_alloc] at this
    exact this
  · rw [Below.heap_alloc _ _ _ (by simp)]; exact heap_alloc_new _ _
theorem face_cell {W1 w1 : World} {k : Nat} (hE : W1.heap[k]? = some (.cells #[.int .i64 0] 34 (0, 0))) (hk : k < W1.heap.size) (hp : Past (k + 1) W1 w1) :
    w1.cell? ⟨k, 0, none⟩ = some (.int .i64 0) ∧ w1.frozen? ⟨k, 0, none⟩ = false := by
  have h := (hp.block k hk (by omega)).trans hE
  exact ⟨by simp [World.cell?, h], by simp [World.frozen?, h]⟩
theorem face_below {w W1 w1 : World} (hb : Below w.heap.size w W1) (hk : w.heap.size < W1.heap.size) (hp : Past (w.heap.size + 1) W1 w1) : Below w.heap.size w w1 :=
  hb.trans ⟨hp.os, hp.tape, hp.output, hp.size, fun i hi => hp.block i (by omega) (by omega)⟩
set_option maxRecDepth 100000 in
set_option maxHeartbeats 1000000 in
theorem readU_ok {s : ByteArray} {a : Nat} {w : World} (ha : a ≤ s.size) (hs : s.size ≤ 1000000000) :
    Calls Try.prog 51 #[.string s, .int .i64 a, .func (.func 52) #[] #[]] w fun e w' => e = .returned (faceV s (fun n : Nat => .int .u64 n) (.int .u64 0) (uP 0 0 (left s a))) ∧ Below w.heap.size w w' := by
  obtain ⟨W1, hW1⟩ : ∃ W1, W1 = (w.alloc (.cells #[.int .i64 0] 34)).alloc (.cells #[.string s, .int .i64 a, .int .i64 0] 116) := ⟨_, rfl⟩
  obtain ⟨hD, hbW, hE, hlt⟩ := face_world hW1
  have R := readUint_ok hD ha hs
  have MF := makeFunc_run
  have t1 : decide ((s.size : Int) < (a : Int)) = false := by simp; omega
  generalize uP 0 0 (left s a) = r at *
  have HB := Lib.hid hbW
  have HE := Lib.hid hE
  have HL := Lib.hid hlt
  clear hD hbW hE hlt
  cases r with
  | error c =>
    have R1 : Calls Try.prog 52 #[.pointer (some ⟨w.heap.size + 1, 0, none⟩)] W1 fun e w1 => e = .panicked (errL c) ∧ Past (w.heap.size + 1) W1 w1 := R.mono fun e w1 h => ⟨h.2, h.1⟩
    unfold errL at R1
    have HR := Lib.hid R1
    have HW := Lib.hid hW1
    clear R R1 hW1
    go_enter_defers Try.func51, Try.ntmps51
    rw [HW.out] at HR
    go_wp2_with (go_at_call 52; refine HR.out.mono ?_; rintro e w1 ⟨rfl, hp1⟩; rw [← HW.out] at hp1)
    obtain ⟨q0, q1⟩ := face_cell HE.out HL.out hp1
    have hb1 := face_below HB.out HL.out hp1
    refine leaves_cons (f := 83) (args := #[.pointer (some ⟨w.heap.size, 0, none⟩)]) (by simp) (by simp [go_sem]) ?_
    refine (catch_panics ⟨w.heap.size, 0, none⟩ 0 c [] _ q0 q1).mono ?_
    rintro e u' w2 ⟨rfl, rfl, rfl⟩
    have hfin : Below w.heap.size w (w1.setCell ⟨w.heap.size, 0, none⟩ (.int .i64 c)) := hb1.setCell (Nat.le_refl _) _
    simp [Leaves, settle, results, Try.results51, go_sem, q0, faceV, hfin]
  | ok z =>
    obtain ⟨n, l⟩ := z
    have R1 : Calls Try.prog 52 #[.pointer (some ⟨w.heap.size + 1, 0, none⟩)] W1 fun e w1 => e = .returned (.int .u64 n) ∧ Past (w.heap.size + 1) W1 w1 ∧ Dr w1 (w.heap.size + 1) s ((s.size - l.length : Nat) : Int) 0 := R.mono fun e w1 h => by
      obtain ⟨hp, hx, a', ha', hl, hr⟩ := h
      refine ⟨hx, hp, ?_⟩
      rw [hl, left_at ha']; exact hr
    have e : faceV s (fun n : Nat => .int .u64 n) (.int .u64 0) (.ok (n, l)) = .tuple #[.int .u64 n, .int .i64 ((s.size - l.length : Nat) : Int), .int .i64 0] := rfl
    rw [e]
    clear e
    have HR := Lib.hid R1
    have HW := Lib.hid hW1
    generalize s.size - l.length = nx at *
    clear R R1 hW1
    go_enter_defers Try.func51, Try.ntmps51
    rw [HW.out] at HR
    go_wp2_with (go_at_call 52; refine HR.out.mono ?_; rintro e w1 ⟨rfl, hp1, hr1⟩; rw [← HW.out] at hp1)
    obtain ⟨q0, q1⟩ := face_cell HE.out HL.out hp1
    obtain ⟨d0, d1, d2, df⟩ := hr1.cells
    have hb1 := Lib.hid (face_below HB.out HL.out hp1)
    clear hp1 hr1 d0 d2
    go_region
    go_wp2_with fail
    obtain ⟨w2, hw2⟩ : ∃ w2, w2 = (w1.setCell ⟨w.heap.size, 0, none⟩ (.int .i64 0)).drew := ⟨_, rfl⟩
    have hb2 : Below w.heap.size w w2 := by rw [hw2]; exact (hb1.out.setCell (Nat.le_refl _) _).drew
    have q2 : w2.cell? ⟨w.heap.size, 0, none⟩ = some (.int .i64 0) := by
      rw [hw2, World.cell?_drew]; exact World.cell?_setCell_same _ _ _ q0
    rw [← hw2]
    clear hw2 q0 q1
    refine leaves_cons (f := 83) (args := #[.pointer (some ⟨w.heap.size, 0, none⟩)]) (by simp) (by simp [go_sem]) ?_
    refine (catch_idle ⟨w.heap.size, 0, none⟩ _).mono ?_
    rintro e u' w3 ⟨rfl, rfl, rfl⟩
    simp [Leaves, settle, results, Try.results51, go_sem, q2, hb2]
end Go.Proofs.Yteclpehbpicpaaa
namespace Go.Proofs.Yteclpehbpicpaaa
open Go.RowKit

/-- What ReadUint answers. -/
def rdU (s : ByteArray) (a : Int) : Value := if a < 0 ∨ (s.size : Int) < a then .tuple #[.int .u64 0, .int .i64 0, .int .i64 3] else faceV s (fun n : Nat => .int .u64 n) (.int .u64 0) (uP 0 0 (left s a.toNat))
theorem face_three {α : Type} (s : ByteArray) {k : IntKind} (val : α → Int) (r : Except Nat (α × List UInt8)) : ∃ x y z, faceV s (fun n => .int k (val n)) (.int k 0) r = .tuple #[.int k x, .int .i64 y, .int .i64 z] := by
  cases r with
  | error c => exact ⟨_, _, _, rfl⟩
  | ok z => obtain ⟨n, l⟩ := z; exact ⟨_, _, _, rfl⟩
theorem ReadUint_f {s : ByteArray} {a : Int} {w : World} (hs : s.size ≤ 1000000000) :
    Calls Try.prog 24 #[.string s, .int .i64 a] w fun e w' => e = .returned (rdU s a) ∧ Below w.heap.size w w' := by
  by_cases h : a < 0 ∨ (s.size : Int) < a
  · have F := readU_range (f := .func (.func 52) #[] #[]) (w := w) h
    unfold rdU
    rw [if_pos h]
    clear h
    go_enter Try.func24, Try.ntmps24
    go_wp2_with (go_at_call 51; refine F.mono ?_; rintro e w1 ⟨rfl, hb1⟩)
    go_ret3
    exact ⟨rfl, hb1⟩
  · have F := readU_ok (a := a.toNat) (w := w) (show a.toNat ≤ s.size by omega) hs
    have e : ((a.toNat : Nat) : Int) = a := by omega
    rw [e] at F
    unfold rdU
    rw [if_neg h]
    obtain ⟨x, y, z, hv⟩ := face_three s (k := .u64) (fun n : Nat => (n : Int)) (uP 0 0 (left s a.toNat))
    rw [hv] at F ⊢
    clear h e hv
    go_enter Try.func24, Try.ntmps24
    go_wp2_with (go_at_call 51; refine F.mono ?_; rintro e w1 ⟨rfl, hb1⟩)
    go_ret3
    exact ⟨rfl, hb1⟩
end Go.Proofs.Yteclpehbpicpaaa
namespace Go.Proofs.Yteclpehbpicpaaa
open Go.RowKit

theorem catchV_idle (q : Addr) (w : World) : CallsD Try.prog 90 #[.pointer (some q)] .returning w fun e u' w' => e = .returned (.tuple #[]) ∧ u' = .returning ∧ w' = w := by
  refine callsD_of_wpS Try.func90 rfl fun c₀ cs hu => ?_
  apply wpS_seq
  apply wpS_region
  simp [wpOpsS, go_sem, recoverD, hu, Try.ntmps90, Exit.thenS]
  refine wpS_of_wp ?_
  go_wp2_with fail
  cases c₀
  simp_all [bodyPostS, results, Try.results90]
set_option maxRecDepth 100000 in
theorem catchV_panics (q : Addr) (x c : Int) (older : List PanicEntry) (w : World) (hc : w.cell? q = some (.int .i64 x)) (hz : w.frozen? q = false) :
    CallsD Try.prog 90 #[.pointer (some q)] (.panicking ({ v := .iface 34 (.int .i64 c), recovered := false } :: older)) w fun e u' w' => e = .returned (.tuple #[]) ∧ u' = .panicking ({ v := .iface 34 (.int .i64 c), recovered := true } :: older) ∧ w' = w.setCell q (.int .i64 c) := by
  have TA := assert_errno c w
  refine callsD_of_wpS Try.func90 rfl fun c₀ cs hu => ?_
  apply wpS_seq
  apply wpS_region
  simp [wpOpsS, go_sem, recoverD, hu, Try.ntmps90, Exit.thenS]
  have hf : #[Value.pointer (some q)] ++ (Array.replicate 10 undef).setIfInBounds 3 (Value.iface 34 (Value.int IntKind.i64 c)) = #[.pointer (some q), undef, undef, undef, .iface 34 (.int .i64 c), undef, undef, undef, undef, undef, undef] := rfl
  rw [hf]
  refine wpS_of_wp ?_
  go_wp2_with fail
  simp [bodyPostS, results, Try.results90]

theorem VOwn.drew {w : World} {P : Nat → Prop} {v : Array Value} {t : VT} (h : VOwn w P v t) : VOwn w.drew P v t := h.keep (Nat.le_refl _) fun _ _ _ => rfl
theorem VOwn.set {w : World} {P : Nat → Prop} {v : Array Value} {t : VT} (h : VOwn w P v t) {R : Nat} (hR : ¬ P R) (o : Nat) (u : Value) : VOwn (w.setCell ⟨R, o, none⟩ u) P v t :=
  h.keep (by simp [World.setCell]) fun k hk _ => Below.heap_setCell _ _ _ _ (fun e => hR ((show k = R from e) ▸ hk))
theorem Bx.drew {w : World} {R : Nat} {cs : Array Value} (h : Bx w R cs) : Bx w.drew R cs := h
theorem readV_range {s : ByteArray} {a : Int} {f : Value} {w : World} (ha : a < 0 ∨ (s.size : Int) < a) :
    Calls Try.prog 60 #[.string s, .int .i64 a, f] w fun e w' => e = .returned (.tuple #[.agg zero6, .int .i64 0, .int .i64 3]) ∧ Below w.heap.size w w' := by
  have SF := float_store
  have hbW : Below w.heap.size w ((w.alloc (.cells #[.int .i64 0, .int .i64 0, .float .f64 0, .string ⟨#[]⟩, .slice none 0 0, .slice none 0 0] 27)).alloc (.cells #[.int .i64 3] 34)) := ((Below.refl _ _).alloc (Nat.le_refl _) _).alloc (by simp) _
  by_cases h : a < 0
  · go_enter_defers Try.func60, Try.ntmps60
    go_wp2_with fail
    simp [bodyPostD, Leaves, results, Try.results60, go_sem, hbW, zero6, asAddr]
  · have h2 : (s.size : Int) < a := by omega
    go_enter_defers Try.func60, Try.ntmps60
    go_wp2_with fail
    simp [bodyPostD, Leaves, results, Try.results60, go_sem, hbW, zero6, asAddr]
theorem faceV_world {w : World} {s : ByteArray} {a : Int} {W1 : World} (hW1 : W1 = ((w.alloc (.cells #[.int .i64 0, .int .i64 0, .float .f64 0, .string ⟨#[]⟩, .slice none 0 0, .slice none 0 0] 27)).alloc (.cells #[.int .i64 0] 34)).alloc (.cells #[.string s, .int .i64 a, .int .i64 0] 116)) :
    Dr W1 (w.heap.size + 2) s a 0 ∧ Below w.heap.size w W1 ∧ W1.heap[w.heap.size + 1]? = some (.cells #[.int .i64 0] 34 (0, 0)) ∧ w.heap.size + 1 < W1.heap.size ∧ Bx W1 w.heap.size #[.int .i64 0, .int .i64 0, .float .f64 0, .string ⟨#[]⟩, .slice none 0 0, .slice none 0 0] := by
  subst hW1
  refine ⟨?_, (((Below.refl _ _).alloc (Nat.le_refl _) _).alloc (by simp) _).alloc (by simp; omega) _, ?_, by simp, ((Bx.new w #[.int .i64 0, .int .i64 0, .float .f64 0, .string ⟨#[]⟩, .slice none 0 0, .slice none 0 0]).alloc _).alloc _⟩
  · have := heap_alloc_new ((w.alloc (.cells #[.int .i64 0, .int .i64 0, .float .f64 0, .string ⟨#[]⟩, .slice none 0 0, .slice none 0 0] 27)).alloc (.cells #[.int .i64 0] 34)) (.cells #[.string s, .int .i64 a, .int .i64 0] 116)
    rw [World.size_alloc, World.size_alloc] at this
    exact this
  · rw [Below.heap_alloc _ _ _ (by simp)]
    have := heap_alloc_new (w.alloc (.cells #[.int .i64 0, .int .i64 0, .float .f64 0, .string ⟨#[]⟩, .slice none 0 0, .slice none 0 0] 27)) (.cells #[.int .i64 0] 34)
    rw [World.size_alloc] at this
    exact this
set_option maxRecDepth 100000 in
set_option maxHeartbeats 1000000 in
theorem readV_err {s : ByteArray} {a c : Nat} {w : World} (hr : rrV (left s a) = .error c) (ha : a ≤ s.size) (hs : s.size ≤ 1000000000) :
    Calls Try.prog 60 #[.string s, .int .i64 a, .func (.func 61) #[] #[]] w fun e w' => e = .returned (.tuple #[.agg zero6, .int .i64 0, .int .i64 c]) ∧ Below w.heap.size w w' := by
  have SF := float_store
  obtain ⟨W1, hW1⟩ : ∃ W1, W1 = ((w.alloc (.cells #[.int .i64 0, .int .i64 0, .float .f64 0, .string ⟨#[]⟩, .slice none 0 0, .slice none 0 0] 27)).alloc (.cells #[.int .i64 0] 34)).alloc (.cells #[.string s, .int .i64 a, .int .i64 0] 116) := ⟨_, rfl⟩
  obtain ⟨hD, hbW, hE, hlt, hB⟩ := faceV_world hW1
  have R := rr_any hD ha hs
  rw [hr] at R
  have MF := makeFunc_run
  have t1 : decide ((s.size : Int) < (a : Int)) = false := by simp; omega
  have HB := Lib.hid hbW
  have HE := Lib.hid hE
  have HL := Lib.hid hlt
  have HBX := Lib.hid hB
  have R1 : Calls Try.prog 61 #[.pointer (some ⟨w.heap.size + 2, 0, none⟩)] W1 fun e w1 => e = .panicked (errL c) ∧ Past (w.heap.size + 2) W1 w1 := R.mono fun e w1 h => ⟨h.2, h.1⟩
  unfold errL at R1
  have HR := Lib.hid R1
  have HW := Lib.hid hW1
  clear R R1 hW1 hD hbW hE hlt hB hr
  go_enter_defers Try.func60, Try.ntmps60
  rw [HW.out] at HR
  go_wp2_with (go_at_call 61; refine HR.out.mono ?_; rintro e w1 ⟨rfl, hp1⟩; rw [← HW.out] at hp1)
  obtain ⟨q0, q1⟩ := face_cell HE.out HL.out hp1
  have hb1 : Below w.heap.size w w1 := HB.out.trans ⟨hp1.os, hp1.tape, hp1.output, hp1.size, fun i hi => hp1.block i (by have := HL.out; omega) (by omega)⟩
  obtain ⟨x0, x1, x2, x3, x4, x5, xf, xl⟩ := (HBX.out.past hp1 (by omega)).cells
  refine leaves_cons (f := 90) (args := #[.pointer (some ⟨w.heap.size + 1, 0, none⟩)]) (by simp) (by simp [go_sem]) ?_
  refine (catchV_panics ⟨w.heap.size + 1, 0, none⟩ 0 c [] _ q0 q1).mono ?_
  rintro e u' w2 ⟨rfl, rfl, rfl⟩
  have hfin : Below w.heap.size w (w1.setCell ⟨w.heap.size + 1, 0, none⟩ (.int .i64 c)) := hb1.setCell (by simp) _
  simp [Leaves, settle, results, Try.results60, go_sem, q0, hfin, zero6, asAddr, x0, x1, x2, x3, x4, x5]
set_option maxRecDepth 100000 in
set_option maxHeartbeats 1000000 in
theorem readV_ok {s : ByteArray} {a : Nat} {w : World} {t : VT} {l : List UInt8} (hr : rrV (left s a) = .ok (t, l)) (ha : a ≤ s.size) (hs : s.size ≤ 1000000000) :
    Calls Try.prog 60 #[.string s, .int .i64 a, .func (.func 61) #[] #[]] w fun e w' => (∃ v, e = .returned (.tuple #[.agg v, .int .i64 ((s.size - l.length : Nat) : Int), .int .i64 0]) ∧ VOwn w' (fun b => w.heap.size ≤ b) v t) ∧ Below w.heap.size w w' := by
  have SF := float_store
  obtain ⟨W1, hW1⟩ : ∃ W1, W1 = ((w.alloc (.cells #[.int .i64 0, .int .i64 0, .float .f64 0, .string ⟨#[]⟩, .slice none 0 0, .slice none 0 0] 27)).alloc (.cells #[.int .i64 0] 34)).alloc (.cells #[.string s, .int .i64 a, .int .i64 0] 116) := ⟨_, rfl⟩
  obtain ⟨hD, hbW, hE, hlt, hB⟩ := faceV_world hW1
  have R := rr_any hD ha hs
  rw [hr] at R
  have MF := makeFunc_run
  have t1 : decide ((s.size : Int) < (a : Int)) = false := by simp; omega
  have HB := Lib.hid hbW
  have HE := Lib.hid hE
  have HL := Lib.hid hlt
  have HBX := Lib.hid hB
  have R1 : Calls Try.prog 61 #[.pointer (some ⟨w.heap.size + 2, 0, none⟩)] W1 fun e w1 => ∃ (b0 b1 : Int) (b2 : Nat) (b3 : ByteArray) (b4 : Option Addr) (b5 b6 : Nat) (b7 : Option Addr) (b8 b9 : Nat), e = .returned (.agg #[.int .i64 b0, .int .i64 b1, .float .f64 b2, .string b3, .slice b4 b5 b6, .slice b7 b8 b9]) ∧ Past (w.heap.size + 2) W1 w1 ∧ VOwn w1 (fun b => W1.heap.size ≤ b) #[.int .i64 b0, .int .i64 b1, .float .f64 b2, .string b3, .slice b4 b5 b6, .slice b7 b8 b9] t ∧ ∃ p : Nat, Dr w1 (w.heap.size + 2) s ((s.size - l.length : Nat) : Int) p := R.mono fun e w1 h => by
    obtain ⟨hp, ⟨v, rfl, hv⟩, a', p', ha', hl, hr⟩ := h
    obtain ⟨b0, b1, b2, b3, b4, b5, b6, b7, b8, b9, rfl⟩ := hv.val.eight
    refine ⟨_, _, _, _, _, _, _, _, _, _, rfl, hp, hv, p', ?_⟩
    rw [hl, left_at ha']; exact hr
  have HR := Lib.hid R1
  have HW := Lib.hid hW1
  generalize s.size - l.length = nx at *
  clear R R1 hW1 hD hbW hE hlt hB hr
  go_enter_defers Try.func60, Try.ntmps60
  rw [HW.out] at HR
  go_wp2_with (go_at_call 61; refine HR.out.mono ?_; rintro e w1 ⟨b0, b1, b2, b3, b4, b5, b6, b7, b8, b9, rfl, hp1, hv1, p1, hr1⟩; rw [← HW.out] at hp1 hv1; have hx1 := HBX.out.past hp1 (by omega); obtain ⟨q0, q1⟩ := face_cell HE.out HL.out hp1; obtain ⟨x0, x1, x2, x3, x4, x5, xf, xl⟩ := hx1.cells; have HV1 := Lib.hid hv1; have HP1 := Lib.hid hp1; have HR1 := Lib.hid hr1; have HX1 := Lib.hid hx1; clear hv1 hp1 hr1 hx1)
  clear x0 x1 x2 x3 x4 x5 xf xl
  obtain ⟨W2, hW2⟩ : ∃ W2, W2 = ((((((w1.setCell ⟨w.heap.size, 0, none⟩ (.int .i64 b0)).setCell ⟨w.heap.size, 1, none⟩ (.int .i64 b1)).setCell ⟨w.heap.size, 2, none⟩ (.float .f64 b2)).setCell ⟨w.heap.size, 3, none⟩ (.string b3)).setCell ⟨w.heap.size, 4, none⟩ (.slice b4 b5 b6)).setCell ⟨w.heap.size, 5, none⟩ (.slice b7 b8 b9)) := ⟨_, rfl⟩
  rw [← hW2]
  have hx2 : Bx W2 w.heap.size #[.int .i64 b0, .int .i64 b1, .float .f64 b2, .string b3, .slice b4 b5 b6, .slice b7 b8 b9] := by rw [hW2]; exact HX1.out.six _ _ _ _ _ _
  have hr2 : Dr W2 (w.heap.size + 2) s (nx : Int) p1 := by rw [hW2]; exact HR1.out.six (by omega) _ _ _ _ _ _
  have he2 : W2.cell? ⟨w.heap.size + 1, 0, none⟩ = some (.int .i64 0) ∧ W2.frozen? ⟨w.heap.size + 1, 0, none⟩ = false := by
    have h := (HP1.out.block (w.heap.size + 1) HL.out (by omega)).trans HE.out
    have h2 : W2.heap[w.heap.size + 1]? = some (.cells #[.int .i64 0] 34 (0, 0)) := by
      rw [hW2]
      rw [Below.heap_setCell _ _ _ _ (by simp), Below.heap_setCell _ _ _ _ (by simp), Below.heap_setCell _ _ _ _ (by simp), Below.heap_setCell _ _ _ _ (by simp), Below.heap_setCell _ _ _ _ (by simp), Below.heap_setCell _ _ _ _ (by simp)]
      exact h
    exact ⟨by simp [World.cell?, h2], by simp [World.frozen?, h2]⟩
  have hb2 : Below w.heap.size w W2 := by
    rw [hW2]
    have hb1 : Below w.heap.size w w1 := HB.out.trans ⟨HP1.out.os, HP1.out.tape, HP1.out.output, HP1.out.size, fun i hi => HP1.out.block i (by have := HL.out; omega) (by omega)⟩
    exact (((((hb1.setCell (Nat.le_refl _) _).setCell (Nat.le_refl _) _).setCell (Nat.le_refl _) _).setCell (Nat.le_refl _) _).setCell (Nat.le_refl _) _).setCell (Nat.le_refl _) _
  have hv2 : VOwn W2 (fun b => W1.heap.size ≤ b) #[.int .i64 b0, .int .i64 b1, .float .f64 b2, .string b3, .slice b4 b5 b6, .slice b7 b8 b9] t := by
    rw [hW2]; exact HV1.out.six (by have := HL.out; omega) _ _ _ _ _ _
  obtain ⟨e0, e1⟩ := he2
  obtain ⟨d0, d1, d2, df⟩ := hr2.cells
  obtain ⟨x0, x1, x2, x3, x4, x5, xf, xl⟩ := hx2.cells
  have HV2 := Lib.hid hv2
  have HB2 := Lib.hid hb2
  have HX2 := Lib.hid hx2
  clear hW2 HX1 HR1 HP1 HV1 hx2 hr2 hb2 hv2 q0 q1 d0 d2
  go_region
  go_wp2_with fail
  obtain ⟨w3, hw3⟩ : ∃ w3, w3 = (((((((W2.setCell ⟨w.heap.size, 0, none⟩ (.int .i64 b0)).setCell ⟨w.heap.size, 1, none⟩ (.int .i64 b1)).setCell ⟨w.heap.size, 2, none⟩ (.float .f64 b2)).setCell ⟨w.heap.size, 3, none⟩ (.string b3)).setCell ⟨w.heap.size, 4, none⟩ (.slice b4 b5 b6)).setCell ⟨w.heap.size, 5, none⟩ (.slice b7 b8 b9)).setCell ⟨w.heap.size + 1, 0, none⟩ (.int .i64 0)).drew := ⟨_, rfl⟩
  have hb3 : Below w.heap.size w w3 := by
    rw [hw3]
    exact (((((((HB2.out.setCell (Nat.le_refl _) _).setCell (Nat.le_refl _) _).setCell (Nat.le_refl _) _).setCell (Nat.le_refl _) _).setCell (Nat.le_refl _) _).setCell (Nat.le_refl _) _).setCell (Nat.le_succ _) _).drew
  have hx3 : Bx w3 w.heap.size #[.int .i64 b0, .int .i64 b1, .float .f64 b2, .string b3, .slice b4 b5 b6, .slice b7 b8 b9] := by
    rw [hw3]
    exact ((HX2.out.six (.int .i64 b0) (.int .i64 b1) (.float .f64 b2) (.string b3) (.slice b4 b5 b6) (.slice b7 b8 b9)).other (S := w.heap.size + 1) (by omega) 0 (.int .i64 0)).drew
  have hv3 : VOwn w3 (fun b => W1.heap.size ≤ b) #[.int .i64 b0, .int .i64 b1, .float .f64 b2, .string b3, .slice b4 b5 b6, .slice b7 b8 b9] t := by
    rw [hw3]
    have hl := HL.out
    exact ((HV2.out.six (R := w.heap.size) (by omega) (.int .i64 b0) (.int .i64 b1) (.float .f64 b2) (.string b3) (.slice b4 b5 b6) (.slice b7 b8 b9)).set (R := w.heap.size + 1) (by omega) 0 (.int .i64 0)).drew
  have e3 : w3.cell? ⟨w.heap.size + 1, 0, none⟩ = some (.int .i64 0) := by
    rw [hw3, World.cell?_drew]
    have : ((((((W2.setCell ⟨w.heap.size, 0, none⟩ (.int .i64 b0)).setCell ⟨w.heap.size, 1, none⟩ (.int .i64 b1)).setCell ⟨w.heap.size, 2, none⟩ (.float .f64 b2)).setCell ⟨w.heap.size, 3, none⟩ (.string b3)).setCell ⟨w.heap.size, 4, none⟩ (.slice b4 b5 b6)).setCell ⟨w.heap.size, 5, none⟩ (.slice b7 b8 b9)).cell? ⟨w.heap.size + 1, 0, none⟩ = some (.int .i64 0) := by simp [go_sem, e0]
    exact World.cell?_setCell_same _ _ _ this
  have hv4 := hv3.imp (Q := fun b => w.heap.size ≤ b) fun b hb _ => by have := HL.out; omega
  rw [← hw3]
  obtain ⟨y0, y1, y2, y3, y4, y5, yf, yl⟩ := hx3.cells
  clear hw3 hx3 hv3 x0 x1 x2 x3 x4 x5 xf xl e0 e1
  refine leaves_cons (f := 90) (args := #[.pointer (some ⟨w.heap.size + 1, 0, none⟩)]) (by simp) (by simp [go_sem]) ?_
  refine (catchV_idle ⟨w.heap.size + 1, 0, none⟩ _).mono ?_
  rintro e u' w4 ⟨rfl, rfl, rfl⟩
  simp [Leaves, settle, results, Try.results60, go_sem, e3, hb3, asAddr, y0, y1, y2, y3, y4, y5, hv4]
end Go.Proofs.Yteclpehbpicpaaa
