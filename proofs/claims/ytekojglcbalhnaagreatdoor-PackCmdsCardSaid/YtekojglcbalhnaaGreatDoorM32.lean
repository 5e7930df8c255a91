/-
  The program's faces of its writers: caught, write; and Cmd.
  The program's faces of its readers: the closure, caught.
-/
import Derived.Test.YtekojglcbalhnaaGreatDoorM31
namespace Go.Proofs.YtekojglcbalhnaaGreatDoor
open Go.RowKit

theorem pcatchS_idle (q : Addr) (w : World) : CallsD Tryz.prog 69 #[.pointer (some q)] .returning w fun e u' w' => e = .returned (.tuple #[]) ∧ u' = .returning ∧ w' = w := by
  refine callsD_of_wpS Tryz.func69 rfl fun c₀ cs hu => ?_
  apply wpS_seq
  apply wpS_region
  simp [wpOpsS, go_sem, recoverD, hu, Tryz.ntmps69, Exit.thenS]
  refine wpS_of_wp ?_
  go_wp2_with fail
  cases c₀
  simp_all [bodyPostS, results, Tryz.results69]
set_option maxRecDepth 100000 in
theorem pcatchS_panics (q : Addr) (x c : Int) (older : List PanicEntry) (w : World) (hc : w.cell? q = some (.int .i64 x)) (hz : w.frozen? q = false) :
    CallsD Tryz.prog 69 #[.pointer (some q)] (.panicking ({ v := .iface 33 (.int .i64 c), recovered := false } :: older)) w fun e u' w' => e = .returned (.tuple #[]) ∧ u' = .panicking ({ v := .iface 33 (.int .i64 c), recovered := true } :: older) ∧ w' = w.setCell q (.int .i64 c) := by
  have TA := assert_errno c w
  refine callsD_of_wpS Tryz.func69 rfl fun c₀ cs hu => ?_
  apply wpS_seq
  apply wpS_region
  simp [wpOpsS, go_sem, recoverD, hu, Tryz.ntmps69, Exit.thenS]
  have hf : #[Value.pointer (some q)] ++ (Array.replicate 10 undef).setIfInBounds 3 (Value.iface 33 (Value.int IntKind.i64 c)) = #[.pointer (some q), undef, undef, undef, .iface 33 (.int .i64 c), undef, undef, undef, undef, undef, undef] := rfl
  rw [hf]
  refine wpS_of_wp ?_
  go_wp2_with fail
  simp [bodyPostS, results, Tryz.results69]

set_option maxRecDepth 100000 in
theorem caughtC_any {p q : Addr} {S : ByteArray} {ok : Prop} [Decidable ok] {w : World}
    (H : Calls Tryz.prog 36 #[.pointer (some p), .pointer (some q)] (w.alloc (.cells #[.int .i64 0] 33)) fun e w' => (if ok then e = .returned (.string S) else e = .panicked (errL 5)) ∧ Below (w.alloc (.cells #[.int .i64 0] 33)).heap.size (w.alloc (.cells #[.int .i64 0] 33)) w') :
    Calls Tryz.prog 35 #[.func (.func 36) #[] #[.pointer (some p), .pointer (some q)]] w fun e w' => e = .returned (if ok then .tuple #[.string S, .int .i64 0] else .tuple #[.string ⟨#[]⟩, .int .i64 5]) ∧ Below w.heap.size w w' := by
  have hbW : Below w.heap.size w (w.alloc (.cells #[.int .i64 0] 33)) := (Below.refl _ _).alloc (Nat.le_refl _) _
  have hE : (w.alloc (.cells #[.int .i64 0] 33)).heap[w.heap.size]? = some (.cells #[.int .i64 0] 33 (0, 0)) := heap_alloc_new w _
  have hC : ∀ w1, Below (w.alloc (.cells #[.int .i64 0] 33)).heap.size (w.alloc (.cells #[.int .i64 0] 33)) w1 → w1.cell? ⟨w.heap.size, 0, none⟩ = some (.int .i64 0) ∧ w1.frozen? ⟨w.heap.size, 0, none⟩ = false := fun w1 hb => by
    have h := (hb.block w.heap.size (by simp)).trans hE
    exact ⟨by simp [World.cell?, h], by simp [World.frozen?, h]⟩
  have MF := makeFunc_run
  have HB := Lib.hid hbW
  have HC := Lib.hid hC
  clear hbW hE hC
  by_cases ho : ok
  · simp only [ho, reduceIte] at H ⊢
    have HH := Lib.hid H
    clear H
    go_enter_defers Tryz.func35, Tryz.ntmps35
    go_wp2_with (go_at_call 36; refine HH.out.mono ?_; rintro e w1 ⟨rfl, hb1⟩; obtain ⟨q0, q1⟩ := HC.out w1 hb1; have hb2 := Lib.hid (HB.out.trans (hb1.mono HB.out.size)); clear hb1)
    obtain ⟨w2, hw2⟩ : ∃ w2, w2 = w1.setCell ⟨w.heap.size, 0, none⟩ (.int .i64 0) := ⟨_, rfl⟩
    have hb3 : Below w.heap.size w w2 := by rw [hw2]; exact hb2.out.setCell (Nat.le_refl _) _
    have q2 : w2.cell? ⟨w.heap.size, 0, none⟩ = some (.int .i64 0) := by rw [hw2]; exact World.cell?_setCell_same _ _ _ q0
    rw [← hw2]
    clear hw2 q0 q1
    refine leaves_cons (f := 69) (args := #[.pointer (some ⟨w.heap.size, 0, none⟩)]) (by simp) (by simp [go_sem]) ?_
    refine (pcatchS_idle ⟨w.heap.size, 0, none⟩ _).mono ?_
    rintro e u' w3 ⟨rfl, rfl, rfl⟩
    simp [Leaves, settle, results, Tryz.results35, go_sem, q2, hb3]
  · simp only [ho, reduceIte] at H ⊢
    have HH := Lib.hid H
    unfold errL at HH
    clear H
    go_enter_defers Tryz.func35, Tryz.ntmps35
    go_wp2_with (go_at_call 36; refine HH.out.mono ?_; rintro e w1 ⟨rfl, hb1⟩)
    obtain ⟨q0, q1⟩ := HC.out w1 hb1
    have hb2 := HB.out.trans (hb1.mono HB.out.size)
    refine leaves_cons (f := 69) (args := #[.pointer (some ⟨w.heap.size, 0, none⟩)]) (by simp) (by simp [go_sem]) ?_
    refine (pcatchS_panics ⟨w.heap.size, 0, none⟩ 0 5 [] _ q0 q1).mono ?_
    rintro e u' w2 ⟨rfl, rfl, rfl⟩
    have hfin : Below w.heap.size w (w1.setCell ⟨w.heap.size, 0, none⟩ (.int .i64 5)) := hb2.setCell (Nat.le_refl _) _
    simp [Leaves, settle, results, Tryz.results35, go_sem, q0, hfin]

theorem cmdL_pos (c : Cm) : 0 < (cmdL c).length := by
  have := uintL_pos c.k.toNat
  unfold cmdL
  rw [List.length_append]; omega
set_option maxRecDepth 20000 in
set_option maxHeartbeats 1000000 in
theorem wclos_any {c : Cm} {v : Array Value} {w : World} {bw bc : Nat} (hv : CmdAt w w.heap.size v c) (hw : w.heap[bw]? = some (.cells #[.func (.func 16) #[] #[]] 56 (0, 0))) (hc : w.heap[bc]? = some (.cells v 30 (0, 0))) :
    Calls Tryz.prog 36 #[.pointer (some ⟨bw, 0, none⟩), .pointer (some ⟨bc, 0, none⟩)] w fun e w' => (if cmdB c = true then e = .returned (.string (strL (cmdL c))) else e = .panicked (errL 5)) ∧ Below w.heap.size w w' := by
  have hb0 : Below w.heap.size w (w.alloc (.cells #[.slice none 0 0] 105)) := (Below.refl _ _).alloc (Nat.le_refl _) _
  have h0 : Wr (w.alloc (.cells #[.slice none 0 0] 105)) w.heap.size [] := ⟨_, heap_alloc_new w _, Row5.nil _ _⟩
  have C := wcmd_any h0 (hv.stay hb0)
  have hbc : bc < w.heap.size := (Array.getElem?_eq_some_iff.1 hc).1
  obtain ⟨a0, a1, a2, a3, a4, a5, b0, b1, b2, b3, b4, b5, rfl, hK, hV⟩ := hv
  unfold cfields at *
  have cc : ∀ j, (w.alloc (.cells #[.slice none 0 0] 105)).cell? ⟨bc, j, none⟩ = (#[.int .i64 c.k, .int .i64 c.n, .int .i64 c.l, .int .i64 c.i, .int .i64 c.d, a0, a1, a2, a3, a4, a5, b0, b1, b2, b3, b4, b5] : Array Value)[j]? := fun j => by
    have := (hb0.block bc hbc).trans hc
    simp [World.cell?, this]
  have c0 : (w.alloc (.cells #[.slice none 0 0] 105)).cell? ⟨bc, 0, none⟩ = some (.int .i64 c.k) := cc 0
  have c1 : (w.alloc (.cells #[.slice none 0 0] 105)).cell? ⟨bc, 1, none⟩ = some (.int .i64 c.n) := cc 1
  have c2 : (w.alloc (.cells #[.slice none 0 0] 105)).cell? ⟨bc, 2, none⟩ = some (.int .i64 c.l) := cc 2
  have c3 : (w.alloc (.cells #[.slice none 0 0] 105)).cell? ⟨bc, 3, none⟩ = some (.int .i64 c.i) := cc 3
  have c4 : (w.alloc (.cells #[.slice none 0 0] 105)).cell? ⟨bc, 4, none⟩ = some (.int .i64 c.d) := cc 4
  have c5 : (w.alloc (.cells #[.slice none 0 0] 105)).cell? ⟨bc, 5, none⟩ = some (a0) := cc 5
  have c6 : (w.alloc (.cells #[.slice none 0 0] 105)).cell? ⟨bc, 6, none⟩ = some (a1) := cc 6
  have c7 : (w.alloc (.cells #[.slice none 0 0] 105)).cell? ⟨bc, 7, none⟩ = some (a2) := cc 7
  have c8 : (w.alloc (.cells #[.slice none 0 0] 105)).cell? ⟨bc, 8, none⟩ = some (a3) := cc 8
  have c9 : (w.alloc (.cells #[.slice none 0 0] 105)).cell? ⟨bc, 9, none⟩ = some (a4) := cc 9
  have c10 : (w.alloc (.cells #[.slice none 0 0] 105)).cell? ⟨bc, 10, none⟩ = some (a5) := cc 10
  have c11 : (w.alloc (.cells #[.slice none 0 0] 105)).cell? ⟨bc, 11, none⟩ = some (b0) := cc 11
  have c12 : (w.alloc (.cells #[.slice none 0 0] 105)).cell? ⟨bc, 12, none⟩ = some (b1) := cc 12
  have c13 : (w.alloc (.cells #[.slice none 0 0] 105)).cell? ⟨bc, 13, none⟩ = some (b2) := cc 13
  have c14 : (w.alloc (.cells #[.slice none 0 0] 105)).cell? ⟨bc, 14, none⟩ = some (b3) := cc 14
  have c15 : (w.alloc (.cells #[.slice none 0 0] 105)).cell? ⟨bc, 15, none⟩ = some (b4) := cc 15
  have c16 : (w.alloc (.cells #[.slice none 0 0] 105)).cell? ⟨bc, 16, none⟩ = some (b5) := cc 16
  have hw1 : (w.alloc (.cells #[.slice none 0 0] 105)).cell? ⟨bw, 0, none⟩ = some (.func (.func 16) #[] #[]) := by
    have := (hb0.block bw (Array.getElem?_eq_some_iff.1 hw).1).trans hw
    simp [World.cell?, this]
  have HB := Lib.hid hb0
  have CL := cmdL_pos c
  clear cc h0 hK hV hb0 hc hw hbc
  by_cases ho : cmdB c = true
  · simp only [ho, reduceIte] at C ⊢
    have HC := Lib.hid C
    generalize c.k = k0 at *
    generalize c.n = n0 at *
    generalize c.l = l0 at *
    generalize c.i = i0 at *
    generalize c.d = d0 at *
    generalize cmdL c = M at *
    clear C ho
    go_enter Tryz.func36, Tryz.ntmps36
    go_wp2_with (go_at_call 16; refine HC.out.mono ?_; rintro e w1 ⟨hk1, rfl, h1⟩; refine Hid.out ?_)
    refine Lib.hid ?_
    obtain ⟨v1, hg1, hr1⟩ := h1
    have hcv := conv_row hr1 CL
    have d0' : w1.cell? ⟨w.heap.size, 0, none⟩ = some v1 := by simp [World.cell?, hg1]
    obtain ⟨A1, cap1, rfl⟩ := hr1.slice
    have HK := Lib.hid hk1
    clear hk1 hg1 hr1 c0 c1 c2 c3 c4 c5 c6 c7 c8 c9 c10 c11 c12 c13 c14 c15 c16 hw1
    go_wp2_with fail
    go_ret
    exact ⟨rfl, HB.out.trans (HK.out.below (by simp))⟩
  · simp only [ho] at C ⊢
    have HC := Lib.hid C
    generalize c.k = k0 at *
    generalize c.n = n0 at *
    generalize c.l = l0 at *
    generalize c.i = i0 at *
    generalize c.d = d0 at *
    clear C ho CL
    go_enter Tryz.func36, Tryz.ntmps36
    go_wp2_with (go_at_call 16; refine HC.out.mono ?_; rintro e w1 ⟨hk1, rfl⟩)
    exact ⟨rfl, rfl, HB.out.trans (hk1.below (by simp))⟩
set_option maxRecDepth 20000 in
set_option maxHeartbeats 1000000 in
theorem writeC_any {c : Cm} {v : Array Value} {w : World} (hv : CmdAt w w.heap.size v c) :
    Calls Tryz.prog 15 #[.agg v, .func (.func 16) #[] #[]] w fun e w' => e = .returned (if cmdB c = true then .tuple #[.string (strL (cmdL c)), .int .i64 0] else .tuple #[.string ⟨#[]⟩, .int .i64 5]) ∧ Below w.heap.size w w' := by
  obtain ⟨W2, hW2⟩ : ∃ W2, W2 = (w.alloc (.cells v 30)).alloc (.cells #[.func (.func 16) #[] #[]] 56) := ⟨_, rfl⟩
  have hb2 : Below w.heap.size w W2 := by rw [hW2]; exact ((Below.refl _ _).alloc (Nat.le_refl _) _).alloc (by simp) _
  have hb3 : Below w.heap.size w (W2.alloc (.cells #[.int .i64 0] 33)) := hb2.alloc (hb2.size) _
  have hs3 := hb3.size
  have hx : W2.heap[w.heap.size]? = some (.cells v 30 (0, 0)) := by
    rw [hW2, Below.heap_alloc _ _ _ (by simp)]; exact heap_alloc_new w _
  have hf : W2.heap[w.heap.size + 1]? = some (.cells #[.func (.func 16) #[] #[]] 56 (0, 0)) := by
    rw [hW2]
    have := heap_alloc_new (w.alloc (.cells v 30)) (.cells #[.func (.func 16) #[] #[]] 56)
    rw [World.size_alloc] at this; exact this
  have hx3 := (Below.heap_alloc W2 (.cells #[.int .i64 0] 33) _ (Array.getElem?_eq_some_iff.1 hx).1).trans hx
  have hf3 := (Below.heap_alloc W2 (.cells #[.int .i64 0] 33) _ (Array.getElem?_eq_some_iff.1 hf).1).trans hf
  have K := wclos_any (c := c) (v := v) (w := W2.alloc (.cells #[.int .i64 0] 33)) (bw := w.heap.size + 1) (bc := w.heap.size) ((hv.stay hb3).mono hs3) hf3 hx3
  have F := caughtC_any K
  have MF := makeFunc_run
  obtain ⟨a0, a1, a2, a3, a4, a5, b0, b1, b2, b3, b4, b5, rfl, hK, hV⟩ := hv
  obtain ⟨p0, p1, p2, p3, p4, p5, p6, p7, p8, p9, hp⟩ := hK.eight
  obtain ⟨q0, q1, q2, q3, q4, q5, q6, q7, q8, q9, hq⟩ := hV.eight
  simp only [Array.mk.injEq, List.cons.injEq, and_true] at hp hq
  obtain ⟨rfl, rfl, rfl, rfl, rfl, rfl⟩ := hp
  obtain ⟨rfl, rfl, rfl, rfl, rfl, rfl⟩ := hq
  unfold cfields at *
  have HB := Lib.hid hb2
  rw [hW2] at F
  have HW := Lib.hid hW2
  clear K hx hf hx3 hf3 hb2 hb3 hs3 hW2
  obtain ⟨k0, n0, l0, i0, d0, cK, cV⟩ := c
  dsimp only at *
  by_cases ho : cmdB ⟨k0, n0, l0, i0, d0, cK, cV⟩ = true
  · simp only [ho, reduceIte] at F ⊢
    have HF := Lib.hid F
    clear F ho
    go_enter Tryz.func15, Tryz.ntmps15
    go_wp2_with (go_at_call 35; refine HF.out.mono ?_; rintro e w3 ⟨rfl, hb⟩; rw [← HW.out] at hb)
    go_ret2
    exact ⟨rfl, HB.out.trans (hb.mono HB.out.size)⟩
  · simp only [ho] at F ⊢
    have HF := Lib.hid F
    clear F ho
    go_enter Tryz.func15, Tryz.ntmps15
    go_wp2_with (go_at_call 35; refine HF.out.mono ?_; rintro e w3 ⟨rfl, hb⟩; rw [← HW.out] at hb)
    go_ret2
    exact ⟨rfl, HB.out.trans (hb.mono HB.out.size)⟩
set_option maxRecDepth 20000 in
set_option maxHeartbeats 1000000 in
theorem Cmd_f {c : Cm} {v : Array Value} {w : World} (hv : CmdAt w w.heap.size v c) :
    Calls Tryz.prog 6 #[.agg v] w fun e w' => e = .returned (if cmdB c = true then .tuple #[.string (strL (cmdL c)), .int .i64 0] else .tuple #[.string ⟨#[]⟩, .int .i64 5]) ∧ Below w.heap.size w w' := by
  have hbW : Below w.heap.size w (w.alloc (.cells v 30)) := (Below.refl _ _).alloc (Nat.le_refl _) _
  have C := writeC_any ((hv.stay hbW).mono hbW.size)
  obtain ⟨a0, a1, a2, a3, a4, a5, b0, b1, b2, b3, b4, b5, rfl, hK, hV⟩ := hv
  unfold cfields at *
  have HB := Lib.hid hbW
  clear hbW hK hV
  obtain ⟨k0, n0, l0, i0, d0, cK, cV⟩ := c
  dsimp only at *
  by_cases ho : cmdB ⟨k0, n0, l0, i0, d0, cK, cV⟩ = true
  · simp only [ho, reduceIte] at C ⊢
    have HC := Lib.hid C
    clear C ho
    go_enter Tryz.func6, Tryz.ntmps6
    go_wp2_with (go_at_call 15; refine HC.out.mono ?_; rintro e w1 ⟨rfl, hb⟩)
    go_ret2
    exact ⟨rfl, HB.out.trans (hb.mono HB.out.size)⟩
  · simp only [ho] at C ⊢
    have HC := Lib.hid C
    clear C ho
    go_enter Tryz.func6, Tryz.ntmps6
    go_wp2_with (go_at_call 15; refine HC.out.mono ?_; rintro e w1 ⟨rfl, hb⟩)
    go_ret2
    exact ⟨rfl, HB.out.trans (hb.mono HB.out.size)⟩
end Go.Proofs.YtekojglcbalhnaaGreatDoor
namespace Go.Proofs.YtekojglcbalhnaaGreatDoor
open Go.RowKit

theorem pcatchC_idle (q : Addr) (w : World) : CallsD Tryz.prog 76 #[.pointer (some q)] .returning w fun e u' w' => e = .returned (.tuple #[]) ∧ u' = .returning ∧ w' = w := by
  refine callsD_of_wpS Tryz.func76 rfl fun c₀ cs hu => ?_
  apply wpS_seq
  apply wpS_region
  simp [wpOpsS, go_sem, recoverD, hu, Tryz.ntmps76, Exit.thenS]
  refine wpS_of_wp ?_
  go_wp2_with fail
  cases c₀
  simp_all [bodyPostS, results, Tryz.results76]
set_option maxRecDepth 100000 in
theorem pcatchC_panics (q : Addr) (x c : Int) (older : List PanicEntry) (w : World) (hc : w.cell? q = some (.int .i64 x)) (hz : w.frozen? q = false) :
    CallsD Tryz.prog 76 #[.pointer (some q)] (.panicking ({ v := .iface 33 (.int .i64 c), recovered := false } :: older)) w fun e u' w' => e = .returned (.tuple #[]) ∧ u' = .panicking ({ v := .iface 33 (.int .i64 c), recovered := true } :: older) ∧ w' = w.setCell q (.int .i64 c) := by
  have TA := assert_errno c w
  refine callsD_of_wpS Tryz.func76 rfl fun c₀ cs hu => ?_
  apply wpS_seq
  apply wpS_region
  simp [wpOpsS, go_sem, recoverD, hu, Tryz.ntmps76, Exit.thenS]
  have hf : #[Value.pointer (some q)] ++ (Array.replicate 10 undef).setIfInBounds 3 (Value.iface 33 (Value.int IntKind.i64 c)) = #[.pointer (some q), undef, undef, undef, .iface 33 (.int .i64 c), undef, undef, undef, undef, undef, undef] := rfl
  rw [hf]
  refine wpS_of_wp ?_
  go_wp2_with fail
  simp [bodyPostS, results, Tryz.results76]

theorem Past.setRowNew {g : Nat} {a w : World} (h : Past g a w) {R : Nat} (hR : a.heap.size ≤ R) (cs : Array Value) : Past g a (w.setRow R cs) :=
  ⟨h.os, h.tape, h.output, by rw [setRow_size]; exact h.size, fun k hk hn => (setRow_other w R k cs (by omega)).trans (h.block k hk hn)⟩
theorem Pr.setRow {w : World} {g R : Nat} {s : ByteArray} {a : Int} (h : Pr w g s a) (hR : R ≠ g) (cs : Array Value) : Pr (w.setRow R cs) g s a := (setRow_other w R g cs (fun e => hR e.symm)).trans h
theorem COwn.setRow {w : World} {P : Nat → Prop} {v : Array Value} {c : Cm} (h : COwn w P v c) {R : Nat} (hR : ¬ P R) (cs : Array Value) : COwn (w.setRow R cs) P v c :=
  h.keep (by rw [setRow_size]; exact Nat.le_refl _) fun k hk _ => setRow_other w R k cs (fun e => hR (e ▸ hk))
theorem load_cmd (w : World) (R : Nat) (cs : Array Value) (hg : w.heap[R]? = some (.cells cs 30 (0, 0))) (hs : cs.size = 17) : (loadVar 30 ⟨R, 0, none⟩).run Tryz.prog w = .ok (.agg cs) w :=
  run_loadVar_row w R 30 30 cs (0, 0) _ hg Tryz.underlying30 rfl (by rw [hs]; exact infoC)
theorem cells17 {w : World} {R : Nat} {a0 a1 a2 a3 a4 a5 a6 a7 a8 a9 a10 a11 a12 a13 a14 a15 a16 : Value} (h : w.heap[R]? = some (.cells #[a0, a1, a2, a3, a4, a5, a6, a7, a8, a9, a10, a11, a12, a13, a14, a15, a16] 30 (0, 0))) :
    w.cell? ⟨R, 0, none⟩ = some a0 ∧ w.cell? ⟨R, 1, none⟩ = some a1 ∧ w.cell? ⟨R, 2, none⟩ = some a2 ∧ w.cell? ⟨R, 3, none⟩ = some a3 ∧ w.cell? ⟨R, 4, none⟩ = some a4 ∧ w.cell? ⟨R, 5, none⟩ = some a5 ∧ w.cell? ⟨R, 6, none⟩ = some a6 ∧ w.cell? ⟨R, 7, none⟩ = some a7 ∧ w.cell? ⟨R, 8, none⟩ = some a8 ∧ w.cell? ⟨R, 9, none⟩ = some a9 ∧ w.cell? ⟨R, 10, none⟩ = some a10 ∧ w.cell? ⟨R, 11, none⟩ = some a11 ∧ w.cell? ⟨R, 12, none⟩ = some a12 ∧ w.cell? ⟨R, 13, none⟩ = some a13 ∧ w.cell? ⟨R, 14, none⟩ = some a14 ∧ w.cell? ⟨R, 15, none⟩ = some a15 ∧ w.cell? ⟨R, 16, none⟩ = some a16 := by
  refine ⟨?_, ?_, ?_, ?_, ?_, ?_, ?_, ?_, ?_, ?_, ?_, ?_, ?_, ?_, ?_, ?_, ?_⟩ <;> simp [World.cell?, h]
set_option maxRecDepth 20000 in
set_option maxHeartbeats 2000000 in
theorem rclos_any {w : World} {g bw : Nat} {s : ByteArray} {a : Nat} (h : Pr w g s a) (hf : w.heap[bw]? = some (.cells #[.func (.func 20) #[] #[]] 65 (0, 0))) (ha : a ≤ s.size) (hs : s.size ≤ 1000000000) :
    Calls Tryz.prog 43 #[.pointer (some ⟨bw, 0, none⟩), .pointer (some ⟨g, 0, none⟩)] w fun e w' => CmEnds s w g (cmdP (left s a)) e w' := by
  have hg := h.lt
  have hbw : bw < w.heap.size := (Array.getElem?_eq_some_iff.1 hf).1
  obtain ⟨W0, hW0⟩ : ∃ W0, W0 = w.alloc (.cells zero17 30) := ⟨_, rfl⟩
  have hb0 : Below w.heap.size w W0 := by rw [hW0]; exact (Below.refl _ _).alloc (Nat.le_refl _) _
  have hs0 : W0.heap.size = w.heap.size + 1 := by rw [hW0]; simp
  have hx0 : W0.heap[w.heap.size]? = some (.cells zero17 30 (0, 0)) := by rw [hW0]; exact heap_alloc_new w _
  have hf0 : W0.cell? ⟨bw, 0, none⟩ = some (.func (.func 20) #[] #[]) := by
    have := (hb0.block bw hbw).trans hf
    simp [World.cell?, this]
  have C := rcmd_any (h.past hb0) ha hs
  unfold CmEnds at C ⊢
  have HX0 := Lib.hid hx0
  have HB0 := Lib.hid hb0
  have HZ := Lib.hid hs0
  have HG := Lib.hid hg
  have e0 : w.alloc (.cells #[.int .i64 0, .int .i64 0, .int .i64 0, .int .i64 0, .int .i64 0, .int .i64 0, .int .i64 0, .float .f64 0, .string ⟨#[]⟩, .slice none 0 0, .slice none 0 0, .int .i64 0, .int .i64 0, .float .f64 0, .string ⟨#[]⟩, .slice none 0 0, .slice none 0 0] 30) = W0 := hW0.symm
  have HE := Lib.hid e0
  rw [← e0] at hf0
  clear h hb0 hs0 hx0 hg hW0 ha hs hf hbw e0
  cases hr : cmdP (left s a) with
  | none =>
    rw [hr] at C
    dsimp only at C ⊢
    have HC := Lib.hid C
    clear C hr
    go_enter Tryz.func43, Tryz.ntmps43
    go_wp2_with fail
    rw [HE.out]
    go_wp2_with (go_at_call 20; refine HC.out.mono ?_; rintro e w1 ⟨hp, rfl⟩)
    exact ⟨rfl, (Past.of_below HB0.out).trans hp, rfl⟩
  | some z =>
    obtain ⟨c, l⟩ := z
    rw [hr] at C
    dsimp only at C ⊢
    have HC := Lib.hid C
    clear C hr
    go_enter Tryz.func43, Tryz.ntmps43
    go_wp2_with fail
    rw [HE.out]
    go_wp2_with (first
      | (go_at_call 20; refine HC.out.mono ?_; rintro e w1 ⟨hp, ⟨v, rfl, hv⟩, b, hb, hl, h1⟩; have HX1 := Lib.hid ((hp.block w.heap.size (by have := HZ.out; omega) (by have := HG.out; omega)).trans HX0.out); have HV := Lib.hid hv; have HP := Lib.hid ((Past.of_below HB0.out).trans hp); have HL := Lib.hid (And.intro hb (And.intro hl h1)); clear hp hv hb hl h1)
      | (refine stC rfl (.tmp 2) (.tmp 4) rfl rfl w.heap.size v (by kernel_rfl) (by kernel_rfl) zero17 HX1.out rfl HV.out.size HV.out.one ?_)
      | fail)
    refine bodyPost_ret (v := .agg v) ?_ rfl ⟨HP.out.setRowNew (Nat.le_refl _) v, ⟨_, rfl, ?_⟩, b, HL.out.1, HL.out.2.1, HL.out.2.2.setRow (by have := HG.out; omega) v⟩
    · exact results_cmd rfl _ _ w.heap.size _ rfl (setRow_heap w1 w.heap.size zero17 v _ (0, 0) HX1.out) HV.out.size
    · exact (HV.out.setRow (by have := HZ.out; omega) v).imp fun b hb _ => by have := HZ.out; omega
/-- What the face of a command's reading answers. -/
def FcEnds (s : ByteArray) (w : World) (g : Nat) (r : Option (Cm × List UInt8)) (e : Ending) (w' : World) : Prop :=
  Past g w w' ∧ match r with
  | none => e = .returned (.tuple #[.agg zero17, .int .i64 5])
  | some (c, l) => (∃ v, e = .returned (.tuple #[.agg v, .int .i64 0]) ∧ COwn w' (fun b => w.heap.size ≤ b) v c) ∧ ∃ b : Nat, b ≤ s.size ∧ l = left s b ∧ Pr w' g s b
set_option maxRecDepth 100000 in
set_option maxHeartbeats 2000000 in
theorem rcaught_any {w : World} {g bw : Nat} {s : ByteArray} {a : Nat} (h : Pr w g s a) (hf : w.heap[bw]? = some (.cells #[.func (.func 20) #[] #[]] 65 (0, 0))) (ha : a ≤ s.size) (hs : s.size ≤ 1000000000) :
    Calls Tryz.prog 42 #[.func (.func 43) #[] #[.pointer (some ⟨bw, 0, none⟩), .pointer (some ⟨g, 0, none⟩)]] w fun e w' => FcEnds s w g (cmdP (left s a)) e w' := by
  have hg := h.lt
  have hbw : bw < w.heap.size := (Array.getElem?_eq_some_iff.1 hf).1
  obtain ⟨W0, hW0⟩ : ∃ W0, W0 = (w.alloc (.cells zero17 30)).alloc (.cells #[.int .i64 0] 33) := ⟨_, rfl⟩
  have hb0 : Below w.heap.size w W0 := by rw [hW0]; exact ((Below.refl _ _).alloc (Nat.le_refl _) _).alloc (by simp) _
  have hs0 : W0.heap.size = w.heap.size + 2 := by rw [hW0]; simp
  have hx0 : W0.heap[w.heap.size]? = some (.cells zero17 30 (0, 0)) := by
    rw [hW0, Below.heap_alloc _ _ _ (by simp)]; exact heap_alloc_new w _
  have hy0 : W0.heap[w.heap.size + 1]? = some (.cells #[.int .i64 0] 33 (0, 0)) := by
    rw [hW0]
    have := heap_alloc_new (w.alloc (.cells zero17 30)) (.cells #[.int .i64 0] 33)
    rw [World.size_alloc] at this; exact this
  have C := rclos_any (h.past hb0) ((hb0.block bw hbw).trans hf) ha hs
  unfold CmEnds at C
  unfold FcEnds
  have MF := makeFunc_run
  have HX0 := Lib.hid hx0
  have HY0 := Lib.hid hy0
  have HB0 := Lib.hid hb0
  have HZ := Lib.hid hs0
  have HG := Lib.hid hg
  have e0 : (w.alloc (.cells #[.int .i64 0, .int .i64 0, .int .i64 0, .int .i64 0, .int .i64 0, .int .i64 0, .int .i64 0, .float .f64 0, .string ⟨#[]⟩, .slice none 0 0, .slice none 0 0, .int .i64 0, .int .i64 0, .float .f64 0, .string ⟨#[]⟩, .slice none 0 0, .slice none 0 0] 30)).alloc (.cells #[.int .i64 0] 33) = W0 := hW0.symm
  have HE := Lib.hid e0
  clear h hb0 hs0 hx0 hy0 hg hW0 ha hs hf hbw e0
  cases hr : cmdP (left s a) with
  | none =>
    rw [hr] at C
    dsimp only at C ⊢
    unfold errL at C
    have HC := Lib.hid C
    clear C hr
    go_enter_defers Tryz.func42, Tryz.ntmps42
    go_wp2_with fail
    rw [HE.out]
    go_wp2_with (go_at_call 43; refine HC.out.mono ?_; rintro e w1 ⟨hp, rfl⟩)
    have hx1 := (hp.block w.heap.size (by have := HZ.out; omega) (by have := HG.out; omega)).trans HX0.out
    have hy1 := (hp.block (w.heap.size + 1) (by have := HZ.out; omega) (by have := HG.out; omega)).trans HY0.out
    have q0 : w1.cell? ⟨w.heap.size + 1, 0, none⟩ = some (.int .i64 0) := by simp [World.cell?, hy1]
    have q1 : w1.frozen? ⟨w.heap.size + 1, 0, none⟩ = false := by simp [World.frozen?, hy1]
    have hfin : Past g w (w1.setCell ⟨w.heap.size + 1, 0, none⟩ (.int .i64 5)) := ((Past.of_below HB0.out).trans hp).setNew (Nat.le_succ _) 0 (.int .i64 5)
    have hx2 : (w1.setCell ⟨w.heap.size + 1, 0, none⟩ (.int .i64 5)).heap[w.heap.size]? = some (.cells zero17 30 (0, 0)) := (Below.heap_setCell _ _ _ _ (by simp)).trans hx1
    obtain ⟨z0, z1, z2, z3, z4, z5, z6, z7, z8, z9, z10, z11, z12, z13, z14, z15, z16⟩ := cells17 hx1
    unfold zero17
    refine leaves_cons (f := 76) (args := #[.pointer (some ⟨w.heap.size + 1, 0, none⟩)]) (by simp) (by simp [go_sem]) ?_
    refine (pcatchC_panics ⟨w.heap.size + 1, 0, none⟩ 0 5 [] _ q0 q1).mono ?_
    rintro e u' w2 ⟨rfl, rfl, rfl⟩
    simp [Leaves, settle, results, Tryz.results42, go_sem, q0, asAddr, z0, z1, z2, z3, z4, z5, z6, z7, z8, z9, z10, z11, z12, z13, z14, z15, z16, hfin]
  | some z =>
    obtain ⟨c, l⟩ := z
    rw [hr] at C
    dsimp only at C ⊢
    have HC := Lib.hid C
    clear C hr
    go_enter_defers Tryz.func42, Tryz.ntmps42
    go_wp2_with fail
    rw [HE.out]
    go_wp2_with (first
      | (go_at_call 43; refine HC.out.mono ?_; rintro e w1 ⟨hp, ⟨v, rfl, hv⟩, b, hb, hl, h1⟩; have HX1 := Lib.hid ((hp.block w.heap.size (by have := HZ.out; omega) (by have := HG.out; omega)).trans HX0.out); have HY1 := Lib.hid ((hp.block (w.heap.size + 1) (by have := HZ.out; omega) (by have := HG.out; omega)).trans HY0.out); have HV := Lib.hid hv; have HP := Lib.hid ((Past.of_below HB0.out).trans hp); have HL := Lib.hid (And.intro hb (And.intro hl h1)); clear hp hv hb hl h1)
      | (refine stC rfl (.tmp 2) (.tmp 6) rfl rfl w.heap.size v (by kernel_rfl) (by kernel_rfl) zero17 HX1.out rfl HV.out.size HV.out.one ?_; refine Hid.out ?_))
    refine Lib.hid ?_
    obtain ⟨W2, hW2⟩ : ∃ W2, W2 = w1.setRow w.heap.size v := ⟨_, rfl⟩
    rw [← hW2]
    have hx2 : W2.heap[w.heap.size]? = some (.cells v 30 (0, 0)) := by rw [hW2]; exact setRow_heap w1 w.heap.size zero17 v _ (0, 0) HX1.out
    have hy2 : W2.heap[w.heap.size + 1]? = some (.cells #[.int .i64 0] 33 (0, 0)) := by rw [hW2]; exact (setRow_other w1 w.heap.size _ v (by omega)).trans HY1.out
    have hp2 : Past g w W2 := by rw [hW2]; exact HP.out.setRowNew (Nat.le_refl _) v
    have hv2 : COwn W2 (fun b => W0.heap.size ≤ b) v c := by rw [hW2]; exact HV.out.setRow (by have := HZ.out; omega) v
    have hr2 : Pr W2 g s b := by rw [hW2]; exact HL.out.2.2.setRow (by have := HG.out; omega) v
    have q0 : W2.cell? ⟨w.heap.size + 1, 0, none⟩ = some (.int .i64 0) := by simp [World.cell?, hy2]
    have q1 : W2.frozen? ⟨w.heap.size + 1, 0, none⟩ = false := by simp [World.frozen?, hy2]
    clear hW2
    go_wp2_with fail
    obtain ⟨w3, hw3⟩ : ∃ w3, w3 = W2.setCell ⟨w.heap.size + 1, 0, none⟩ (.int .i64 0) := ⟨_, rfl⟩
    have hp3 : Past g w w3 := by rw [hw3]; exact hp2.setNew (Nat.le_succ _) 0 (.int .i64 0)
    have hx3 : w3.heap[w.heap.size]? = some (.cells v 30 (0, 0)) := by rw [hw3]; exact (Below.heap_setCell _ _ _ _ (by simp)).trans hx2
    have q3 : w3.cell? ⟨w.heap.size + 1, 0, none⟩ = some (.int .i64 0) := by rw [hw3]; exact World.cell?_setCell_same _ _ _ q0
    have hv3 : COwn w3 (fun b => w.heap.size ≤ b) v c := by
      rw [hw3]
      exact (hv2.keep (by simp [World.setCell]) (fun k hk _ => Below.heap_setCell _ _ _ _ (by have := HZ.out; simp; omega))).imp fun b hb _ => by have := HZ.out; omega
    have hr3 : Pr w3 g s b := by rw [hw3]; exact (Below.heap_setCell _ _ _ _ (by have := HG.out; simp; omega)).trans hr2
    rw [← hw3]
    clear hw3 q0 q1 hx2 hy2 hp2 hv2 hr2
    refine leaves_cons (f := 76) (args := #[.pointer (some ⟨w.heap.size + 1, 0, none⟩)]) (by simp) (by simp [go_sem]) ?_
    refine (pcatchC_idle ⟨w.heap.size + 1, 0, none⟩ _).mono ?_
    rintro e u' w4 ⟨rfl, rfl, rfl⟩
    have hv5 := hv3
    obtain ⟨y0, y1, y2, y3, y4, y5, u0, u1, u2, u3, u4, u5, rfl, _, _⟩ := hv3
    unfold cfields at *
    obtain ⟨z0, z1, z2, z3, z4, z5, z6, z7, z8, z9, z10, z11, z12, z13, z14, z15, z16⟩ := cells17 hx3
    have HF := Lib.hid (And.intro hp3 (And.intro hv5 (And.intro HL.out.1 (And.intro HL.out.2.1 hr3))))
    clear hp3 hv5 hr3 hx3
    simp [Leaves, settle, results, Tryz.results42, go_sem, q3, asAddr, z0, z1, z2, z3, z4, z5, z6, z7, z8, z9, z10, z11, z12, z13, z14, z15, z16]
    exact ⟨HF.out.1, HF.out.2.1, b, HF.out.2.2⟩
end Go.Proofs.YtekojglcbalhnaaGreatDoor
