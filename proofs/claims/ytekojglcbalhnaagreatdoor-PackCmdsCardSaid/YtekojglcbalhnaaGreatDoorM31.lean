/-
  The program's reader of commands: the command whole.
  The program's writer of commands: the command whole, the face, Cmd.
-/
import Derived.Test.YtekojglcbalhnaaGreatDoorM29
import Derived.Test.YtekojglcbalhnaaGreatDoorM30
import Derived.Great.BuildSlice
import Derived.Test.YtekojglcbalhnaaGreatDoorM19
namespace Go.Proofs.YtekojglcbalhnaaGreatDoor
open Go.RowKit

def zero17 : Array Value := #[.int .i64 0, .int .i64 0, .int .i64 0, .int .i64 0, .int .i64 0, .int .i64 0, .int .i64 0, .float .f64 0, .string ⟨#[]⟩, .slice none 0 0, .slice none 0 0, .int .i64 0, .int .i64 0, .float .f64 0, .string ⟨#[]⟩, .slice none 0 0, .slice none 0 0]
theorem infoC : (Tryz.prog.info? 30).map (·.size) = some 17 := by kernel_rfl
/-- A command by value whose blocks meet P. -/
def COwn (w : World) (P : Nat → Prop) (v : Array Value) (c : Cm) : Prop :=
  ∃ a0 a1 a2 a3 a4 a5 b0 b1 b2 b3 b4 b5, v = cfields c.k c.n c.l c.i c.d a0 a1 a2 a3 a4 a5 b0 b1 b2 b3 b4 b5 ∧ VOwn w P #[a0, a1, a2, a3, a4, a5] c.K ∧ VOwn w P #[b0, b1, b2, b3, b4, b5] c.V
theorem COwn.imp {w : World} {P Q : Nat → Prop} {v : Array Value} {c : Cm} (h : COwn w P v c) (hi : ∀ g, P g → g < w.heap.size → Q g) : COwn w Q v c := by
  obtain ⟨a0, a1, a2, a3, a4, a5, b0, b1, b2, b3, b4, b5, e, hK, hV⟩ := h
  exact ⟨_, _, _, _, _, _, _, _, _, _, _, _, e, hK.imp hi, hV.imp hi⟩
theorem COwn.keep {w w' : World} {P : Nat → Prop} {v : Array Value} {c : Cm} (h : COwn w P v c) (hs : w.heap.size ≤ w'.heap.size) (hw : ∀ g, P g → g < w.heap.size → w'.heap[g]? = w.heap[g]?) : COwn w' P v c := by
  obtain ⟨a0, a1, a2, a3, a4, a5, b0, b1, b2, b3, b4, b5, e, hK, hV⟩ := h
  exact ⟨_, _, _, _, _, _, _, _, _, _, _, _, e, hK.keep hs hw, hV.keep hs hw⟩
theorem COwn.at {w : World} {P : Nat → Prop} {v : Array Value} {c : Cm} (h : COwn w P v c) : CmdAt w w.heap.size v c := by
  obtain ⟨a0, a1, a2, a3, a4, a5, b0, b1, b2, b3, b4, b5, e, hK, hV⟩ := h
  exact ⟨_, _, _, _, _, _, _, _, _, _, _, _, e, hK.val, hV.val⟩
theorem COwn.size {w : World} {P : Nat → Prop} {v : Array Value} {c : Cm} (h : COwn w P v c) : v.size = 17 := by
  obtain ⟨a0, a1, a2, a3, a4, a5, b0, b1, b2, b3, b4, b5, rfl, hK, hV⟩ := h
  rfl
theorem COwn.one {w : World} {P : Nat → Prop} {v : Array Value} {c : Cm} (h : COwn w P v c) : v.all (·.oneCell') = true := by
  obtain ⟨a0, a1, a2, a3, a4, a5, b0, b1, b2, b3, b4, b5, rfl, hK, hV⟩ := h
  obtain ⟨p0, p1, p2, p3, p4, p5, p6, p7, p8, p9, hp⟩ := hK.val.eight
  obtain ⟨q0, q1, q2, q3, q4, q5, q6, q7, q8, q9, hq⟩ := hV.val.eight
  simp only [Array.mk.injEq, List.cons.injEq, and_true] at hp hq
  obtain ⟨rfl, rfl, rfl, rfl, rfl, rfl⟩ := hp
  obtain ⟨rfl, rfl, rfl, rfl, rfl, rfl⟩ := hq
  unfold cfields
  simp [Value.oneCell']
/-- A whole store of a command. -/
theorem stC {ops : Array Oper} {rest : List Oper} {o : Oper} {a : Act} {w : World} {Q : Exit → Act → World → Prop} (hgd : o.guard = none) (x y : Operand) (ho : o.op = .store 30 x y) (hd : o.dst = none)
    (g : Nat) (cs : Array Value) (hx : a.eval x = .pointer (some ⟨g, 0, none⟩)) (hy : a.eval y = .agg cs) (old : Array Value) (hg : w.heap[g]? = some (.cells old 30 (0, 0))) (hold : old.size = 17) (hcs : cs.size = 17) (h1 : cs.all (·.oneCell') = true)
    (h : wpList Tryz.prog ops Q rest a (w.setRow g cs)) : wpList Tryz.prog ops Q (o :: rest) a w :=
  wpList_store_rowTo hgd 30 x y ho hd g cs hx hy 30 old hg (by rw [infoC, hcs]) (by rw [hold, hcs]) h1 h
theorem run_ldC {o : Oper} {a : Act} {w : World} (x : Operand) (hop : o.op = .load 30 x) (g : Nat) (hx : a.eval x = .pointer (some ⟨g, 0, none⟩)) (cs : Array Value) (hg : w.heap[g]? = some (.cells cs 30 (0, 0))) (hs : cs.size = 17) :
    (execOp a.eval o).run Tryz.prog w = .ok (.value (.agg cs)) w := by
  unfold execOp
  simp only [hop, hx, Instr.loadAt, Instr.sureAddr, Sem.run_bind, Sem.run_pure, Result.andThen_ok, run_loadVar_row w g 30 30 cs (0, 0) _ hg Tryz.underlying30 rfl (by rw [hs]; exact infoC)]
theorem results_cmd {fn : Func} {k : Nat} (h : fn.results = #[.cell k 30]) (tmps : Array Value) (w : World) (R : Nat) (cs : Array Value)
    (hp : tmps.getD k undef = .pointer (some ⟨R, 0, none⟩)) (hg : w.heap[R]? = some (.cells cs 30 (0, 0))) (hs : cs.size = 17) :
    (results fn tmps).run Tryz.prog w = .ok (.agg cs) w := by
  have hp' : tmps[k]?.getD undef = .pointer (some ⟨R, 0, none⟩) := by simpa using hp
  simp [results, h, hp', asAddr, run_loadVar_row w R 30 30 cs (0, 0) _ hg Tryz.underlying30 rfl (by rw [hs]; exact infoC)]
theorem small_none {s : ByteArray} {g : Nat} {l : List UInt8} (hs : s.size ≤ 1000000000) (h : smP l = none) (W : World) (b : Nat) (hb : b ≤ s.size) (hl : l = left s b) (hW : Pr W g s b) :
    Calls Tryz.prog 44 #[.pointer (some ⟨g, 0, none⟩)] W fun e w' => e = .panicked (errL 5) ∧ Past g W w' := by
  have := rsmall_any hW hb hs
  rw [← hl, h] at this
  exact this.mono fun e w' ⟨h1, h2⟩ => ⟨h2, h1⟩
theorem small_some {s : ByteArray} {g : Nat} {l l2 : List UInt8} {n : Nat} (hs : s.size ≤ 1000000000) (h : smP l = some (n, l2)) (W : World) (b : Nat) (hb : b ≤ s.size) (hl : l = left s b) (hW : Pr W g s b) :
    Calls Tryz.prog 44 #[.pointer (some ⟨g, 0, none⟩)] W fun e w' => e = .returned (.int .i64 n) ∧ Past g W w' ∧ ∃ b : Nat, b ≤ s.size ∧ l2 = left s b ∧ Pr w' g s b := by
  have := rsmall_any hW hb hs
  rw [← hl, h] at this
  exact this.mono fun e w' ⟨h1, h2, h3⟩ => ⟨h2, h1, h3⟩
theorem some_none {s : ByteArray} {g : Nat} {l : List UInt8} (hs : s.size ≤ 1000000000) (h : svP l = none) (W : World) (b : Nat) (hb : b ≤ s.size) (hl : l = left s b) (hW : Pr W g s b) :
    Calls Tryz.prog 45 #[.pointer (some ⟨g, 0, none⟩)] W fun e w' => e = .panicked (errL 5) ∧ Past g W w' := by
  have := rsome_any hW hb hs
  rw [← hl, h] at this
  exact this.mono fun e w' ⟨h1, h2⟩ => ⟨h2, h1⟩
theorem some_some {s : ByteArray} {g : Nat} {l l2 : List UInt8} {t : VT} (hs : s.size ≤ 1000000000) (h : svP l = some (t, l2)) (W : World) (b : Nat) (hb : b ≤ s.size) (hl : l = left s b) (hW : Pr W g s b) :
    Calls Tryz.prog 45 #[.pointer (some ⟨g, 0, none⟩)] W fun e w' => ∃ (b0 b1 : Int) (b2 : Nat) (b3 : ByteArray) (b4 : Option Addr) (b5 b6 : Nat) (b7 : Option Addr) (b8 b9 : Nat), e = .returned (.agg #[.int .i64 b0, .int .i64 b1, .float .f64 b2, .string b3, .slice b4 b5 b6, .slice b7 b8 b9]) ∧ VOwn w' (fun b => W.heap.size ≤ b) #[.int .i64 b0, .int .i64 b1, .float .f64 b2, .string b3, .slice b4 b5 b6, .slice b7 b8 b9] t ∧ Past g W w' ∧ ∃ b : Nat, b ≤ s.size ∧ l2 = left s b ∧ Pr w' g s b := by
  have := rsome_any hW hb hs
  rw [← hl, h] at this
  exact this.mono fun e w' ⟨h1, ⟨v, h2, h3⟩, h4⟩ => by
    obtain ⟨b0, b1, b2, b3, b4, b5, b6, b7, b8, b9, rfl⟩ := h3.val.eight
    exact ⟨_, _, _, _, _, _, _, _, _, _, h2, h3, h1, h4⟩
/-- What a command's reading leaves. -/
def CmEnds (s : ByteArray) (w : World) (g : Nat) (r : Option (Cm × List UInt8)) (e : Ending) (w' : World) : Prop :=
  Past g w w' ∧ match r with
  | none => e = .panicked (errL 5)
  | some (c, l) => (∃ v, e = .returned (.agg v) ∧ COwn w' (fun b => w.heap.size ≤ b) v c) ∧ ∃ b : Nat, b ≤ s.size ∧ l = left s b ∧ Pr w' g s b
set_option maxRecDepth 20000 in
set_option maxHeartbeats 4000000 in
theorem rcmd_any {w : World} {g : Nat} {s : ByteArray} {a : Nat} (h : Pr w g s a) (ha : a ≤ s.size) (hs : s.size ≤ 1000000000) :
    Calls Tryz.prog 20 #[.pointer (some ⟨g, 0, none⟩)] w fun e w' => CmEnds s w g (cmdP (left s a)) e w' := by
  have hg := h.lt
  obtain ⟨W0, hW0⟩ : ∃ W0, W0 = w.alloc (.cells zero17 30) := ⟨_, rfl⟩
  have hb0 : Below w.heap.size w W0 := by rw [hW0]; exact (Below.refl _ _).alloc (Nat.le_refl _) _
  have hs0 : W0.heap.size = w.heap.size + 1 := by rw [hW0]; simp
  have hx0 : W0.heap[w.heap.size]? = some (.cells zero17 30 (0, 0)) := by rw [hW0]; exact heap_alloc_new w _
  have HW := Lib.hid hW0
  have HX0 := Lib.hid hx0
  have HP0 := Lib.hid (Past.of_below (g := g) hb0)
  have HZ := Lib.hid hs0
  have HG := Lib.hid hg
  have H0 := Lib.hid (h.past hb0)
  have HS := Lib.hid hs
  have HQ0 := Lib.hid (Past.refl g W0)
  clear h hb0 hs0 hx0 hg hW0 hs
  obtain ⟨l0, hl0⟩ : ∃ l0, l0 = left s a := ⟨_, rfl⟩
  rw [← hl0]
  have HL0 : Hid (a ≤ s.size ∧ l0 = left s a) := Lib.hid ⟨ha, hl0⟩
  clear hl0 ha
  obtain ⟨b0, hb0⟩ : ∃ b0, b0 = a := ⟨_, rfl⟩
  rw [← hb0] at HL0 H0
  clear hb0
  unfold cmdP CmEnds
  cases r0 : smP l0 with
  | none =>
    have S0 := Lib.hid (small_none (g := g) HS.out r0)
    simp only [Option.bind_none]
    clear r0
    go_enter Tryz.func20, Tryz.ntmps20
    go_wp2_with fail
    have e0 : w.alloc (.cells #[.int .i64 0, .int .i64 0, .int .i64 0, .int .i64 0, .int .i64 0, .int .i64 0, .int .i64 0, .float .f64 0, .string ⟨#[]⟩, .slice none 0 0, .slice none 0 0, .int .i64 0, .int .i64 0, .float .f64 0, .string ⟨#[]⟩, .slice none 0 0, .slice none 0 0] 30) = W0 := HW.out.symm
    rw [e0]
    clear e0
    refine (S0.out _ _ HL0.out.1 HL0.out.2 H0.out).mono ?_
    rintro e w8 ⟨rfl, hp⟩
    exact ⟨rfl, HP0.out.trans (HQ0.out.trans hp), rfl⟩
  | some z =>
    obtain ⟨k, l1⟩ := z
    have S0 := Lib.hid (small_some (g := g) HS.out r0)
    simp only [Option.bind_some]
    clear r0
    cases r1 : smP l1 with
    | none =>
      have S1 := Lib.hid (small_none (g := g) HS.out r1)
      simp only [Option.bind_none]
      clear r1
      go_enter Tryz.func20, Tryz.ntmps20
      go_wp2_with fail
      have e0 : w.alloc (.cells #[.int .i64 0, .int .i64 0, .int .i64 0, .int .i64 0, .int .i64 0, .int .i64 0, .int .i64 0, .float .f64 0, .string ⟨#[]⟩, .slice none 0 0, .slice none 0 0, .int .i64 0, .int .i64 0, .float .f64 0, .string ⟨#[]⟩, .slice none 0 0, .slice none 0 0] 30) = W0 := HW.out.symm
      rw [e0]
      clear e0
      refine (S0.out _ _ HL0.out.1 HL0.out.2 H0.out).mono ?_
      rintro e w1 ⟨rfl, hp, b1, hb, hl, h⟩
      refine Hid.out ?_
      refine Lib.hid ?_
      have HL1 := Lib.hid (And.intro hb hl)
      have H1 := Lib.hid h
      have HQ1 := Lib.hid (HQ0.out.trans hp)
      clear hp hb hl h
      go_wp2_with fail
      refine (S1.out _ _ HL1.out.1 HL1.out.2 H1.out).mono ?_
      rintro e w8 ⟨rfl, hp⟩
      exact ⟨rfl, HP0.out.trans (HQ1.out.trans hp), rfl⟩
    | some z =>
      obtain ⟨n, l2⟩ := z
      have S1 := Lib.hid (small_some (g := g) HS.out r1)
      simp only [Option.bind_some]
      clear r1
      cases r2 : smP l2 with
      | none =>
        have S2 := Lib.hid (small_none (g := g) HS.out r2)
        simp only [Option.bind_none]
        clear r2
        go_enter Tryz.func20, Tryz.ntmps20
        go_wp2_with fail
        have e0 : w.alloc (.cells #[.int .i64 0, .int .i64 0, .int .i64 0, .int .i64 0, .int .i64 0, .int .i64 0, .int .i64 0, .float .f64 0, .string ⟨#[]⟩, .slice none 0 0, .slice none 0 0, .int .i64 0, .int .i64 0, .float .f64 0, .string ⟨#[]⟩, .slice none 0 0, .slice none 0 0] 30) = W0 := HW.out.symm
        rw [e0]
        clear e0
        refine (S0.out _ _ HL0.out.1 HL0.out.2 H0.out).mono ?_
        rintro e w1 ⟨rfl, hp, b1, hb, hl, h⟩
        refine Hid.out ?_
        refine Lib.hid ?_
        have HL1 := Lib.hid (And.intro hb hl)
        have H1 := Lib.hid h
        have HQ1 := Lib.hid (HQ0.out.trans hp)
        clear hp hb hl h
        go_wp2_with fail
        refine (S1.out _ _ HL1.out.1 HL1.out.2 H1.out).mono ?_
        rintro e w2 ⟨rfl, hp, b2, hb, hl, h⟩
        refine Hid.out ?_
        refine Lib.hid ?_
        have HL2 := Lib.hid (And.intro hb hl)
        have H2 := Lib.hid h
        have HQ2 := Lib.hid (HQ1.out.trans hp)
        clear hp hb hl h
        go_wp2_with fail
        refine (S2.out _ _ HL2.out.1 HL2.out.2 H2.out).mono ?_
        rintro e w8 ⟨rfl, hp⟩
        exact ⟨rfl, HP0.out.trans (HQ2.out.trans hp), rfl⟩
      | some z =>
        obtain ⟨l, l3⟩ := z
        have S2 := Lib.hid (small_some (g := g) HS.out r2)
        simp only [Option.bind_some]
        clear r2
        cases r3 : smP l3 with
        | none =>
          have S3 := Lib.hid (small_none (g := g) HS.out r3)
          simp only [Option.bind_none]
          clear r3
          go_enter Tryz.func20, Tryz.ntmps20
          go_wp2_with fail
          have e0 : w.alloc (.cells #[.int .i64 0, .int .i64 0, .int .i64 0, .int .i64 0, .int .i64 0, .int .i64 0, .int .i64 0, .float .f64 0, .string ⟨#[]⟩, .slice none 0 0, .slice none 0 0, .int .i64 0, .int .i64 0, .float .f64 0, .string ⟨#[]⟩, .slice none 0 0, .slice none 0 0] 30) = W0 := HW.out.symm
          rw [e0]
          clear e0
          refine (S0.out _ _ HL0.out.1 HL0.out.2 H0.out).mono ?_
          rintro e w1 ⟨rfl, hp, b1, hb, hl, h⟩
          refine Hid.out ?_
          refine Lib.hid ?_
          have HL1 := Lib.hid (And.intro hb hl)
          have H1 := Lib.hid h
          have HQ1 := Lib.hid (HQ0.out.trans hp)
          clear hp hb hl h
          go_wp2_with fail
          refine (S1.out _ _ HL1.out.1 HL1.out.2 H1.out).mono ?_
          rintro e w2 ⟨rfl, hp, b2, hb, hl, h⟩
          refine Hid.out ?_
          refine Lib.hid ?_
          have HL2 := Lib.hid (And.intro hb hl)
          have H2 := Lib.hid h
          have HQ2 := Lib.hid (HQ1.out.trans hp)
          clear hp hb hl h
          go_wp2_with fail
          refine (S2.out _ _ HL2.out.1 HL2.out.2 H2.out).mono ?_
          rintro e w3 ⟨rfl, hp, b3, hb, hl, h⟩
          refine Hid.out ?_
          refine Lib.hid ?_
          have HL3 := Lib.hid (And.intro hb hl)
          have H3 := Lib.hid h
          have HQ3 := Lib.hid (HQ2.out.trans hp)
          clear hp hb hl h
          go_wp2_with fail
          refine (S3.out _ _ HL3.out.1 HL3.out.2 H3.out).mono ?_
          rintro e w8 ⟨rfl, hp⟩
          exact ⟨rfl, HP0.out.trans (HQ3.out.trans hp), rfl⟩
        | some z =>
          obtain ⟨i, l4⟩ := z
          have S3 := Lib.hid (small_some (g := g) HS.out r3)
          simp only [Option.bind_some]
          clear r3
          cases r4 : smP l4 with
          | none =>
            have S4 := Lib.hid (small_none (g := g) HS.out r4)
            simp only [Option.bind_none]
            clear r4
            go_enter Tryz.func20, Tryz.ntmps20
            go_wp2_with fail
            have e0 : w.alloc (.cells #[.int .i64 0, .int .i64 0, .int .i64 0, .int .i64 0, .int .i64 0, .int .i64 0, .int .i64 0, .float .f64 0, .string ⟨#[]⟩, .slice none 0 0, .slice none 0 0, .int .i64 0, .int .i64 0, .float .f64 0, .string ⟨#[]⟩, .slice none 0 0, .slice none 0 0] 30) = W0 := HW.out.symm
            rw [e0]
            clear e0
            refine (S0.out _ _ HL0.out.1 HL0.out.2 H0.out).mono ?_
            rintro e w1 ⟨rfl, hp, b1, hb, hl, h⟩
            refine Hid.out ?_
            refine Lib.hid ?_
            have HL1 := Lib.hid (And.intro hb hl)
            have H1 := Lib.hid h
            have HQ1 := Lib.hid (HQ0.out.trans hp)
            clear hp hb hl h
            go_wp2_with fail
            refine (S1.out _ _ HL1.out.1 HL1.out.2 H1.out).mono ?_
            rintro e w2 ⟨rfl, hp, b2, hb, hl, h⟩
            refine Hid.out ?_
            refine Lib.hid ?_
            have HL2 := Lib.hid (And.intro hb hl)
            have H2 := Lib.hid h
            have HQ2 := Lib.hid (HQ1.out.trans hp)
            clear hp hb hl h
            go_wp2_with fail
            refine (S2.out _ _ HL2.out.1 HL2.out.2 H2.out).mono ?_
            rintro e w3 ⟨rfl, hp, b3, hb, hl, h⟩
            refine Hid.out ?_
            refine Lib.hid ?_
            have HL3 := Lib.hid (And.intro hb hl)
            have H3 := Lib.hid h
            have HQ3 := Lib.hid (HQ2.out.trans hp)
            clear hp hb hl h
            go_wp2_with fail
            refine (S3.out _ _ HL3.out.1 HL3.out.2 H3.out).mono ?_
            rintro e w4 ⟨rfl, hp, b4, hb, hl, h⟩
            refine Hid.out ?_
            refine Lib.hid ?_
            have HL4 := Lib.hid (And.intro hb hl)
            have H4 := Lib.hid h
            have HQ4 := Lib.hid (HQ3.out.trans hp)
            clear hp hb hl h
            go_wp2_with fail
            refine (S4.out _ _ HL4.out.1 HL4.out.2 H4.out).mono ?_
            rintro e w8 ⟨rfl, hp⟩
            exact ⟨rfl, HP0.out.trans (HQ4.out.trans hp), rfl⟩
          | some z =>
            obtain ⟨d, l5⟩ := z
            have S4 := Lib.hid (small_some (g := g) HS.out r4)
            simp only [Option.bind_some]
            clear r4
            cases r5 : svP l5 with
            | none =>
              have S5 := Lib.hid (some_none (g := g) HS.out r5)
              simp only [Option.bind_none]
              clear r5
              go_enter Tryz.func20, Tryz.ntmps20
              go_wp2_with fail
              have e0 : w.alloc (.cells #[.int .i64 0, .int .i64 0, .int .i64 0, .int .i64 0, .int .i64 0, .int .i64 0, .int .i64 0, .float .f64 0, .string ⟨#[]⟩, .slice none 0 0, .slice none 0 0, .int .i64 0, .int .i64 0, .float .f64 0, .string ⟨#[]⟩, .slice none 0 0, .slice none 0 0] 30) = W0 := HW.out.symm
              rw [e0]
              clear e0
              refine (S0.out _ _ HL0.out.1 HL0.out.2 H0.out).mono ?_
              rintro e w1 ⟨rfl, hp, b1, hb, hl, h⟩
              refine Hid.out ?_
              refine Lib.hid ?_
              have HL1 := Lib.hid (And.intro hb hl)
              have H1 := Lib.hid h
              have HQ1 := Lib.hid (HQ0.out.trans hp)
              clear hp hb hl h
              go_wp2_with fail
              refine (S1.out _ _ HL1.out.1 HL1.out.2 H1.out).mono ?_
              rintro e w2 ⟨rfl, hp, b2, hb, hl, h⟩
              refine Hid.out ?_
              refine Lib.hid ?_
              have HL2 := Lib.hid (And.intro hb hl)
              have H2 := Lib.hid h
              have HQ2 := Lib.hid (HQ1.out.trans hp)
              clear hp hb hl h
              go_wp2_with fail
              refine (S2.out _ _ HL2.out.1 HL2.out.2 H2.out).mono ?_
              rintro e w3 ⟨rfl, hp, b3, hb, hl, h⟩
              refine Hid.out ?_
              refine Lib.hid ?_
              have HL3 := Lib.hid (And.intro hb hl)
              have H3 := Lib.hid h
              have HQ3 := Lib.hid (HQ2.out.trans hp)
              clear hp hb hl h
              go_wp2_with fail
              refine (S3.out _ _ HL3.out.1 HL3.out.2 H3.out).mono ?_
              rintro e w4 ⟨rfl, hp, b4, hb, hl, h⟩
              refine Hid.out ?_
              refine Lib.hid ?_
              have HL4 := Lib.hid (And.intro hb hl)
              have H4 := Lib.hid h
              have HQ4 := Lib.hid (HQ3.out.trans hp)
              clear hp hb hl h
              go_wp2_with fail
              refine (S4.out _ _ HL4.out.1 HL4.out.2 H4.out).mono ?_
              rintro e w5 ⟨rfl, hp, b5, hb, hl, h⟩
              refine Hid.out ?_
              refine Lib.hid ?_
              have HL5 := Lib.hid (And.intro hb hl)
              have H5 := Lib.hid h
              have HQ5 := Lib.hid (HQ4.out.trans hp)
              clear hp hb hl h
              go_wp2_with fail
              refine (S5.out _ _ HL5.out.1 HL5.out.2 H5.out).mono ?_
              rintro e w8 ⟨rfl, hp⟩
              exact ⟨rfl, HP0.out.trans (HQ5.out.trans hp), rfl⟩
            | some z =>
              obtain ⟨K, l6⟩ := z
              have S5 := Lib.hid (some_some (g := g) HS.out r5)
              simp only [Option.bind_some]
              clear r5
              cases r6 : svP l6 with
              | none =>
                have S6 := Lib.hid (some_none (g := g) HS.out r6)
                simp only [Option.bind_none]
                clear r6
                go_enter Tryz.func20, Tryz.ntmps20
                go_wp2_with fail
                have e0 : w.alloc (.cells #[.int .i64 0, .int .i64 0, .int .i64 0, .int .i64 0, .int .i64 0, .int .i64 0, .int .i64 0, .float .f64 0, .string ⟨#[]⟩, .slice none 0 0, .slice none 0 0, .int .i64 0, .int .i64 0, .float .f64 0, .string ⟨#[]⟩, .slice none 0 0, .slice none 0 0] 30) = W0 := HW.out.symm
                rw [e0]
                clear e0
                refine (S0.out _ _ HL0.out.1 HL0.out.2 H0.out).mono ?_
                rintro e w1 ⟨rfl, hp, b1, hb, hl, h⟩
                refine Hid.out ?_
                refine Lib.hid ?_
                have HL1 := Lib.hid (And.intro hb hl)
                have H1 := Lib.hid h
                have HQ1 := Lib.hid (HQ0.out.trans hp)
                clear hp hb hl h
                go_wp2_with fail
                refine (S1.out _ _ HL1.out.1 HL1.out.2 H1.out).mono ?_
                rintro e w2 ⟨rfl, hp, b2, hb, hl, h⟩
                refine Hid.out ?_
                refine Lib.hid ?_
                have HL2 := Lib.hid (And.intro hb hl)
                have H2 := Lib.hid h
                have HQ2 := Lib.hid (HQ1.out.trans hp)
                clear hp hb hl h
                go_wp2_with fail
                refine (S2.out _ _ HL2.out.1 HL2.out.2 H2.out).mono ?_
                rintro e w3 ⟨rfl, hp, b3, hb, hl, h⟩
                refine Hid.out ?_
                refine Lib.hid ?_
                have HL3 := Lib.hid (And.intro hb hl)
                have H3 := Lib.hid h
                have HQ3 := Lib.hid (HQ2.out.trans hp)
                clear hp hb hl h
                go_wp2_with fail
                refine (S3.out _ _ HL3.out.1 HL3.out.2 H3.out).mono ?_
                rintro e w4 ⟨rfl, hp, b4, hb, hl, h⟩
                refine Hid.out ?_
                refine Lib.hid ?_
                have HL4 := Lib.hid (And.intro hb hl)
                have H4 := Lib.hid h
                have HQ4 := Lib.hid (HQ3.out.trans hp)
                clear hp hb hl h
                go_wp2_with fail
                refine (S4.out _ _ HL4.out.1 HL4.out.2 H4.out).mono ?_
                rintro e w5 ⟨rfl, hp, b5, hb, hl, h⟩
                refine Hid.out ?_
                refine Lib.hid ?_
                have HL5 := Lib.hid (And.intro hb hl)
                have H5 := Lib.hid h
                have HQ5 := Lib.hid (HQ4.out.trans hp)
                clear hp hb hl h
                go_wp2_with fail
                refine (S5.out _ _ HL5.out.1 HL5.out.2 H5.out).mono ?_
                rintro e w6 ⟨p0, p1, p2, p3, p4, p5, p6, p7, p8, p9, rfl, hv, hp, b6, hb, hl, h⟩
                refine Hid.out ?_
                refine Lib.hid ?_
                have HL6 := Lib.hid (And.intro hb hl)
                have H6 := Lib.hid h
                have HQ6 := Lib.hid (HQ5.out.trans hp)
                have HVK5 := Lib.hid (hv.imp (Q := fun b => W0.heap.size ≤ b) fun b hb _ => Nat.le_trans HQ5.out.size hb)
                clear hp hb hl h hv
                go_wp2_with fail
                refine (S6.out _ _ HL6.out.1 HL6.out.2 H6.out).mono ?_
                rintro e w8 ⟨rfl, hp⟩
                exact ⟨rfl, HP0.out.trans (HQ6.out.trans hp), rfl⟩
              | some z =>
                obtain ⟨V, l7⟩ := z
                have S6 := Lib.hid (some_some (g := g) HS.out r6)
                simp only [Option.bind_some]
                clear r6
                go_enter Tryz.func20, Tryz.ntmps20
                go_wp2_with fail
                have e0 : w.alloc (.cells #[.int .i64 0, .int .i64 0, .int .i64 0, .int .i64 0, .int .i64 0, .int .i64 0, .int .i64 0, .float .f64 0, .string ⟨#[]⟩, .slice none 0 0, .slice none 0 0, .int .i64 0, .int .i64 0, .float .f64 0, .string ⟨#[]⟩, .slice none 0 0, .slice none 0 0] 30) = W0 := HW.out.symm
                rw [e0]
                clear e0
                refine (S0.out _ _ HL0.out.1 HL0.out.2 H0.out).mono ?_
                rintro e w1 ⟨rfl, hp, b1, hb, hl, h⟩
                refine Hid.out ?_
                refine Lib.hid ?_
                have HL1 := Lib.hid (And.intro hb hl)
                have H1 := Lib.hid h
                have HQ1 := Lib.hid (HQ0.out.trans hp)
                clear hp hb hl h
                go_wp2_with fail
                refine (S1.out _ _ HL1.out.1 HL1.out.2 H1.out).mono ?_
                rintro e w2 ⟨rfl, hp, b2, hb, hl, h⟩
                refine Hid.out ?_
                refine Lib.hid ?_
                have HL2 := Lib.hid (And.intro hb hl)
                have H2 := Lib.hid h
                have HQ2 := Lib.hid (HQ1.out.trans hp)
                clear hp hb hl h
                go_wp2_with fail
                refine (S2.out _ _ HL2.out.1 HL2.out.2 H2.out).mono ?_
                rintro e w3 ⟨rfl, hp, b3, hb, hl, h⟩
                refine Hid.out ?_
                refine Lib.hid ?_
                have HL3 := Lib.hid (And.intro hb hl)
                have H3 := Lib.hid h
                have HQ3 := Lib.hid (HQ2.out.trans hp)
                clear hp hb hl h
                go_wp2_with fail
                refine (S3.out _ _ HL3.out.1 HL3.out.2 H3.out).mono ?_
                rintro e w4 ⟨rfl, hp, b4, hb, hl, h⟩
                refine Hid.out ?_
                refine Lib.hid ?_
                have HL4 := Lib.hid (And.intro hb hl)
                have H4 := Lib.hid h
                have HQ4 := Lib.hid (HQ3.out.trans hp)
                clear hp hb hl h
                go_wp2_with fail
                refine (S4.out _ _ HL4.out.1 HL4.out.2 H4.out).mono ?_
                rintro e w5 ⟨rfl, hp, b5, hb, hl, h⟩
                refine Hid.out ?_
                refine Lib.hid ?_
                have HL5 := Lib.hid (And.intro hb hl)
                have H5 := Lib.hid h
                have HQ5 := Lib.hid (HQ4.out.trans hp)
                clear hp hb hl h
                go_wp2_with fail
                refine (S5.out _ _ HL5.out.1 HL5.out.2 H5.out).mono ?_
                rintro e w6 ⟨p0, p1, p2, p3, p4, p5, p6, p7, p8, p9, rfl, hv, hp, b6, hb, hl, h⟩
                refine Hid.out ?_
                refine Lib.hid ?_
                have HL6 := Lib.hid (And.intro hb hl)
                have H6 := Lib.hid h
                have HQ6 := Lib.hid (HQ5.out.trans hp)
                have HVK5 := Lib.hid (hv.imp (Q := fun b => W0.heap.size ≤ b) fun b hb _ => Nat.le_trans HQ5.out.size hb)
                clear hp hb hl h hv
                go_wp2_with fail
                refine (S6.out _ _ HL6.out.1 HL6.out.2 H6.out).mono ?_
                rintro e w7 ⟨q0, q1, q2, q3, q4, q5, q6, q7, q8, q9, rfl, hv, hp, b7, hb, hl, h⟩
                refine Hid.out ?_
                refine Lib.hid ?_
                have HL7 := Lib.hid (And.intro hb hl)
                have H7 := Lib.hid h
                have HQ7 := Lib.hid (HQ6.out.trans hp)
                have HVV := Lib.hid (hv.imp (Q := fun b => W0.heap.size ≤ b) fun b hb _ => Nat.le_trans HQ6.out.size hb)
                have HVK := Lib.hid (HVK5.out.past hp (by have := HG.out; have := HZ.out; omega))
                clear hp hb hl h hv
                have HX7 := Lib.hid ((HQ7.out.block w.heap.size (by have := HZ.out; omega) (by have := HG.out; omega)).trans HX0.out)
                have HC : Hid (COwn w7 (fun b => W0.heap.size ≤ b) #[.int .i64 (k : Int), .int .i64 (n : Int), .int .i64 (l : Int), .int .i64 (i : Int), .int .i64 (d : Int), .int .i64 p0, .int .i64 p1, .float .f64 p2, .string p3, .slice p4 p5 p6, .slice p7 p8 p9, .int .i64 q0, .int .i64 q1, .float .f64 q2, .string q3, .slice q4 q5 q6, .slice q7 q8 q9] ⟨k, n, l, i, d, K, V⟩) := Lib.hid ⟨_, _, _, _, _, _, _, _, _, _, _, _, rfl, HVK.out, HVV.out⟩
                go_wp2_with (first | (refine stC rfl (.tmp 2) (.tmp 18) rfl rfl w.heap.size #[.int .i64 (k : Int), .int .i64 (n : Int), .int .i64 (l : Int), .int .i64 (i : Int), .int .i64 (d : Int), .int .i64 p0, .int .i64 p1, .float .f64 p2, .string p3, .slice p4 p5 p6, .slice p7 p8 p9, .int .i64 q0, .int .i64 q1, .float .f64 q2, .string q3, .slice q4 q5 q6, .slice q7 q8 q9] (by kernel_rfl) (by kernel_rfl) zero17 HX7.out rfl rfl HC.out.one ?_) | fail)
                have hfin := setRow_heap w7 w.heap.size zero17 #[.int .i64 (k : Int), .int .i64 (n : Int), .int .i64 (l : Int), .int .i64 (i : Int), .int .i64 (d : Int), .int .i64 p0, .int .i64 p1, .float .f64 p2, .string p3, .slice p4 p5 p6, .slice p7 p8 p9, .int .i64 q0, .int .i64 q1, .float .f64 q2, .string q3, .slice q4 q5 q6, .slice q7 q8 q9] 30 (0, 0) HX7.out
                have hoth := fun kk (hk : kk ≠ w.heap.size) => setRow_other w7 w.heap.size kk #[.int .i64 (k : Int), .int .i64 (n : Int), .int .i64 (l : Int), .int .i64 (i : Int), .int .i64 (d : Int), .int .i64 p0, .int .i64 p1, .float .f64 p2, .string p3, .slice p4 p5 p6, .slice p7 p8 p9, .int .i64 q0, .int .i64 q1, .float .f64 q2, .string q3, .slice q4 q5 q6, .slice q7 q8 q9] hk
                have hsz : (w7.setRow w.heap.size #[.int .i64 (k : Int), .int .i64 (n : Int), .int .i64 (l : Int), .int .i64 (i : Int), .int .i64 (d : Int), .int .i64 p0, .int .i64 p1, .float .f64 p2, .string p3, .slice p4 p5 p6, .slice p7 p8 p9, .int .i64 q0, .int .i64 q1, .float .f64 q2, .string q3, .slice q4 q5 q6, .slice q7 q8 q9]).heap.size = w7.heap.size := setRow_size _ _ _
                have hpast : Past g w (w7.setRow w.heap.size #[.int .i64 (k : Int), .int .i64 (n : Int), .int .i64 (l : Int), .int .i64 (i : Int), .int .i64 (d : Int), .int .i64 p0, .int .i64 p1, .float .f64 p2, .string p3, .slice p4 p5 p6, .slice p7 p8 p9, .int .i64 q0, .int .i64 q1, .float .f64 q2, .string q3, .slice q4 q5 q6, .slice q7 q8 q9]) := ⟨HP0.out.os.symm ▸ ((HP0.out.trans HQ7.out).os), (HP0.out.trans HQ7.out).tape, (HP0.out.trans HQ7.out).output, by rw [hsz]; exact (HP0.out.trans HQ7.out).size, fun kk hk hn => (hoth kk (by omega)).trans ((HP0.out.trans HQ7.out).block kk hk hn)⟩
                refine bodyPost_ret (v := .agg #[.int .i64 (k : Int), .int .i64 (n : Int), .int .i64 (l : Int), .int .i64 (i : Int), .int .i64 (d : Int), .int .i64 p0, .int .i64 p1, .float .f64 p2, .string p3, .slice p4 p5 p6, .slice p7 p8 p9, .int .i64 q0, .int .i64 q1, .float .f64 q2, .string q3, .slice q4 q5 q6, .slice q7 q8 q9]) ?_ rfl ⟨hpast, ⟨_, rfl, ?_⟩, b7, HL7.out.1, HL7.out.2, (hoth g (by have := HG.out; omega)).trans H7.out⟩
                · exact results_cmd rfl _ _ w.heap.size _ rfl hfin rfl
                · exact (HC.out.keep (by rw [hsz]; exact Nat.le_refl _) (fun b hb _ => hoth b (by have := HZ.out; omega))).imp fun b hb _ => by have := HZ.out; omega
end Go.Proofs.YtekojglcbalhnaaGreatDoor
namespace Go.Proofs.YtekojglcbalhnaaGreatDoor
open Go.RowKit

theorem uint_few {n : Int} (h : okS n = true) : (uintL n.toNat).length ≤ 10 := uintL_len10 (by have := okS_iff.1 h; omega)
theorem some_few {t : VT} {v : Array Value} {w : World} {lim : Nat} (hv : Val w lim v t) (h : someB t = true) : (someL t).length ≤ 130001 := by
  unfold someB at h
  unfold someL
  by_cases hk : kindV t = 0
  · rw [if_pos hk]; simp
  · rw [if_neg hk] at h ⊢
    have := valL_few hv ⟨12, (ok_parts h).1⟩ (ok_parts h).2
    simp; omega
set_option maxRecDepth 20000 in
set_option maxHeartbeats 4000000 in
theorem wcmd_any {c : Cm} {v : Array Value} {w : World} {g : Nat} (h : Wr w g []) (hv : CmdAt w g v c) :
    Calls Tryz.prog 16 #[.pointer (some ⟨g, 0, none⟩), .agg v] w fun e w' => Wk g w w' ∧ if cmdB c = true then e = .returned (.tuple #[]) ∧ Wr w' g (cmdL c) else e = .panicked (errL 5) := by
  have hlt := h.lt
  obtain ⟨a0, a1, a2, a3, a4, a5, b0, b1, b2, b3, b4, b5, rfl, hK, hV⟩ := hv
  obtain ⟨k, n, l, i, d, K, V⟩ := c
  dsimp only at *
  have hbW : Below w.heap.size w (w.alloc (.cells (cfields k n l i d a0 a1 a2 a3 a4 a5 b0 b1 b2 b3 b4 b5) 30)) := (Below.refl _ _).alloc (Nat.le_refl _) _
  have HK := box_wk (w := w) (V := cfields k n l i d a0 a1 a2 a3 a4 a5 b0 b1 b2 b3 b4 b5) (t := 30) hlt (by decide)
  have HWr := Lib.hid (h.alloc (.cells (cfields k n l i d a0 a1 a2 a3 a4 a5 b0 b1 b2 b3 b4 b5) 30))
  have HB := Lib.hid hbW
  have HG := Lib.hid hlt
  have HVK := Lib.hid hK
  have HVV := Lib.hid hV
  have HX0 := Lib.hid (Wk.refl g (w.alloc (.cells (cfields k n l i d a0 a1 a2 a3 a4 a5 b0 b1 b2 b3 b4 b5) 30)))
  have HE : Hid (∀ w', Wk g (w.alloc (.cells (cfields k n l i d a0 a1 a2 a3 a4 a5 b0 b1 b2 b3 b4 b5) 30)) w' → Wk g w w') := Lib.hid fun w' hk => (Wk.of_below HB.out).trans hk
  have HKV : Hid (∀ w', Wk g (w.alloc (.cells (cfields k n l i d a0 a1 a2 a3 a4 a5 b0 b1 b2 b3 b4 b5) 30)) w' → Val w' g #[a0, a1, a2, a3, a4, a5] K ∧ Val w' g #[b0, b1, b2, b3, b4, b5] V) := Lib.hid fun w' hk => by
    have hb := (hbW.mono (Nat.le_of_lt hlt)).trans (hk.below (by simp; omega))
    exact ⟨hK.stay hb, hV.stay hb⟩
  obtain ⟨p0, p1, p2, p3, p4, p5, p6, p7, p8, p9, hp⟩ := hK.eight
  obtain ⟨q0, q1, q2, q3, q4, q5, q6, q7, q8, q9, hq⟩ := hV.eight
  simp only [Array.mk.injEq, List.cons.injEq, and_true] at hp hq
  obtain ⟨rfl, rfl, rfl, rfl, rfl, rfl⟩ := hp
  obtain ⟨rfl, rfl, rfl, rfl, rfl, rfl⟩ := hq
  unfold cfields at *
  clear hK hV hbW hlt h HVK HVV
  obtain ⟨L0, hL0⟩ : ∃ L0 : List UInt8, L0 = [] := ⟨_, rfl⟩
  rw [← hL0] at HWr
  have hl0 : L0.length ≤ 0 := by rw [hL0]; exact Nat.le_refl _
  have HL0 := Lib.hid hL0
  clear hL0
  go_enter Tryz.func16, Tryz.ntmps16
  go_wp2_with fail
  refine (wsmall_any (n := k) HWr.out (by omega)).mono ?_
  rintro e w1 ⟨hk1, he⟩
  have HX1 := Lib.hid (HX0.out.trans hk1)
  clear hk1
  by_cases o0 : okS k = true
  case neg =>
    rw [if_neg o0] at he
    subst he
    exact ⟨rfl, HE.out _ HX1.out, by rw [if_neg (by simp [cmdB, o0])]⟩
  rw [if_pos o0] at he
  obtain ⟨rfl, hw1⟩ := he
  obtain ⟨L1, hL1⟩ : ∃ M, M = L0 ++ uintL k.toNat := ⟨_, rfl⟩
  rw [← hL1] at hw1
  have hl1 : L1.length ≤ 10 := by rw [hL1, List.length_append]; have := uint_few o0; omega
  have HW1 := Lib.hid hw1
  have HL1 := Lib.hid hL1
  have HO0 := Lib.hid o0
  clear hw1 hL1 o0
  have cc1 : w1.cell? ⟨w.heap.size, 1, none⟩ = some (.int .i64 n) := HK.out w1 HX1.out 1
  go_wp2_with fail
  refine (wsmall_any (n := n) HW1.out (by omega)).mono ?_
  rintro e w2 ⟨hk2, he⟩
  have HX2 := Lib.hid (HX1.out.trans hk2)
  clear hk2
  clear cc1
  by_cases o1 : okS n = true
  case neg =>
    rw [if_neg o1] at he
    subst he
    exact ⟨rfl, HE.out _ HX2.out, by rw [if_neg (by simp [cmdB, o1])]⟩
  rw [if_pos o1] at he
  obtain ⟨rfl, hw2⟩ := he
  obtain ⟨L2, hL2⟩ : ∃ M, M = L1 ++ uintL n.toNat := ⟨_, rfl⟩
  rw [← hL2] at hw2
  have hl2 : L2.length ≤ 20 := by rw [hL2, List.length_append]; have := uint_few o1; omega
  have HW2 := Lib.hid hw2
  have HL2 := Lib.hid hL2
  have HO1 := Lib.hid o1
  clear hw2 hL2 o1
  have cc2 : w2.cell? ⟨w.heap.size, 2, none⟩ = some (.int .i64 l) := HK.out w2 HX2.out 2
  go_wp2_with fail
  refine (wsmall_any (n := l) HW2.out (by omega)).mono ?_
  rintro e w3 ⟨hk3, he⟩
  have HX3 := Lib.hid (HX2.out.trans hk3)
  clear hk3
  clear cc2
  by_cases o2 : okS l = true
  case neg =>
    rw [if_neg o2] at he
    subst he
    exact ⟨rfl, HE.out _ HX3.out, by rw [if_neg (by simp [cmdB, o2])]⟩
  rw [if_pos o2] at he
  obtain ⟨rfl, hw3⟩ := he
  obtain ⟨L3, hL3⟩ : ∃ M, M = L2 ++ uintL l.toNat := ⟨_, rfl⟩
  rw [← hL3] at hw3
  have hl3 : L3.length ≤ 30 := by rw [hL3, List.length_append]; have := uint_few o2; omega
  have HW3 := Lib.hid hw3
  have HL3 := Lib.hid hL3
  have HO2 := Lib.hid o2
  clear hw3 hL3 o2
  have cc3 : w3.cell? ⟨w.heap.size, 3, none⟩ = some (.int .i64 i) := HK.out w3 HX3.out 3
  go_wp2_with fail
  refine (wsmall_any (n := i) HW3.out (by omega)).mono ?_
  rintro e w4 ⟨hk4, he⟩
  have HX4 := Lib.hid (HX3.out.trans hk4)
  clear hk4
  clear cc3
  by_cases o3 : okS i = true
  case neg =>
    rw [if_neg o3] at he
    subst he
    exact ⟨rfl, HE.out _ HX4.out, by rw [if_neg (by simp [cmdB, o3])]⟩
  rw [if_pos o3] at he
  obtain ⟨rfl, hw4⟩ := he
  obtain ⟨L4, hL4⟩ : ∃ M, M = L3 ++ uintL i.toNat := ⟨_, rfl⟩
  rw [← hL4] at hw4
  have hl4 : L4.length ≤ 40 := by rw [hL4, List.length_append]; have := uint_few o3; omega
  have HW4 := Lib.hid hw4
  have HL4 := Lib.hid hL4
  have HO3 := Lib.hid o3
  clear hw4 hL4 o3
  have cc4 : w4.cell? ⟨w.heap.size, 4, none⟩ = some (.int .i64 d) := HK.out w4 HX4.out 4
  go_wp2_with fail
  refine (wsmall_any (n := d) HW4.out (by omega)).mono ?_
  rintro e w5 ⟨hk5, he⟩
  have HX5 := Lib.hid (HX4.out.trans hk5)
  clear hk5
  clear cc4
  by_cases o4 : okS d = true
  case neg =>
    rw [if_neg o4] at he
    subst he
    exact ⟨rfl, HE.out _ HX5.out, by rw [if_neg (by simp [cmdB, o4])]⟩
  rw [if_pos o4] at he
  obtain ⟨rfl, hw5⟩ := he
  obtain ⟨L5, hL5⟩ : ∃ M, M = L4 ++ uintL d.toNat := ⟨_, rfl⟩
  rw [← hL5] at hw5
  have hl5 : L5.length ≤ 50 := by rw [hL5, List.length_append]; have := uint_few o4; omega
  have HW5 := Lib.hid hw5
  have HL5 := Lib.hid hL5
  have HO4 := Lib.hid o4
  clear hw5 hL5 o4
  have e0 : w5.cell? ⟨w.heap.size, 5, none⟩ = some (.int .i64 p0) := HK.out w5 HX5.out 5
  have e1 : w5.cell? ⟨w.heap.size, 6, none⟩ = some (.int .i64 p1) := HK.out w5 HX5.out 6
  have e2 : w5.cell? ⟨w.heap.size, 7, none⟩ = some (.float .f64 p2) := HK.out w5 HX5.out 7
  have e3 : w5.cell? ⟨w.heap.size, 8, none⟩ = some (.string p3) := HK.out w5 HX5.out 8
  have e4 : w5.cell? ⟨w.heap.size, 9, none⟩ = some (.slice p4 p5 p6) := HK.out w5 HX5.out 9
  have e5 : w5.cell? ⟨w.heap.size, 10, none⟩ = some (.slice p7 p8 p9) := HK.out w5 HX5.out 10
  go_wp2_with fail
  refine (wsome_any (t := K) HW5.out (HKV.out _ HX5.out).1 (by omega)).mono ?_
  rintro e w6 ⟨hk6, he⟩
  have HX6 := Lib.hid (HX5.out.trans hk6)
  clear hk6 e0 e1 e2 e3 e4 e5
  by_cases o5 : someB K = true
  case neg =>
    rw [if_neg o5] at he
    subst he
    exact ⟨rfl, HE.out _ HX6.out, by rw [if_neg (by simp [cmdB, o5])]⟩
  rw [if_pos o5] at he
  obtain ⟨rfl, hw6⟩ := he
  obtain ⟨L6, hL6⟩ : ∃ M, M = L5 ++ someL K := ⟨_, rfl⟩
  rw [← hL6] at hw6
  have hl6 : L6.length ≤ 130051 := by rw [hL6, List.length_append]; have := some_few (HKV.out _ HX5.out).1 o5; omega
  have HW6 := Lib.hid hw6
  have HL6 := Lib.hid hL6
  have HO5 := Lib.hid o5
  clear hw6 hL6 o5
  have e0 : w6.cell? ⟨w.heap.size, 11, none⟩ = some (.int .i64 q0) := HK.out w6 HX6.out 11
  have e1 : w6.cell? ⟨w.heap.size, 12, none⟩ = some (.int .i64 q1) := HK.out w6 HX6.out 12
  have e2 : w6.cell? ⟨w.heap.size, 13, none⟩ = some (.float .f64 q2) := HK.out w6 HX6.out 13
  have e3 : w6.cell? ⟨w.heap.size, 14, none⟩ = some (.string q3) := HK.out w6 HX6.out 14
  have e4 : w6.cell? ⟨w.heap.size, 15, none⟩ = some (.slice q4 q5 q6) := HK.out w6 HX6.out 15
  have e5 : w6.cell? ⟨w.heap.size, 16, none⟩ = some (.slice q7 q8 q9) := HK.out w6 HX6.out 16
  go_wp2_with fail
  refine (wsome_any (t := V) HW6.out (HKV.out _ HX6.out).2 (by omega)).mono ?_
  rintro e w7 ⟨hk7, he⟩
  have HX7 := Lib.hid (HX6.out.trans hk7)
  clear hk7 e0 e1 e2 e3 e4 e5
  by_cases o6 : someB V = true
  case neg =>
    rw [if_neg o6] at he
    subst he
    exact ⟨rfl, HE.out _ HX7.out, by rw [if_neg (by simp [cmdB, o6])]⟩
  rw [if_pos o6] at he
  obtain ⟨rfl, hw7⟩ := he
  obtain ⟨L7, hL7⟩ : ∃ M, M = L6 ++ someL V := ⟨_, rfl⟩
  rw [← hL7] at hw7
  have hl7 : L7.length ≤ 260052 := by rw [hL7, List.length_append]; have := some_few (HKV.out _ HX6.out).2 o6; omega
  have HW7 := Lib.hid hw7
  have HL7 := Lib.hid hL7
  have HO6 := Lib.hid o6
  clear hw7 hL7 o6
  have hB : cmdB ⟨k, n, l, i, d, K, V⟩ = true := by simp [cmdB, HO0.out, HO1.out, HO2.out, HO3.out, HO4.out, HO5.out, HO6.out]
  have hLL : Hid (cmdL ⟨k, n, l, i, d, K, V⟩ = L7) := Lib.hid (by rw [HL7.out, HL6.out, HL5.out, HL4.out, HL3.out, HL2.out, HL1.out, HL0.out]; simp [cmdL])
  go_wp2_with fail
  go_end0
  exact ⟨HE.out _ HX7.out, rfl, by rw [hLL.out]; exact HW7.out⟩
end Go.Proofs.YtekojglcbalhnaaGreatDoor
