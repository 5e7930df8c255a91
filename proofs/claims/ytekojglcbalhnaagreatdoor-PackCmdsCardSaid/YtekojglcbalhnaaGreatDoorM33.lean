/-
  The program's ReadCmd.
-/
import Derived.Test.YtekojglcbalhnaaGreatDoorM32
namespace Go.Proofs.YtekojglcbalhnaaGreatDoor
open Go.RowKit

theorem alloc_setRow (w : World) (old new : Array Value) (T : TypeId) : (w.alloc (.cells old T)).setRow w.heap.size new = w.alloc (.cells new T) := by
  unfold World.setRow World.alloc
  simp only [World.mk.injEq, and_true]
  apply Array.ext
  · simp
  · intro i h1 h2
    rw [Array.getElem_modify]
    split
    · rename_i h; subst h; simp
    · rename_i h
      rw [Array.getElem_push, Array.getElem_push]
      split
      · rfl
      · simp at h1; omega
/-- A command by value, its cells by name. -/
theorem COwn.named {w : World} {P : Nat → Prop} {v : Array Value} {c : Cm} (h : COwn w P v c) : ∃ (k n ll i d : Int) (p0 p1 : Int) (p2 : Nat) (p3 : ByteArray) (p4 : Option Addr) (p5 p6 : Nat) (p7 : Option Addr) (p8 p9 : Nat) (q0 q1 : Int) (q2 : Nat) (q3 : ByteArray) (q4 : Option Addr) (q5 q6 : Nat) (q7 : Option Addr) (q8 q9 : Nat), v = #[.int .i64 k, .int .i64 n, .int .i64 ll, .int .i64 i, .int .i64 d, .int .i64 p0, .int .i64 p1, .float .f64 p2, .string p3, .slice p4 p5 p6, .slice p7 p8 p9, .int .i64 q0, .int .i64 q1, .float .f64 q2, .string q3, .slice q4 q5 q6, .slice q7 q8 q9] := by
  obtain ⟨a0, a1, a2, a3, a4, a5, b0, b1, b2, b3, b4, b5, rfl, hK, hV⟩ := h
  obtain ⟨p0, p1, p2, p3, p4, p5, p6, p7, p8, p9, hp⟩ := hK.val.eight
  obtain ⟨q0, q1, q2, q3, q4, q5, q6, q7, q8, q9, hq⟩ := hV.val.eight
  simp only [Array.mk.injEq, List.cons.injEq, and_true] at hp hq
  obtain ⟨rfl, rfl, rfl, rfl, rfl, rfl⟩ := hp
  obtain ⟨rfl, rfl, rfl, rfl, rfl, rfl⟩ := hq
  exact ⟨_, _, _, _, _, _, _, _, _, _, _, _, _, _, _, _, _, _, _, _, _, _, _, _, _, rfl⟩
theorem one17 {k n ll i d : Int} {p0 p1 : Int} {p2 : Nat} {p3 : ByteArray} {p4 : Option Addr} {p5 p6 : Nat} {p7 : Option Addr} {p8 p9 : Nat} {q0 q1 : Int} {q2 : Nat} {q3 : ByteArray} {q4 : Option Addr} {q5 q6 : Nat} {q7 : Option Addr} {q8 q9 : Nat} : (#[.int .i64 k, .int .i64 n, .int .i64 ll, .int .i64 i, .int .i64 d, .int .i64 p0, .int .i64 p1, .float .f64 p2, .string p3, .slice p4 p5 p6, .slice p7 p8 p9, .int .i64 q0, .int .i64 q1, .float .f64 q2, .string q3, .slice q4 q5 q6, .slice q7 q8 q9] : Array Value).all (·.oneCell') = true := by
  simp [Value.oneCell']
theorem one17z : (#[.int .i64 0, .int .i64 0, .int .i64 0, .int .i64 0, .int .i64 0, .int .i64 0, .int .i64 0, .float .f64 0, .string ⟨#[]⟩, .slice none 0 0, .slice none 0 0, .int .i64 0, .int .i64 0, .float .f64 0, .string ⟨#[]⟩, .slice none 0 0, .slice none 0 0] : Array Value).all (·.oneCell') = true := by simp [Value.oneCell']
theorem results_cmd3 {fn : Func} {k i j : Nat} (h : fn.results = #[.cell k 30, .tmp i, .tmp j]) (tmps : Array Value) (w : World) (R : Nat) (cs : Array Value) (x y : Value)
    (hp : tmps.getD k undef = .pointer (some ⟨R, 0, none⟩)) (hx : tmps.getD i undef = x) (hy : tmps.getD j undef = y) (hg : w.heap[R]? = some (.cells cs 30 (0, 0))) (hs : cs.size = 17) :
    (results fn tmps).run Tryz.prog w = .ok (.tuple #[.agg cs, x, y]) w := by
  have hp' : tmps[k]?.getD undef = .pointer (some ⟨R, 0, none⟩) := by simpa using hp
  have hx' : tmps[i]?.getD undef = x := by simpa using hx
  have hy' : tmps[j]?.getD undef = y := by simpa using hy
  simp [results, h, hp', hx', hy', asAddr, run_loadVar_row w R 30 30 cs (0, 0) _ hg Tryz.underlying30 rfl (by rw [hs]; exact infoC)]
section
variable {md : Region.Mode} {ops : Array Oper} {Q : Exit → Act → World → Prop} {S : World → Prop} {fuel i : Nat} {o : Oper} {listed : Array Bool} {a : Act} {w : World}
theorem takeQ (d : Option Tmp) (v : Value) (ho : ops[i]? = some o) (hd : o.dst = d) (hs : Region.noSelect ops = true) (hf : Region.free md ops listed i = true) (hr : (Region.ready md ops listed).contains i = true)
    (hQ : ∀ c a w, Q (.panic c) (a.put d v) w → Q (.panic c) a w) (hS : S w) (hw : Region.wanted o (yielded ops a.tmps) = true) (hy : ∀ w, S w → (execOp a.eval o).run Tryz.prog w = .ok (.value v) w)
    (h : wpAnyH Tryz.prog md ops Q S fuel (listed.setIfInBounds i true) (a.put d v) w) : wpAnyH Tryz.prog md ops Q S (fuel + 1) listed a w :=
  wpAnyH_take ho hs hf hr (by rw [hd]; exact hQ) (Or.inl ⟨hw, hy⟩) hS (by rw [hd]; exact h)
/-- The one operation that may come up lays a command into a block. -/
theorem storeCQ (x y : Operand) (ho : ops[i]? = some o) (hw : Region.wanted o (yielded ops a.tmps) = true) (hd : o.dst = none) (hr : Region.ready md ops listed = [i]) (hop : o.op = .store 30 x y)
    (R : Nat) (hx : a.eval x = .pointer (some ⟨R, 0, none⟩)) (cs : Array Value) (hy : a.eval y = .agg cs) (old : Array Value) (hg : w.heap[R]? = some (.cells old 30 (0, 0))) (hold : old.size = 17) (hcs : cs.size = 17) (hone : cs.all (·.oneCell') = true)
    (h1 : S (w.setRow R cs)) (h : wpAnyH Tryz.prog md ops Q S fuel (listed.setIfInBounds i true) (a.put none undef) (w.setRow R cs)) : wpAnyH Tryz.prog md ops Q S (fuel + 1) listed a w :=
  wpAnyH_ready hr (by simp) (AllReadyH.cons ho (fun K' hK => by
    rw [if_pos hw]
    refine wp_store_row 30 x y hop R cs hx hy 30 old hg (by rw [infoC, hcs]) (by rw [hold, hcs]) hone ?_
    rw [hd]
    exact hK.out _ _ h1 (fun _ => h)) AllReadyH.nil)
/-- A load of one cell. -/
theorem run_ld (T : Nat) (x : Operand) (hop : o.op = .load T x) (g k : Nat) (hx : a.eval x = .pointer (some ⟨g, k, none⟩)) (u : Value) (hc : w.cell? ⟨g, k, none⟩ = some u) (hT : ∀ W : World, W.cell? ⟨g, k, none⟩ = some u → (loadVar T ⟨g, k, none⟩).run Tryz.prog W = .ok u W) :
    (execOp a.eval o).run Tryz.prog w = .ok (.value u) w := by
  unfold execOp
  simp only [hop, hx, Instr.loadAt, Instr.sureAddr, Sem.run_bind, Sem.run_pure, Result.andThen_ok, hT w hc]
theorem ld1 {W : World} {T : Nat} {p : Addr} {u : Value} (hT : (isAgg T).run Tryz.prog W = .ok false W) (h : W.cell? p = some u) : (loadVar T p).run Tryz.prog W = .ok u W := by
  simp [loadVar, Sem.run_bind, hT, h]
end
/-- What a command's reading from a place answers. -/
def RcEnds (s : ByteArray) (w : World) (r : Option (Cm × List UInt8)) (e : Ending) (w' : World) : Prop :=
  Below w.heap.size w w' ∧ match r with
  | none => e = .returned (.tuple #[.agg zero17, .int .i64 0, .int .i64 5])
  | some (c, l) => ∃ v, e = .returned (.tuple #[.agg v, .int .i64 ((s.size - l.length : Nat) : Int), .int .i64 0]) ∧ COwn w' (fun b => w.heap.size ≤ b) v c
set_option maxRecDepth 20000 in
set_option maxHeartbeats 4000000 in
theorem rread_any {w : World} {s : ByteArray} {a : Nat} (ha : a ≤ s.size) (hs : s.size ≤ 1000000000) :
    Calls Tryz.prog 19 #[.string s, .int .i64 a, .func (.func 20) #[] #[]] w fun e w' => RcEnds s w (cmdP (left s a)) e w' := by
  obtain ⟨W0, hW0⟩ : ∃ W0, W0 = ((w.alloc (.cells #[.func (.func 20) #[] #[]] 65)).alloc (.cells zero17 30)).alloc (.cells #[.string s, .int .i64 a] 110) := ⟨_, rfl⟩
  have hb0 : Below w.heap.size w W0 := by rw [hW0]; exact (((Below.refl _ _).alloc (Nat.le_refl _) _).alloc (by simp) _).alloc (by simp; omega) _
  have hs0 : W0.heap.size = w.heap.size + 3 := by rw [hW0]; simp
  have hf0 : W0.heap[w.heap.size]? = some (.cells #[.func (.func 20) #[] #[]] 65 (0, 0)) := by
    rw [hW0, Below.heap_alloc _ _ _ (by simp; omega), Below.heap_alloc _ _ _ (by simp)]; exact heap_alloc_new w _
  have hx0 : W0.heap[w.heap.size + 1]? = some (.cells zero17 30 (0, 0)) := by
    rw [hW0, Below.heap_alloc _ _ _ (by simp)]
    have := heap_alloc_new (w.alloc (.cells #[.func (.func 20) #[] #[]] 65)) (.cells zero17 30)
    rw [World.size_alloc] at this; exact this
  have hg0 : Pr W0 (w.heap.size + 2) s a := by
    rw [hW0]
    have := heap_alloc_new ((w.alloc (.cells #[.func (.func 20) #[] #[]] 65)).alloc (.cells zero17 30)) (.cells #[.string s, .int .i64 a] 110)
    rw [World.size_alloc, World.size_alloc] at this; exact this
  have C := rcaught_any hg0 hf0 ha hs
  unfold FcEnds at C
  unfold RcEnds
  have MF := makeFunc_run
  have HX0 := Lib.hid hx0
  have HB0 := Lib.hid hb0
  have HZ := Lib.hid hs0
  have e0 : ((w.alloc (.cells #[.func (.func 20) #[] #[]] 65)).alloc (.cells #[.int .i64 0, .int .i64 0, .int .i64 0, .int .i64 0, .int .i64 0, .int .i64 0, .int .i64 0, .float .f64 0, .string ⟨#[]⟩, .slice none 0 0, .slice none 0 0, .int .i64 0, .int .i64 0, .float .f64 0, .string ⟨#[]⟩, .slice none 0 0, .slice none 0 0] 30)).alloc (.cells #[.string s, .int .i64 a] 110) = W0 := hW0.symm
  have HE := Lib.hid e0
  clear hb0 hs0 hx0 hf0 hg0 hW0 ha hs e0
  cases hr : cmdP (left s a) with
  | none =>
    rw [hr] at C
    dsimp only at C ⊢
    unfold zero17 at C ⊢
    have HC := Lib.hid C
    clear C hr
    go_enter Tryz.func19, Tryz.ntmps19
    go_wp2_with fail
    rw [HE.out]
    go_wp2_with (first
      | (go_at_call 42; refine HC.out.mono ?_; rintro e w1 ⟨hp, rfl⟩; have HX1 := Lib.hid ((hp.block (w.heap.size + 1) (by have := HZ.out; omega) (by omega)).trans HX0.out); have HP := Lib.hid ((Past.of_below (g := w.heap.size + 2) HB0.out).trans hp); have hsz := hp.size; rw [HZ.out] at hsz; have HS1 := Lib.hid hsz; clear hp hsz)
      | (refine stC rfl (.tmp 10) (.tmp 18) rfl rfl w1.heap.size #[.int .i64 0, .int .i64 0, .int .i64 0, .int .i64 0, .int .i64 0, .int .i64 0, .int .i64 0, .float .f64 0, .string ⟨#[]⟩, .slice none 0 0, .slice none 0 0, .int .i64 0, .int .i64 0, .float .f64 0, .string ⟨#[]⟩, .slice none 0 0, .slice none 0 0] (by kernel_rfl) (by kernel_rfl) #[.int .i64 0, .int .i64 0, .int .i64 0, .int .i64 0, .int .i64 0, .int .i64 0, .int .i64 0, .float .f64 0, .string ⟨#[]⟩, .slice none 0 0, .slice none 0 0, .int .i64 0, .int .i64 0, .float .f64 0, .string ⟨#[]⟩, .slice none 0 0, .slice none 0 0] (heap_alloc_new w1 _) rfl rfl one17z ?_; refine Hid.out ?_))
    refine Lib.hid ?_
    rw [alloc_setRow]
    obtain ⟨W2, hW2⟩ : ∃ W2, W2 = w1.alloc (.cells #[.int .i64 0, .int .i64 0, .int .i64 0, .int .i64 0, .int .i64 0, .int .i64 0, .int .i64 0, .float .f64 0, .string ⟨#[]⟩, .slice none 0 0, .slice none 0 0, .int .i64 0, .int .i64 0, .float .f64 0, .string ⟨#[]⟩, .slice none 0 0, .slice none 0 0] 30) := ⟨_, rfl⟩
    rw [← hW2]
    have hx2 : W2.heap[w.heap.size + 1]? = some (.cells zero17 30 (0, 0)) := by rw [hW2, Below.heap_alloc _ _ _ (by have := HS1.out; omega)]; exact HX1.out
    have hp2 : Past (w.heap.size + 2) w W2 := by rw [hW2]; exact HP.out.alloc _
    obtain ⟨z0, z1, z2, z3, z4, z5, z6, z7, z8, z9, z10, z11, z12, z13, z14, z15, z16⟩ := cells17 (w := W2) (R := w1.heap.size) (by rw [hW2]; exact heap_alloc_new w1 _)
    have HX2 := Lib.hid hx2
    have HP2 := Lib.hid hp2
    clear hW2 hx2 hp2 HX1 HP
    go_wp2_with (first
      | (refine stC rfl (.tmp 6) (.tmp 22) rfl rfl (w.heap.size + 1) #[.int .i64 0, .int .i64 0, .int .i64 0, .int .i64 0, .int .i64 0, .int .i64 0, .int .i64 0, .float .f64 0, .string ⟨#[]⟩, .slice none 0 0, .slice none 0 0, .int .i64 0, .int .i64 0, .float .f64 0, .string ⟨#[]⟩, .slice none 0 0, .slice none 0 0] (by kernel_rfl) (by kernel_rfl) zero17 HX2.out rfl rfl one17z ?_; refine Hid.out ?_))
    refine Lib.hid ?_
    have hx3 := setRow_heap W2 (w.heap.size + 1) zero17 #[.int .i64 0, .int .i64 0, .int .i64 0, .int .i64 0, .int .i64 0, .int .i64 0, .int .i64 0, .float .f64 0, .string ⟨#[]⟩, .slice none 0 0, .slice none 0 0, .int .i64 0, .int .i64 0, .float .f64 0, .string ⟨#[]⟩, .slice none 0 0, .slice none 0 0] 30 (0, 0) HX2.out
    have hp3 : Past (w.heap.size + 2) w (W2.setRow (w.heap.size + 1) #[.int .i64 0, .int .i64 0, .int .i64 0, .int .i64 0, .int .i64 0, .int .i64 0, .int .i64 0, .float .f64 0, .string ⟨#[]⟩, .slice none 0 0, .slice none 0 0, .int .i64 0, .int .i64 0, .float .f64 0, .string ⟨#[]⟩, .slice none 0 0, .slice none 0 0]) := HP2.out.setRowNew (Nat.le_succ _) _
    have hb3 : Below w.heap.size w (W2.setRow (w.heap.size + 1) #[.int .i64 0, .int .i64 0, .int .i64 0, .int .i64 0, .int .i64 0, .int .i64 0, .int .i64 0, .float .f64 0, .string ⟨#[]⟩, .slice none 0 0, .slice none 0 0, .int .i64 0, .int .i64 0, .float .f64 0, .string ⟨#[]⟩, .slice none 0 0, .slice none 0 0]) := ⟨hp3.os, hp3.tape, hp3.output, hp3.size, fun k hk => hp3.block k hk (by omega)⟩
    have HF := Lib.hid (And.intro hx3 hb3)
    clear hp3 hb3 hx3 z0 z1 z2 z3 z4 z5 z6 z7 z8 z9 z10 z11 z12 z13 z14 z15 z16
    go_wp2_with fail
    exact bodyPost_ret (v := .tuple #[.agg #[.int .i64 0, .int .i64 0, .int .i64 0, .int .i64 0, .int .i64 0, .int .i64 0, .int .i64 0, .float .f64 0, .string ⟨#[]⟩, .slice none 0 0, .slice none 0 0, .int .i64 0, .int .i64 0, .float .f64 0, .string ⟨#[]⟩, .slice none 0 0, .slice none 0 0], .int .i64 0, .int .i64 5]) (results_cmd3 rfl _ _ (w.heap.size + 1) _ _ _ rfl rfl rfl HF.out.1 rfl) rfl ⟨HF.out.2, rfl⟩
  | some z =>
    obtain ⟨c, l⟩ := z
    rw [hr] at C
    dsimp only at C ⊢
    have HC := Lib.hid C
    clear C hr
    go_enter Tryz.func19, Tryz.ntmps19
    go_wp2_with fail
    rw [HE.out]
    go_wp2_with (first
      | (go_at_call 42; refine HC.out.mono ?_; rintro e w1 ⟨hp, ⟨v, rfl, hv⟩, b, hb, hl, h1⟩; obtain ⟨k, n, ll, i, d, p0, p1, p2, p3, p4, p5, p6, p7, p8, p9, q0, q1, q2, q3, q4, q5, q6, q7, q8, q9, rfl⟩ := hv.named; have HX1 := Lib.hid ((hp.block (w.heap.size + 1) (by have := HZ.out; omega) (by omega)).trans HX0.out); have HP := Lib.hid ((Past.of_below (g := w.heap.size + 2) HB0.out).trans hp); have hsz := hp.size; rw [HZ.out] at hsz; have HS1 := Lib.hid hsz; have HV1 := Lib.hid hv; have H1 := Lib.hid h1; have HL := Lib.hid (And.intro hb hl); clear hp hsz hv h1 hb hl)
      | (refine stC rfl (.tmp 10) (.tmp 18) rfl rfl w1.heap.size #[.int .i64 k, .int .i64 n, .int .i64 ll, .int .i64 i, .int .i64 d, .int .i64 p0, .int .i64 p1, .float .f64 p2, .string p3, .slice p4 p5 p6, .slice p7 p8 p9, .int .i64 q0, .int .i64 q1, .float .f64 q2, .string q3, .slice q4 q5 q6, .slice q7 q8 q9] (by kernel_rfl) (by kernel_rfl) #[.int .i64 0, .int .i64 0, .int .i64 0, .int .i64 0, .int .i64 0, .int .i64 0, .int .i64 0, .float .f64 0, .string ⟨#[]⟩, .slice none 0 0, .slice none 0 0, .int .i64 0, .int .i64 0, .float .f64 0, .string ⟨#[]⟩, .slice none 0 0, .slice none 0 0] (heap_alloc_new w1 _) rfl rfl one17 ?_; refine Hid.out ?_))
    refine Lib.hid ?_
    rw [alloc_setRow]
    obtain ⟨W2, hW2⟩ : ∃ W2, W2 = w1.alloc (.cells #[.int .i64 k, .int .i64 n, .int .i64 ll, .int .i64 i, .int .i64 d, .int .i64 p0, .int .i64 p1, .float .f64 p2, .string p3, .slice p4 p5 p6, .slice p7 p8 p9, .int .i64 q0, .int .i64 q1, .float .f64 q2, .string q3, .slice q4 q5 q6, .slice q7 q8 q9] 30) := ⟨_, rfl⟩
    rw [← hW2]
    have hx2 : W2.heap[w.heap.size + 1]? = some (.cells zero17 30 (0, 0)) := by rw [hW2, Below.heap_alloc _ _ _ (by have := HS1.out; omega)]; exact HX1.out
    have hp2 : Past (w.heap.size + 2) w W2 := by rw [hW2]; exact HP.out.alloc _
    have hy2 : W2.heap[w1.heap.size]? = some (.cells #[.int .i64 k, .int .i64 n, .int .i64 ll, .int .i64 i, .int .i64 d, .int .i64 p0, .int .i64 p1, .float .f64 p2, .string p3, .slice p4 p5 p6, .slice p7 p8 p9, .int .i64 q0, .int .i64 q1, .float .f64 q2, .string q3, .slice q4 q5 q6, .slice q7 q8 q9] 30 (0, 0)) := by rw [hW2]; exact heap_alloc_new w1 _
    have hc2 : Pr W2 (w.heap.size + 2) s b := by rw [hW2]; exact H1.out.past ((Below.refl _ _).alloc (Nat.le_refl _) _)
    have hv2 : COwn W2 (fun b => W0.heap.size ≤ b) #[.int .i64 k, .int .i64 n, .int .i64 ll, .int .i64 i, .int .i64 d, .int .i64 p0, .int .i64 p1, .float .f64 p2, .string p3, .slice p4 p5 p6, .slice p7 p8 p9, .int .i64 q0, .int .i64 q1, .float .f64 q2, .string q3, .slice q4 q5 q6, .slice q7 q8 q9] c := by rw [hW2]; exact HV1.out.keep (by simp) (fun k _ hk => Below.heap_alloc _ _ _ hk)
    have HX2 := Lib.hid hx2
    have HP2 := Lib.hid hp2
    have HV2 := Lib.hid hv2
    have HSS : Hid ((fun W => W.heap[w1.heap.size]? = some (.cells #[.int .i64 k, .int .i64 n, .int .i64 ll, .int .i64 i, .int .i64 d, .int .i64 p0, .int .i64 p1, .float .f64 p2, .string p3, .slice p4 p5 p6, .slice p7 p8 p9, .int .i64 q0, .int .i64 q1, .float .f64 q2, .string q3, .slice q4 q5 q6, .slice q7 q8 q9] 30 (0, 0)) ∧ W.cell? ⟨w.heap.size + 2, 1, none⟩ = some (.int .i64 (b : Int))) W2.drew) := Lib.hid ⟨hy2, hc2.cells.2.1⟩
    have HS3 : Hid ((fun W => W.heap[w1.heap.size]? = some (.cells #[.int .i64 k, .int .i64 n, .int .i64 ll, .int .i64 i, .int .i64 d, .int .i64 p0, .int .i64 p1, .float .f64 p2, .string p3, .slice p4 p5 p6, .slice p7 p8 p9, .int .i64 q0, .int .i64 q1, .float .f64 q2, .string q3, .slice q4 q5 q6, .slice q7 q8 q9] 30 (0, 0)) ∧ W.cell? ⟨w.heap.size + 2, 1, none⟩ = some (.int .i64 (b : Int))) (W2.drew.setRow (w.heap.size + 1) #[.int .i64 k, .int .i64 n, .int .i64 ll, .int .i64 i, .int .i64 d, .int .i64 p0, .int .i64 p1, .float .f64 p2, .string p3, .slice p4 p5 p6, .slice p7 p8 p9, .int .i64 q0, .int .i64 q1, .float .f64 q2, .string q3, .slice q4 q5 q6, .slice q7 q8 q9])) := Lib.hid ⟨(setRow_other W2.drew (w.heap.size + 1) w1.heap.size _ (by have := HS1.out; omega)).trans hy2, by rw [cell_setRow_other W2.drew (w.heap.size + 1) _ ⟨w.heap.size + 2, 1, none⟩ (by show w.heap.size + 2 ≠ w.heap.size + 1; omega)]; exact hc2.cells.2.1⟩
    clear hW2 hx2 hp2 hy2 hc2 hv2 HX1 HP HV1 H1
    go_upto_region 5 with (fail)
    refine wp_region_held_drew (S := (fun W => W.heap[w1.heap.size]? = some (.cells #[.int .i64 k, .int .i64 n, .int .i64 ll, .int .i64 i, .int .i64 d, .int .i64 p0, .int .i64 p1, .float .f64 p2, .string p3, .slice p4 p5 p6, .slice p7 p8 p9, .int .i64 q0, .int .i64 q1, .float .f64 q2, .string q3, .slice q4 q5 q6, .slice q7 q8 q9] 30 (0, 0)) ∧ W.cell? ⟨w.heap.size + 2, 1, none⟩ = some (.int .i64 (b : Int)))) (by kernel_rfl) HSS.out (fun _ => ?_)
    have hfin := setRow_heap W2.drew (w.heap.size + 1) zero17 #[.int .i64 k, .int .i64 n, .int .i64 ll, .int .i64 i, .int .i64 d, .int .i64 p0, .int .i64 p1, .float .f64 p2, .string p3, .slice p4 p5 p6, .slice p7 p8 p9, .int .i64 q0, .int .i64 q1, .float .f64 q2, .string q3, .slice q4 q5 q6, .slice q7 q8 q9] 30 (0, 0) HX2.out
    have hpn : Past (w.heap.size + 2) w (W2.drew.setRow (w.heap.size + 1) #[.int .i64 k, .int .i64 n, .int .i64 ll, .int .i64 i, .int .i64 d, .int .i64 p0, .int .i64 p1, .float .f64 p2, .string p3, .slice p4 p5 p6, .slice p7 p8 p9, .int .i64 q0, .int .i64 q1, .float .f64 q2, .string q3, .slice q4 q5 q6, .slice q7 q8 q9]) := HP2.out.drew.setRowNew (Nat.le_succ _) _
    have hbn : Below w.heap.size w (W2.drew.setRow (w.heap.size + 1) #[.int .i64 k, .int .i64 n, .int .i64 ll, .int .i64 i, .int .i64 d, .int .i64 p0, .int .i64 p1, .float .f64 p2, .string p3, .slice p4 p5 p6, .slice p7 p8 p9, .int .i64 q0, .int .i64 q1, .float .f64 q2, .string q3, .slice q4 q5 q6, .slice q7 q8 q9]) := ⟨hpn.os, hpn.tape, hpn.output, hpn.size, fun k hk => hpn.block k hk (by omega)⟩
    have hvn : COwn (W2.drew.setRow (w.heap.size + 1) #[.int .i64 k, .int .i64 n, .int .i64 ll, .int .i64 i, .int .i64 d, .int .i64 p0, .int .i64 p1, .float .f64 p2, .string p3, .slice p4 p5 p6, .slice p7 p8 p9, .int .i64 q0, .int .i64 q1, .float .f64 q2, .string q3, .slice q4 q5 q6, .slice q7 q8 q9]) (fun b => w.heap.size ≤ b) #[.int .i64 k, .int .i64 n, .int .i64 ll, .int .i64 i, .int .i64 d, .int .i64 p0, .int .i64 p1, .float .f64 p2, .string p3, .slice p4 p5 p6, .slice p7 p8 p9, .int .i64 q0, .int .i64 q1, .float .f64 q2, .string q3, .slice q4 q5 q6, .slice q7 q8 q9] c := (COwn.setRow (w := W2.drew) (HV2.out.keep (Nat.le_refl _) (fun _ _ _ => rfl)) (by have := HZ.out; omega) _).imp fun b hb _ => by have := HZ.out; omega
    have hnx : s.size - l.length = b := by rw [HL.out.2, left_len]; have := HL.out.1; omega
    have HF := Lib.hid (And.intro hfin (And.intro hbn (And.intro hvn hnx)))
    clear hfin hpn hbn hvn hnx
    refine takeQ (i := 0) (some 24) (.agg #[.int .i64 k, .int .i64 n, .int .i64 ll, .int .i64 i, .int .i64 d, .int .i64 p0, .int .i64 p1, .float .f64 p2, .string p3, .slice p4 p5 p6, .slice p7 p8 p9, .int .i64 q0, .int .i64 q1, .float .f64 q2, .string q3, .slice q4 q5 q6, .slice q7 q8 q9]) rfl rfl (by kernel_rfl) (by kernel_rfl) (by kernel_rfl) (fun _ _ _ h => h) HSS.out (by kernel_rfl) (fun W hW => run_ldC (.tmp 10) rfl w1.heap.size (by kernel_rfl) _ hW.1 rfl) ?_
    refine takeQ (i := 1) (some 25) (.pointer (some ⟨w.heap.size + 2, 1, none⟩)) rfl rfl (by kernel_rfl) (by kernel_rfl) (by kernel_rfl) (fun _ _ _ h => h) HSS.out (by kernel_rfl) (fun W hW => by kernel_rfl) ?_
    refine takeQ (i := 2) (some 26) (.int .i64 (b : Int)) rfl rfl (by kernel_rfl) (by kernel_rfl) (by kernel_rfl) (fun _ _ _ h => h) HSS.out (by kernel_rfl) (fun W hW => run_ld 3 (.tmp 25) rfl (w.heap.size + 2) 1 (by kernel_rfl) _ hW.2 (fun W h => ld1 (Tryz.isAgg3 W) h)) ?_
    refine storeCQ (i := 3) (.tmp 6) (.tmp 24) rfl (by kernel_rfl) rfl (by kernel_rfl) rfl (w.heap.size + 1) (by kernel_rfl) #[.int .i64 k, .int .i64 n, .int .i64 ll, .int .i64 i, .int .i64 d, .int .i64 p0, .int .i64 p1, .float .f64 p2, .string p3, .slice p4 p5 p6, .slice p7 p8 p9, .int .i64 q0, .int .i64 q1, .float .f64 q2, .string q3, .slice q4 q5 q6, .slice q7 q8 q9] (by kernel_rfl) zero17 HX2.out rfl rfl one17 HS3.out ?_
    refine takeQ (i := 4) (some 7) (.int .i64 (b : Int)) rfl rfl (by kernel_rfl) (by kernel_rfl) (by kernel_rfl) (fun _ _ _ h => h) HS3.out (by kernel_rfl) (fun W hW => by kernel_rfl) ?_
    refine takeQ (i := 5) (some 8) (.int .i64 0) rfl rfl (by kernel_rfl) (by kernel_rfl) (by kernel_rfl) (fun _ _ _ h => h) HS3.out (by kernel_rfl) (fun W hW => by kernel_rfl) ?_
    refine wpAnyH_done (by kernel_rfl) ?_ _
    simp only [Act.put, List.setIfInBounds_toArray, List.set_cons_zero, List.set_cons_succ]
    go_wp2_with fail
    exact bodyPost_ret (v := .tuple #[.agg #[.int .i64 k, .int .i64 n, .int .i64 ll, .int .i64 i, .int .i64 d, .int .i64 p0, .int .i64 p1, .float .f64 p2, .string p3, .slice p4 p5 p6, .slice p7 p8 p9, .int .i64 q0, .int .i64 q1, .float .f64 q2, .string q3, .slice q4 q5 q6, .slice q7 q8 q9], .int .i64 (b : Int), .int .i64 0]) (results_cmd3 rfl _ _ (w.heap.size + 1) _ _ _ rfl rfl rfl HF.out.1 rfl) rfl ⟨HF.out.2.1, #[.int .i64 k, .int .i64 n, .int .i64 ll, .int .i64 i, .int .i64 d, .int .i64 p0, .int .i64 p1, .float .f64 p2, .string p3, .slice p4 p5 p6, .slice p7 p8 p9, .int .i64 q0, .int .i64 q1, .float .f64 q2, .string q3, .slice q4 q5 q6, .slice q7 q8 q9], by rw [HF.out.2.2.2], HF.out.2.2.1⟩
end Go.Proofs.YtekojglcbalhnaaGreatDoor
