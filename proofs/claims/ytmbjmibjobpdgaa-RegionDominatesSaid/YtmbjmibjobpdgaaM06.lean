/-
  basculeref12.Small of a model: it ends, and says at least how many nodes and ways out there are.
-/
import Derived.Test.YtmbjmibjobpdgaaM05
import Derived.Deep.MidRow
namespace Go.Proofs.Ytmbjmibjobpdgaa
open Go.RowKit

theorem new_keeps {w w' : World} {arr : Array Value} {T : TypeId} (hb : Below (w.alloc (.cells arr T)).heap.size (w.alloc (.cells arr T)) w') {j : Nat} {u : Value} (h : arr[j]? = some u) : w'.cell? ⟨w.heap.size, j, none⟩ = some u := by
  rw [hb.cell (p := ⟨w.heap.size, j, none⟩) (by simp), World.cell?_alloc_new]
  exact h
/-- What Small says at least. -/
def fewB (G : GT) : Prop := G.n ≤ 100 ∧ ∀ i, i < G.n → (G.d i).c + (if 0 ≤ (G.d i).k then 1 else 0) ≤ 41
def SaysSmall (G : GT) (w : World) (e : Ending) (w' : World) : Prop := ∃ b, e = .returned (.bool b) ∧ (b = true → fewB G) ∧ Below w.heap.size w w'
set_option maxRecDepth 20000 in
theorem small_a {lb : Int} {A : Option Addr} {a aa : Nat} {B : Option Addr} {b bb : Nat} {V : Option Addr} {p pp : Nat} {S : Option Addr} {q qq : Nat} {N : Option Addr} {n nn : Nat} {G : GT} (w : World) (ha : a > 200) :
    Calls Try.prog 9 #[.agg (modelV lb A a aa B b bb V p pp S q qq N n nn)] w (SaysSmall G w) := by
  have hbW : Hid (Below w.heap.size w (w.alloc (.cells (modelV lb A a aa B b bb V p pp S q qq N n nn) 27))) := Lib.hid ((Below.refl _ _).alloc (Nat.le_refl _) _)
  have ta : decide ((200 : Int) < (a : Int)) = true := decide_eq_true (by omega)
  unfold modelV at *
  go_enter Try.func9, Try.ntmps9
  go_wp2_with fail
  go_ret
  exact ⟨false, rfl, (fun h => by cases h), hbW.out⟩
set_option maxRecDepth 20000 in
theorem small_b {lb : Int} {A : Option Addr} {a aa : Nat} {B : Option Addr} {b bb : Nat} {V : Option Addr} {p pp : Nat} {S : Option Addr} {q qq : Nat} {N : Option Addr} {n nn : Nat} {G : GT} (w : World) (ha : a ≤ 200) (hb : b > 200) :
    Calls Try.prog 9 #[.agg (modelV lb A a aa B b bb V p pp S q qq N n nn)] w (SaysSmall G w) := by
  have hbW : Hid (Below w.heap.size w (w.alloc (.cells (modelV lb A a aa B b bb V p pp S q qq N n nn) 27))) := Lib.hid ((Below.refl _ _).alloc (Nat.le_refl _) _)
  have ta : decide ((200 : Int) < (a : Int)) = false := decide_eq_false (by omega)
  have tb : decide ((200 : Int) < (b : Int)) = true := decide_eq_true (by omega)
  unfold modelV at *
  go_enter Try.func9, Try.ntmps9
  go_wp2_with fail
  go_ret
  exact ⟨false, rfl, (fun h => by cases h), hbW.out⟩
set_option maxRecDepth 20000 in
theorem small_p {lb : Int} {A : Option Addr} {a aa : Nat} {B : Option Addr} {b bb : Nat} {V : Option Addr} {p pp : Nat} {S : Option Addr} {q qq : Nat} {N : Option Addr} {n nn : Nat} {G : GT} (w : World) (ha : a ≤ 200) (hb : b ≤ 200) (hp : p > 40) :
    Calls Try.prog 9 #[.agg (modelV lb A a aa B b bb V p pp S q qq N n nn)] w (SaysSmall G w) := by
  have hbW : Hid (Below w.heap.size w (w.alloc (.cells (modelV lb A a aa B b bb V p pp S q qq N n nn) 27))) := Lib.hid ((Below.refl _ _).alloc (Nat.le_refl _) _)
  have ta : decide ((200 : Int) < (a : Int)) = false := decide_eq_false (by omega)
  have tb : decide ((200 : Int) < (b : Int)) = false := decide_eq_false (by omega)
  have tp : decide ((40 : Int) < (p : Int)) = true := decide_eq_true (by omega)
  unfold modelV at *
  go_enter Try.func9, Try.ntmps9
  go_wp2_with fail
  go_ret
  exact ⟨false, rfl, (fun h => by cases h), hbW.out⟩
set_option maxRecDepth 20000 in
theorem small_q {lb : Int} {A : Option Addr} {a aa : Nat} {B : Option Addr} {b bb : Nat} {V : Option Addr} {p pp : Nat} {S : Option Addr} {q qq : Nat} {N : Option Addr} {n nn : Nat} {G : GT} (w : World) (ha : a ≤ 200) (hb : b ≤ 200) (hp : p ≤ 40) (hq : q > 40) :
    Calls Try.prog 9 #[.agg (modelV lb A a aa B b bb V p pp S q qq N n nn)] w (SaysSmall G w) := by
  have hbW : Hid (Below w.heap.size w (w.alloc (.cells (modelV lb A a aa B b bb V p pp S q qq N n nn) 27))) := Lib.hid ((Below.refl _ _).alloc (Nat.le_refl _) _)
  have ta : decide ((200 : Int) < (a : Int)) = false := decide_eq_false (by omega)
  have tb : decide ((200 : Int) < (b : Int)) = false := decide_eq_false (by omega)
  have tp : decide ((40 : Int) < (p : Int)) = false := decide_eq_false (by omega)
  have tq : decide ((40 : Int) < (q : Int)) = true := decide_eq_true (by omega)
  unfold modelV at *
  go_enter Try.func9, Try.ntmps9
  go_wp2_with fail
  go_ret
  exact ⟨false, rfl, (fun h => by cases h), hbW.out⟩
set_option maxRecDepth 20000 in
theorem small_n {lb : Int} {A : Option Addr} {a aa : Nat} {B : Option Addr} {b bb : Nat} {V : Option Addr} {p pp : Nat} {S : Option Addr} {q qq : Nat} {N : Option Addr} {n nn : Nat} {G : GT} (w : World) (ha : a ≤ 200) (hb : b ≤ 200) (hp : p ≤ 40) (hq : q ≤ 40) (hn : n > 100) :
    Calls Try.prog 9 #[.agg (modelV lb A a aa B b bb V p pp S q qq N n nn)] w (SaysSmall G w) := by
  have hbW : Hid (Below w.heap.size w (w.alloc (.cells (modelV lb A a aa B b bb V p pp S q qq N n nn) 27))) := Lib.hid ((Below.refl _ _).alloc (Nat.le_refl _) _)
  have ta : decide ((200 : Int) < (a : Int)) = false := decide_eq_false (by omega)
  have tb : decide ((200 : Int) < (b : Int)) = false := decide_eq_false (by omega)
  have tp : decide ((40 : Int) < (p : Int)) = false := decide_eq_false (by omega)
  have tq : decide ((40 : Int) < (q : Int)) = false := decide_eq_false (by omega)
  have tn : decide ((100 : Int) < (n : Int)) = true := decide_eq_true (by omega)
  unfold modelV at *
  go_enter Try.func9, Try.ntmps9
  go_wp2_with fail
  go_ret
  exact ⟨false, rfl, (fun h => by cases h), hbW.out⟩
theorem cell_in {w : World} {r i : Nat} {v : Value} (h : w.cell? ⟨r, i, none⟩ = some v) : r < w.heap.size := by
  refine Nat.lt_of_not_le fun hle => ?_
  simp [World.cell?, Array.getElem?_eq_none hle] at h
section
variable {w w' : World} {lim : Nat} {lb : Int} {A : Option Addr} {a aa : Nat} {B : Option Addr} {b bb : Nat} {V : Option Addr} {p pp : Nat} {S : Option Addr} {q qq : Nat} {N : Option Addr} {n nn : Nat} {G : GT}
theorem ModelAt.parts (h : ModelAt w lim (modelV lb A a aa B b bb V p pp S q qq N n nn) G) : (∃ vs, RowAt w lim 11 V p vs ∧ ∀ i, i < p → VarAt w lim (vs i)) ∧ (∃ ms, RowAt w lim 8 S q ms ∧ ∀ i, i < q → MsgAt w lim (ms i)) ∧
    (G.n = n ∧ n ≤ maxLen) ∧ ∃ ns, RowAt w lim 29 N n ns ∧ ∀ i, i < n → NodeAt w lim (ns i) (G.d i) := by
  generalize hv : modelV lb A a aa B b bb V p pp S q qq N n nn = v at h
  cases h with
  | mk lb' A' a' aa' B' b' bb' V' p' pp' S' q' qq' N' n' nn' vs ms ns d ha hb hp hq hn hV hvs hS hms hN hns =>
    simp only [modelV, Array.mk.injEq, List.cons.injEq, Value.slice.injEq, Value.int.injEq, and_true, true_and] at hv
    obtain ⟨rfl, ⟨rfl, rfl, rfl⟩, ⟨rfl, rfl, rfl⟩, ⟨rfl, rfl, rfl⟩, ⟨rfl, rfl, rfl⟩, rfl, rfl, rfl⟩ := hv
    exact ⟨⟨vs, hV, hvs⟩, ⟨ms, hS, hms⟩, ⟨rfl, by omega⟩, ns, hN, hns⟩
end
/-- The box of a model, and what came in, stay. -/
structure Kept (w wr : World) (v : Array Value) (G : GT) : Prop where
  box : Below w.heap.size w wr
  cells : ∀ j u, v[j]? = some u → wr.cell? ⟨w.heap.size, j, none⟩ = some u
  at_ : ModelAt wr wr.heap.size v G
theorem Kept.start {w : World} {v : Array Value} {G : GT} {T : TypeId} (h : ModelAt w w.heap.size v G) : Kept w (w.alloc (.cells v T)) v G := by
  have hb : Below w.heap.size w (w.alloc (.cells v T)) := (Below.refl _ _).alloc (Nat.le_refl _) _
  exact ⟨hb, fun j u e => new_keeps (Below.refl _ _) e, (h.stay hb).mono hb.size⟩
theorem Kept.step {w w1 w2 : World} {v : Array Value} {G : GT} (h : Kept w w1 v G) (hb : Below w1.heap.size w1 w2) : Kept w w2 v G := by
  exact ⟨h.box.trans (hb.mono h.box.size), fun j u e => by
    have := h.cells j u e
    rw [hb.cell (p := ⟨w.heap.size, j, none⟩) (cell_in this)]
    exact this, (h.at_.stay hb).mono hb.size⟩
theorem alloc_setRow (w : World) (old new : Array Value) (T : TypeId) : (w.alloc (.cells old T)).setRow w.heap.size new = w.alloc (.cells new T) := by
  unfold World.setRow World.alloc
  simp only [World.mk.injEq, and_true]
  apply Array.ext
  · simp
  · intro i h1 h2
    rw [Array.getElem_modify]
    by_cases e : w.heap.size = i
    · subst e; simp
    · rw [if_neg e, Array.getElem_push, Array.getElem_push]
      have : i < w.heap.size := by simp at h1; omega
      simp [this]
theorem Val.one {w : World} {lim : Nat} {a0 a1 a2 a3 a4 a5 : Value} {t : VT} (h : Val w lim #[a0, a1, a2, a3, a4, a5] t) : (a0.oneCell' && a1.oneCell' && a2.oneCell' && a3.oneCell' && a4.oneCell' && a5.oneCell') = true := by
  generalize hv : #[a0, a1, a2, a3, a4, a5] = v at h
  cases h
  simp only [fields, Array.mk.injEq, List.cons.injEq] at hv
  obtain ⟨rfl, rfl, rfl, rfl, rfl, rfl, _⟩ := hv
  rfl
theorem TVal.one {w : World} {lim : Nat} {a0 a1 a2 : Value} {t : TT} (h : TVal w lim #[a0, a1, a2] t) : (a0.oneCell' && a1.oneCell' && a2.oneCell') = true := by
  generalize hv : #[a0, a1, a2] = v at h
  cases h
  simp only [tfields, Array.mk.injEq, List.cons.injEq] at hv
  obtain ⟨rfl, rfl, rfl, _⟩ := hv
  rfl
theorem EVal.one {w : World} {lim : Nat} {b0 b1 b2 b3 b4 b5 b6 b7 b8 b9 : Value} {t : ET} (h : EVal w lim #[b0, b1, b2, b3, b4, b5, b6, b7, b8, b9] t) : (b0.oneCell' && b1.oneCell' && b2.oneCell' && b3.oneCell' && b4.oneCell' && b5.oneCell' && b6.oneCell' && b7.oneCell' && b8.oneCell' && b9.oneCell') = true := by
  generalize hv : #[b0, b1, b2, b3, b4, b5, b6, b7, b8, b9] = v at h
  cases h with
  | mk k s a0 a1 a2 a3 a4 a5 v A c ca B m cb ns xs vs hk hs hv0 hc hm hns hB hxs =>
    have := hv0.one
    simp only [efields, Array.mk.injEq, List.cons.injEq] at hv
    obtain ⟨rfl, rfl, rfl, rfl, rfl, rfl, rfl, rfl, rfl, rfl, _⟩ := hv
    simpa [Value.oneCell'] using this
theorem info64 : (Try.prog.info? 64).map (·.size) = some 11 := by kernel_rfl
theorem info68 : (Try.prog.info? 68).map (·.size) = some 8 := by kernel_rfl
theorem info58 : (Try.prog.info? 58).map (·.size) = some 29 := by kernel_rfl
theorem info56 : (Try.prog.info? 56).map (·.size) = some 10 := by kernel_rfl
theorem info54 : (Try.prog.info? 54).map (·.size) = some 6 := by kernel_rfl
theorem info62 : (Try.prog.info? 62).map (·.size) = some 3 := by kernel_rfl
/-- A whole load out of the middle of a block, guarded or not. -/
theorem ldm {ops : Array Oper} {rest : List Oper} {o : Oper} {a : Act} {w : World} {Q : Exit → Act → World → Prop} (hw : Region.wanted o (yielded ops a.tmps) = true) (ty : TypeId) (x : Operand) (ho : o.op = .load ty x)
    (b k : Nat) (hx : a.eval x = .pointer (some ⟨b, k, none⟩)) (cs : List Value) (d : TypeDesc) (hc : w.rangeAt b k cs) (hu : Try.prog.underlying ty = some d) (hd : d.isRow = true) (n : Nat) (hi : (Try.prog.info? ty).map (·.size) = some n) (hn : cs.length = n)
    (h : wpList Try.prog ops Q rest (a.put o.dst (.agg cs.toArray)) w) : wpList Try.prog ops Q (o :: rest) a w :=
  BigFrame.wpList_want hw fun _ hK => wp_load_mid ty x ho b k hx cs d hc hu hd (by rw [hi, hn]) (hK _ _ h)
/-- A whole store into what has just been made. -/
theorem stm {ops : Array Oper} {rest : List Oper} {o : Oper} {a : Act} {w : World} {Q : Exit → Act → World → Prop} (hgd : o.guard = none) (ty : TypeId) (x y : Operand) (ho : o.op = .store ty x y)
    (old : Array Value) (cs : List Value) (hx : a.eval x = .pointer (some ⟨w.heap.size, 0, none⟩)) (hy : a.eval y = .agg cs.toArray) (n : Nat) (hi : (Try.prog.info? ty).map (·.size) = some n) (hn : cs.length = n) (hold : old.size = n) (h1 : cs.toArray.all (·.oneCell') = true)
    (h : wpList Try.prog ops Q rest (a.put o.dst undef) (w.alloc (.cells cs.toArray ty))) : wpList Try.prog ops Q (o :: rest) a (w.alloc (.cells old ty)) :=
  wpList_store_row hgd ty x y ho w.heap.size cs.toArray hx hy ty old (heap_alloc_new w _) (by rw [hi, List.size_toArray, hn]) (hold.trans (by rw [List.size_toArray]; exact hn.symm)) h1 (by rw [alloc_setRow]; exact h)
theorem three_in {a b t0 t1 t2 : Value} {R : List Value} (j : Nat) (u : Value) (h : [t0, t1, t2][j]? = some u) : (a :: b :: t0 :: t1 :: t2 :: R)[2 + j]? = some u := by
  have hj : j < 3 := by have := (List.getElem?_eq_some_iff.1 h).1; simpa using this
  match j, hj, h with
  | 0, _, h => exact h
  | 1, _, h => exact h
  | 2, _, h => exact h
theorem one_int (q : IntKind) (n : Int) : (Value.int q n).oneCell' = true := rfl
theorem one_slice (A : Option Addr) (n c : Nat) : (Value.slice A n c).oneCell' = true := rfl
theorem one_string (s : ByteArray) : (Value.string s).oneCell' = true := rfl
theorem VarAt.list {w : World} {lim : Nat} {v : Array Value} (h : VarAt w lim v) : ∃ (L T U : List Value) (s : ByteArray) (t : TT) (u : VT), v = L.toArray ∧ L.length = 11 ∧ L.toArray.all (·.oneCell') = true ∧ L[0]? = some (.string s) ∧ s.size ≤ maxLen ∧
    (∀ j u, T[j]? = some u → L[2 + j]? = some u) ∧ T.length = 3 ∧ TVal w lim T.toArray t ∧ (∀ j u, U[j]? = some u → L[5 + j]? = some u) ∧ U.length = 6 ∧ Val w lim U.toArray u := by
  obtain ⟨s, l, t0, t1, t2, a0, a1, a2, a3, a4, a5, t, u, rfl, hs, ht, hu⟩ := h
  have o1 := ht.one
  have o2 := hu.one
  simp only [Bool.and_eq_true] at o1 o2
  exact ⟨[.string s, .int .i64 l, t0, t1, t2, a0, a1, a2, a3, a4, a5], [t0, t1, t2], [a0, a1, a2, a3, a4, a5], s, t, u, rfl, rfl, (by rw [List.all_toArray]; simp only [List.all_cons, List.all_nil, one_int, one_string, o1, o2, Bool.and_true]), rfl, hs, three_in, rfl, ht, fun j u h => (by rw [show 5 + j = j + 5 by omega]; exact h), rfl, hu⟩
theorem MsgAt.list {w : World} {lim : Nat} {v : Array Value} (h : MsgAt w lim v) : ∃ (L T U : List Value) (s : ByteArray) (t u : TT), v = L.toArray ∧ L.length = 8 ∧ L.toArray.all (·.oneCell') = true ∧ L[0]? = some (.string s) ∧ s.size ≤ maxLen ∧
    (∀ j u, T[j]? = some u → L[2 + j]? = some u) ∧ T.length = 3 ∧ TVal w lim T.toArray t ∧ (∀ j u, U[j]? = some u → L[5 + j]? = some u) ∧ U.length = 3 ∧ TVal w lim U.toArray u := by
  obtain ⟨s, l, t0, t1, t2, u0, u1, u2, t, u, rfl, hs, ht, hu⟩ := h
  have o1 := ht.one
  have o2 := hu.one
  simp only [Bool.and_eq_true] at o1 o2
  exact ⟨[.string s, .int .i64 l, t0, t1, t2, u0, u1, u2], [t0, t1, t2], [u0, u1, u2], s, t, u, rfl, rfl, (by rw [List.all_toArray]; simp only [List.all_cons, List.all_nil, one_int, one_string, o1, o2, Bool.and_true]), rfl, hs, three_in, rfl, ht, fun j u h => (by rw [show 5 + j = j + 5 by omega]; exact h), rfl, hu⟩
theorem NodeAt.list {w : World} {lim : Nat} {v : Array Value} {d : NT} (h : NodeAt w lim v d) : ∃ (L E F : List Value) (A : Option Addr) (ca : Nat) (B : Option Addr) (m cb : Nat) (vs : Nat → Array Value) (xs : Nat → ET) (x y : ET),
    v = L.toArray ∧ L.length = 29 ∧ L.toArray.all (·.oneCell') = true ∧ L[2]? = some (.slice A d.c ca) ∧ L[3]? = some (.slice B m cb) ∧ L[26]? = some (.int .i64 d.k) ∧ L[27]? = some (.int .i64 d.t) ∧
    (∀ j u, E[j]? = some u → L[4 + j]? = some u) ∧ E.length = 10 ∧ EVal w lim E.toArray x ∧ (∀ j u, F[j]? = some u → L[14 + j]? = some u) ∧ F.length = 10 ∧ EVal w lim F.toArray y ∧
    (d.c ≤ ca ∧ ca ≤ maxLen) ∧ (0 < d.c → ∃ g o, A = some ⟨g, o, none⟩ ∧ g < lim ∧ ∀ j, j < d.c → w.cell? ⟨g, o + j, none⟩ = some (.int .i64 (d.f j))) ∧ (∀ j, j < d.c → Num (d.f j)) ∧
    (m ≤ cb ∧ cb ≤ maxLen) ∧ RowAt w lim 10 B m vs ∧ (∀ i, i < m → EVal w lim (vs i) (xs i)) ∧ Num d.k ∧ Num d.t := by
  cases h with
  | mk k l A c ca B m cb e0 e1 e2 e3 e4 e5 e6 e7 e8 e9 b0 b1 b2 b3 b4 b5 b6 b7 b8 b9 vr mg ct wt fr f vs xs x y hc hA hf hm hB hxs hx hy hct hwt =>
    have o1 := hx.one
    have o2 := hy.one
    simp only [Bool.and_eq_true] at o1 o2
    refine ⟨[.int .i64 k, .int .i64 l, .slice A c ca, .slice B m cb, e0, e1, e2, e3, e4, e5, e6, e7, e8, e9, b0, b1, b2, b3, b4, b5, b6, b7, b8, b9, .int .i64 vr, .int .i64 mg, .int .i64 ct, .int .i64 wt, .int .i64 fr], [e0, e1, e2, e3, e4, e5, e6, e7, e8, e9], [b0, b1, b2, b3, b4, b5, b6, b7, b8, b9], A, ca, B, m, cb, vs, xs, x, y, rfl, rfl, ?_, rfl, rfl, rfl, rfl,
      fun j u h => ?_, rfl, hx, fun j u h => ?_, rfl, hy, hc, hA, hf, hm, hB, hxs, hct, hwt⟩
    · rw [List.all_toArray]
      simp only [List.all_cons, List.all_nil, one_int, one_slice, o1, o2, Bool.and_true]
    · have hj : j < 10 := by have := (List.getElem?_eq_some_iff.1 h).1; simpa using this
      match j, hj, h with
      | 0, _, h => exact h
      | 1, _, h => exact h
      | 2, _, h => exact h
      | 3, _, h => exact h
      | 4, _, h => exact h
      | 5, _, h => exact h
      | 6, _, h => exact h
      | 7, _, h => exact h
      | 8, _, h => exact h
      | 9, _, h => exact h
    · have hj : j < 10 := by have := (List.getElem?_eq_some_iff.1 h).1; simpa using this
      match j, hj, h with
      | 0, _, h => exact h
      | 1, _, h => exact h
      | 2, _, h => exact h
      | 3, _, h => exact h
      | 4, _, h => exact h
      | 5, _, h => exact h
      | 6, _, h => exact h
      | 7, _, h => exact h
      | 8, _, h => exact h
      | 9, _, h => exact h
theorem RowAt.range {w : World} {C : Nat} {m : Nat} {vs : Nat → Array Value} {g o : Nat} (hx : ∀ i, i < m → ∀ j, j < C → w.cell? ⟨g, o + i * C + j, none⟩ = (vs i)[j]?) {i : Nat} (hi : i < m) {L : List Value} (hv : vs i = L.toArray) (hL : L.length = C) : w.rangeAt g (o + i * C) L := fun j v h => by
  rw [hx i hi j (by have := (List.getElem?_eq_some_iff.1 h).1; omega), hv]
  simpa using h
set_option maxRecDepth 20000 in
set_option maxHeartbeats 4000000 in
theorem small_in {lb : Int} {A : Option Addr} {a aa : Nat} {B : Option Addr} {b bb : Nat} {V : Option Addr} {p pp : Nat} {S : Option Addr} {q qq : Nat} {N : Option Addr} {n nn : Nat} {G : GT} (w : World) (h : ModelAt w w.heap.size (modelV lb A a aa B b bb V p pp S q qq N n nn) G)
    (ha : a ≤ 200) (hb : b ≤ 200) (hp : p ≤ 40) (hq : q ≤ 40) (hn : n ≤ 100) :
    Calls Try.prog 9 #[.agg (modelV lb A a aa B b bb V p pp S q qq N n nn)] w (SaysSmall G w) := by
  have ta : decide ((200 : Int) < (a : Int)) = false := decide_eq_false (by omega)
  have tb : decide ((200 : Int) < (b : Int)) = false := decide_eq_false (by omega)
  have tp : decide ((40 : Int) < (p : Int)) = false := decide_eq_false (by omega)
  have tq : decide ((40 : Int) < (q : Int)) = false := decide_eq_false (by omega)
  have tn : decide ((100 : Int) < (n : Int)) = false := decide_eq_false (by omega)
  obtain ⟨mv, hmv⟩ : ∃ mv, mv = modelV lb A a aa B b bb V p pp S q qq N n nn := ⟨_, rfl⟩
  have HMV := Lib.hid hmv
  rw [← hmv] at h
  have hk0 := Lib.hid (Kept.start (T := 27) h)
  clear h
  rw [show modelV lb A a aa B b bb V p pp S q qq N n nn = #[.int .i64 lb, .slice A a aa, .slice B b bb, .slice V p pp, .slice S q qq, .slice N n nn] from rfl]
  have hm2 : mv = #[.int .i64 lb, .slice A a aa, .slice B b bb, .slice V p pp, .slice S q qq, .slice N n nn] := hmv
  have HM2 := Lib.hid hm2
  clear hmv hm2
  go_enter Try.func9, Try.ntmps9
  go_wp2_with fail
  rw [← HM2.out]
  generalize w.alloc (.cells mv 27) = W1 at *
  obtain ⟨bx, hbx⟩ : ∃ bx, bx = w.heap.size := ⟨_, rfl⟩
  have HBX := Lib.hid hbx
  rw [← hbx]
  clear hbx
  go_loopw [3] (fun iv wr => ∃ i : Nat, i ≤ p ∧ iv = .int .i64 i ∧ Hid (Kept w wr mv G)) (fun iv _ => p - (intOf iv).toNat)
  case atStart => exact ⟨0, Nat.zero_le _, rfl, hk0⟩
  case round =>
    clear hk0
    obtain ⟨i, hi, rfl, hk⟩ := hrel
    have c3 : wr.cell? ⟨bx, 3, none⟩ = some (.slice V p pp) := by rw [HBX.out]; exact hk.out.cells 3 _ (by rw [HM2.out]; rfl)
    by_cases hlt : i < p
    · as_aux_lemma =>
        obtain ⟨⟨vs, hR, hvs⟩, _⟩ := (HMV.out ▸ hk.out.at_ : ModelAt wr wr.heap.size (modelV lb A a aa B b bb V p pp S q qq N n nn) G).parts
        obtain ⟨g, o, rfl, hg, hx⟩ := hR (by omega)
        obtain ⟨L, T, U, s, t, u, ev, hL, ho1, hc_0, hs, hpt0, hlen0, ht, hpt1, hlen1, hu⟩ := (hvs i hlt).list
        have hs2 : (s.size : Int) ≤ 9223372036854775807 := by unfold maxLen at hs; omega
        have hra := Lib.hid (RowAt.range hx hlt ev hL)
        have hLL := Lib.hid hL
        have ho := Lib.hid ho1
        obtain ⟨bn, hbn⟩ : ∃ bn, bn = wr.heap.size := ⟨_, rfl⟩
        have HBN := Lib.hid hbn
        clear hbn
        have hbA : Hid (Below wr.heap.size wr (wr.alloc (.cells L.toArray 64))) := Lib.hid ((Below.refl _ _).alloc (Nat.le_refl _) _)
        have hkA : Hid (Kept w (wr.alloc (.cells L.toArray 64)) mv G) := Lib.hid (hk.out.step hbA.out)
        have hnew : Hid (∀ W', Below (wr.alloc (.cells L.toArray 64)).heap.size (wr.alloc (.cells L.toArray 64)) W' → ∀ j u, L[j]? = some u → W'.cell? ⟨bn, j, none⟩ = some u) := Lib.hid fun W' hb j u e => by rw [HBN.out]; exact new_keeps hb (by simpa using e)
        have C0 : Hid (∀ W', Below wr.heap.size wr W' → Calls Try.prog 25 #[.agg T.toArray] W' (fun e w' => e = .returned (.bool (tsmallV t)) ∧ Below W'.heap.size W' w')) := Lib.hid fun W' hb => tsmall_any ((ht.stay hb).mono hb.size)
        generalize tsmallV t = z0 at C0
        have hl0 := Lib.hid hlen0
        have hin0 := Lib.hid hpt0
        have C1 : Hid (∀ W', Below wr.heap.size wr W' → Calls Try.prog 26 #[.agg U.toArray] W' (fun e w' => e = .returned (.bool (smallV u)) ∧ Below W'.heap.size W' w')) := Lib.hid fun W' hb => small_any ((hu.stay hb).mono hb.size)
        generalize smallV u = z1 at C1
        have hl1 := Lib.hid hlen1
        have hin1 := Lib.hid hpt1
        have hcl0 : Hid (L[0]? = some (.string s)) := Lib.hid hc_0
        clear ht hu hs hx hR hvs ev hL ho1 hc_0 hpt0 hpt1 hlen0 hlen1
        go_wp2_with (first | (refine ldm rfl 64 _ rfl g (o + i * 11) rfl L _ hra.out Try.underlying64 rfl 11 info64 hLL.out ?_) | (refine stm rfl 64 _ _ rfl _ L rfl rfl 11 info64 hLL.out rfl ho.out ?_; refine Hid.out ?_) | fail)
        refine Lib.hid ?_
        have yA_0 : (wr.alloc (.cells L.toArray 64)).cell? ⟨bn, 0, none⟩ = some (.string s) := hnew.out _ (Below.refl _ _) 0 _ hcl0.out
        have rg0 : Hid (∀ W', Below (wr.alloc (.cells L.toArray 64)).heap.size (wr.alloc (.cells L.toArray 64)) W' → W'.rangeAt bn 2 T) := Lib.hid fun W' hb j u e => hnew.out W' hb _ _ (hin0.out j u e)
        have rg1 : Hid (∀ W', Below (wr.alloc (.cells L.toArray 64)).heap.size (wr.alloc (.cells L.toArray 64)) W' → W'.rangeAt bn 5 U) := Lib.hid fun W' hb j u e => hnew.out W' hb _ _ (hin1.out j u e)
        rw [← HBN.out]
        have hrs := Lib.hid (Below.refl (wr.alloc (.cells L.toArray 64)).heap.size (wr.alloc (.cells L.toArray 64)))
        clear ho c3 hra hk
        generalize wr.alloc (.cells L.toArray 64) = wA at *
        by_cases ht0 : s.size ≤ 300
        · have tt0 : decide ((300 : Int) < (s.size : Int)) = false := decide_eq_false (by omega)
          cases z0
          · go_wp2_with (first | (refine ldm rfl 62 _ rfl bn 2 rfl T _ (rg0.out _ hrs.out) Try.underlying62 rfl 3 info62 hl0.out ?_; clear rg0) | (go_at_call 25; refine (C0.out _ (hbA.out)).mono ?_; rintro e v0 ⟨rfl, hv0⟩; clear C0; have hs0 := hrs.out.trans (hv0.mono hrs.out.size); have hq0 := hbA.out.trans (hv0.mono hbA.out.size)))
            go_ret
            exact ⟨false, rfl, (fun h => by cases h), hkA.out.box.trans ((show Below wA.heap.size wA v0 from hs0).mono hkA.out.box.size)⟩
          · cases z1
            · go_wp2_with (first | (refine ldm rfl 62 _ rfl bn 2 rfl T _ (rg0.out _ hrs.out) Try.underlying62 rfl 3 info62 hl0.out ?_; clear rg0) | (go_at_call 25; refine (C0.out _ (hbA.out)).mono ?_; rintro e v0 ⟨rfl, hv0⟩; clear C0; have hs0 := hrs.out.trans (hv0.mono hrs.out.size); have hq0 := hbA.out.trans (hv0.mono hbA.out.size)) | (refine ldm rfl 54 _ rfl bn 5 rfl U _ (rg1.out _ hs0) Try.underlying54 rfl 6 info54 hl1.out ?_; clear rg1) | (go_at_call 26; refine (C1.out _ (hq0)).mono ?_; rintro e v1 ⟨rfl, hv1⟩; clear C1; have hs1 := hs0.trans (hv1.mono hs0.size); have hq1 := hq0.trans (hv1.mono hq0.size)))
              go_ret
              exact ⟨false, rfl, (fun h => by cases h), hkA.out.box.trans ((show Below wA.heap.size wA v1 from hs1).mono hkA.out.box.size)⟩
            · go_wp2_with (first | (refine ldm rfl 62 _ rfl bn 2 rfl T _ (rg0.out _ hrs.out) Try.underlying62 rfl 3 info62 hl0.out ?_; clear rg0) | (go_at_call 25; refine (C0.out _ (hbA.out)).mono ?_; rintro e v0 ⟨rfl, hv0⟩; clear C0; have hs0 := hrs.out.trans (hv0.mono hrs.out.size); have hq0 := hbA.out.trans (hv0.mono hbA.out.size)) | (refine ldm rfl 54 _ rfl bn 5 rfl U _ (rg1.out _ hs0) Try.underlying54 rfl 6 info54 hl1.out ?_; clear rg1) | (go_at_call 26; refine (C1.out _ (hq0)).mono ?_; rintro e v1 ⟨rfl, hv1⟩; clear C1; have hs1 := hs0.trans (hv1.mono hs0.size); have hq1 := hq0.trans (hv1.mono hq0.size)))
              have hk1 : Hid (Kept w v1 mv G) := Lib.hid (hkA.out.step hs1)
              clear hkA hbA hnew
              go_roundw
              case rel => exact ⟨i + 1, by omega, by go_num, hk1⟩
              case measure => simp [intOf]; omega
        · have tt0 : decide ((300 : Int) < (s.size : Int)) = true := decide_eq_true (by omega)
          go_wp2_with fail
          go_ret
          exact ⟨false, rfl, (fun h => by cases h), hkA.out.box⟩
    · obtain rfl : p = i := by omega
      have hk0 := hk
      go_wp2_with fail
      clear hk c3
      go_loopw [5] (fun iv wr => ∃ i : Nat, i ≤ q ∧ iv = .int .i64 i ∧ Hid (Kept w wr mv G)) (fun iv _ => q - (intOf iv).toNat)
      case atStart => exact ⟨0, Nat.zero_le _, rfl, hk0⟩
      case round =>
        clear hk0
        obtain ⟨i, hi, rfl, hk⟩ := hrel
        have c3 : wr.cell? ⟨bx, 4, none⟩ = some (.slice S q qq) := by rw [HBX.out]; exact hk.out.cells 4 _ (by rw [HM2.out]; rfl)
        by_cases hlt : i < q
        · as_aux_lemma =>
            obtain ⟨_, ⟨vs, hR, hvs⟩, _⟩ := (HMV.out ▸ hk.out.at_ : ModelAt wr wr.heap.size (modelV lb A a aa B b bb V p pp S q qq N n nn) G).parts
            obtain ⟨g, o, rfl, hg, hx⟩ := hR (by omega)
            obtain ⟨L, T, U, s, t, u, ev, hL, ho1, hc_0, hs, hpt0, hlen0, ht, hpt1, hlen1, hu⟩ := (hvs i hlt).list
            have hs2 : (s.size : Int) ≤ 9223372036854775807 := by unfold maxLen at hs; omega
            have hra := Lib.hid (RowAt.range hx hlt ev hL)
            have hLL := Lib.hid hL
            have ho := Lib.hid ho1
            obtain ⟨bn, hbn⟩ : ∃ bn, bn = wr.heap.size := ⟨_, rfl⟩
            have HBN := Lib.hid hbn
            clear hbn
            have hbA : Hid (Below wr.heap.size wr (wr.alloc (.cells L.toArray 68))) := Lib.hid ((Below.refl _ _).alloc (Nat.le_refl _) _)
            have hkA : Hid (Kept w (wr.alloc (.cells L.toArray 68)) mv G) := Lib.hid (hk.out.step hbA.out)
            have hnew : Hid (∀ W', Below (wr.alloc (.cells L.toArray 68)).heap.size (wr.alloc (.cells L.toArray 68)) W' → ∀ j u, L[j]? = some u → W'.cell? ⟨bn, j, none⟩ = some u) := Lib.hid fun W' hb j u e => by rw [HBN.out]; exact new_keeps hb (by simpa using e)
            have C0 : Hid (∀ W', Below wr.heap.size wr W' → Calls Try.prog 25 #[.agg T.toArray] W' (fun e w' => e = .returned (.bool (tsmallV t)) ∧ Below W'.heap.size W' w')) := Lib.hid fun W' hb => tsmall_any ((ht.stay hb).mono hb.size)
            generalize tsmallV t = z0 at C0
            have hl0 := Lib.hid hlen0
            have hin0 := Lib.hid hpt0
            have C1 : Hid (∀ W', Below wr.heap.size wr W' → Calls Try.prog 25 #[.agg U.toArray] W' (fun e w' => e = .returned (.bool (tsmallV u)) ∧ Below W'.heap.size W' w')) := Lib.hid fun W' hb => tsmall_any ((hu.stay hb).mono hb.size)
            generalize tsmallV u = z1 at C1
            have hl1 := Lib.hid hlen1
            have hin1 := Lib.hid hpt1
            have hcl0 : Hid (L[0]? = some (.string s)) := Lib.hid hc_0
            clear ht hu hs hx hR hvs ev hL ho1 hc_0 hpt0 hpt1 hlen0 hlen1
            go_wp2_with (first | (refine ldm rfl 68 _ rfl g (o + i * 8) rfl L _ hra.out Try.underlying68 rfl 8 info68 hLL.out ?_) | (refine stm rfl 68 _ _ rfl _ L rfl rfl 8 info68 hLL.out rfl ho.out ?_; refine Hid.out ?_) | fail)
            refine Lib.hid ?_
            have yA_0 : (wr.alloc (.cells L.toArray 68)).cell? ⟨bn, 0, none⟩ = some (.string s) := hnew.out _ (Below.refl _ _) 0 _ hcl0.out
            have rg0 : Hid (∀ W', Below (wr.alloc (.cells L.toArray 68)).heap.size (wr.alloc (.cells L.toArray 68)) W' → W'.rangeAt bn 2 T) := Lib.hid fun W' hb j u e => hnew.out W' hb _ _ (hin0.out j u e)
            have rg1 : Hid (∀ W', Below (wr.alloc (.cells L.toArray 68)).heap.size (wr.alloc (.cells L.toArray 68)) W' → W'.rangeAt bn 5 U) := Lib.hid fun W' hb j u e => hnew.out W' hb _ _ (hin1.out j u e)
            rw [← HBN.out]
            have hrs := Lib.hid (Below.refl (wr.alloc (.cells L.toArray 68)).heap.size (wr.alloc (.cells L.toArray 68)))
            clear ho c3 hra hk
            generalize wr.alloc (.cells L.toArray 68) = wA at *
            by_cases ht0 : s.size ≤ 300
            · have tt0 : decide ((300 : Int) < (s.size : Int)) = false := decide_eq_false (by omega)
              cases z0
              · go_wp2_with (first | (refine ldm rfl 62 _ rfl bn 2 rfl T _ (rg0.out _ hrs.out) Try.underlying62 rfl 3 info62 hl0.out ?_; clear rg0) | (go_at_call 25; refine (C0.out _ (hbA.out)).mono ?_; rintro e v0 ⟨rfl, hv0⟩; clear C0; have hs0 := hrs.out.trans (hv0.mono hrs.out.size); have hq0 := hbA.out.trans (hv0.mono hbA.out.size)))
                go_ret
                exact ⟨false, rfl, (fun h => by cases h), hkA.out.box.trans ((show Below wA.heap.size wA v0 from hs0).mono hkA.out.box.size)⟩
              · cases z1
                · go_wp2_with (first | (refine ldm rfl 62 _ rfl bn 2 rfl T _ (rg0.out _ hrs.out) Try.underlying62 rfl 3 info62 hl0.out ?_; clear rg0) | (go_at_call 25; refine (C0.out _ (hbA.out)).mono ?_; rintro e v0 ⟨rfl, hv0⟩; clear C0; have hs0 := hrs.out.trans (hv0.mono hrs.out.size); have hq0 := hbA.out.trans (hv0.mono hbA.out.size)) | (refine ldm rfl 62 _ rfl bn 5 rfl U _ (rg1.out _ hs0) Try.underlying62 rfl 3 info62 hl1.out ?_; clear rg1) | (go_at_call 25; refine (C1.out _ (hq0)).mono ?_; rintro e v1 ⟨rfl, hv1⟩; clear C1; have hs1 := hs0.trans (hv1.mono hs0.size); have hq1 := hq0.trans (hv1.mono hq0.size)))
                  go_ret
                  exact ⟨false, rfl, (fun h => by cases h), hkA.out.box.trans ((show Below wA.heap.size wA v1 from hs1).mono hkA.out.box.size)⟩
                · go_wp2_with (first | (refine ldm rfl 62 _ rfl bn 2 rfl T _ (rg0.out _ hrs.out) Try.underlying62 rfl 3 info62 hl0.out ?_; clear rg0) | (go_at_call 25; refine (C0.out _ (hbA.out)).mono ?_; rintro e v0 ⟨rfl, hv0⟩; clear C0; have hs0 := hrs.out.trans (hv0.mono hrs.out.size); have hq0 := hbA.out.trans (hv0.mono hbA.out.size)) | (refine ldm rfl 62 _ rfl bn 5 rfl U _ (rg1.out _ hs0) Try.underlying62 rfl 3 info62 hl1.out ?_; clear rg1) | (go_at_call 25; refine (C1.out _ (hq0)).mono ?_; rintro e v1 ⟨rfl, hv1⟩; clear C1; have hs1 := hs0.trans (hv1.mono hs0.size); have hq1 := hq0.trans (hv1.mono hq0.size)))
                  have hk1 : Hid (Kept w v1 mv G) := Lib.hid (hkA.out.step hs1)
                  clear hkA hbA hnew
                  go_roundw
                  case rel => exact ⟨i + 1, by omega, by go_num, hk1⟩
                  case measure => simp [intOf]; omega
            · have tt0 : decide ((300 : Int) < (s.size : Int)) = true := decide_eq_true (by omega)
              go_wp2_with fail
              go_ret
              exact ⟨false, rfl, (fun h => by cases h), hkA.out.box⟩
        · obtain rfl : q = i := by omega
          have hk0 := hk
          go_wp2_with fail
          clear hk c3
          go_loopw [7] (fun iv wr => ∃ i : Nat, i ≤ n ∧ iv = .int .i64 i ∧ Hid (Kept w wr mv G) ∧ Hid (∀ j, j < i → (G.d j).c ≤ 40)) (fun iv _ => n - (intOf iv).toNat)
          case atStart => exact ⟨0, Nat.zero_le _, rfl, hk0, Lib.hid (fun j hj => absurd hj (Nat.not_lt_zero _))⟩
          case round =>
            clear hk0
            obtain ⟨i, hi, rfl, hk, hcs⟩ := hrel
            have c3 : wr.cell? ⟨bx, 5, none⟩ = some (.slice N n nn) := by rw [HBX.out]; exact hk.out.cells 5 _ (by rw [HM2.out]; rfl)
            by_cases hlt : i < n
            · as_aux_lemma =>
                obtain ⟨_, _, ⟨hGn, _⟩, ns, hR, hns⟩ := (HMV.out ▸ hk.out.at_ : ModelAt wr wr.heap.size (modelV lb A a aa B b bb V p pp S q qq N n nn) G).parts
                obtain ⟨g, o, rfl, hg, hx⟩ := hR (by omega)
                obtain ⟨L, E, F, A1, ca, B1, m1, cb, vs1, xs1, x1, y1, ev, hL, ho1, hc_2, hc_3, _, _, hpt0, hlen0, hx1, hpt1, hlen1, hy1, _, _, _, _, hrB1, hxB1, _, _⟩ := (hns i hlt).list
                obtain ⟨c1, hcc1⟩ : ∃ c, (G.d i).c = c := ⟨_, rfl⟩
                have hcc := Lib.hid hcc1
                rw [hcc1] at hc_2
                have hrB := Lib.hid hrB1
                have hxB := Lib.hid hxB1
                clear hcc1 hrB1 hxB1
                have hra := Lib.hid (RowAt.range hx hlt ev hL)
                have hLL := Lib.hid hL
                have ho := Lib.hid ho1
                obtain ⟨bn, hbn⟩ : ∃ bn, bn = wr.heap.size := ⟨_, rfl⟩
                have HBN := Lib.hid hbn
                clear hbn
                have hbA : Hid (Below wr.heap.size wr (wr.alloc (.cells L.toArray 58))) := Lib.hid ((Below.refl _ _).alloc (Nat.le_refl _) _)
                have hkA : Hid (Kept w (wr.alloc (.cells L.toArray 58)) mv G) := Lib.hid (hk.out.step hbA.out)
                have hnew : Hid (∀ W', Below (wr.alloc (.cells L.toArray 58)).heap.size (wr.alloc (.cells L.toArray 58)) W' → ∀ j u, L[j]? = some u → W'.cell? ⟨bn, j, none⟩ = some u) := Lib.hid fun W' hb j u e => by rw [HBN.out]; exact new_keeps hb (by simpa using e)
                have C0 : Hid (∀ W', Below wr.heap.size wr W' → Calls Try.prog 27 #[.agg E.toArray] W' (fun e w' => e = .returned (.bool (smallE x1)) ∧ Below W'.heap.size W' w')) := Lib.hid fun W' hb => Small_e _ _ _ ((hx1.stay hb).mono hb.size)
                generalize smallE x1 = z0 at C0
                have hl0 := Lib.hid hlen0
                have hin0 := Lib.hid hpt0
                have C1 : Hid (∀ W', Below wr.heap.size wr W' → Calls Try.prog 27 #[.agg F.toArray] W' (fun e w' => e = .returned (.bool (smallE y1)) ∧ Below W'.heap.size W' w')) := Lib.hid fun W' hb => Small_e _ _ _ ((hy1.stay hb).mono hb.size)
                generalize smallE y1 = z1 at C1
                have hl1 := Lib.hid hlen1
                have hin1 := Lib.hid hpt1
                have hcl2 : Hid (L[2]? = some (.slice A1 c1 ca)) := Lib.hid hc_2
                have hcl3 : Hid (L[3]? = some (.slice B1 m1 cb)) := Lib.hid hc_3
                clear hx1 hy1 hx hR hns ev hL ho1 hc_2 hc_3 hpt0 hpt1 hlen0 hlen1 hGn
                go_wp2_with (first | (refine ldm rfl 58 _ rfl g (o + i * 29) rfl L _ hra.out Try.underlying58 rfl 29 info58 hLL.out ?_) | (refine stm rfl 58 _ _ rfl _ L rfl rfl 29 info58 hLL.out rfl ho.out ?_; refine Hid.out ?_) | fail)
                refine Lib.hid ?_
                have yA_2 : (wr.alloc (.cells L.toArray 58)).cell? ⟨bn, 2, none⟩ = some (.slice A1 c1 ca) := hnew.out _ (Below.refl _ _) 2 _ hcl2.out
                have yA_3 : (wr.alloc (.cells L.toArray 58)).cell? ⟨bn, 3, none⟩ = some (.slice B1 m1 cb) := hnew.out _ (Below.refl _ _) 3 _ hcl3.out
                have rg0 : Hid (∀ W', Below (wr.alloc (.cells L.toArray 58)).heap.size (wr.alloc (.cells L.toArray 58)) W' → W'.rangeAt bn 4 E) := Lib.hid fun W' hb j u e => hnew.out W' hb _ _ (hin0.out j u e)
                have rg1 : Hid (∀ W', Below (wr.alloc (.cells L.toArray 58)).heap.size (wr.alloc (.cells L.toArray 58)) W' → W'.rangeAt bn 14 F) := Lib.hid fun W' hb j u e => hnew.out W' hb _ _ (hin1.out j u e)
                rw [← HBN.out]
                have hrs := Lib.hid (Below.refl (wr.alloc (.cells L.toArray 58)).heap.size (wr.alloc (.cells L.toArray 58)))
                clear ho c3 hra hk
                generalize wr.alloc (.cells L.toArray 58) = wA at *
                by_cases ht0 : c1 ≤ 40
                · have tt0 : decide ((40 : Int) < (c1 : Int)) = false := decide_eq_false (by omega)
                  by_cases ht1 : m1 ≤ 40
                  · have tt1 : decide ((40 : Int) < (m1 : Int)) = false := decide_eq_false (by omega)
                    cases z0
                    · go_wp2_with (first | (refine ldm rfl 56 _ rfl bn 4 rfl E _ (rg0.out _ hrs.out) Try.underlying56 rfl 10 info56 hl0.out ?_; clear rg0) | (go_at_call 27; refine (C0.out _ (hbA.out)).mono ?_; rintro e v0 ⟨rfl, hv0⟩; clear C0; have hs0 := hrs.out.trans (hv0.mono hrs.out.size); have hq0 := hbA.out.trans (hv0.mono hbA.out.size)))
                      go_ret
                      exact ⟨false, rfl, (fun h => by cases h), hkA.out.box.trans ((show Below wA.heap.size wA v0 from hs0).mono hkA.out.box.size)⟩
                    · cases z1
                      · go_wp2_with (first | (refine ldm rfl 56 _ rfl bn 4 rfl E _ (rg0.out _ hrs.out) Try.underlying56 rfl 10 info56 hl0.out ?_; clear rg0) | (go_at_call 27; refine (C0.out _ (hbA.out)).mono ?_; rintro e v0 ⟨rfl, hv0⟩; clear C0; have hs0 := hrs.out.trans (hv0.mono hrs.out.size); have hq0 := hbA.out.trans (hv0.mono hbA.out.size)) | (refine ldm rfl 56 _ rfl bn 14 rfl F _ (rg1.out _ hs0) Try.underlying56 rfl 10 info56 hl1.out ?_; clear rg1) | (go_at_call 27; refine (C1.out _ (hq0)).mono ?_; rintro e v1 ⟨rfl, hv1⟩; clear C1; have hs1 := hs0.trans (hv1.mono hs0.size); have hq1 := hq0.trans (hv1.mono hq0.size); have y3 := hnew.out _ hs1 3 _ hcl3.out))
                        go_ret
                        exact ⟨false, rfl, (fun h => by cases h), hkA.out.box.trans ((show Below wA.heap.size wA v1 from hs1).mono hkA.out.box.size)⟩
                      · go_wp2_with (first | (refine ldm rfl 56 _ rfl bn 4 rfl E _ (rg0.out _ hrs.out) Try.underlying56 rfl 10 info56 hl0.out ?_; clear rg0) | (go_at_call 27; refine (C0.out _ (hbA.out)).mono ?_; rintro e v0 ⟨rfl, hv0⟩; clear C0; have hs0 := hrs.out.trans (hv0.mono hrs.out.size); have hq0 := hbA.out.trans (hv0.mono hbA.out.size)) | (refine ldm rfl 56 _ rfl bn 14 rfl F _ (rg1.out _ hs0) Try.underlying56 rfl 10 info56 hl1.out ?_; clear rg1) | (go_at_call 27; refine (C1.out _ (hq0)).mono ?_; rintro e v1 ⟨rfl, hv1⟩; clear C1; have hs1 := hs0.trans (hv1.mono hs0.size); have hq1 := hq0.trans (hv1.mono hq0.size); have y3 := hnew.out _ hs1 3 _ hcl3.out))
                        have hk1 : Hid (Kept w v1 mv G) := Lib.hid (hkA.out.step hs1)
                        have hcb : Hid (∀ W', Below v1.heap.size v1 W' → W'.cell? ⟨bn, 3, none⟩ = some (.slice B1 m1 cb)) := Lib.hid fun W' hb => hnew.out _ (hs1.trans (hb.mono hs1.size)) 3 _ hcl3.out
                        have hrow : Hid (∀ W', Below v1.heap.size v1 W' → RowAt W' W'.heap.size 10 B1 m1 vs1 ∧ ∀ j, j < m1 → EVal W' W'.heap.size (vs1 j) (xs1 j)) := Lib.hid fun W' hb => by
                          have hb' := hq1.trans (hb.mono hq1.size)
                          exact ⟨(hrB.out.keep fun g o hg => hb'.cell (p := ⟨g, o, none⟩) hg).mono hb'.size, fun j hj => ((hxB.out j hj).stay hb').mono hb'.size⟩
                        have hcs2 : Hid (∀ j, j < i + 1 → (G.d j).c ≤ 40) := Lib.hid fun j hj => by
                          by_cases e : j = i
                          · subst e; rw [hcc.out]; exact ht0
                          · exact hcs.out j (by omega)
                        clear hkA hbA hnew hcs hrB hxB hs0 hs1 hq0 hq1 hv0 hv1 y3
                        go_loopw [9] (fun jv wj => ∃ j : Nat, j ≤ m1 ∧ jv = .int .i64 j ∧ Hid (Below v1.heap.size v1 wj)) (fun jv _ => m1 - (intOf jv).toNat)
                        case atStart => exact ⟨0, Nat.zero_le _, rfl, Lib.hid (Below.refl _ _)⟩
                        case round =>
                          obtain ⟨j, hj, rfl, hbj⟩ := hrel
                          have c3 := hcb.out _ hbj.out
                          have hkj : Hid (Kept w wr mv G) := Lib.hid (hk1.out.step hbj.out)
                          by_cases hjl : j < m1
                          · obtain ⟨hR, hE⟩ := hrow.out _ hbj.out
                            obtain ⟨g, o, rfl, hg, hx⟩ := hR (by omega)
                            have hej := hE j hjl
                            obtain ⟨M, hM⟩ : ∃ M : List Value, vs1 j = M.toArray := ⟨(vs1 j).toList, rfl⟩
                            have hMl : M.length = 10 := by
                              obtain ⟨d0, d1, d2, d3, d4, d5, d6, d7, d8, d9, hv⟩ := hej.ten
                              rw [hM] at hv
                              have := congrArg Array.size hv
                              simpa using this
                            have hra := Lib.hid (RowAt.range hx hjl hM hMl)
                            have hMM := Lib.hid hMl
                            rw [hM] at hej
                            have CC := Small_e _ _ _ hej
                            have HCC := Lib.hid CC
                            clear CC hx hM hMl hej hE hR
                            generalize smallE (xs1 j) = z at HCC
                            cases z
                            · go_wp2_with (first | (refine ldm rfl 56 _ rfl g (o + j * 10) rfl M _ hra.out Try.underlying56 rfl 10 info56 hMM.out ?_) | (go_at_call 27; refine HCC.out.mono ?_; rintro e v2 ⟨rfl, hv2⟩) | fail)
                              go_ret
                              exact ⟨false, rfl, (fun h => by cases h), hkj.out.box.trans (hv2.mono hkj.out.box.size)⟩
                            · go_wp2_with (first | (refine ldm rfl 56 _ rfl g (o + j * 10) rfl M _ hra.out Try.underlying56 rfl 10 info56 hMM.out ?_) | (go_at_call 27; refine HCC.out.mono ?_; rintro e v2 ⟨rfl, hv2⟩) | fail)
                              have hbj2 := Lib.hid (hbj.out.trans (hv2.mono hbj.out.size))
                              go_roundw
                              case rel => exact ⟨j + 1, by omega, by go_num, hbj2⟩
                              case measure => simp [intOf]; omega
                          · go_wp2_with fail
                            go_roundw
                            case rel => exact ⟨i + 1, by omega, by go_num, hkj, hcs2⟩
                            case measure => simp [intOf]; omega
                  · have tt1 : decide ((40 : Int) < (m1 : Int)) = true := decide_eq_true (by omega)
                    go_wp2_with fail
                    go_ret
                    exact ⟨false, rfl, (fun h => by cases h), hkA.out.box⟩
                · have tt0 : decide ((40 : Int) < (c1 : Int)) = true := decide_eq_true (by omega)
                  go_wp2_with fail
                  go_ret
                  exact ⟨false, rfl, (fun h => by cases h), hkA.out.box⟩
            · obtain ⟨_, _, ⟨hGn, _⟩, _⟩ := (HMV.out ▸ hk.out.at_ : ModelAt wr wr.heap.size (modelV lb A a aa B b bb V p pp S q qq N n nn) G).parts
              obtain rfl : n = i := by omega
              have hfew : Hid (fewB G) := Lib.hid ⟨by rw [hGn]; exact hn, fun j hj => by have := hcs.out j (by rw [← hGn]; exact hj); split <;> omega⟩
              clear hcs hGn
              go_wp2_with fail
              go_ret
              exact ⟨true, rfl, fun _ => hfew.out, hk.out.box⟩
theorem MSmall_any {v : Array Value} {G : GT} (w : World) (h : ModelAt w w.heap.size v G) : Calls Try.prog 9 #[.agg v] w (SaysSmall G w) := by
  have h0 := h
  cases h with
  | mk lb A a aa B b bb V p pp S q qq N n nn vs ms ns d ha hb hp hq hn hV hvs hS hms hN hns =>
    by_cases h1 : a ≤ 200
    · by_cases h2 : b ≤ 200
      · by_cases h3 : p ≤ 40
        · by_cases h4 : q ≤ 40
          · by_cases h5 : n ≤ 100
            · exact small_in w h0 h1 h2 h3 h4 h5
            · exact small_n w h1 h2 h3 h4 (by omega)
          · exact small_q w h1 h2 h3 (by omega)
        · exact small_p w h1 h2 (by omega)
      · exact small_b w h1 (by omega)
    · exact small_a w (by omega)
end Go.Proofs.Ytmbjmibjobpdgaa
