/-
  Lists of tokens in memory; the document's SameToken and Same where both are one.
  The document's Parser: its state in memory, trees that it made, boxes of expressions.
  The document's Parser: is, take, down, two, con.
  The document's Parser: two, con.
  The document's Parser, plainly, as far as it is asked here (a part of the grammar; nothing where it would go on otherwise); what its calls leave.
  The document's Parser: the calls that hand on what binds more.
  The document's Parser: unary, Expr, cmp, sum.
-/
import Derived.Test.YtcmohggnehkjeaaGreatUl
import Derived.StillTailTactics
import Derived.Test.YtcmohggnehkjeaaGreatXm
import Derived.Deep.RegionHeld3
import Derived.Laws.Tables
import Derived.Deep.LoopGhost
namespace Go.Proofs.YtcmohggnehkjeaaGreat
open Go.RowKit

/-- Six cells. -/
def Six (w : World) (g o : Nat) (b : Nat) (t : Tk) : Prop :=
  w.cell? ⟨g, o, none⟩ = some (.int .i64 t.k) ∧ w.cell? ⟨g, o + 1, none⟩ = some (.int .i64 b) ∧ w.cell? ⟨g, o + 2, none⟩ = some (.int .i64 ((b + t.len : Nat) : Int)) ∧ w.cell? ⟨g, o + 3, none⟩ = some (.int .i64 t.n) ∧ w.cell? ⟨g, o + 4, none⟩ = some (.float .f64 t.f) ∧ w.cell? ⟨g, o + 5, none⟩ = some (.string (strL t.s))
theorem Six.keep {w w' : World} {g o b : Nat} {t : Tk} (h : Six w g o b t) (hb : Below w.heap.size w w') (hg : g < w.heap.size) : Six w' g o b t := by
  obtain ⟨h0, h1, h2, h3, h4, h5⟩ := h
  exact ⟨(hb.cell (p := ⟨g, o, none⟩) hg).trans h0, (hb.cell (p := ⟨g, o + 1, none⟩) hg).trans h1, (hb.cell (p := ⟨g, o + 2, none⟩) hg).trans h2, (hb.cell (p := ⟨g, o + 3, none⟩) hg).trans h3, (hb.cell (p := ⟨g, o + 4, none⟩) hg).trans h4, (hb.cell (p := ⟨g, o + 5, none⟩) hg).trans h5⟩
/-- A slice that holds these tokens. -/
def TAt (w : World) (v : Value) (ts : List (Nat × Tk)) : Prop :=
  ∃ A cap, v = .slice A ts.length cap ∧ ts.length ≤ cap ∧ cap ≤ maxLen ∧ (0 < ts.length → ∃ g, A = some ⟨g, 0, none⟩ ∧ g < w.heap.size ∧ ∀ i (h : i < ts.length), Six w g (i * 6) ts[i].1 ts[i].2)
theorem TAt.stay {w w' : World} {v : Value} {ts : List (Nat × Tk)} (h : TAt w v ts) (hb : Below w.heap.size w w') : TAt w' v ts := by
  obtain ⟨A, cap, e, h1, h2, h3⟩ := h
  refine ⟨A, cap, e, h1, h2, fun h0 => ?_⟩
  obtain ⟨g, e, hg, hx⟩ := h3 h0
  exact ⟨g, e, Nat.lt_of_lt_of_le hg hb.size, fun i hi => (hx i hi).keep hb hg⟩
theorem toksV_at : ∀ (ts : List (Nat × Tk)) (i : Nat) (h : i < ts.length) (j : Nat) (u : Value), (tkV ts[i].1 ts[i].2).toList[j]? = some u → (toksV ts)[i * 6 + j]? = some u
  | [], i, h, _, _, _ => absurd h (Nat.not_lt_zero _)
  | (b, t) :: ts, 0, h, j, u, hu => by
    show ((tkV b t).toList ++ toksV ts)[0 * 6 + j]? = _
    have hu' : (tkV b t).toList[j]? = some u := hu
    have hj := (List.getElem?_eq_some_iff.1 hu').1
    rw [Nat.zero_mul, Nat.zero_add, List.getElem?_append_left hj]
    exact hu'
  | (b, t) :: ts, i + 1, h, j, u, hu => by
    show ((tkV b t).toList ++ toksV ts)[(i + 1) * 6 + j]? = _
    have h6 : (tkV b t).toList.length = 6 := rfl
    rw [List.getElem?_append_right (by omega), h6, show (i + 1) * 6 + j - 6 = i * 6 + j by omega]
    exact toksV_at ts i (by simpa using h) j u hu
theorem TAt.of_own {w : World} {base : Nat} {v : Value} {ts : List (Nat × Tk)} (h : w.ownsRow base 174 6 v ts.length (toksV ts)) : TAt w v ts := by
  have h0 := h
  rcases h.2 with ⟨rfl, hn⟩ | ⟨g, cap, cur, rfl, hg, hh, hn, hm, hc, ht⟩
  · have : ts = [] := List.length_eq_zero_iff.1 hn
    subst this
    exact ⟨none, 0, rfl, Nat.le_refl _, Nat.zero_le _, fun h => absurd h (Nat.lt_irrefl 0)⟩
  · refine ⟨_, cap, rfl, hn, hm, fun _ => ⟨g, rfl, (h0.lt g rfl).2, fun i hi => ?_⟩⟩
    have key : ∀ j u, (tkV ts[i].1 ts[i].2).toList[j]? = some u → w.cell? ⟨g, i * 6 + j, none⟩ = some u := fun j u hu => by
      have := h0.cells (g := g) rfl (i * 6 + j) u (toksV_at ts i hi j u hu)
      rw [Addr.add_lit, Nat.zero_add] at this
      exact this
    exact ⟨key 0 _ rfl, key 1 _ rfl, key 2 _ rfl, key 3 _ rfl, key 4 _ rfl, key 5 _ rfl⟩
end Go.Proofs.YtcmohggnehkjeaaGreat
namespace Go.Proofs.YtcmohggnehkjeaaGreat
open Go.RowKit

/-- But for block g all that was there is as it was. -/
structure Pst (g : Nat) (w w' : World) : Prop where
  os : w'.os = w.os
  tape : w'.tape = w.tape
  output : w'.output = w.output
  size : w.heap.size ≤ w'.heap.size
  block : ∀ k, k < w.heap.size → k ≠ g → w'.heap[k]? = w.heap[k]?
theorem Pst.refl (g : Nat) (w : World) : Pst g w w := ⟨rfl, rfl, rfl, Nat.le_refl _, fun _ _ _ => rfl⟩
theorem Pst.trans {g : Nat} {a b c : World} (h : Pst g a b) (k : Pst g b c) : Pst g a c :=
  ⟨k.os.trans h.os, k.tape.trans h.tape, k.output.trans h.output, Nat.le_trans h.size k.size, fun i hi hn => (k.block i (by have := h.size; omega) hn).trans (h.block i hi hn)⟩
theorem Pst.drew {g : Nat} {a w : World} (h : Pst g a w) : Pst g a w.drew := ⟨h.os, h.tape, h.output, h.size, h.block⟩
theorem Pst.set {g : Nat} {a w : World} (h : Pst g a w) (o : Nat) (v : Value) : Pst g a (w.setCell ⟨g, o, none⟩ v) :=
  h.trans ⟨rfl, rfl, rfl, by simp [World.setCell], fun k _ hn => Below.heap_setCell _ _ _ _ hn⟩
theorem Pst.alloc {g : Nat} {a w : World} (h : Pst g a w) (x : Obj) : Pst g a (w.alloc x) :=
  h.trans ⟨rfl, rfl, rfl, by simp, fun k hk _ => Below.heap_alloc _ _ _ hk⟩
theorem Pst.row {g : Nat} {a w : World} (h : Pst g a w) {R : Nat} (hR : a.heap.size ≤ R) (v : Array Value) : Pst g a (w.setRow R v) :=
  ⟨h.os, h.tape, h.output, by have := h.size; simpa [World.setRow] using this, fun k hk hn => (setRow_other w R k v (by omega)).trans (h.block k hk hn)⟩
theorem Pst.below {g : Nat} {w w' : World} (h : Pst g w w') {B : Nat} (hB : B ≤ g) (hg : g < w.heap.size) : Below B w w' :=
  ⟨h.os, h.tape, h.output, h.size, fun k hk => h.block k (by omega) (by omega)⟩
theorem Pst.of_below {g : Nat} {w w' : World} (h : Below w.heap.size w w') : Pst g w w' := ⟨h.os, h.tape, h.output, h.size, fun k hk _ => h.block k hk⟩

/-- The parser's block: its tokens, which is next, where the text ends, no error, how many are within one another. -/
def pcells (L : Value) (en : Int) (i d : Nat) : Array Value := #[L, .int .i64 i, .int .i64 en, .int .i64 0, .int .i64 0, .int .i64 d]
structure PS (w : World) (P : Nat) (L : Value) (ts : List (Nat × Tk)) (en : Int) (i d : Nat) : Prop where
  box : w.heap[P]? = some (.cells (pcells L en i d) 144 (0, 0))
  toks : ∃ A cap, L = .slice A ts.length cap ∧ ts.length ≤ 2000 ∧ ts.length ≤ cap ∧ cap ≤ maxLen ∧ (0 < ts.length → ∃ g, A = some ⟨g, 0, none⟩ ∧ g < P ∧ ∀ i (h : i < ts.length), Six w g (i * 6) ts[i].1 ts[i].2)
theorem Six.of {w w' : World} {g o b : Nat} {t : Tk} (h : Six w g o b t) (hg : w'.heap[g]? = w.heap[g]?) : Six w' g o b t := by
  have hc : ∀ o, w'.cell? ⟨g, o, none⟩ = w.cell? ⟨g, o, none⟩ := fun o => World.cell?_of_block (w := w) (a := ⟨g, o, none⟩) hg
  obtain ⟨h0, h1, h2, h3, h4, h5⟩ := h
  exact ⟨(hc _).trans h0, (hc _).trans h1, (hc _).trans h2, (hc _).trans h3, (hc _).trans h4, (hc _).trans h5⟩
section
variable {w w' : World} {P : Nat} {L : Value} {ts : List (Nat × Tk)} {en : Int} {i d : Nat}
theorem PS.lt (h : PS w P L ts en i d) : P < w.heap.size := (Array.getElem?_eq_some_iff.1 h.box).1
theorem PS.of (h : PS w P L ts en i d) (hb : ∀ k, k < P → w'.heap[k]? = w.heap[k]?) {i' d' : Nat} (hx : w'.heap[P]? = some (.cells (pcells L en i' d') 144 (0, 0))) : PS w' P L ts en i' d' := by
  obtain ⟨A, cap, e, h0, h1, h2, h3⟩ := h.toks
  refine ⟨hx, A, cap, e, h0, h1, h2, fun hp => ?_⟩
  obtain ⟨g, e, hg, hx⟩ := h3 hp
  exact ⟨g, e, hg, fun i hi => (hx i hi).of (hb g hg)⟩
theorem PS.stay (h : PS w P L ts en i d) (hb : Below w.heap.size w w') : PS w' P L ts en i d :=
  h.of (fun k hk => hb.block k (by have := h.lt; omega)) ((hb.block P h.lt).trans h.box)
theorem PS.row (h : PS w P L ts en i d) {R : Nat} (hR : P < R) (v : Array Value) : PS (w.setRow R v) P L ts en i d :=
  h.of (fun k hk => setRow_other w R k v (by omega)) ((setRow_other w R P v (by omega)).trans h.box)
theorem PS.cells (h : PS w P L ts en i d) : w.cell? ⟨P, 0, none⟩ = some L ∧ w.cell? ⟨P, 1, none⟩ = some (.int .i64 i) ∧ w.cell? ⟨P, 2, none⟩ = some (.int .i64 en) ∧ w.cell? ⟨P, 3, none⟩ = some (.int .i64 0) ∧ w.cell? ⟨P, 4, none⟩ = some (.int .i64 0) ∧ w.cell? ⟨P, 5, none⟩ = some (.int .i64 d) ∧ ∀ o, w.frozen? ⟨P, o, none⟩ = false := by
  have hx := h.box
  unfold pcells at hx
  refine ⟨?_, ?_, ?_, ?_, ?_, ?_, fun o => ?_⟩
  all_goals first | (simp [World.cell?, hx]; done) | (simp [World.frozen?, hx]; done)
theorem PS.set1 (h : PS w P L ts en i d) (j : Nat) : PS (w.setCell ⟨P, 1, none⟩ (.int .i64 j)) P L ts en j d := by
  refine h.of (fun k hk => Below.heap_setCell _ _ _ _ (by simp; omega)) ?_
  have hx := h.box
  simp [World.setCell, Array.getElem?_modify, hx, pcells]
theorem PS.set5 (h : PS w P L ts en i d) (j : Nat) : PS (w.setCell ⟨P, 5, none⟩ (.int .i64 j)) P L ts en i j := by
  refine h.of (fun k hk => Below.heap_setCell _ _ _ _ (by simp; omega)) ?_
  have hx := h.box
  simp [World.setCell, Array.getElem?_modify, hx, pcells]
end

/-- A value without names and items. -/
def leafV (k n : Int) (f : Nat) (s : ByteArray) : VT := .mk k n f s 0 (fun _ => ⟨#[]⟩) 0 (fun _ => .bad)
/-- An expression that the parser made (its constant has no items, it has no names), in blocks that meet Q. -/
inductive EOwn (w : World) (Q : Nat → Prop) : Array Value → ET → Prop
  | mk (k : Int) (s : ByteArray) (vk vn : Int) (vf : Nat) (vs : ByteArray) (B : Option Addr) (m cb : Nat) (xs : Nat → ET) (vss : Nat → Array Value)
      (hk : -9223372036854775808 ≤ k ∧ k ≤ 9223372036854775807) (hs : s.size ≤ maxLen) (hvk : -9223372036854775808 ≤ vk ∧ vk ≤ 9223372036854775807) (hvn : -9223372036854775808 ≤ vn ∧ vn ≤ 9223372036854775807) (hvf : vf < 18446744073709551616) (hvs : vs.size ≤ maxLen) (hm : m ≤ cb ∧ cb ≤ maxLen)
      (hB : 0 < m → ∃ g o, B = some ⟨g, o, none⟩ ∧ Q g ∧ g < w.heap.size ∧ ∀ i, i < m → TenAt w g (o + i * 10) (vss i))
      (hxs : ∀ i, i < m → EOwn w Q (vss i) (xs i)) :
      EOwn w Q (efields k s (.int .i64 vk) (.int .i64 vn) (.float .f64 vf) (.string vs) (.slice none 0 0) (.slice none 0 0) none 0 0 B m cb) (.mk k s (leafV vk vn vf vs) 0 (fun _ => ⟨#[]⟩) m xs)
theorem EOwn.val {w : World} {Q : Nat → Prop} {v : Array Value} {t : ET} (h : EOwn w Q v t) : EVal w w.heap.size v t := by
  induction h with
  | mk k s vk vn vf vs B m cb xs vss hk hs hvk hvn hvf hvs hm hB hxs ih =>
    refine .mk k s _ _ _ _ _ _ _ none 0 0 B m cb _ xs vss hk hs ?_ ⟨Nat.le_refl _, Nat.zero_le _⟩ hm (fun h => absurd h (Nat.lt_irrefl 0)) (fun h0 => ?_) ih
    · exact .mk vk vn vf vs none 0 0 none 0 0 _ _ (fun _ => #[]) hvk hvn hvf hvs ⟨Nat.le_refl _, Nat.zero_le _⟩ ⟨Nat.le_refl _, Nat.zero_le _⟩ (fun h => absurd h (Nat.lt_irrefl 0)) (fun h => absurd h (Nat.lt_irrefl 0)) (fun i h => absurd h (Nat.not_lt_zero i))
    · obtain ⟨g, o, e, _, hg, hx⟩ := hB h0
      exact ⟨g, o, e, hg, hx⟩
theorem EOwn.keep {w w' : World} {Q : Nat → Prop} {v : Array Value} {t : ET} (h : EOwn w Q v t) (hs' : w.heap.size ≤ w'.heap.size) (hw : ∀ g, Q g → g < w.heap.size → w'.heap[g]? = w.heap[g]?) : EOwn w' Q v t := by
  have hc' : ∀ g o, Q g → g < w.heap.size → w'.cell? ⟨g, o, none⟩ = w.cell? ⟨g, o, none⟩ := fun g o h1 h2 => World.cell?_of_block (w := w) (a := ⟨g, o, none⟩) (hw g h1 h2)
  induction h with
  | mk k s vk vn vf vs B m cb xs vss hk hs hvk hvn hvf hvs hm hB hxs ih =>
    refine .mk k s vk vn vf vs B m cb xs vss hk hs hvk hvn hvf hvs hm (fun h0 => ?_) ih
    obtain ⟨g, o, e, hl, hg, hx⟩ := hB h0
    exact ⟨g, o, e, hl, by omega, fun i hi j hj => (hc' _ _ hl hg).trans (hx i hi j hj)⟩
theorem EOwn.imp {w : World} {P Q : Nat → Prop} {v : Array Value} {t : ET} (h : EOwn w P v t) (hi : ∀ g, P g → g < w.heap.size → Q g) : EOwn w Q v t := by
  induction h with
  | mk k s vk vn vf vs B m cb xs vss hk hs hvk hvn hvf hvs hm hB hxs ih =>
    refine .mk k s vk vn vf vs B m cb xs vss hk hs hvk hvn hvf hvs hm (fun h0 => ?_) ih
    obtain ⟨g, o, e, hl, hg, hx⟩ := hB h0
    exact ⟨g, o, e, hi g hl hg, hg, hx⟩
theorem EOwn.ten {w : World} {Q : Nat → Prop} {v : Array Value} {t : ET} (h : EOwn w Q v t) : ∃ b0 b1 b2 b3 b4 b5 b6 b7 b8 b9, v = #[b0, b1, b2, b3, b4, b5, b6, b7, b8, b9] := by
  cases h; exact ⟨_, _, _, _, _, _, _, _, _, _, rfl⟩
theorem EOwn.size {w : World} {Q : Nat → Prop} {v : Array Value} {t : ET} (h : EOwn w Q v t) : v.size = 10 := by cases h; rfl
theorem EOwn.one {w : World} {Q : Nat → Prop} {v : Array Value} {t : ET} (h : EOwn w Q v t) : v.all (·.oneCell') = true := by
  cases h
  simp [efields, Value.oneCell']

/-- A box of one expression. -/
def EB (w : World) (R : Nat) (v : Array Value) : Prop := w.heap[R]? = some (.cells v 44 (0, 0))
def zero10 : Array Value := #[.int .i64 0, .string ⟨#[]⟩, .int .i64 0, .int .i64 0, .float .f64 0, .string ⟨#[]⟩, .slice none 0 0, .slice none 0 0, .slice none 0 0, .slice none 0 0]
theorem EB.new (w : World) (v : Array Value) : EB (w.alloc (.cells v 44)) w.heap.size v := heap_alloc_new w _
theorem EB.lt {w : World} {R : Nat} {v : Array Value} (h : EB w R v) : R < w.heap.size := (Array.getElem?_eq_some_iff.1 h).1
theorem EB.of {w w' : World} {R : Nat} {v : Array Value} (h : EB w R v) (he : w'.heap[R]? = w.heap[R]?) : EB w' R v := he.trans h
theorem EB.alloc {w : World} {R : Nat} {v : Array Value} (h : EB w R v) (x : Obj) : EB (w.alloc x) R v := h.of (Below.heap_alloc _ _ _ h.lt)
theorem EB.pst {w w' : World} {g R : Nat} {v : Array Value} (h : EB w R v) (hp : Pst g w w') (hR : R ≠ g) : EB w' R v := h.of (hp.block R h.lt hR)
theorem EB.row {w : World} {R S : Nat} {v u : Array Value} (h : EB w R v) (hS : R ≠ S) : EB (w.setRow S u) R v := h.of (setRow_other w S R u hS)
theorem EB.set {w : World} {R : Nat} {v : Array Value} (h : EB w R v) (u : Array Value) : EB (w.setRow R u) R u := setRow_heap w R v u _ _ h
theorem alloc_setRow (w : World) (old new : Array Value) (T : TypeId) : (w.alloc (.cells old T)).setRow w.heap.size new = w.alloc (.cells new T) := by
  unfold World.setRow World.alloc
  simp only [World.mk.injEq, and_true]
  apply Array.ext
  · simp
  · intro i h1 h2
    rw [Array.getElem_modify]
    by_cases e : w.heap.size = i
    · subst e; simp
    · rw [if_neg e, Array.getElem_push, Array.getElem_push]
      have : i < w.heap.size := by simp at h1; omega
      simp [this]
theorem info44 : (Tryz.prog.info? 44).map (·.size) = some 10 := by kernel_rfl
section
variable {ops : Array Oper} {rest : List Oper} {o : Oper} {a : Act} {w : World} {Q : Exit → Act → World → Prop}
/-- An expression is laid into a box. -/
theorem stE (hgd : o.guard = none) (x y : Operand) (ho : o.op = .store 44 x y) (g : Nat) (v old : Array Value) (hx : a.eval x = .pointer (some ⟨g, 0, none⟩)) (hy : a.eval y = .agg v) (hg : EB w g old) (hold : old.size = 10) (hv : v.size = 10) (h1 : v.all (·.oneCell') = true)
    (h : wpList Tryz.prog ops Q rest (a.put o.dst undef) (w.setRow g v)) : wpList Tryz.prog ops Q (o :: rest) a w :=
  wpList_store_row hgd 44 x y ho g v hx hy 44 old hg (by rw [info44, hv]) (by rw [hold, hv]) h1 h
/-- An expression is taken out of a box. -/
theorem ldE (hgd : o.guard = none) (x : Operand) (ho : o.op = .load 44 x) (g : Nat) (v : Array Value) (hx : a.eval x = .pointer (some ⟨g, 0, none⟩)) (hg : EB w g v) (hv : v.size = 10)
    (h : wpList Tryz.prog ops Q rest (a.put o.dst (.agg v)) w) : wpList Tryz.prog ops Q (o :: rest) a w :=
  wpList_load_row hgd 44 x ho g hx 44 v (0, 0) _ hg Tryz.underlying44 rfl (by rw [info44, hv]) h
end
end Go.Proofs.YtcmohggnehkjeaaGreat
namespace Go.Proofs.YtcmohggnehkjeaaGreat
open Go.RowKit

theorem str_eq {a b : ByteArray} (h : a = b) : (a.toList == b.toList) = true := by subst h; exact beq_self_eq_true _
theorem str_ne {a b : ByteArray} (h : a ≠ b) : (a.toList == b.toList) = false := by
  rw [ByteArray.toList_eq, ByteArray.toList_eq]
  cases e : (a.data.toList == b.data.toList)
  · rfl
  · exfalso
    apply h
    have := eq_of_beq e
    cases a; cases b
    simpa [Array.toList_inj] using this
/-- Is the token there that sign? -/
def isW (ts : List (Nat × Tk)) (i : Nat) (s : ByteArray) : Bool := match ts[i]? with
  | some t => decide (t.2.k = 6) && decide (strL t.2.s = s)
  | none => false
theorem drewN_ps {w : World} {P : Nat} {L : Value} {ts : List (Nat × Tk)} {en : Int} {i d : Nat} (h : PS w P L ts en i d) (n : Nat) : PS (w.drewN n) P L ts en i d ∧ Pst P w (w.drewN n) :=
  have hb : Below w.heap.size w (w.drewN n) := below_drewN (Below.refl _ _) _
  ⟨h.stay hb, Pst.of_below hb⟩
section
variable {w : World} {P : Nat} {L : Value} {ts : List (Nat × Tk)} {en : Int} {i d : Nat}
set_option maxRecDepth 20000 in
set_option maxHeartbeats 1000000 in
theorem is_any (h : PS w P L ts en i d) (s : ByteArray) : Calls Tryz.prog 177 #[.pointer (some ⟨P, 0, none⟩), .string s] w fun e w' => e = .returned (.bool (isW ts i s)) ∧ PS w' P L ts en i d ∧ Pst P w w' := by
  have HH := Lib.hid h
  obtain ⟨p0, p1, p2, p3, p4, p5, pf⟩ := h.cells
  obtain ⟨A, cap, rfl, hl, hcap, hmx, hx⟩ := h.toks
  clear h
  by_cases hi : i < ts.length
  · obtain ⟨g, rfl, hg, hsix⟩ := hx (by omega)
    obtain ⟨c0, c1, c2, c3, c4, c5⟩ := hsix i hi
    have hI : Hid (isW ts i s = (decide (ts[i].2.k = 6) && decide (strL ts[i].2.s = s))) := Lib.hid (by unfold isW; rw [List.getElem?_eq_getElem hi])
    have ti : (i : Int) < ts.length := by omega
    have ti0 : (0 : Int) ≤ i := by omega
    generalize hkk : ts[i].2.k = kk at *
    generalize strL ts[i].2.s = ss at *
    clear hx hsix c1 c2 c3 c4
    by_cases hk : kk = 6
    · subst hk
      by_cases hs : ss = s
      · subst hs
        have t5 : (ss.toList == ss.toList) = true := beq_self_eq_true _
        go_enter Tryz.func177, Tryz.ntmps177
        go_wp2_with fail
        go_quiet (fail)
        have hd := drewN_ps (en := en) HH.out nq
        generalize w.drewN nq = w2 at hd ⊢
        go_wp2_with fail
        go_ret
        exact ⟨by rw [hI.out]; simp, hd⟩
      · have t5 : (ss.toList == s.toList) = false := by
          exact str_ne hs
        go_enter Tryz.func177, Tryz.ntmps177
        go_wp2_with fail
        go_quiet (fail)
        have hd := drewN_ps (en := en) HH.out nq
        generalize w.drewN nq = w2 at hd ⊢
        go_wp2_with fail
        go_ret
        exact ⟨by rw [hI.out]; simp [hs], hd⟩
    · have tk : ((kk : Int) == 6) = false := by rw [beq_eq_false_iff_ne]; omega
      go_enter Tryz.func177, Tryz.ntmps177
      go_wp2_with fail
      go_quiet (fail)
      have hd := drewN_ps (en := en) HH.out nq
      generalize w.drewN nq = w2 at hd ⊢
      go_wp2_with fail
      go_ret
      exact ⟨by rw [hI.out]; simp [hk], hd⟩
  · have hI : Hid (isW ts i s = false) := Lib.hid (by unfold isW; rw [List.getElem?_eq_none (by omega)])
    have ti : ¬ (i : Int) < ts.length := by omega
    clear hx
    go_enter Tryz.func177, Tryz.ntmps177
    go_wp2_with fail
    go_quiet (fail)
    have hd := drewN_ps (en := en) HH.out nq
    generalize w.drewN nq = w2 at hd ⊢
    go_wp2_with fail
    go_ret
    exact ⟨by rw [hI.out]; rfl, hd⟩
set_option maxHeartbeats 1000000 in
theorem take_no (h : PS w P L ts en i d) {s : ByteArray} (hs : isW ts i s = false) : Calls Tryz.prog 144 #[.pointer (some ⟨P, 0, none⟩), .string s] w fun e w' => e = .returned (.bool false) ∧ PS w' P L ts en i d ∧ Pst P w w' := by
  have C := is_any h s
  rw [hs] at C
  clear h
  go_enter Tryz.func144, Tryz.ntmps144
  go_wp2_with (go_at_call 177; refine C.mono ?_; rintro e w1 ⟨rfl, h1, hp1⟩)
  go_ret
  exact ⟨rfl, h1, hp1⟩
theorem isW_lt {s : ByteArray} (h : isW ts i s = true) : i < ts.length := by
  unfold isW at h
  split at h
  · rename_i e; exact (List.getElem?_eq_some_iff.1 e).1
  · cases h
set_option maxHeartbeats 1000000 in
theorem take_yes (h : PS w P L ts en i d) {s : ByteArray} (hs : isW ts i s = true) : Calls Tryz.prog 144 #[.pointer (some ⟨P, 0, none⟩), .string s] w fun e w' => e = .returned (.bool true) ∧ PS w' P L ts en (i + 1) d ∧ Pst P w w' := by
  have C := is_any h s
  have hi := isW_lt hs
  obtain ⟨_, _, _, hl, _, _, _⟩ := h.toks
  rw [hs] at C
  have hi2 : i < 2000 := by omega
  clear h hs hi hl
  go_enter Tryz.func144, Tryz.ntmps144
  go_wp2_with (go_at_call 177; refine C.mono ?_; rintro e w1 ⟨rfl, h1, hp1⟩; obtain ⟨p0, p1, p2, p3, p4, p5, pf⟩ := h1.cells; have HH := Lib.hid (And.intro (h1.set1 (i + 1)) (hp1.set 1 (.int .i64 ((i + 1 : Nat) : Int)))); clear h1 hp1)
  go_ret
  exact ⟨rfl, HH.out.1, HH.out.2⟩
theorem down_ok (h : PS w P L ts en i d) (hd : d < 100) : Calls Tryz.prog 142 #[.pointer (some ⟨P, 0, none⟩)] w fun e w' => e = .returned (.tuple #[]) ∧ PS w' P L ts en i (d + 1) ∧ Pst P w w' := by
  obtain ⟨p0, p1, p2, p3, p4, p5, pf⟩ := h.cells
  have HH := Lib.hid (And.intro (h.set5 (d + 1)) ((Pst.refl P w).set 5 (.int .i64 ((d + 1 : Nat) : Int))))
  have hlt := h.lt
  clear h
  go_enter Tryz.func142, Tryz.ntmps142
  go_wp2_with fail
  go_end0
  exact ⟨rfl, HH.out.1, HH.out.2⟩
end
/-- An expression of two Kids. -/
def twoE (k : Int) (x y : ET) : ET := .mk k ⟨#[]⟩ (leafV 0 0 0 ⟨#[]⟩) 0 (fun _ => ⟨#[]⟩) 2 (fun i => match i with | 0 => x | _ => y)
def conE (k n : Int) (f : Nat) : ET := .mk 1 ⟨#[]⟩ (leafV k n f ⟨#[]⟩) 0 (fun _ => ⟨#[]⟩) 0 (fun _ => .bad)
def varE (s : ByteArray) : ET := .mk 2 s (leafV 0 0 0 ⟨#[]⟩) 0 (fun _ => ⟨#[]⟩) 0 (fun _ => .bad)
theorem results_ten {fn : Func} {p : Tmp} (h : fn.results = #[.cell p 44]) (tmps : Array Value) (w : World) (R : Nat) (v : Array Value) (hp : tmps.getD p undef = .pointer (some ⟨R, 0, none⟩)) (hg : EB w R v) (hv : v.size = 10) :
    (results fn tmps).run Tryz.prog w = .ok (.agg v) w :=
  results_cell_row h tmps w R 44 v (0, 0) _ hp hg Tryz.underlying44 rfl (by rw [info44, hv])
end Go.Proofs.YtcmohggnehkjeaaGreat
namespace Go.Proofs.YtcmohggnehkjeaaGreat
open Go.RowKit

/-- What two leaves. -/
theorem two_made {w W : World} {Q : Nat → Prop} {k : Int} {x0 x1 x2 x3 x4 x5 x6 x7 x8 x9 y0 y1 y2 y3 y4 y5 y6 y7 y8 y9 : Value} {s t : ET} {g : Nat} (hk : -9223372036854775808 ≤ k ∧ k ≤ 9223372036854775807)
    (hx : EOwn w Q #[x0, x1, x2, x3, x4, x5, x6, x7, x8, x9] s) (hy : EOwn w Q #[y0, y1, y2, y3, y4, y5, y6, y7, y8, y9] t) (hb : Below w.heap.size w W) (hg : w.heap.size ≤ g)
    (hr : W.heap[g]? = some (.cells #[x0, x1, x2, x3, x4, x5, x6, x7, x8, x9, y0, y1, y2, y3, y4, y5, y6, y7, y8, y9] 44 (0, 0))) :
    EOwn W (fun g => Q g ∨ w.heap.size ≤ g) (efields k ⟨#[]⟩ (.int .i64 0) (.int .i64 0) (.float .f64 0) (.string ⟨#[]⟩) (.slice none 0 0) (.slice none 0 0) none 0 0 (some ⟨g, 0, none⟩) 2 2) (twoE k s t) := by
  have hlt : g < W.heap.size := (Array.getElem?_eq_some_iff.1 hr).1
  refine .mk k ⟨#[]⟩ 0 0 0 ⟨#[]⟩ _ 2 2 _ (fun i => match i with | 0 => #[x0, x1, x2, x3, x4, x5, x6, x7, x8, x9] | _ => #[y0, y1, y2, y3, y4, y5, y6, y7, y8, y9]) hk (Nat.zero_le _) (by decide) (by decide) (by decide) (Nat.zero_le _) ⟨Nat.le_refl _, by decide⟩ (fun _ => ⟨g, 0, rfl, .inr hg, hlt, fun i hi j hj => ?_⟩) (fun i hi => ?_)
  · rw [cell_of_row W g _ _ _ _ hr]
    match i, hi with
    | 0, _ => match j, hj with
      | 0, _ | 1, _ | 2, _ | 3, _ | 4, _ | 5, _ | 6, _ | 7, _ | 8, _ | 9, _ => rfl
    | 1, _ => match j, hj with
      | 0, _ | 1, _ | 2, _ | 3, _ | 4, _ | 5, _ | 6, _ | 7, _ | 8, _ | 9, _ => rfl
  · match i, hi with
    | 0, _ => exact (hx.keep hb.size fun g _ h => hb.block g h).imp fun g h _ => .inl h
    | 1, _ => exact (hy.keep hb.size fun g _ h => hb.block g h).imp fun g h _ => .inl h
set_option maxRecDepth 20000 in
set_option maxHeartbeats 2000000 in
theorem two_any {w : World} {Q : Nat → Prop} {k : Int} {x y : Array Value} {s t : ET} (hk : -9223372036854775808 ≤ k ∧ k ≤ 9223372036854775807) (hx : EOwn w Q x s) (hy : EOwn w Q y t) :
    Calls Tryz.prog 176 #[.int .i64 k, .agg x, .agg y] w fun e w' => ∃ v, e = .returned (.agg v) ∧ EOwn w' (fun g => Q g ∨ w.heap.size ≤ g) v (twoE k s t) ∧ Below w.heap.size w w' := by
  obtain ⟨x0, x1, x2, x3, x4, x5, x6, x7, x8, x9, rfl⟩ := hx.ten
  obtain ⟨y0, y1, y2, y3, y4, y5, y6, y7, y8, y9, rfl⟩ := hy.ten
  have HX := Lib.hid hx
  have HY := Lib.hid hy
  clear hx hy
  obtain ⟨W, hW⟩ : ∃ W, W = (((w.alloc (.cells #[x0, x1, x2, x3, x4, x5, x6, x7, x8, x9] 44)).alloc (.cells #[y0, y1, y2, y3, y4, y5, y6, y7, y8, y9] 44)).alloc (.cells zero10 44)).alloc (.cells #[x0, x1, x2, x3, x4, x5, x6, x7, x8, x9, y0, y1, y2, y3, y4, y5, y6, y7, y8, y9] 44) := ⟨_, rfl⟩
  have hb : Below w.heap.size w W := by
    rw [hW]
    exact ((((Below.refl _ _).alloc (Nat.le_refl _) _).alloc (by simp) _).alloc (by simp; omega) _).alloc (by simp; omega) _
  have hE : EB W (w.heap.size + 1 + 1) zero10 := by
    rw [hW]
    have := (EB.new ((w.alloc (.cells #[x0, x1, x2, x3, x4, x5, x6, x7, x8, x9] 44)).alloc (.cells #[y0, y1, y2, y3, y4, y5, y6, y7, y8, y9] 44)) zero10).alloc (.cells #[x0, x1, x2, x3, x4, x5, x6, x7, x8, x9, y0, y1, y2, y3, y4, y5, y6, y7, y8, y9] 44)
    simpa using this
  have hR : W.heap[w.heap.size + 1 + 1 + 1]? = some (.cells #[x0, x1, x2, x3, x4, x5, x6, x7, x8, x9, y0, y1, y2, y3, y4, y5, y6, y7, y8, y9] 44 (0, 0)) := by
    have := heap_alloc_new (((w.alloc (.cells #[x0, x1, x2, x3, x4, x5, x6, x7, x8, x9] 44)).alloc (.cells #[y0, y1, y2, y3, y4, y5, y6, y7, y8, y9] 44)).alloc (.cells zero10 44)) (.cells #[x0, x1, x2, x3, x4, x5, x6, x7, x8, x9, y0, y1, y2, y3, y4, y5, y6, y7, y8, y9] 44)
    rw [← hW] at this
    simpa using this
  have HE := Lib.hid hE
  have HB := Lib.hid hb
  have HR := Lib.hid hR
  have HW := Lib.hid hW
  clear hW hb hE hR
  go_enter Tryz.func176, Tryz.ntmps176
  go_wp2_with (refine stE rfl (.tmp 6) (.tmp 11) rfl (w.heap.size + 1 + 1) _ zero10 rfl rfl (HW.out ▸ HE.out) rfl rfl (by simp [Value.oneCell']) ?_; refine Hid.out ?_)
  refine Lib.hid ?_
  change wpList _ _ _ _ _ (World.setRow ((((w.alloc (.cells #[x0, x1, x2, x3, x4, x5, x6, x7, x8, x9] 44)).alloc (.cells #[y0, y1, y2, y3, y4, y5, y6, y7, y8, y9] 44)).alloc (.cells zero10 44)).alloc (.cells #[x0, x1, x2, x3, x4, x5, x6, x7, x8, x9, y0, y1, y2, y3, y4, y5, y6, y7, y8, y9] 44)) _ _)
  rw [← HW.out]
  go_wp2_with fail
  have hE2 := HE.out.set #[.int .i64 k, .string ⟨#[]⟩, .int .i64 0, .int .i64 0, .float .f64 0, .string ⟨#[]⟩, .slice none 0 0, .slice none 0 0, .slice none 0 0, .slice (some ⟨w.heap.size + 1 + 1 + 1, 0, none⟩) 2 2]
  refine bodyPost_ret (results_ten rfl _ _ (w.heap.size + 1 + 1) _ rfl hE2 rfl) rfl ⟨_, rfl, ?_, ?_⟩
  · exact two_made hk HX.out HY.out (HB.out.trans ⟨rfl, rfl, rfl, by simp [World.setRow], fun k hk => setRow_other _ _ _ _ (by omega)⟩) (by omega) ((setRow_other _ _ _ _ (by omega)).trans HR.out)
  · exact HB.out.trans ⟨rfl, rfl, rfl, by simp [World.setRow], fun k hk => setRow_other _ _ _ _ (by omega)⟩
set_option maxRecDepth 20000 in
theorem con_any {w : World} {k n : Int} {f : Nat} (hk : -9223372036854775808 ≤ k ∧ k ≤ 9223372036854775807) (hn : -9223372036854775808 ≤ n ∧ n ≤ 9223372036854775807) (hf : f < 18446744073709551616) :
    Calls Tryz.prog 231 #[.agg #[.int .i64 k, .int .i64 n, .float .f64 f, .string ⟨#[]⟩, .slice none 0 0, .slice none 0 0]] w fun e w' => ∃ v, e = .returned (.agg v) ∧ EOwn w' (fun g => w.heap.size ≤ g) v (conE k n f) ∧ Below w.heap.size w w' := by
  have SF := float_store
  go_enter Tryz.func231, Tryz.ntmps231
  go_wp2_with fail
  have hE := EB.new (w.alloc (.cells #[.int .i64 k, .int .i64 n, .float .f64 f, .string ⟨#[]⟩, .slice none 0 0, .slice none 0 0] 38)) #[.int .i64 1, .string ⟨#[]⟩, .int .i64 k, .int .i64 n, .float .f64 f, .string ⟨#[]⟩, .slice none 0 0, .slice none 0 0, .slice none 0 0, .slice none 0 0]
  rw [World.size_alloc] at hE
  refine bodyPost_ret (results_ten rfl _ _ (w.heap.size + 1) _ rfl hE rfl) rfl ⟨_, rfl, ?_, ?_⟩
  · exact .mk 1 ⟨#[]⟩ k n f ⟨#[]⟩ none 0 0 _ (fun _ => #[]) (by decide) (Nat.zero_le _) hk hn hf (Nat.zero_le _) ⟨Nat.le_refl _, Nat.zero_le _⟩ (fun h => absurd h (Nat.lt_irrefl 0)) (fun i h => absurd h (Nat.not_lt_zero i))
  · exact ((Below.refl _ _).alloc (Nat.le_refl _) _).alloc (by simp) _
end Go.Proofs.YtcmohggnehkjeaaGreat
namespace Go.Proofs.YtcmohggnehkjeaaGreat
open Go.RowKit

inductive Lv
  | expr | or | and | cmp | sum | sumT (x : ET) | prod | unary | post | prim
def kwL : List (List UInt8) := [[116, 114, 117, 101], [102, 97, 108, 115, 101], [108, 101, 110], [102, 108, 111, 97, 116], [105, 110, 116], [115, 116, 114]]
/-- What a token says by itself. -/
def tokE (t : Tk) : Option ET :=
  if t.k = 2 then (if t.n < 9223372036854775808 then some (conE 2 t.n 0) else none)
  else if t.k = 3 then (if t.f < 18446744073709551616 then some (conE 3 0 t.f) else none)
  else if t.k = 5 then (if t.s ∈ kwL then none else if t.s.length ≤ 2000 then some (varE (strL t.s)) else none)
  else none
def listE0 : ET := .mk 16 ⟨#[]⟩ (leafV 0 0 0 ⟨#[]⟩) 0 (fun _ => ⟨#[]⟩) 0 (fun _ => .bad)
def listE1 (x : ET) : ET := .mk 16 ⟨#[]⟩ (leafV 0 0 0 ⟨#[]⟩) 0 (fun _ => ⟨#[]⟩) 1 (fun _ => x)
/-- Behind a level that binds more: unless one of these signs stands there. -/
def noneOf (ts : List (Nat × Tk)) (l : List ByteArray) (r : Option (ET × Nat)) : Option (ET × Nat) := match r with
  | some (x, j) => if l.any (fun s => isW ts j s) = true then none else some (x, j)
  | none => none
/-- The grammar, at a token: fuel, level, how many within one another, where. -/
def pE (ts : List (Nat × Tk)) : Nat → Lv → Nat → Nat → Option (ET × Nat)
  | 0, _, _, _ => none
  | f + 1, .expr, d, i => if 100 ≤ d then none else noneOf ts [⟨#[63]⟩] (pE ts f .or (d + 1) i)
  | f + 1, .or, d, i => noneOf ts [⟨#[124, 124]⟩] (pE ts f .and d i)
  | f + 1, .and, d, i => noneOf ts [⟨#[38, 38]⟩] (pE ts f .cmp d i)
  | f + 1, .cmp, d, i => match noneOf ts [⟨#[61, 61]⟩, ⟨#[60, 61]⟩] (pE ts f .sum d i) with
    | none => none
    | some (x, j) => if isW ts j ⟨#[60]⟩ = true then (match pE ts f .sum d (j + 1) with
      | none => none
      | some (y, k) => some (twoE 11 x y, k)) else some (x, j)
  | f + 1, .sum, d, i => match pE ts f .prod d i with
    | none => none
    | some (x, j) => pE ts f (.sumT x) d j
  | f + 1, .sumT x, d, i => if isW ts i ⟨#[43]⟩ = true then (match pE ts f .prod d (i + 1) with
      | none => none
      | some (y, j) => pE ts f (.sumT (twoE 5 x y)) d j) else if isW ts i ⟨#[45]⟩ = true then none else some (x, i)
  | f + 1, .prod, d, i => noneOf ts [⟨#[42]⟩, ⟨#[47]⟩, ⟨#[37]⟩] (pE ts f .unary d i)
  | f + 1, .unary, d, i => if 100 ≤ d ∨ isW ts i ⟨#[45]⟩ = true ∨ isW ts i ⟨#[33]⟩ = true then none else pE ts f .post (d + 1) i
  | f + 1, .post, d, i => noneOf ts [⟨#[46]⟩, ⟨#[91]⟩] (pE ts f .prim d i)
  | f + 1, .prim, d, i =>
    if isW ts i ⟨#[40]⟩ = true ∨ isW ts i ⟨#[123]⟩ = true then none
    else if isW ts i ⟨#[91]⟩ = true then (if isW ts (i + 1) ⟨#[93]⟩ = true then some (listE0, i + 2) else match pE ts f .expr d (i + 1) with
      | none => none
      | some (x, j) => if isW ts j ⟨#[44]⟩ = true then none else if isW ts j ⟨#[93]⟩ = true then some (listE1 x, j + 1) else none)
    else match ts[i]? with
      | none => none
      | some t => if t.2.k = 6 then none else match tokE t.2 with
        | none => none
        | some x => some (x, i + 1)
theorem noneOf_some {ts : List (Nat × Tk)} {l : List ByteArray} {r : Option (ET × Nat)} {x : ET} {j : Nat} (h : noneOf ts l r = some (x, j)) : r = some (x, j) ∧ ∀ s ∈ l, isW ts j s = false := by
  unfold noneOf at h
  split at h
  · split at h
    · cases h
    · rename_i hn
      injection h with h
      injection h with h1 h2
      subst h1 h2
      refine ⟨rfl, fun s hs => ?_⟩
      cases e : isW ts _ s
      · rfl
      · exact absurd (List.any_eq_true.2 ⟨s, hs, e⟩) hn
  · cases h

/-- How a call of the parser ends: the tree t, ahead of token j. -/
def Got (w : World) (P : Nat) (L : Value) (ts : List (Nat × Tk)) (en : Int) (d : Nat) (t : ET) (j : Nat) (e : Ending) (w' : World) : Prop :=
  ∃ v, e = .returned (.agg v) ∧ EOwn w' (fun g => w.heap.size ≤ g) v t ∧ PS w' P L ts en j d ∧ Pst P w w'
def Does (fn : FuncId) (P : Nat) (L : Value) (ts : List (Nat × Tk)) (en : Int) (d i : Nat) (t : ET) (j : Nat) : Prop :=
  ∀ w, PS w P L ts en i d → Calls Tryz.prog fn #[.pointer (some ⟨P, 0, none⟩)] w (Got w P L ts en d t j)
def zeroE : ET := .mk 0 ⟨#[]⟩ (leafV 0 0 0 ⟨#[]⟩) 0 (fun _ => ⟨#[]⟩) 0 (fun _ => .bad)
theorem zeroE_own (w : World) (Q : Nat → Prop) : EOwn w Q zero10 zeroE :=
  .mk 0 ⟨#[]⟩ 0 0 0 ⟨#[]⟩ none 0 0 _ (fun _ => #[]) (by decide) (Nat.zero_le _) (by decide) (by decide) (by decide) (Nat.zero_le _) ⟨Nat.le_refl _, Nat.zero_le _⟩ (fun h => absurd h (Nat.lt_irrefl 0)) (fun i h => absurd h (Nat.not_lt_zero i))
/-- Amid a call: the result's box R, the box S of what is held, which is t. -/
structure Amid (w : World) (P : Nat) (L : Value) (ts : List (Nat × Tk)) (en : Int) (d j R S : Nat) (rv xv : Array Value) (t : ET) (wr : World) : Prop where
  ps : PS wr P L ts en j d
  pst : Pst P w wr
  res : EB wr R rv
  x : EB wr S xv
  hP : P < w.heap.size
  hR : w.heap.size ≤ R
  hRS : R < S
  own : EOwn wr (fun g => R < g ∧ g ≠ S) xv t
section
variable {w wr w2 : World} {P : Nat} {L : Value} {ts : List (Nat × Tk)} {en : Int} {d i j R S : Nat} {rv xv : Array Value} {t : ET}
theorem Amid.call (h : Amid w P L ts en d i R S rv xv t wr) {d' : Nat} (hp : Pst P wr w2) (hs : PS w2 P L ts en j d') : Amid w P L ts en d' j R S rv xv t w2 :=
  ⟨hs, h.pst.trans hp, h.res.pst hp (by have := h.hP; have := h.hR; omega), h.x.pst hp (by have := h.hP; have := h.hR; have := h.hRS; omega), h.hP, h.hR, h.hRS,
    h.own.keep hp.size fun g hg hl => hp.block g hl (by have := h.hP; have := h.hR; omega)⟩
theorem PS.boxed (h : PS w P L ts en i d) (x : Obj) : PS (w.alloc x) P L ts en i d := h.stay ((Below.refl _ _).alloc (Nat.le_refl _) _)
theorem Amid.start (h : PS w P L ts en i d) {w1 : World} {d' : Nat} (hp : Pst P (w.alloc (.cells zero10 44)) w1) (hv : EOwn w1 (fun g => (w.alloc (.cells zero10 44)).heap.size ≤ g) xv t) (hs : PS w1 P L ts en j d') :
    Amid w P L ts en d' j w.heap.size w1.heap.size zero10 xv t (w1.alloc (.cells xv 44)) := by
  have hlt := h.lt
  have hsz := hp.size
  rw [World.size_alloc] at hsz
  refine ⟨hs.boxed _, (((Pst.refl P w).alloc _).trans hp).alloc _, ((EB.new w zero10).pst hp (by omega)).alloc _, EB.new _ _, hlt, Nat.le_refl _, by omega, ?_⟩
  exact (hv.imp fun g hg hl => (⟨by simp only [World.size_alloc] at hg; omega, by omega⟩ : w.heap.size < g ∧ g ≠ w1.heap.size)).keep (by simp) fun g _ hl => Below.heap_alloc _ _ _ hl
/-- What has been made is laid into the result's box: it is told. -/
theorem Amid.tell (h : Amid w P L ts en d j R S rv xv t wr) {u : Array Value} {t' : ET} (hu : EOwn wr (fun g => R < g ∧ g ≠ S) u t') : EB (wr.setRow R u) R u ∧ EOwn (wr.setRow R u) (fun g => w.heap.size ≤ g) u t' ∧ PS (wr.setRow R u) P L ts en j d ∧ Pst P w (wr.setRow R u) := by
  have h1 := h.hP
  have h2 := h.hR
  refine ⟨h.res.set _, ?_, h.ps.row (by omega) _, h.pst.row h2 _⟩
  exact (hu.keep (by simp [World.setRow]) fun g hg hl => setRow_other _ _ _ _ (by omega)).imp fun g hg _ => by omega
theorem Amid.done (h : Amid w P L ts en d j R S rv xv t wr) : EB (wr.setRow R xv) R xv ∧ EOwn (wr.setRow R xv) (fun g => w.heap.size ≤ g) xv t ∧ PS (wr.setRow R xv) P L ts en j d ∧ Pst P w (wr.setRow R xv) := h.tell h.own
/-- A tree that a call has made since. -/
theorem Amid.fresh (h : Amid w P L ts en d j R S rv xv t wr) {u : Array Value} {t' : ET} (hu : EOwn w2 (fun g => wr.heap.size ≤ g) u t') : EOwn w2 (fun g => R < g ∧ g ≠ S) u t' := by
  have h1 := h.x.lt
  have h2 := h.hRS
  exact hu.imp fun g hg _ => by omega
theorem Amid.two (h : Amid w P L ts en d j R S rv xv t wr) {u : Array Value} {t' : ET} (hu : EOwn w2 (fun g => (R < g ∧ g ≠ S) ∨ wr.heap.size ≤ g) u t') : EOwn w2 (fun g => R < g ∧ g ≠ S) u t' := by
  have h1 := h.x.lt
  have h2 := h.hRS
  exact hu.imp fun g hg _ => by omega
theorem Amid.drew (h : Amid w P L ts en d j R S rv xv t wr) : Amid w P L ts en d j R S rv xv t wr.drew :=
  h.call ((Pst.refl P wr).drew) (h.ps.stay ((Below.refl _ _).drew))
/-- Another one is held. -/
theorem Amid.put (h : Amid w P L ts en d j R S rv xv t wr) {u : Array Value} {t' : ET} (hu : EOwn wr (fun g => R < g ∧ g ≠ S) u t') : Amid w P L ts en d j R S rv u t' (wr.setRow S u) := by
  have h1 := h.hP
  have h2 := h.hR
  have h3 := h.hRS
  exact ⟨h.ps.row (by omega) _, h.pst.row (by omega) _, h.res.row (by omega), h.x.set _, h1, h2, h3, hu.keep (by simp [World.setRow]) fun g hg hl => setRow_other _ _ _ _ hg.2⟩
end
section
variable {md : Region.Mode} {ops : Array Oper} {Q : Exit → Act → World → Prop} {S : World → Prop} {fuel i : Nat} {o : Oper} {listed : Array Bool} {a : Act} {w : World}
/-- An operation that yields a value in whatever world meets the condition, taken first. -/
theorem takeG (d : Option Tmp) (v : Value) (ho : ops[i]? = some o) (hd : o.dst = d) (hs : Region.noSelect ops = true) (hf : Region.free md ops listed i = true) (hr : (Region.ready md ops listed).contains i = true)
    (hQ : ∀ c a w, Q (.panic c) (a.put d v) w → Q (.panic c) a w) (hS : S w) (hw : Region.wanted o (yielded ops a.tmps) = true) (hy : ∀ w, S w → (execOp a.eval o).run Tryz.prog w = .ok (.value v) w)
    (h : wpAnyH Tryz.prog md ops Q S fuel (listed.setIfInBounds i true) (a.put d v) w) : wpAnyH Tryz.prog md ops Q S (fuel + 1) listed a w :=
  wpAnyH_take ho hs hf hr (by rw [hd]; exact hQ) (Or.inl ⟨hw, hy⟩) hS (by rw [hd]; exact h)
/-- One operation of those that may come up, run in the world at hand. -/
theorem branchG {K : Act → World → Prop} (d : Option Tmp) (v : Value) (w' : World) (hd : o.dst = d) (hw : Region.wanted o (yielded ops a.tmps) = true)
    (hrun : (execOp a.eval o).run Tryz.prog w = .ok (.value v) w') (h : K (a.put d v) w') : if Region.wanted o (yielded ops a.tmps) = true then Oper.wp Tryz.prog o a w K Q else K (a.put o.dst undef) w := by
  rw [if_pos hw]
  unfold Oper.wp
  rw [hrun, ← hd] at *
  exact h
theorem branchS {K : Act → World → Prop} (w' : World) (hd : o.dst = none) (hw : Region.wanted o (yielded ops a.tmps) = true)
    (hrun : (execOp a.eval o).run Tryz.prog w = .ok .skip w') (h : K (a.put none undef) w') : if Region.wanted o (yielded ops a.tmps) = true then Oper.wp Tryz.prog o a w K Q else K (a.put o.dst undef) w := by
  rw [if_pos hw]
  unfold Oper.wp
  rw [hrun, ← hd] at *
  exact h
theorem branchW {K : Act → World → Prop} (hw : Region.wanted o (yielded ops a.tmps) = true) (h : Oper.wp Tryz.prog o a w K Q) : if Region.wanted o (yielded ops a.tmps) = true then Oper.wp Tryz.prog o a w K Q else K (a.put o.dst undef) w := by
  rw [if_pos hw]
  exact h
/-- One operation of those that may come up is a call. -/
theorem branchC {K : Act → World → Prop} (f : FuncId) (args : Array Value) (d : Option Tmp) (hd : o.dst = d) (hw : Region.wanted o (yielded ops a.tmps) = true)
    (hrun : (execOp a.eval o).run Tryz.prog w = .ok (.enter f args) w) (hc : Calls Tryz.prog f args w fun e w' => ∃ v, e = .returned v ∧ K (a.put d v) w') : if Region.wanted o (yielded ops a.tmps) = true then Oper.wp Tryz.prog o a w K Q else K (a.put o.dst undef) w := by
  rw [if_pos hw]
  unfold Oper.wp
  rw [hrun, Oper.upon_enter]
  refine hc.mono ?_
  rintro e w' ⟨v, rfl, h⟩
  rw [hd]
  exact h
end

section
variable {ops : Array Oper} {Q : Exit → Act → World → Prop} {o : Oper} {a : Act} {w : World} {K : Act → World → Prop}
/-- It takes an expression out of a box. -/
theorem branchL (d : Option Tmp) (x : Operand) (g : Nat) (v : Array Value) (hd : o.dst = d) (hw : Region.wanted o (yielded ops a.tmps) = true) (ho : o.op = .load 44 x) (hx : a.eval x = .pointer (some ⟨g, 0, none⟩)) (hg : EB w g v) (hv : v.size = 10)
    (h : K (a.put d (.agg v)) w) : if Region.wanted o (yielded ops a.tmps) = true then Oper.wp Tryz.prog o a w K Q else K (a.put o.dst undef) w :=
  branchW hw (wp_load_row 44 x ho g hx 44 v (0, 0) _ hg Tryz.underlying44 rfl (by rw [info44, hv]) (by rw [hd]; exact h))
/-- It lays an expression into a box. -/
theorem branchT (x y : Operand) (g : Nat) (u old : Array Value) (hd : o.dst = none) (hw : Region.wanted o (yielded ops a.tmps) = true) (ho : o.op = .store 44 x y) (hx : a.eval x = .pointer (some ⟨g, 0, none⟩)) (hy : a.eval y = .agg u) (hg : EB w g old) (hold : old.size = 10) (hu : u.size = 10) (h1 : u.all (·.oneCell') = true)
    (h : K (a.put none undef) (w.setRow g u)) : if Region.wanted o (yielded ops a.tmps) = true then Oper.wp Tryz.prog o a w K Q else K (a.put o.dst undef) w :=
  branchW hw (wp_store_row 44 x y ho g u hx hy 44 old hg (by rw [info44, hu]) (by rw [hold, hu]) h1 (by rw [hd]; exact h))
end
theorem run_ldE {a : Act} {w : World} {o : Oper} (x : Operand) (hop : o.op = .load 44 x) (g : Nat) (hx : a.eval x = .pointer (some ⟨g, 0, none⟩)) (v : Array Value) (hg : EB w g v) (hs : v.size = 10) :
    (execOp a.eval o).run Tryz.prog w = .ok (.value (.agg v)) w := by
  unfold execOp
  simp only [hop, hx, Instr.loadAt, Instr.sureAddr, Sem.run_bind, Sem.run_pure, Result.andThen_ok, run_loadVar_row w g 44 44 v (0, 0) _ hg Tryz.underlying44 rfl (by rw [info44, hs])]
end Go.Proofs.YtcmohggnehkjeaaGreat
namespace Go.Proofs.YtcmohggnehkjeaaGreat
open Go.RowKit

section
variable {P : Nat} {L : Value} {ts : List (Nat × Tk)} {en : Int} {d i j k : Nat} {t u : ET}
set_option maxRecDepth 20000 in
set_option maxHeartbeats 2000000 in
theorem or_one (hC : Does 175 P L ts en d i t j) (hs0 : isW ts j ⟨#[124, 124]⟩ = false) : Does 143 P L ts en d i t j := by
  intro w h
  have C := Lib.hid (hC _ (h.boxed (.cells zero10 44)))
  have H := Lib.hid h
  clear hC h
  go_enter Tryz.func143, Tryz.ntmps143
  go_wp2_with (first
    | (go_at_call 175; refine C.out.mono ?_; rintro e w1 ⟨v, rfl, hv, h1, hp1⟩; have A := Lib.hid (Amid.start H.out hp1 hv h1); have hv10 := Lib.hid (And.intro hv.size hv.one); clear hv h1 hp1)
    | (refine stE rfl (.tmp 3) (.tmp 5) rfl w1.heap.size v _ rfl rfl (EB.new _ _) rfl hv10.out.1 hv10.out.2 ?_; refine Hid.out ?_))
  refine Lib.hid ?_
  rw [alloc_setRow]
  obtain ⟨w2, hw2⟩ : ∃ W, W = w1.alloc (.cells v 44) := ⟨_, rfl⟩
  rw [← hw2] at A ⊢
  clear hw2
  go_wp2_with fail
  go_loopg [] 0 (fun _ wr => wr = w2)
  case atStart => rfl
  subst hrel
  go_wp2_with (first
    | (go_at_call 144; (with_reducible refine (take_no A.out.ps hs0).mono ?_); rintro e w3 ⟨rfl, h3, p3⟩; replace A := Lib.hid (A.out.call p3 h3); clear h3 p3)
    | (refine ldE rfl (.tmp 3) rfl w1.heap.size v rfl A.out.x hv10.out.1 ?_)
    | (refine stE rfl (.tmp 2) (.tmp 12) rfl w.heap.size v zero10 rfl rfl A.out.res rfl hv10.out.1 hv10.out.2 ?_; refine Hid.out ?_))
  refine Lib.hid ?_
  go_wp2_with fail
  obtain ⟨d1, d2, d3, d4⟩ := A.out.done
  exact bodyPost_ret (results_ten rfl _ _ w.heap.size v rfl d1 hv10.out.1) rfl ⟨v, rfl, d2, d3, d4⟩
set_option maxRecDepth 20000 in
set_option maxHeartbeats 2000000 in
theorem and_one (hC : Does 199 P L ts en d i t j) (hs0 : isW ts j ⟨#[38, 38]⟩ = false) : Does 175 P L ts en d i t j := by
  intro w h
  have C := Lib.hid (hC _ (h.boxed (.cells zero10 44)))
  have H := Lib.hid h
  clear hC h
  go_enter Tryz.func175, Tryz.ntmps175
  go_wp2_with (first
    | (go_at_call 199; refine C.out.mono ?_; rintro e w1 ⟨v, rfl, hv, h1, hp1⟩; have A := Lib.hid (Amid.start H.out hp1 hv h1); have hv10 := Lib.hid (And.intro hv.size hv.one); clear hv h1 hp1)
    | (refine stE rfl (.tmp 3) (.tmp 5) rfl w1.heap.size v _ rfl rfl (EB.new _ _) rfl hv10.out.1 hv10.out.2 ?_; refine Hid.out ?_))
  refine Lib.hid ?_
  rw [alloc_setRow]
  obtain ⟨w2, hw2⟩ : ∃ W, W = w1.alloc (.cells v 44) := ⟨_, rfl⟩
  rw [← hw2] at A ⊢
  clear hw2
  go_wp2_with fail
  go_loopg [] 0 (fun _ wr => wr = w2)
  case atStart => rfl
  subst hrel
  go_wp2_with (first
    | (go_at_call 144; (with_reducible refine (take_no A.out.ps hs0).mono ?_); rintro e w3 ⟨rfl, h3, p3⟩; replace A := Lib.hid (A.out.call p3 h3); clear h3 p3)
    | (refine ldE rfl (.tmp 3) rfl w1.heap.size v rfl A.out.x hv10.out.1 ?_)
    | (refine stE rfl (.tmp 2) (.tmp 12) rfl w.heap.size v zero10 rfl rfl A.out.res rfl hv10.out.1 hv10.out.2 ?_; refine Hid.out ?_))
  refine Lib.hid ?_
  go_wp2_with fail
  obtain ⟨d1, d2, d3, d4⟩ := A.out.done
  exact bodyPost_ret (results_ten rfl _ _ w.heap.size v rfl d1 hv10.out.1) rfl ⟨v, rfl, d2, d3, d4⟩
set_option maxRecDepth 20000 in
set_option maxHeartbeats 2000000 in
theorem prod_one (hC : Does 222 P L ts en d i t j) (hs0 : isW ts j ⟨#[42]⟩ = false) (hs1 : isW ts j ⟨#[47]⟩ = false) (hs2 : isW ts j ⟨#[37]⟩ = false) : Does 220 P L ts en d i t j := by
  intro w h
  have C := Lib.hid (hC _ (h.boxed (.cells zero10 44)))
  have H := Lib.hid h
  clear hC h
  go_enter Tryz.func220, Tryz.ntmps220
  go_wp2_with (first
    | (go_at_call 222; refine C.out.mono ?_; rintro e w1 ⟨v, rfl, hv, h1, hp1⟩; have A := Lib.hid (Amid.start H.out hp1 hv h1); have hv10 := Lib.hid (And.intro hv.size hv.one); clear hv h1 hp1)
    | (refine stE rfl (.tmp 3) (.tmp 5) rfl w1.heap.size v _ rfl rfl (EB.new _ _) rfl hv10.out.1 hv10.out.2 ?_; refine Hid.out ?_))
  refine Lib.hid ?_
  rw [alloc_setRow]
  obtain ⟨w2, hw2⟩ : ∃ W, W = w1.alloc (.cells v 44) := ⟨_, rfl⟩
  rw [← hw2] at A ⊢
  clear hw2
  go_wp2_with fail
  go_loopg [] 0 (fun _ wr => wr = w2)
  case atStart => rfl
  subst hrel
  go_wp2_with (first
    | (go_at_call 144; (with_reducible refine (take_no A.out.ps hs0).mono ?_); rintro e w3 ⟨rfl, h3, p3⟩; replace A := Lib.hid (A.out.call p3 h3); clear h3 p3)
    | (go_at_call 144; (with_reducible refine (take_no A.out.ps hs1).mono ?_); rintro e w3 ⟨rfl, h3, p3⟩; replace A := Lib.hid (A.out.call p3 h3); clear h3 p3)
    | (go_at_call 144; (with_reducible refine (take_no A.out.ps hs2).mono ?_); rintro e w3 ⟨rfl, h3, p3⟩; replace A := Lib.hid (A.out.call p3 h3); clear h3 p3)
    | (refine ldE rfl (.tmp 3) rfl w1.heap.size v rfl A.out.x hv10.out.1 ?_)
    | (refine stE rfl (.tmp 2) (.tmp 24) rfl w.heap.size v zero10 rfl rfl A.out.res rfl hv10.out.1 hv10.out.2 ?_; refine Hid.out ?_))
  refine Lib.hid ?_
  go_wp2_with fail
  obtain ⟨d1, d2, d3, d4⟩ := A.out.done
  exact bodyPost_ret (results_ten rfl _ _ w.heap.size v rfl d1 hv10.out.1) rfl ⟨v, rfl, d2, d3, d4⟩
set_option maxRecDepth 20000 in
set_option maxHeartbeats 2000000 in
theorem post_one (hC : Does 227 P L ts en d i t j) (hs0 : isW ts j ⟨#[46]⟩ = false) (hs1 : isW ts j ⟨#[91]⟩ = false) : Does 225 P L ts en d i t j := by
  intro w h
  have C := Lib.hid (hC _ (h.boxed (.cells zero10 44)))
  have H := Lib.hid h
  clear hC h
  go_enter Tryz.func225, Tryz.ntmps225
  go_wp2_with (first
    | (go_at_call 227; refine C.out.mono ?_; rintro e w1 ⟨v, rfl, hv, h1, hp1⟩; have A := Lib.hid (Amid.start H.out hp1 hv h1); have hv10 := Lib.hid (And.intro hv.size hv.one); clear hv h1 hp1)
    | (refine stE rfl (.tmp 3) (.tmp 5) rfl w1.heap.size v _ rfl rfl (EB.new _ _) rfl hv10.out.1 hv10.out.2 ?_; refine Hid.out ?_))
  refine Lib.hid ?_
  rw [alloc_setRow]
  obtain ⟨w2, hw2⟩ : ∃ W, W = w1.alloc (.cells v 44) := ⟨_, rfl⟩
  rw [← hw2] at A ⊢
  clear hw2
  go_wp2_with fail
  go_loopg [] 0 (fun _ wr => wr = w2)
  case atStart => rfl
  subst hrel
  go_wp2_with (first
    | (go_at_call 144; (with_reducible refine (take_no A.out.ps hs0).mono ?_); rintro e w3 ⟨rfl, h3, p3⟩; replace A := Lib.hid (A.out.call p3 h3); clear h3 p3)
    | (go_at_call 144; (with_reducible refine (take_no A.out.ps hs1).mono ?_); rintro e w3 ⟨rfl, h3, p3⟩; replace A := Lib.hid (A.out.call p3 h3); clear h3 p3)
    | (refine ldE rfl (.tmp 3) rfl w1.heap.size v rfl A.out.x hv10.out.1 ?_)
    | (refine stE rfl (.tmp 2) (.tmp 21) rfl w.heap.size v zero10 rfl rfl A.out.res rfl hv10.out.1 hv10.out.2 ?_; refine Hid.out ?_))
  refine Lib.hid ?_
  go_wp2_with fail
  obtain ⟨d1, d2, d3, d4⟩ := A.out.done
  exact bodyPost_ret (results_ten rfl _ _ w.heap.size v rfl d1 hv10.out.1) rfl ⟨v, rfl, d2, d3, d4⟩
set_option maxRecDepth 20000 in
set_option maxHeartbeats 2000000 in
theorem cmp_one (hC : Does 214 P L ts en d i t j) (hs0 : isW ts j ⟨#[61, 61]⟩ = false) (hs1 : isW ts j ⟨#[60, 61]⟩ = false) (hs2 : isW ts j ⟨#[60]⟩ = false) : Does 199 P L ts en d i t j := by
  intro w h
  have C := Lib.hid (hC _ (h.boxed (.cells zero10 44)))
  have H := Lib.hid h
  clear hC h
  go_enter Tryz.func199, Tryz.ntmps199
  go_wp2_with (first
    | (go_at_call 214; refine C.out.mono ?_; rintro e w1 ⟨v, rfl, hv, h1, hp1⟩; have A := Lib.hid (Amid.start H.out hp1 hv h1); have hv10 := Lib.hid (And.intro hv.size hv.one); clear hv h1 hp1)
    | (refine stE rfl (.tmp 3) (.tmp 5) rfl w1.heap.size v _ rfl rfl (EB.new _ _) rfl hv10.out.1 hv10.out.2 ?_; refine Hid.out ?_))
  refine Lib.hid ?_
  rw [alloc_setRow]
  obtain ⟨w2, hw2⟩ : ∃ W, W = w1.alloc (.cells v 44) := ⟨_, rfl⟩
  rw [← hw2] at A ⊢
  clear hw2
  go_wp2_with (first
    | (go_at_call 144; (with_reducible refine (take_no A.out.ps hs0).mono ?_); rintro e w3 ⟨rfl, h3, p3⟩; replace A := Lib.hid (A.out.call p3 h3); clear h3 p3)
    | (go_at_call 144; (with_reducible refine (take_no A.out.ps hs1).mono ?_); rintro e w3 ⟨rfl, h3, p3⟩; replace A := Lib.hid (A.out.call p3 h3); clear h3 p3)
    | (go_at_call 144; (with_reducible refine (take_no A.out.ps hs2).mono ?_); rintro e w3 ⟨rfl, h3, p3⟩; replace A := Lib.hid (A.out.call p3 h3); clear h3 p3)
    | (refine ldE rfl (.tmp 3) rfl w1.heap.size v rfl A.out.x hv10.out.1 ?_)
    | (refine stE rfl (.tmp 2) (.tmp 24) rfl w.heap.size v zero10 rfl rfl A.out.res rfl hv10.out.1 hv10.out.2 ?_; refine Hid.out ?_))
  refine Lib.hid ?_
  go_wp2_with fail
  obtain ⟨d1, d2, d3, d4⟩ := A.out.done
  exact bodyPost_ret (results_ten rfl _ _ w.heap.size v rfl d1 hv10.out.1) rfl ⟨v, rfl, d2, d3, d4⟩
end
end Go.Proofs.YtcmohggnehkjeaaGreat
namespace Go.Proofs.YtcmohggnehkjeaaGreat
open Go.RowKit

section
variable {P : Nat} {L : Value} {ts : List (Nat × Tk)} {en : Int} {d i j k : Nat} {t u : ET}
set_option maxRecDepth 20000 in
set_option maxHeartbeats 4000000 in
theorem cmp_less (hC : Does 214 P L ts en d i t j) (hs0 : isW ts j ⟨#[61, 61]⟩ = false) (hs1 : isW ts j ⟨#[60, 61]⟩ = false) (hs2 : isW ts j ⟨#[60]⟩ = true) (hD : Does 214 P L ts en d (j + 1) u k) : Does 199 P L ts en d i (twoE 11 t u) k := by
  intro w h
  have C := Lib.hid (hC _ (h.boxed (.cells zero10 44)))
  have D := Lib.hid hD
  have H := Lib.hid h
  clear hC hD h
  go_enter Tryz.func199, Tryz.ntmps199
  go_wp2_with (first
    | (go_at_call 214; refine C.out.mono ?_; rintro e w1 ⟨v, rfl, hv, h1, hp1⟩; have A := Lib.hid (Amid.start H.out hp1 hv h1); have hv10 := Lib.hid (And.intro hv.size hv.one); clear hv h1 hp1)
    | (refine stE rfl (.tmp 3) (.tmp 5) rfl w1.heap.size v _ rfl rfl (EB.new _ _) rfl hv10.out.1 hv10.out.2 ?_; refine Hid.out ?_))
  refine Lib.hid ?_
  rw [alloc_setRow]
  obtain ⟨w2, hw2⟩ : ∃ W, W = w1.alloc (.cells v 44) := ⟨_, rfl⟩
  rw [← hw2] at A ⊢
  obtain ⟨S, hS⟩ : ∃ S, S = w1.heap.size := ⟨_, rfl⟩
  rw [← hS] at A ⊢
  clear hw2 hS
  go_wp2_with (first
    | (go_at_call 144; (with_reducible refine (take_no A.out.ps hs0).mono ?_); rintro e w3 ⟨rfl, h3, p3⟩; replace A := Lib.hid (A.out.call p3 h3); clear h3 p3)
    | (go_at_call 144; (with_reducible refine (take_no A.out.ps hs1).mono ?_); rintro e w3 ⟨rfl, h3, p3⟩; replace A := Lib.hid (A.out.call p3 h3); clear h3 p3)
    | (go_at_call 144; (with_reducible refine (take_yes A.out.ps hs2).mono ?_); rintro e w3 ⟨rfl, h3, p3⟩; replace A := Lib.hid (A.out.call p3 h3); clear h3 p3; refine Hid.out ?_))
  refine Lib.hid ?_
  go_wp2_with fail
  refine wp_region_held_drew (S := fun _ => True) (by kernel_rfl) trivial (fun _ => ?_)
  refine takeG (i := 1) (some 21) (.pointer (some ⟨P, 0, none⟩)) rfl rfl (by kernel_rfl) (by kernel_rfl) (by kernel_rfl) (fun _ _ _ h => h) trivial (by kernel_rfl) (fun W hW => by go_simp) ?_
  simp only [Act.put, List.setIfInBounds_toArray, List.set_cons_zero, List.set_cons_succ]
  refine wpAnyH_ready (rs := [0, 2]) (by kernel_rfl) (by simp) (AllReadyH.cons rfl (fun K1 hK1 => ?_) (AllReadyH.cons rfl (fun K2 hK2 => ?_) AllReadyH.nil))
  · refine branchL (some 20) (.tmp 3) S v rfl (by kernel_rfl) rfl rfl A.out.drew.x hv10.out.1 ?_
    refine hK1.out _ _ trivial (fun _ => ?_)
    simp only [Act.put, List.setIfInBounds_toArray, List.set_cons_zero, List.set_cons_succ]
    refine wpAnyH_ready (rs := [2]) (by kernel_rfl) (by simp) (AllReadyH.cons rfl (fun K2 hK2 => ?_) AllReadyH.nil)
    refine branchC 214 #[.pointer (some ⟨P, 0, none⟩)] (some 22) rfl (by kernel_rfl) (by go_simp) ((D.out _ A.out.drew.ps).mono ?_)
    rintro e w3 ⟨u, rfl, hu, h3, p3⟩
    refine ⟨_, rfl, ?_⟩
    have A3 := Lib.hid (A.out.drew.call p3 h3)
    have hu3 := Lib.hid (A.out.drew.fresh hu)
    clear hu h3 p3
    refine hK2.out _ _ trivial (fun _ => ?_)
    simp only [Act.put, List.setIfInBounds_toArray, List.set_cons_zero, List.set_cons_succ]
    refine wpAnyH_ready (rs := [3]) (by kernel_rfl) (by simp) (AllReadyH.cons rfl (fun K3 hK3 => ?_) AllReadyH.nil)
    refine branchC 176 #[.int .i64 11, .agg v, .agg u] (some 23) rfl (by kernel_rfl) (by go_simp) ((two_any (w := w3) (k := 11) (by decide) A3.out.own hu3.out).mono ?_)
    rintro e w4 ⟨x4, rfl, hx4, hb4⟩
    refine ⟨_, rfl, ?_⟩
    have hx5 := Lib.hid (A3.out.two hx4)
    have A4 := Lib.hid (A3.out.call (Pst.of_below hb4) (A3.out.ps.stay hb4))
    clear hx4 hb4
    refine hK3.out _ _ trivial (fun _ => ?_)
    simp only [Act.put, List.setIfInBounds_toArray, List.set_cons_zero, List.set_cons_succ]
    refine wpAnyH_ready (rs := [4]) (by kernel_rfl) (by simp) (AllReadyH.cons rfl (fun K4 hK4 => ?_) AllReadyH.nil)
    refine branchT (.tmp 2) (.tmp 23) w.heap.size x4 zero10 rfl (by kernel_rfl) rfl rfl rfl A4.out.res rfl hx5.out.size hx5.out.one ?_
    refine hK4.out _ _ trivial (fun _ => ?_)
    refine wpAnyH_done (by kernel_rfl) ?_ _
    obtain ⟨d1, d2, d3, d4⟩ := A4.out.tell hx5.out
    go_wp2_with fail
    exact bodyPost_ret (results_ten rfl _ _ w.heap.size x4 rfl d1 hx5.out.size) rfl ⟨x4, rfl, d2, d3, d4⟩
  · refine branchC 214 #[.pointer (some ⟨P, 0, none⟩)] (some 22) rfl (by kernel_rfl) (by go_simp) ((D.out _ A.out.drew.ps).mono ?_)
    rintro e w3 ⟨u, rfl, hu, h3, p3⟩
    refine ⟨_, rfl, ?_⟩
    have A3 := Lib.hid (A.out.drew.call p3 h3)
    have hu3 := Lib.hid (A.out.drew.fresh hu)
    clear hu h3 p3
    refine hK2.out _ _ trivial (fun _ => ?_)
    simp only [Act.put, List.setIfInBounds_toArray, List.set_cons_zero, List.set_cons_succ]
    refine wpAnyH_ready (rs := [0]) (by kernel_rfl) (by simp) (AllReadyH.cons rfl (fun K1 hK1 => ?_) AllReadyH.nil)
    refine branchL (some 20) (.tmp 3) S v rfl (by kernel_rfl) rfl rfl A3.out.x hv10.out.1 ?_
    refine hK1.out _ _ trivial (fun _ => ?_)
    simp only [Act.put, List.setIfInBounds_toArray, List.set_cons_zero, List.set_cons_succ]
    refine wpAnyH_ready (rs := [3]) (by kernel_rfl) (by simp) (AllReadyH.cons rfl (fun K3 hK3 => ?_) AllReadyH.nil)
    refine branchC 176 #[.int .i64 11, .agg v, .agg u] (some 23) rfl (by kernel_rfl) (by go_simp) ((two_any (w := w3) (k := 11) (by decide) A3.out.own hu3.out).mono ?_)
    rintro e w4 ⟨x4, rfl, hx4, hb4⟩
    refine ⟨_, rfl, ?_⟩
    have hx5 := Lib.hid (A3.out.two hx4)
    have A4 := Lib.hid (A3.out.call (Pst.of_below hb4) (A3.out.ps.stay hb4))
    clear hx4 hb4
    refine hK3.out _ _ trivial (fun _ => ?_)
    simp only [Act.put, List.setIfInBounds_toArray, List.set_cons_zero, List.set_cons_succ]
    refine wpAnyH_ready (rs := [4]) (by kernel_rfl) (by simp) (AllReadyH.cons rfl (fun K4 hK4 => ?_) AllReadyH.nil)
    refine branchT (.tmp 2) (.tmp 23) w.heap.size x4 zero10 rfl (by kernel_rfl) rfl rfl rfl A4.out.res rfl hx5.out.size hx5.out.one ?_
    refine hK4.out _ _ trivial (fun _ => ?_)
    refine wpAnyH_done (by kernel_rfl) ?_ _
    obtain ⟨d1, d2, d3, d4⟩ := A4.out.tell hx5.out
    go_wp2_with fail
    exact bodyPost_ret (results_ten rfl _ _ w.heap.size x4 rfl d1 hx5.out.size) rfl ⟨x4, rfl, d2, d3, d4⟩
set_option maxRecDepth 20000 in
set_option maxHeartbeats 4000000 in
theorem sum_any (F : Nat) (hC : ∀ f, f ≤ F → ∀ i x j, pE ts f .prod d i = some (x, j) → Does 220 P L ts en d i x j) (hp : pE ts F .prod d i = some (u, k)) (hs : pE ts F (.sumT u) d k = some (t, j)) : Does 214 P L ts en d i t j := by
  intro w h
  have C := Lib.hid (hC F (Nat.le_refl _) _ _ _ hp _ (h.boxed (.cells zero10 44)))
  have D := Lib.hid hC
  have H := Lib.hid h
  have HS := Lib.hid hs
  clear hC h hp hs
  go_enter Tryz.func214, Tryz.ntmps214
  go_wp2_with (first
    | (go_at_call 220; refine C.out.mono ?_; rintro e w1 ⟨v, rfl, hv, h1, hp1⟩; have A := Lib.hid (Amid.start H.out hp1 hv h1); have hv10 := Lib.hid (And.intro hv.size hv.one); clear hv h1 hp1)
    | (refine stE rfl (.tmp 3) (.tmp 5) rfl w1.heap.size v _ rfl rfl (EB.new _ _) rfl hv10.out.1 hv10.out.2 ?_; refine Hid.out ?_))
  refine Lib.hid ?_
  rw [alloc_setRow]
  obtain ⟨w2, hw2⟩ : ∃ W, W = w1.alloc (.cells v 44) := ⟨_, rfl⟩
  rw [← hw2] at A ⊢
  obtain ⟨S, hS⟩ : ∃ S, S = w1.heap.size := ⟨_, rfl⟩
  rw [← hS] at A ⊢
  clear hw2 hS
  go_wp2_with fail
  go_loopg [] F (fun n wr => ∃ (x : Array Value) (t' : ET) (q : Nat), n ≤ F ∧ Hid (Amid w P L ts en d q w.heap.size S zero10 x t' wr) ∧ Hid (x.size = 10 ∧ x.all (·.oneCell') = true) ∧ Hid (pE ts n (.sumT t') d q = some (t, j)))
  case atStart => exact ⟨v, u, k, Nat.le_refl _, A, hv10, HS⟩
  case round =>
    clear A hv10 HS C
    obtain ⟨x, t', q, hn, A, hv10, HS⟩ := hrel
    obtain ⟨m, rfl⟩ : ∃ m, gk = m + 1 := by
      cases gk with
      | zero => exact absurd HS.out (by simp [pE])
      | succ m => exact ⟨m, rfl⟩
    have hs := HS.out
    clear HS
    rw [pE] at hs
    by_cases h0 : isW ts q ⟨#[43]⟩ = true
    · rw [if_pos h0] at hs
      split at hs
      · cases hs
      · rename_i y r hy
        have HY := Lib.hid (D.out m (by omega) _ _ _ hy)
        have HS := Lib.hid hs
        clear hs hy
        go_wp2_with (first
          | (go_at_call 144; (with_reducible refine (take_yes A.out.ps h0).mono ?_); rintro e w3 ⟨rfl, h3, p3⟩; replace A := Lib.hid (A.out.call p3 h3); clear h3 p3; refine Hid.out ?_))
        refine Lib.hid ?_
        go_wp2_with fail
        refine wp_region_held_drew (S := fun _ => True) (by kernel_rfl) trivial (fun _ => ?_)
        refine takeG (i := 1) (some 9) (.pointer (some ⟨P, 0, none⟩)) rfl rfl (by kernel_rfl) (by kernel_rfl) (by kernel_rfl) (fun _ _ _ h => h) trivial (by kernel_rfl) (fun W hW => by go_simp) ?_
        simp only [Act.put, List.setIfInBounds_toArray, List.set_cons_zero, List.set_cons_succ]
        refine wpAnyH_ready (rs := [0, 2]) (by kernel_rfl) (by simp) (AllReadyH.cons rfl (fun K1 hK1 => ?_) (AllReadyH.cons rfl (fun K2 hK2 => ?_) AllReadyH.nil))
        · refine branchL (some 8) (.tmp 3) S x rfl (by kernel_rfl) rfl rfl A.out.drew.x hv10.out.1 ?_
          refine hK1.out _ _ trivial (fun _ => ?_)
          simp only [Act.put, List.setIfInBounds_toArray, List.set_cons_zero, List.set_cons_succ]
          refine wpAnyH_ready (rs := [2]) (by kernel_rfl) (by simp) (AllReadyH.cons rfl (fun K2 hK2 => ?_) AllReadyH.nil)
          refine branchC 220 #[.pointer (some ⟨P, 0, none⟩)] (some 10) rfl (by kernel_rfl) (by go_simp) ((HY.out _ A.out.drew.ps).mono ?_)
          rintro e w3 ⟨u, rfl, hu, h3, p3⟩
          refine ⟨_, rfl, ?_⟩
          have A3 := Lib.hid (A.out.drew.call p3 h3)
          have hu3 := Lib.hid (A.out.drew.fresh hu)
          clear hu h3 p3
          refine hK2.out _ _ trivial (fun _ => ?_)
          simp only [Act.put, List.setIfInBounds_toArray, List.set_cons_zero, List.set_cons_succ]
          refine wpAnyH_ready (rs := [3]) (by kernel_rfl) (by simp) (AllReadyH.cons rfl (fun K3 hK3 => ?_) AllReadyH.nil)
          refine branchC 176 #[.int .i64 5, .agg x, .agg u] (some 11) rfl (by kernel_rfl) (by go_simp) ((two_any (w := w3) (k := 5) (by decide) A3.out.own hu3.out).mono ?_)
          rintro e w4 ⟨x4, rfl, hx4, hb4⟩
          refine ⟨_, rfl, ?_⟩
          have hx5 := Lib.hid (A3.out.two hx4)
          have A4 := Lib.hid (A3.out.call (Pst.of_below hb4) (A3.out.ps.stay hb4))
          clear hx4 hb4
          refine hK3.out _ _ trivial (fun _ => ?_)
          simp only [Act.put, List.setIfInBounds_toArray, List.set_cons_zero, List.set_cons_succ]
          refine wpAnyH_ready (rs := [4]) (by kernel_rfl) (by simp) (AllReadyH.cons rfl (fun K4 hK4 => ?_) AllReadyH.nil)
          refine branchT (.tmp 3) (.tmp 11) S x4 x rfl (by kernel_rfl) rfl rfl rfl A4.out.x hv10.out.1 hx5.out.size hx5.out.one ?_
          refine hK4.out _ _ trivial (fun _ => ?_)
          refine wpAnyH_done (by kernel_rfl) ?_ _
          have A5 := Lib.hid (A4.out.put hx5.out)
          have hz := Lib.hid (And.intro hx5.out.size hx5.out.one)
          go_wp2_with fail
          go_roundg m
          case measure => omega
          case rel => exact ⟨x4, _, _, by omega, A5, hz, HS⟩
        · refine branchC 220 #[.pointer (some ⟨P, 0, none⟩)] (some 10) rfl (by kernel_rfl) (by go_simp) ((HY.out _ A.out.drew.ps).mono ?_)
          rintro e w3 ⟨u, rfl, hu, h3, p3⟩
          refine ⟨_, rfl, ?_⟩
          have A3 := Lib.hid (A.out.drew.call p3 h3)
          have hu3 := Lib.hid (A.out.drew.fresh hu)
          clear hu h3 p3
          refine hK2.out _ _ trivial (fun _ => ?_)
          simp only [Act.put, List.setIfInBounds_toArray, List.set_cons_zero, List.set_cons_succ]
          refine wpAnyH_ready (rs := [0]) (by kernel_rfl) (by simp) (AllReadyH.cons rfl (fun K1 hK1 => ?_) AllReadyH.nil)
          refine branchL (some 8) (.tmp 3) S x rfl (by kernel_rfl) rfl rfl A3.out.x hv10.out.1 ?_
          refine hK1.out _ _ trivial (fun _ => ?_)
          simp only [Act.put, List.setIfInBounds_toArray, List.set_cons_zero, List.set_cons_succ]
          refine wpAnyH_ready (rs := [3]) (by kernel_rfl) (by simp) (AllReadyH.cons rfl (fun K3 hK3 => ?_) AllReadyH.nil)
          refine branchC 176 #[.int .i64 5, .agg x, .agg u] (some 11) rfl (by kernel_rfl) (by go_simp) ((two_any (w := w3) (k := 5) (by decide) A3.out.own hu3.out).mono ?_)
          rintro e w4 ⟨x4, rfl, hx4, hb4⟩
          refine ⟨_, rfl, ?_⟩
          have hx5 := Lib.hid (A3.out.two hx4)
          have A4 := Lib.hid (A3.out.call (Pst.of_below hb4) (A3.out.ps.stay hb4))
          clear hx4 hb4
          refine hK3.out _ _ trivial (fun _ => ?_)
          simp only [Act.put, List.setIfInBounds_toArray, List.set_cons_zero, List.set_cons_succ]
          refine wpAnyH_ready (rs := [4]) (by kernel_rfl) (by simp) (AllReadyH.cons rfl (fun K4 hK4 => ?_) AllReadyH.nil)
          refine branchT (.tmp 3) (.tmp 11) S x4 x rfl (by kernel_rfl) rfl rfl rfl A4.out.x hv10.out.1 hx5.out.size hx5.out.one ?_
          refine hK4.out _ _ trivial (fun _ => ?_)
          refine wpAnyH_done (by kernel_rfl) ?_ _
          have A5 := Lib.hid (A4.out.put hx5.out)
          have hz := Lib.hid (And.intro hx5.out.size hx5.out.one)
          go_wp2_with fail
          go_roundg m
          case measure => omega
          case rel => exact ⟨x4, _, _, by omega, A5, hz, HS⟩
    · rw [if_neg h0] at hs
      have h0' : isW ts q ⟨#[43]⟩ = false := by simpa using h0
      by_cases h1 : isW ts q ⟨#[45]⟩ = true
      · rw [if_pos h1] at hs
        cases hs
      · rw [if_neg h1] at hs
        have h1' : isW ts q ⟨#[45]⟩ = false := by simpa using h1
        injection hs with hs
        injection hs with e1 e2
        subst e1 e2
        clear h0 h1
        go_wp2_with (first
          | (go_at_call 144; (with_reducible refine (take_no A.out.ps h0').mono ?_); rintro e w3 ⟨rfl, h3, p3⟩; replace A := Lib.hid (A.out.call p3 h3); clear h3 p3)
          | (go_at_call 144; (with_reducible refine (take_no A.out.ps h1').mono ?_); rintro e w3 ⟨rfl, h3, p3⟩; replace A := Lib.hid (A.out.call p3 h3); clear h3 p3)
          | (refine ldE rfl (.tmp 3) rfl S x rfl A.out.x hv10.out.1 ?_)
          | (refine stE rfl (.tmp 2) (.tmp 18) rfl w.heap.size x zero10 rfl rfl A.out.res rfl hv10.out.1 hv10.out.2 ?_; refine Hid.out ?_))
        refine Lib.hid ?_
        go_wp2_with fail
        obtain ⟨d1, d2, d3, d4⟩ := A.out.done
        exact bodyPost_ret (results_ten rfl _ _ w.heap.size x rfl d1 hv10.out.1) rfl ⟨x, rfl, d2, d3, d4⟩
end
end Go.Proofs.YtcmohggnehkjeaaGreat
