/-
  The state of order: what is left of each node, and the queue.
  The state of order's second loop: what is left, the queue, and the list.
  The landed from at a root that was met; isNode, wait.
  The landed graphOf: rows of edges out and in, as far as the edges were gone through; both families in memory.
-/
import Derived.Test.YtmbjmibjobpdgaaM34
import Derived.Test.YtmbjmibjobpdgaaM30
import Derived.Test.YtmbjmibjobpdgaaM27
namespace Go.Proofs.Ytmbjmibjobpdgaa
open Go.RowKit

/-- A row of the call's own doesn't see what lies below it. -/
theorem OwnI.low_set {w : World} {B : Nat} {v : Value} {L : List Int} (h : OwnI w B v L) {g i : Nat} (hg : g < B) (x : Value) : OwnI (w.setCell ⟨g, i, none⟩ x) B v L := by
  rcases id h.2 with ⟨h1, h2⟩ | ⟨g', cap, cur, e, hb, hh, h1, h2, h3, h4⟩
  · exact ⟨h.1, .inl ⟨h1, h2⟩⟩
  · exact ⟨h.1, .inr ⟨g', cap, cur, e, hb, (Below.heap_setCell _ ⟨g, i, none⟩ _ _ (show g' ≠ g by omega)).trans hh, h1, h2, h3, h4⟩⟩
/-- What is left of each node in block gl, and the queue in box b; its row lies at B or above. -/
structure Kq (w1 wr : World) (gl b B n : Nat) (fl : Nat → Int) (v : Value) (m : Nat) (f : Nat → Int) : Prop where
  left : OAt wr gl n fl
  q : Qv wr wr b B v m f
  bow : Bow B gl w1 wr
  lt : gl < B
section
variable {w1 wr w' : World} {gl b B n m : Nat} {fl : Nat → Int} {v v' : Value} {f f' : Nat → Int}
theorem Kq.ne (h : Kq w1 wr gl b B n fl v m f) : b ≠ gl := by have := h.q.lt; have := h.lt; omega
/-- Nothing that counts moved. -/
theorem Kq.same (h : Kq w1 wr gl b B n fl v m f) (hs : Sm wr w') : Kq w1 w' gl b B n fl v m f := by
  have hb := hs.below wr.heap.size
  refine ⟨CB.block h.left (by rw [hs.heap]), ⟨by rw [hs.heap]; exact h.q.box, h.q.own.below hb, Below.refl _ _, h.q.lt⟩, h.bow.trans ⟨hs.os, hs.tape, hs.output, by rw [hs.heap]; exact Nat.le_refl _, fun k _ _ => by rw [hs.heap]⟩, h.lt⟩
/-- A call that keeps all below the queue's own. -/
theorem Kq.call (h : Kq w1 wr gl b B n fl v m f) {m' : Nat} (hq : Qv wr w' b B v' m' f') : Kq w1 w' gl b B n fl v' m' f' :=
  ⟨CB.block h.left (hq.below.block gl h.lt), ⟨hq.box, hq.own, Below.refl _ _, hq.lt⟩, h.bow.trans ⟨hq.below.os, hq.below.tape, hq.below.output, hq.below.size, fun k hk _ => hq.below.block k hk⟩, h.lt⟩
/-- A store into what is left. -/
theorem Kq.set (h : Kq w1 wr gl b B n fl v m f) (i : Nat) (x : Int) : Kq w1 (wr.setCell ⟨gl, i, none⟩ (.int .i64 x)) gl b B n (fup fl i x) v m f :=
  ⟨h.left.set i x, ⟨(Below.heap_setCell _ ⟨gl, i, none⟩ _ _ h.ne).trans h.q.box, h.q.own.low_set h.lt _, Below.refl _ _, h.q.lt⟩, h.bow.set i _, h.lt⟩
end
end Go.Proofs.Ytmbjmibjobpdgaa
namespace Go.Proofs.Ytmbjmibjobpdgaa
open Go.RowKit

structure Ok2 (w1 wr : World) (gl b n : Nat) (fl : Nat → Int) (v : Value) (m : Nat) (f : Nat → Int) (lv : Value) (L : List Int) : Prop where
  kq : Kq w1 wr gl b b n fl v m f
  own : OwnI wr (b + 1) lv L
  ap : lv.ownBlock = none ∨ lv.ownBlock ≠ v.ownBlock
section
variable {w1 wr w' w8 : World} {gl b n m m' : Nat} {fl : Nat → Int} {v v' lv lv' : Value} {f f' : Nat → Int} {L : List Int}
theorem Kq.alloc (h : Kq w1 wr gl b b n fl v m f) (o : Obj) : Kq w1 (wr.alloc o) gl b b n fl v m f := by
  have hb : Below wr.heap.size wr (wr.alloc o) := (Below.refl _ _).alloc (Nat.le_refl _) _
  have hbl : b < wr.heap.size := row_lt h.q.box
  exact ⟨h.left.keep hb, ⟨(hb.block b hbl).trans h.q.box, h.q.own.below hb, Below.refl _ _, Nat.le_refl _⟩, h.bow.step hb (by omega), h.lt⟩
theorem Kq.congr (h : Kq w1 wr gl b b n fl v m f) {fl' : Nat → Int} (he : ∀ i, i < n → fl i = fl' i) : Kq w1 wr gl b b n fl' v m f :=
  ⟨CB.congr h.left fun i hi => by show Value.int .i64 (fl' i) = .int .i64 (fl i); rw [he i hi], h.q, h.bow, h.lt⟩
theorem Ok2.alloc (h : Ok2 w1 wr gl b n fl v m f lv L) (o : Obj) : Ok2 w1 (wr.alloc o) gl b n fl v m f lv L :=
  ⟨h.kq.alloc o, h.own.below ((Below.refl _ _).alloc (Nat.le_refl _) _), h.ap⟩
theorem Ok2.same (h : Ok2 w1 wr gl b n fl v m f lv L) (hs : Sm wr w') : Ok2 w1 w' gl b n fl v m f lv L :=
  ⟨h.kq.same hs, h.own.below (hs.below _), h.ap⟩
theorem Ok2.set (h : Ok2 w1 wr gl b n fl v m f lv L) (i : Nat) (x : Int) : Ok2 w1 (wr.setCell ⟨gl, i, none⟩ (.int .i64 x)) gl b n (fup fl i x) v m f lv L :=
  ⟨h.kq.set i x, h.own.low_set (by have := h.kq.lt; omega) _, h.ap⟩
theorem Ok2.pa (h : Ok2 w1 wr gl b n fl v m f lv L) : v.ownBlock = none ∨ v.ownBlock ≠ lv.ownBlock := by
  cases e : v.ownBlock with
  | none => exact .inl rfl
  | some k =>
    right
    rcases h.ap with a | a
    · rw [a]; intro e2; cases e2
    · rw [← e]; exact Ne.symm a
/-- The queue moved. -/
theorem Ok2.call (h : Ok2 w1 wr gl b n fl v m f lv L) (hq : Qv wr w' b b v' m' f') (hF : Fq wr b v w' v') : Ok2 w1 w' gl b n fl v' m' f' lv L := by
  refine ⟨h.kq.call hq, ?_, ?_⟩
  · have ho := h.own
    rcases id ho.2 with ⟨h1, h2⟩ | ⟨g', cap, cur, e, hb, hh, h1, h2, h3, h4⟩
    · exact ⟨ho.1, .inl ⟨h1, h2⟩⟩
    · refine ⟨ho.1, .inr ⟨g', cap, cur, e, hb, (hF.block g' (row_lt hh) (by omega) ?_).trans hh, h1, h2, h3, h4⟩⟩
      rcases h.ap with a | a
      · rw [e] at a; cases a
      · intro e2
        apply a
        rw [e]
        exact e2
  · rcases hF.row with e | ⟨k, e, hk⟩
    · rw [e]; exact h.ap
    · cases e2 : lv.ownBlock with
      | none => exact .inl rfl
      | some j =>
        right
        rw [e]
        intro e3
        injection e3 with e3
        have := (World.ownsRow.lt h.own j e2).2
        omega
/-- The list grew. -/
theorem Ok2.push (h : Ok2 w1 wr gl b n fl v m f lv L) {x : Int} (ho : OwnI w8 (b + 1) lv' (L ++ [x])) (hg : wr.grownBy w8 lv.ownBlock) (hat : lv'.ownBlock = lv.ownBlock ∨ lv'.ownBlock = some wr.heap.size) : Ok2 w1 w8 gl b n fl v m f lv' (L ++ [x]) := by
  have hne : ∀ k, k ≤ b → some k ≠ lv.ownBlock := fun k hk e => by have := (World.ownsRow.lt h.own k e.symm).1; omega
  have hbl : b < wr.heap.size := row_lt h.kq.q.box
  have hlt := h.kq.lt
  refine ⟨⟨h.kq.left.block (hg.block gl h.kq.left.lt (hne gl (by omega))), ⟨(hg.block b hbl (hne b (Nat.le_refl _))).trans h.kq.q.box, World.ownsRow.kept h.kq.q.own hg h.pa, Below.refl _ _, Nat.le_refl _⟩, h.kq.bow.grown hg (by omega) (fun k e => .inl (by have := (World.ownsRow.lt h.own k e).1; omega)), hlt⟩, ho, ?_⟩
  rcases hat with a | a
  · rw [a]; exact h.ap
  · right
    intro e
    rw [a] at e
    have := (World.ownsRow.lt h.kq.q.own _ e.symm).2
    omega
end
/-- The order's first j. -/
def ordI (G : GT) (j : Nat) : List Int := (List.range j).map fun k => (ordK G.n (inE G) k : Int)
theorem ordI_succ (G : GT) (j : Nat) : ordI G (j + 1) = ordI G j ++ [(ordK G.n (inE G) j : Int)] := by
  unfold ordI
  rw [List.range_succ, List.map_append]
  rfl
theorem ordI_len (G : GT) (j : Nat) : (ordI G j).length = j := by simp [ordI]
def dn (G : GT) (j : Nat) : Nat → Bool := doneK G.n (inE G) j
/-- At the second loop's head: j were taken. -/
def L2 (G : GT) (w1 wr : World) (gl b j : Nat) (lv : Value) : Prop := ∃ v m f, Ok2 w1 wr gl b G.n (fun t => (cntD G (dn G j) t : Int)) v m f lv (ordI G j) ∧ HeapOk f m ∧ Numbs f m (Rdy G (dn G j) (cntD G (dn G j))) ∧ Kn G j ∧ m ≤ G.n
/-- Amid a node's ways: i of them were gone through. -/
def L3 (G : GT) (w1 wr : World) (gl b j x i : Nat) (lv : Value) : Prop := ∃ v m f, Ok2 w1 wr gl b G.n (fun t => (lfK G (dn G j) ((outN G x).take i) t : Int)) v m f lv (ordI G (j + 1)) ∧ HeapOk f m ∧ Numbs f m (Rdy G (upd (dn G j) x true) (lfK G (dn G j) ((outN G x).take i))) ∧ m ≤ G.n
theorem Rdy.bound {G : GT} {done : Nat → Bool} {lf : Nat → Nat} (x : Int) (h : Rdy G done lf x) : 0 ≤ x ∧ x < (G.n : Int) := by
  obtain ⟨i, rfl, hi, _⟩ := h
  omega
/-- The first loop's end is the second one's begin. -/
theorem L2.start {G : GT} {w1 wr : World} {gl b : Nat} {v : Value} {m : Nat} {f : Nat → Int} (hK : Kq w1 wr gl b b G.n (fun i => ((inN G i).length : Int)) v m f) (hH : HeapOk f m) (hN : Numbs f m (fun x => ∃ i : Nat, x = i ∧ i < G.n ∧ inN G i = [])) : L2 G w1 wr gl b 0 (.slice none 0 0) := by
  have e : (fun t => (cntD G (dn G 0) t : Int)) = fun i => ((inN G i).length : Int) := by
    funext t
    show ((cntD G (fun _ => false) t : Nat) : Int) = _
    rw [cntD_none]
  have hN2 : Numbs f m (Rdy G (dn G 0) (cntD G (dn G 0))) := ⟨fun x => by
    rw [← hN.1 x]
    constructor
    · rintro ⟨i, e, hi, _, h0⟩
      have h0 : cntD G (fun _ => false) i = 0 := h0
      rw [cntD_none] at h0
      exact ⟨i, e, hi, List.length_eq_zero_iff.1 h0⟩
    · rintro ⟨i, e, hi, h0⟩
      exact ⟨i, e, hi, rfl, by show cntD G (fun _ => false) i = 0; rw [cntD_none, h0]; rfl⟩, hN.2⟩
  refine ⟨v, m, f, ⟨by rw [e]; exact hK, OwnI.nil _ _, .inl rfl⟩, hH, hN2, Kn.zero, hN2.bound Rdy.bound⟩
/-- The least was taken out of the queue: it's the order's next. -/
theorem L2.next {G : GT} {j m : Nat} {f : Nat → Int} (hH : HeapOk f (m + 1)) (hN : Numbs f (m + 1) (Rdy G (dn G j) (cntD G (dn G j)))) (hK : Kn G j) :
    ∃ x : Nat, f 0 = x ∧ x = ordK G.n (inE G) j ∧ x < G.n ∧ dn G j x = false ∧ cntD G (dn G j) x = 0 ∧ dn G (j + 1) = upd (dn G j) x true ∧ Kn G (j + 1) := by
  obtain ⟨x, e, hx⟩ := (hN.1 (f 0)).2 ⟨0, by omega, rfl⟩
  have hr : Rdy G (dn G j) (cntD G (dn G j)) (x : Int) := ⟨x, rfl, hx⟩
  have hn := next_least hr fun y hy => by
    obtain ⟨k, hk, e2⟩ := (hN.1 y).1 hy
    have := hH.least k hk
    omega
  obtain ⟨a1, a2, a3, a4, a5, a6⟩ := hK.succ hn
  exact ⟨x, e, a2.symm, a3, a4, a5, a1, a6⟩
theorem L3.start {G : GT} {j m x : Nat} {f : Nat → Int} (hN : Numbs f m (fun y => Rdy G (dn G j) (cntD G (dn G j)) y ∧ y ≠ (x : Int))) : Numbs f m (Rdy G (upd (dn G j) x true) (lfK G (dn G j) ((outN G x).take 0))) := by
  refine ⟨fun y => ?_, hN.2⟩
  rw [← hN.1 y]
  constructor
  · rintro ⟨i, rfl, hi, hd, hl⟩
    by_cases e : i = x
    · subst e; rw [upd_same] at hd; cases hd
    · rw [upd_far e] at hd
      rw [List.take_zero, lfK_nil] at hl
      exact ⟨⟨i, rfl, hi, hd, hl⟩, by omega⟩
  · rintro ⟨⟨i, rfl, hi, hd, hl⟩, hne⟩
    exact ⟨i, rfl, hi, by rw [upd_far (by omega)]; exact hd, by rw [List.take_zero, lfK_nil]; exact hl⟩
theorem Ok2.congr {w1 wr : World} {gl b n m : Nat} {fl fl' : Nat → Int} {v lv : Value} {f : Nat → Int} {L : List Int} (h : Ok2 w1 wr gl b n fl v m f lv L) (he : ∀ i, i < n → fl i = fl' i) : Ok2 w1 wr gl b n fl' v m f lv L := ⟨h.kq.congr he, h.own, h.ap⟩
/-- One way more: what is left of the node that it leads to. -/
theorem L3.step {G : GT} {w1 wr : World} {gl b j x i m : Nat} {v lv : Value} {f : Nat → Int} {L : List Int} (hK : Kn G j) (hv : dn G j x = false) (h0 : cntD G (dn G j) x = 0) (hi : i < (outN G x).length) (h : Ok2 w1 wr gl b G.n (fun t => (lfK G (dn G j) ((outN G x).take i) t : Int)) v m f lv L) :
    ∃ c : Nat, lfK G (dn G j) ((outN G x).take i) (outN G x)[i] = c + 1 ∧ Ok2 w1 (wr.setCell ⟨gl, (outN G x)[i], none⟩ (.int .i64 (c : Int))) gl b G.n (fun t => (lfK G (dn G j) ((outN G x).take (i + 1)) t : Int)) v m f lv L ∧ ¬ Rdy G (upd (dn G j) x true) (lfK G (dn G j) ((outN G x).take i)) ((outN G x)[i] : Int) ∧ ∀ y, Rdy G (upd (dn G j) x true) (lfK G (dn G j) ((outN G x).take (i + 1))) y ↔ (Rdy G (upd (dn G j) x true) (lfK G (dn G j) ((outN G x).take i)) y ∨ (c = 0 ∧ y = ((outN G x)[i] : Int))) := by
  have e1 : outN G x = (outN G x).take i ++ (outN G x)[i] :: (outN G x).drop (i + 1) := by
    rw [← List.drop_eq_getElem_cons hi, List.take_append_drop]
  have e2 : (outN G x).take (i + 1) = (outN G x).take i ++ [(outN G x)[i]] := by
    rw [List.take_add_one, List.getElem?_eq_getElem hi]; rfl
  obtain ⟨a1, a2, a3⟩ := lfK_step hv e1
  obtain ⟨r1, r2⟩ := rdy_step hK.ok hv h0 e1
  rw [e2]
  generalize (outN G x)[i] = to at *
  generalize (outN G x).take i = pre at *
  obtain ⟨c, hc⟩ : ∃ c, lfK G (dn G j) pre to = c + 1 := ⟨lfK G (dn G j) pre to - 1, by omega⟩
  have hc2 : lfK G (dn G j) (pre ++ [to]) to = c := by omega
  refine ⟨c, hc, (h.set to (c : Int)).congr fun t _ => ?_, r1, fun y => ?_⟩
  · by_cases e : t = to
    · subst e; rw [fup_same, hc2]
    · rw [fup_far e, a3 t e]
  · have r3 := r2 y
    change Rdy G (upd (dn G j) x true) (lfK G (dn G j) (pre ++ [to])) y ↔ (Rdy G (upd (dn G j) x true) (lfK G (dn G j) pre) y ∨ (lfK G (dn G j) (pre ++ [to]) to = 0 ∧ y = (to : Int))) at r3
    rw [hc2] at r3
    exact r3
/-- All of a node's ways were gone through: one more was taken. -/
theorem L3.done {G : GT} {w1 wr : World} {gl b j x : Nat} {lv : Value} (hv : dn G j x = false) (e : dn G (j + 1) = upd (dn G j) x true) (hK : Kn G (j + 1)) (h : L3 G w1 wr gl b j x (outN G x).length lv) : L2 G w1 wr gl b (j + 1) lv := by
  obtain ⟨v, m, f, hO, hH, hN, hm⟩ := h
  rw [List.take_length] at hO hN
  have e2 : lfK G (dn G j) (outN G x) = cntD G (dn G (j + 1)) := by
    funext t
    rw [e]
    exact lfK_all hv t
  rw [e2] at hO hN
  rw [← e] at hN
  exact ⟨v, m, f, hO, hH, hN, hK, hm⟩
end Go.Proofs.Ytmbjmibjobpdgaa
namespace Go.Proofs.Ytmbjmibjobpdgaa
open Go.RowKit

set_option maxRecDepth 20000 in
set_option maxHeartbeats 1000000 in
theorem from_met {w : World} {gm n cm root : Nat} {v : Value} {met : Nat → Bool} (hm : MetAt w gm n met) (hr : root < n) (hmet : met root = true) :
    Calls Try.prog 39 #[.agg #[.slice (some ⟨gm, 0, none⟩) n cm, v], .int .i64 root] w fun e w' => e = .returned (.slice none 0 0) ∧ Below w.heap.size w w' := by
  have hgm := hm.lt
  obtain ⟨W0, hW0⟩ : ∃ W0, W0 = w.alloc (.cells #[.slice (some ⟨gm, 0, none⟩) n cm, v] 82) := ⟨_, rfl⟩
  have hb0 : Below w.heap.size w W0 := by rw [hW0]; exact (Below.refl _ _).alloc (Nat.le_refl _) _
  have hbox : W0.heap[w.heap.size]? = some (.cells #[.slice (some ⟨gm, 0, none⟩) n cm, v] 82 (0, 0)) := by rw [hW0]; exact heap_alloc_new w _
  have c1 : W0.cell? ⟨w.heap.size, 0, none⟩ = some (.slice (some ⟨gm, 0, none⟩) n cm) := by rw [cell_of_row W0 _ 0 _ _ (0, 0) hbox]; rfl
  have c3 := (CB.keep hm hb0).cell hr
  rw [hmet] at c3
  have HB := Lib.hid hb0
  have HE := Lib.hid hW0
  clear hm hmet hb0 hbox hW0
  go_enter Try.func39, Try.ntmps39
  have e0 := HE.out.symm
  go_wp2_with fail
  go_ret
  exact ⟨rfl, HB.out⟩
set_option maxRecDepth 20000 in
set_option maxHeartbeats 1000000 in
theorem rNode_any (w : World) (m0 m1 m2 m3 m4 : Value) (N : Option Addr) (n nn : Nat) (x : Int) (b : Bool) (hb : b = true ↔ 0 ≤ x ∧ x < (n : Int)) :
    Calls Try.prog 37 #[.agg #[m0, m1, m2, m3, m4, .slice N n nn], .int .i64 x] w fun e w' => e = .returned (.bool b) ∧ Below w.heap.size w w' := by
  have HB : Hid (Below w.heap.size w (w.alloc (.cells #[m0, m1, m2, m3, m4, .slice N n nn] 27))) := Lib.hid ((Below.refl _ _).alloc (Nat.le_refl _) _)
  have c5 : (w.alloc (.cells #[m0, m1, m2, m3, m4, .slice N n nn] 27)).cell? ⟨w.heap.size, 5, none⟩ = some (.slice N n nn) := by rw [cell_of_row _ _ 5 _ _ (0, 0) (heap_alloc_new w _)]; rfl
  by_cases h0 : 0 ≤ x
  · by_cases h1 : x < (n : Int)
    · obtain rfl := hb.2 ⟨h0, h1⟩
      clear hb
      go_enter Try.func37, Try.ntmps37
      go_wp2_with fail
      go_ret
      exact ⟨rfl, HB.out⟩
    · obtain rfl : b = false := Bool.eq_false_iff.2 fun h => h1 (hb.1 h).2
      clear hb
      go_enter Try.func37, Try.ntmps37
      go_wp2_with fail
      go_ret
      exact ⟨rfl, HB.out⟩
  · obtain rfl : b = false := Bool.eq_false_iff.2 fun h => h0 (hb.1 h).1
    clear hb
    go_enter Try.func37, Try.ntmps37
    go_wp2_with fail
    go_ret
    exact ⟨rfl, HB.out⟩
end Go.Proofs.Ytmbjmibjobpdgaa
namespace Go.Proofs.Ytmbjmibjobpdgaa
open Go.RowKit

def outK (G : GT) (k i : Nat) : List Nat := ((((edgesL G G.n).take k).filter (toN G.n)).filter fun e => e.1 == (i : Int)).map fun e => e.2.2.toNat
def inK (G : GT) (k i : Nat) : List Nat := ((((edgesL G G.n).take k).filter (toN G.n)).filter fun e => e.2.2 == (i : Int)).map fun e => e.1.toNat
theorem outK_all (G : GT) (i : Nat) : outK G (edgesL G G.n).length i = outN G i := by unfold outK outN inE; rw [List.take_length]
theorem inK_all (G : GT) (i : Nat) : inK G (edgesL G G.n).length i = inN G i := by unfold inK inN inE; rw [List.take_length]
theorem outK_zero (G : GT) (i : Nat) : outK G 0 i = [] := rfl
theorem inK_zero (G : GT) (i : Nat) : inK G 0 i = [] := rfl
theorem outK_len (G : GT) (k i : Nat) : (outK G k i).length ≤ (edgesL G G.n).length := by
  unfold outK
  rw [List.length_map]
  exact Nat.le_trans (List.length_filter_le _ _) (filter_len _ _ _)
theorem inK_len (G : GT) (k i : Nat) : (inK G k i).length ≤ (edgesL G G.n).length := by
  unfold inK
  rw [List.length_map]
  exact Nat.le_trans (List.length_filter_le _ _) (filter_len _ _ _)
section
variable {G : GT} {k : Nat} (hk : k < (edgesL G G.n).length)
include hk
theorem outK_skip (h : toN G.n (edgesL G G.n)[k] = false) (i : Nat) : outK G (k + 1) i = outK G k i := by
  unfold outK
  rw [filter_snoc _ _ hk, h]
  simp
theorem inK_skip (h : toN G.n (edgesL G G.n)[k] = false) (i : Nat) : inK G (k + 1) i = inK G k i := by
  unfold inK
  rw [filter_snoc _ _ hk, h]
  simp
theorem outK_step (h : toN G.n (edgesL G G.n)[k] = true) {p q : Nat} (h1 : (edgesL G G.n)[k].1 = (p : Int)) (h2 : (edgesL G G.n)[k].2.2 = (q : Int)) (i : Nat) : outK G (k + 1) i = if i = p then outK G k i ++ [q] else outK G k i := by
  unfold outK
  rw [filter_snoc _ _ hk, h, if_pos rfl, List.filter_append, List.map_append]
  by_cases e : i = p
  · subst e
    rw [if_pos rfl, List.filter_cons_of_pos (by simp [h1])]
    simp [h2]
  · rw [if_neg e, List.filter_cons_of_neg (by simp [h1]; omega)]
    simp
theorem inK_step (h : toN G.n (edgesL G G.n)[k] = true) {p q : Nat} (h1 : (edgesL G G.n)[k].1 = (p : Int)) (h2 : (edgesL G G.n)[k].2.2 = (q : Int)) (i : Nat) : inK G (k + 1) i = if i = q then inK G k i ++ [p] else inK G k i := by
  unfold inK
  rw [filter_snoc _ _ hk, h, if_pos rfl, List.filter_append, List.map_append]
  by_cases e : i = q
  · subst e
    rw [if_pos rfl, List.filter_cons_of_pos (by simp [h2])]
    simp [h1]
  · rw [if_neg e, List.filter_cons_of_neg (by simp [h2]; omega)]
    simp
end
/-- Both families, one behind the other. -/
def rowsK (G : GT) (k : Nat) (t : Nat) : List Int := if t < G.n then ofNs (outK G k t) else ofNs (inK G k (t - G.n))
/-- Both families of rows of ints of the call's own, each in a block of theirs. -/
structure Sg (w2 wr : World) (gO gI n B : Nat) (us : Nat → Value) (Ls : Nat → List Int) : Prop where
  co : CB wr 30 gO n us
  ci : CB wr 30 gI n (fun t => us (n + t))
  fam : Fam wr B us Ls (n + n)
  bu : Bu B gO gI w2 wr
  ne : gO ≠ gI
section
variable {w2 wr w8 : World} {gO gI n B k : Nat} {us : Nat → Value} {Ls : Nat → List Int}
theorem Bu.drew {g1 g2 : Nat} {w w' : World} (h : Bu B g1 g2 w w') : Bu B g1 g2 w w'.drew := ⟨h.os, h.tape, h.output, h.size, h.block⟩
theorem Sg.drew (h : Sg w2 wr gO gI n B us Ls) : Sg w2 wr.drew gO gI n B us Ls := ⟨h.co, h.ci, h.fam, h.bu.drew, h.ne⟩
theorem Sg.congr {Ls' : Nat → List Int} (h : Sg w2 wr gO gI n B us Ls) (he : ∀ t, t < n + n → Ls' t = Ls t) : Sg w2 wr gO gI n B us Ls' := ⟨h.co, h.ci, h.fam.congr he, h.bu, h.ne⟩
theorem Sg.step (h : Sg w2 wr gO gI n B us Ls) (hB : B ≤ wr.heap.size) (hb : Below wr.heap.size wr w8) : Sg w2 w8 gO gI n B us Ls :=
  ⟨h.co.keep hb, h.ci.keep hb, h.fam.below hb, h.bu.step hb hB, h.ne⟩
theorem Sg.alloc (h : Sg w2 wr gO gI n B us Ls) (hB : B ≤ wr.heap.size) (o : Obj) : Sg w2 (wr.alloc o) gO gI n B us Ls := h.step hB ((Below.refl _ _).alloc (Nat.le_refl _) _)
theorem Sg.outCell (h : Sg w2 wr gO gI n B us Ls) (hk : k < n) : wr.cell? ⟨gO, k, none⟩ = some (us k) ∧ wr.frozen? ⟨gO, k, none⟩ = false := ⟨h.co.cell hk, h.co.free k⟩
theorem Sg.inCell (h : Sg w2 wr gO gI n B us Ls) (hk : k < n) : wr.cell? ⟨gI, k, none⟩ = some (us (n + k)) ∧ wr.frozen? ⟨gI, k, none⟩ = false := ⟨h.ci.cell hk, h.ci.free k⟩
/-- One row grew: ahead of the store. -/
theorem Sg.grown (h : Sg w2 wr gO gI n B us Ls) (hB : B ≤ wr.heap.size) (hk : k < n + n) {x : Int} {v' : Value} (ho : OwnI w8 B v' (Ls k ++ [x])) (hg : wr.grownBy w8 (us k).ownBlock) (hat : v'.ownBlock = (us k).ownBlock ∨ v'.ownBlock = some wr.heap.size) :
    CB w8 30 gO n us ∧ CB w8 30 gI n (fun t => us (n + t)) ∧ Fam w8 B (upd us k v') (upd Ls k (Ls k ++ [x])) (n + n) ∧ Bu B gO gI w2 w8 := by
  have hown := h.fam.1 k hk
  refine ⟨h.co.block (hg.block gO h.co.lt ?_), h.ci.block (hg.block gI h.ci.lt ?_), h.fam.grow hk ho hg hat, h.bu.grown hg hB fun j e => (World.ownsRow.lt hown j e).1⟩
  · obtain ⟨cs, hcs, _⟩ := h.co
    exact hown.ne hcs (by decide)
  · obtain ⟨cs, hcs, _⟩ := h.ci
    exact hown.ne hcs (by decide)
theorem Sg.growO (h : Sg w2 wr gO gI n B us Ls) (hB : B ≤ wr.heap.size) (hk : k < n) {x : Int} {v' : Value} (ho : OwnI w8 B v' (Ls k ++ [x])) (hg : wr.grownBy w8 (us k).ownBlock) (hat : v'.ownBlock = (us k).ownBlock ∨ v'.ownBlock = some wr.heap.size) :
    (w8.cell? ⟨gO, k, none⟩ = some (us k) ∧ w8.frozen? ⟨gO, k, none⟩ = false) ∧ Sg w2 (w8.setCell ⟨gO, k, none⟩ v') gO gI n B (upd us k v') (upd Ls k (Ls k ++ [x])) := by
  obtain ⟨a, b, c, d⟩ := h.grown hB (show k < n + n by omega) ho hg hat
  refine ⟨⟨a.cell hk, a.free k⟩, a.set k v', ?_, c.set a, d.set1 k v', h.ne⟩
  refine (b.block (Below.heap_setCell _ ⟨gO, k, none⟩ _ _ (Ne.symm h.ne))).congr fun t _ => ?_
  rw [upd_far (by omega)]
theorem Sg.growI (h : Sg w2 wr gO gI n B us Ls) (hB : B ≤ wr.heap.size) (hk : k < n) {x : Int} {v' : Value} (ho : OwnI w8 B v' (Ls (n + k) ++ [x])) (hg : wr.grownBy w8 (us (n + k)).ownBlock) (hat : v'.ownBlock = (us (n + k)).ownBlock ∨ v'.ownBlock = some wr.heap.size) :
    (w8.cell? ⟨gI, k, none⟩ = some (us (n + k)) ∧ w8.frozen? ⟨gI, k, none⟩ = false) ∧ Sg w2 (w8.setCell ⟨gI, k, none⟩ v') gO gI n B (upd us (n + k) v') (upd Ls (n + k) (Ls (n + k) ++ [x])) := by
  obtain ⟨a, b, c, d⟩ := h.grown hB (show n + k < n + n by omega) ho hg hat
  refine ⟨⟨b.cell hk, b.free k⟩, ?_, ?_, c.set b, d.set2 k v', h.ne⟩
  · refine (a.block (Below.heap_setCell _ ⟨gI, k, none⟩ _ _ h.ne)).congr fun t ht => ?_
    rw [upd_far (by omega)]
  · refine (b.set k v').congr fun t _ => ?_
    by_cases e : t = k
    · subst e; rw [upd_same, upd_same]
    · rw [upd_far (by omega), upd_far e]
end
theorem rowsK_zero (G : GT) (t : Nat) : rowsK G 0 t = [] := by unfold rowsK; split <;> rfl
theorem rowsK_skip {G : GT} {k : Nat} (hk : k < (edgesL G G.n).length) (h : toN G.n (edgesL G G.n)[k] = false) : rowsK G (k + 1) = rowsK G k := by
  funext t
  unfold rowsK
  rw [outK_skip hk h, inK_skip hk h]
theorem rowsK_step {G : GT} {k : Nat} (hk : k < (edgesL G G.n).length) (h : toN G.n (edgesL G G.n)[k] = true) {p q : Nat} (h1 : (edgesL G G.n)[k].1 = (p : Int)) (h2 : (edgesL G G.n)[k].2.2 = (q : Int)) (hp : p < G.n) :
    ∀ t, t < G.n + G.n → rowsK G (k + 1) t = upd (upd (rowsK G k) p (rowsK G k p ++ [(q : Int)])) (G.n + q) (upd (rowsK G k) p (rowsK G k p ++ [(q : Int)]) (G.n + q) ++ [(p : Int)]) t := by
  intro t ht
  by_cases e : t = G.n + q
  · subst e
    rw [upd_same, upd_far (by omega)]
    unfold rowsK
    rw [if_neg (by omega), if_neg (by omega), inK_step hk h h1 h2, if_pos (by omega), ofNs_app]
  · rw [upd_far e]
    by_cases e2 : t = p
    · subst e2
      rw [upd_same]
      unfold rowsK
      rw [if_pos hp, if_pos hp, outK_step hk h h1 h2, if_pos rfl, ofNs_app]
    · rw [upd_far e2]
      unfold rowsK
      by_cases e3 : t < G.n
      · rw [if_pos e3, if_pos e3, outK_step hk h h1 h2, if_neg e2]
      · rw [if_neg e3, if_neg e3, inK_step hk h h1 h2, if_neg (by omega)]
theorem rowsK_len (G : GT) (k t : Nat) : (rowsK G k t).length ≤ (edgesL G G.n).length := by
  unfold rowsK
  split
  · rw [ofN_len]; exact outK_len G k t
  · rw [ofN_len]; exact inK_len G k _
/-- A row of the call's own lies at B or above. -/
theorem OwnI.fresh {w : World} {B g o m c : Nat} {v : Value} {L : List Int} (h : OwnI w B v L) (e : v = .slice (some ⟨g, o, none⟩) m c) : B ≤ g := (World.ownsRow.lt h g (by rw [e]; rfl)).1
/-- What graphOf answers. -/
def GraphEnds (w : World) (G : GT) (e : Ending) (w' : World) : Prop :=
  ∃ gO gI, e = .returned (.agg #[.slice (some ⟨gO, 0, none⟩) G.n G.n, .slice (some ⟨gI, 0, none⟩) G.n G.n]) ∧ w.heap.size ≤ gO ∧ w.heap.size ≤ gI ∧ gO < w'.heap.size ∧ gI < w'.heap.size ∧ LieC w' w'.heap.size (some ⟨gO, 0, none⟩) G.n (outN G) ∧ LieC w' w'.heap.size (some ⟨gI, 0, none⟩) G.n (inN G) ∧ Below w.heap.size w w' ∧ ∀ t, t < G.n → ∀ g o m c, w'.cell? ⟨gO, t, none⟩ = some (.slice (some ⟨g, o, none⟩) m c) → w.heap.size ≤ g
theorem Sg.ends {w w2 wr : World} {gO gI B : Nat} {us : Nat → Value} {G : GT} (h : Sg w2 wr gO gI G.n B us (rowsK G (edgesL G G.n).length)) (hw : Below w.heap.size w w2) (h1 : w.heap.size ≤ gO) (h2 : w.heap.size ≤ gI) (hB : w.heap.size ≤ B) :
    GraphEnds w G (.returned (.agg #[.slice (some ⟨gO, 0, none⟩) G.n G.n, .slice (some ⟨gI, 0, none⟩) G.n G.n])) wr := by
  refine ⟨gO, gI, rfl, h1, h2, h.co.lt, h.ci.lt, fun _ => ⟨gO, 0, rfl, h.co.lt, fun t ht => ?_⟩, fun _ => ⟨gI, 0, rfl, h.ci.lt, fun t ht => ?_⟩, hw.trans (h.bu.below hB h1 h2), fun t ht g o m c e => ?_⟩
  · obtain ⟨A, c, e, h3, h4⟩ := (h.fam.1 t (by omega)).openC
    have er : rowsK G (edgesL G G.n).length t = ofNs (outN G t) := by unfold rowsK; rw [if_pos ht, outK_all]
    rw [er] at e h3 h4
    refine ⟨A, c, ?_, by rwa [ofN_len] at h3, h4⟩
    rw [Nat.zero_add, h.co.cell ht, e, ofN_len]
  · obtain ⟨A, c, e, h3, h4⟩ := (h.fam.1 (G.n + t) (by omega)).openC
    have er : rowsK G (edgesL G G.n).length (G.n + t) = ofNs (inN G t) := by unfold rowsK; rw [if_neg (by omega), inK_all, Nat.add_sub_cancel_left]
    rw [er] at e h3 h4
    refine ⟨A, c, ?_, by rwa [ofN_len] at h3, h4⟩
    rw [Nat.zero_add, h.ci.cell ht, e, ofN_len]
  · rw [h.co.cell ht] at e
    injection e with e
    exact Nat.le_trans hB ((h.fam.1 t (by omega)).fresh e)
end Go.Proofs.Ytmbjmibjobpdgaa
