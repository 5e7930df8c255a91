/-
  What is reached, plainly, by a stack of nodes that are still to be looked at; and what a set of ints holds.
  The landed model's Reach: the world amid it.
  The landed model's Reach: its walk.
-/
import Derived.Test.YtmbjmibjobpdgaaM21
import Derived.Test.YtmbjmibjobpdgaaM11
import Derived.Maps.OwnSet
import Derived.Lib.SlKeysI
import Derived.Deep.RegionHeld3
namespace Go.Proofs.Ytmbjmibjobpdgaa
open Go.RowKit Go.Maps

theorem mem_edges {G : GT} {u j : Nat} (hu : u < G.n) (hj : j < portsN (G.d u)) : ((u : Int), (j : Int), targetN (G.d u) j) ∈ edgesL G G.n := by
  unfold edgesL
  refine List.mem_flatMap.2 ⟨u, List.mem_range.2 hu, ?_⟩
  rw [← outP_all]
  exact List.mem_map.2 ⟨j, List.mem_range.2 hj, rfl⟩
theorem edges_mem {G : GT} {u : Nat} {e : Edge} (h : e ∈ edgesL G G.n) (he : e.1 = (u : Int)) : ∃ j, j < portsN (G.d u) ∧ targetN (G.d u) j = e.2.2 := by
  unfold edgesL at h
  obtain ⟨i, _, h⟩ := List.mem_flatMap.1 h
  rw [← outP_all] at h
  obtain ⟨j, hj, rfl⟩ := List.mem_map.1 h
  simp only at he ⊢
  obtain rfl : i = u := by omega
  exact ⟨j, List.mem_range.1 hj, rfl⟩
theorem stp_out {G : GT} {u v : Nat} (h : Stp G u v) : ∃ j, j < portsN (G.d u) ∧ targetN (G.d u) j = (v : Int) := by
  obtain ⟨_, _, e, he, h1, h2⟩ := h
  obtain ⟨j, hj, ht⟩ := edges_mem he h1
  exact ⟨j, hj, ht.trans h2⟩

/-- Amid the search: met are those that f holds of, still to be looked at those of O. -/
structure Dfs (G : GT) (s : Nat) (f : Nat → Bool) (O : List Nat) : Prop where
  wait : ∀ u ∈ O, u < G.n ∧ (u = s ∨ f u = true)
  path : ∀ t, f t = true → Path G s t
  done : ∀ u, u = s ∨ f u = true → u ∈ O ∨ ∀ v, Stp G u v → f v = true
/-- Amid the node u, of which the first j ways out were looked at. -/
structure Dmid (G : GT) (s u j : Nat) (f : Nat → Bool) (O : List Nat) : Prop where
  wait : ∀ u ∈ O, u < G.n ∧ (u = s ∨ f u = true)
  path : ∀ t, f t = true → Path G s t
  here : u < G.n ∧ (u = s ∨ f u = true)
  done : ∀ x, x = s ∨ f x = true → x ∈ O ∨ x = u ∨ ∀ v, Stp G x v → f v = true
  out : ∀ p, p < j → ∀ v : Nat, targetN (G.d u) p = (v : Int) → v < G.n → f v = true
section
variable {G : GT} {s u j : Nat} {f : Nat → Bool} {O : List Nat}
theorem Dfs.start (hs : s < G.n) : Dfs G s (fun _ => false) [s] :=
  ⟨fun u hu => by obtain rfl := List.mem_singleton.1 hu; exact ⟨hs, .inl rfl⟩, fun _ h => (by cases h), fun u hu => by
    rcases hu with rfl | h
    · exact .inl (List.mem_singleton.2 rfl)
    · cases h⟩
theorem Dfs.pop (h : Dfs G s f (O ++ [u])) : Dmid G s u 0 f O :=
  ⟨fun x hx => h.wait x (List.mem_append_left _ hx), h.path, h.wait u (by simp), fun x hx => by
    rcases h.done x hx with hm | hm
    · rcases List.mem_append.1 hm with hm | hm
      · exact .inl hm
      · exact .inr (.inl (List.mem_singleton.1 hm))
    · exact .inr (.inr hm), fun p hp => absurd hp (Nat.not_lt_zero p)⟩
theorem Dmid.skip (h : Dmid G s u j f O) (hn : ∀ v : Nat, targetN (G.d u) j = (v : Int) → v < G.n → f v = true) : Dmid G s u (j + 1) f O :=
  ⟨h.wait, h.path, h.here, h.done, fun p hp v hv hl => by
    by_cases e : p = j
    · subst e; exact hn v hv hl
    · exact h.out p (by omega) v hv hl⟩
theorem upd_true {f : Nat → Bool} {t x : Nat} : upd f t true x = true ↔ x = t ∨ f x = true := by
  by_cases e : x = t
  · subst e; simp [upd_same]
  · rw [upd_far e]; simp [e]
theorem Dmid.meet (h : Dmid G s u j f O) (hj : j < portsN (G.d u)) {t : Nat} (ht : targetN (G.d u) j = (t : Int)) (htn : t < G.n) : Dmid G s u (j + 1) (upd f t true) (O ++ [t]) := by
  have hst : Stp G u t := ⟨h.here.1, htn, _, mem_edges h.here.1 hj, rfl, ht⟩
  have hpt : Path G s t := by
    rcases h.here.2 with rfl | hu
    · exact .one hst
    · exact .snoc (h.path u hu) hst
  refine ⟨fun x hx => ?_, fun x hx => ?_, ⟨h.here.1, h.here.2.imp id fun e => upd_true.2 (.inr e)⟩, fun x hx => ?_, fun p hp v hv hl => ?_⟩
  · rcases List.mem_append.1 hx with hx | hx
    · have := h.wait x hx
      exact ⟨this.1, this.2.imp id fun e => upd_true.2 (.inr e)⟩
    · obtain rfl := List.mem_singleton.1 hx
      exact ⟨htn, .inr (upd_true.2 (.inl rfl))⟩
  · rcases upd_true.1 hx with rfl | hx
    · exact hpt
    · exact h.path x hx
  · by_cases e : x = t
    · subst e; exact .inl (by simp)
    · have hx' : x = s ∨ f x = true := hx.imp id fun e' => (upd_true.1 e').resolve_left e
      rcases h.done x hx' with hm | hm | hm
      · exact .inl (List.mem_append_left _ hm)
      · exact .inr (.inl hm)
      · exact .inr (.inr fun v hv => upd_true.2 (.inr (hm v hv)))
  · by_cases e : p = j
    · subst e
      rw [ht] at hv
      exact upd_true.2 (.inl (by omega))
    · exact upd_true.2 (.inr (h.out p (by omega) v hv hl))
theorem Dmid.close (h : Dmid G s u (portsN (G.d u)) f O) : Dfs G s f O :=
  ⟨h.wait, h.path, fun x hx => by
    rcases h.done x hx with hm | rfl | hm
    · exact .inl hm
    · refine .inr fun v hv => ?_
      obtain ⟨p, hp, ht⟩ := stp_out hv
      exact h.out p hp v ht hv.2.1
    · exact .inr hm⟩
theorem Dfs.all (h : Dfs G s f []) (hs : s < G.n) (t : Nat) : f t = reachB G s t := by
  rw [Bool.eq_iff_iff, reachB_iff hs]
  refine ⟨h.path t, fun hp => ?_⟩
  induction hp with
  | one st => exact (h.done s (.inl rfl)).resolve_left (by simp) _ st
  | snoc _ st ih => exact (h.done _ (.inr ih)).resolve_left (by simp) _ st
end
theorem pick_more {f : Nat → Bool} {n t : Nat} (ht : t < n) (hf : f t = false) : (pickL n f).length < (pickL n (upd f t true)).length :=
  pick_lt (fun _ h => upd_true.2 (.inr h)) ht hf upd_same
where
  upd_same {f : Nat → Bool} {t : Nat} : upd f t true t = true := upd_true.2 (.inl rfl)
/-- What the set of those that were met holds. -/
def IsSet (D : DataW Unit) (n : Nat) (f : Nat → Bool) : Prop := IsMap D ∧ ∀ x : Int, has D (.int .i64 x) = (decide (0 ≤ x) && (decide (x < n) && f x.toNat))
theorem isSet_none (n : Nat) : IsSet (.map []) n fun _ => false := ⟨isMap_empty, fun x => by rw [Bool.and_false, Bool.and_false]; rfl⟩
theorem IsSet.put {D : DataW Unit} {n t : Nat} {f : Nat → Bool} (h : IsSet D n f) (ht : t < n) (d : DataW Unit) : IsSet (D.put (.int .i64 (t : Int)) d) n (upd f t true) := by
  refine ⟨h.1.put _ _, fun x => ?_⟩
  by_cases e : x = (t : Int)
  · subst e
    rw [has_put_same h.1 (by simp [WideAt.IsKeyLit])]
    have h1 : decide ((0 : Int) ≤ (t : Int)) = true := decide_eq_true (by omega)
    have h2 : decide ((t : Int) < (n : Int)) = true := decide_eq_true (by omega)
    rw [h1, h2, show ((t : Int)).toNat = t by omega, upd_true.2 (.inl rfl)]
    rfl
  · rw [has_put_other (by intro y; cases y; exact e rfl), h.2 x]
    by_cases h0 : 0 ≤ x
    · rw [upd_far (by omega)]
    · rw [decide_eq_false h0]
      rfl
theorem pickZ_mem {n : Nat} {f : Nat → Bool} {x : Int} : x ∈ pickL n f ↔ 0 ≤ x ∧ x < n ∧ f x.toNat = true := by
  unfold pickL
  constructor
  · intro h
    obtain ⟨i, hi, rfl⟩ := List.mem_map.1 h
    obtain ⟨h1, h2⟩ := List.mem_filter.1 hi
    have := List.mem_range.1 h1
    exact ⟨by omega, by omega, by rw [show ((i : Nat) : Int).toNat = i by omega]; exact h2⟩
  · rintro ⟨h0, h1, h2⟩
    exact List.mem_map.2 ⟨x.toNat, List.mem_filter.2 ⟨List.mem_range.2 (by omega), h2⟩, by omega⟩
theorem pickL_rise (n : Nat) (f : Nat → Bool) : (pickL n f).Pairwise (fun a b => a < b) := by
  unfold pickL
  refine List.pairwise_map.2 ((List.Pairwise.filter _ (List.pairwise_lt_range (n := n))).imp fun {a b} h => ?_)
  omega
theorem sorted_pick {D : DataW Unit} {n m b : Nat} {w : World} {R : Value → Option (DataW Unit × List MemPlace)} {f : Nat → Bool} (h : IsSet D n f) (hown : w.ownsMap Try.prog 3 R b m D) {ss : List Int} (hp : ss.Perm (intKeys D)) :
    ss.mergeSort (fun x y => decide (x ≤ y)) = pickL n f := by
  have hr := pickL_rise n f
  have hk : (pickL n f).Perm (intKeys D) := CollectedI.perm (left := fun _ => false) ⟨hr.imp fun {a b} h => by omega, fun x => by
    rw [h.2 x, pickZ_mem]
    simp [Bool.and_eq_true]⟩ hown (int_keyed Try.underlying3) Try.underlying3 (fun _ => rfl)
  rw [mergeSort_of_perm_i (hp.trans hk.symm)]
  exact List.mergeSort_of_pairwise (hr.imp fun {a b} h => decide_eq_true (by omega))
end Go.Proofs.Ytmbjmibjobpdgaa
namespace Go.Proofs.Ytmbjmibjobpdgaa
open Go.RowKit Go.Maps

theorem isNode_L {w : World} {L : List Value} {N : Option Addr} {n nn : Nat} (h6 : L.length = 6) (h5 : L[5]? = some (.slice N n nn)) (a : Int) :
    Calls Try.prog 50 #[.agg L.toArray, .int .i64 a] w fun e w' => e = .returned (.bool (isNodeB n a)) ∧ w' = w.alloc (.cells L.toArray 27) := by
  match L, h6 with
  | [m0, m1, m2, m3, m4, m5], _ =>
    obtain rfl : m5 = .slice N n nn := by simpa using h5
    exact isNode_any a
theorem range6 {w : World} {b : Nat} {L : List Value} (h : w.heap[b]? = some (.cells L.toArray 27 (0, 0))) : w.rangeAt b 0 L := fun j v hj => by
  rw [Nat.zero_add, cell_of_row w b j _ 27 (0, 0) h]
  simpa using hj
theorem info27q : (Try.prog.info? 27).map (·.size) = some 6 := by kernel_rfl
theorem law3q : Keyed Try.prog 3 := int_keyed Try.underlying3
theorem zero75 (w : World) : (zeroValue 92).run Try.prog w = .ok (.agg #[]) w := by kernel_rfl
def ofN (O : List Nat) : List Int := O.map fun (i : Nat) => (i : Int)
/-- The world amid Reach. -/
structure AmidQ (w wr : World) (L : List Value) (mb n : Nat) (f : Nat → Bool) (v : Value) (O : List Nat) : Prop where
  below : Below w.heap.size w wr
  box : wr.heap[w.heap.size]? = some (.cells L.toArray 27 (0, 0))
  set : ∃ (D : DataW Unit) (k : Nat), k ≤ (pickL n f).length ∧ wr.ownsMap Try.prog 3 unitElem mb k D ∧ IsSet D n f
  lo : w.heap.size < mb
  own : OwnI wr (mb + 1) v (ofN O)
section
variable {w wr w2 : World} {L : List Value} {mb n : Nat} {f : Nat → Bool} {v : Value} {O : List Nat}
theorem AmidQ.ne (h : AmidQ w wr L mb n f v O) : some mb ≠ v.ownBlock := by
  intro e
  have := (World.ownsRow.lt h.own mb e.symm).1
  omega
theorem AmidQ.lt (h : AmidQ w wr L mb n f v O) : mb < wr.heap.size := by
  obtain ⟨_, _, _, h, _⟩ := h.set
  exact h.lt
theorem AmidQ.alloc (h : AmidQ w wr L mb n f v O) (o : Obj) : AmidQ w (wr.alloc o) L mb n f v O := by
  obtain ⟨D, k, h1, h2, h3⟩ := h.set
  exact ⟨h.below.alloc h.below.size o, row_alloc h.box o, ⟨D, k, h1, h2.alloc o, h3⟩, h.lo, World.ownsRow.alloc h.own o⟩
theorem AmidQ.drew (h : AmidQ w wr L mb n f v O) : AmidQ w wr.drew L mb n f v O := by
  obtain ⟨D, k, h1, h2, h3⟩ := h.set
  exact ⟨h.below.drew, h.box, ⟨D, k, h1, h2.drew, h3⟩, h.lo, World.ownsRow.drew h.own⟩
theorem AmidQ.put (h : AmidQ w wr L mb n f v O) {t : Nat} (ht : t < n) (hf : f t = false) {D : DataW Unit} {k : Nat} (hk : k ≤ (pickL n f).length) (hD : IsSet D n f) {d : DataW Unit} (ho : w2.ownsMap Try.prog 3 unitElem mb (k + 1) (D.put (.int .i64 (t : Int)) d)) (hg : wr.grownBy w2 (some mb)) :
    AmidQ w w2 L mb n (upd f t true) v O := by
  have hlo := h.lo
  refine ⟨h.below.grown hg h.below.size (fun j e => by cases e; omega), ?_, ⟨_, k + 1, by have := pick_more ht hf; omega, ho, hD.put ht d⟩, h.lo, ?_⟩
  · rw [hg.block _ (row_lt h.box) (by intro e; cases e; omega)]; exact h.box
  · refine World.ownsRow.kept h.own hg ?_
    cases e : v.ownBlock with
    | none => exact .inl rfl
    | some k => exact .inr (fun e' => h.ne (by rw [e]; exact e'.symm))
theorem AmidQ.push (h : AmidQ w wr L mb n f v O) {v' : Value} {O' : List Nat} (ho : OwnI w2 (mb + 1) v' (ofN O')) (hg : wr.grownBy w2 v.ownBlock) : AmidQ w w2 L mb n f v' O' := by
  obtain ⟨D, k, h1, h2, h3⟩ := h.set
  have hlo := h.lo
  refine ⟨h.below.grown hg h.below.size (fun j e => by have := (World.ownsRow.lt h.own j e).1; omega), ?_, ⟨D, k, h1, h2.kept hg h.ne, h3⟩, h.lo, ho⟩
  rw [hg.block _ (row_lt h.box) (by intro e; have := (World.ownsRow.lt h.own _ e.symm).1; omega)]
  exact h.box
theorem AmidQ.pop {u : Nat} (h : AmidQ w wr L mb n f v (O ++ [u])) :
    ∃ go cap, v = .slice (some ⟨go, 0, none⟩) (O.length + 1) cap ∧ wr.cell? ⟨go, O.length, none⟩ = some (.int .i64 (u : Int)) ∧ AmidQ w wr L mb n f (.slice (some ⟨go, 0, none⟩) O.length cap) O ∧ O.length + 1 ≤ cap := by
  have ho := h.own
  unfold OwnI ofN at ho
  rw [List.map_append, List.length_append, List.length_map, List.map_singleton, List.length_singleton] at ho
  rcases ho.2 with ⟨_, h0⟩ | ⟨go, cap, cur, rfl, hb, hg, h1, h2, h3, h4⟩
  · omega
  · have hat : wr.cell? ⟨go, O.length, none⟩ = some (.int .i64 (u : Int)) := by
      rw [ho.cellAt O.length (by omega)]
      simp
    refine ⟨go, cap, rfl, hat, ⟨h.below, h.box, h.set, h.lo, ⟨by simp [ofN], .inr ⟨go, cap, cur, ?_, hb, hg, ?_, h2, h3, ?_⟩⟩⟩, h1⟩
    · simp [ofN]
    · simp only [ofN, List.length_map]; omega
    · have := congrArg (List.take (O.length * 1)) h4
      rw [List.take_take] at this
      rw [show min (O.length * 1) ((O.length + 1) * 1) = O.length * 1 by omega] at this
      simp only [ofN, List.length_map]
      rw [this]
      simp
theorem AmidQ.none (h : AmidQ w wr L mb n f v []) : ∃ A cap, v = .slice A 0 cap := by
  rcases h.own.2 with ⟨rfl, _⟩ | ⟨go, cap, cur, rfl, _⟩
  · exact ⟨_, 0, rfl⟩
  · exact ⟨_, cap, rfl⟩
end
end Go.Proofs.Ytmbjmibjobpdgaa
namespace Go.Proofs.Ytmbjmibjobpdgaa
open Go.RowKit Go.Maps

def node0 : Array Value := #[.int .i64 0, .int .i64 0, .slice none 0 0, .slice none 0 0, .int .i64 0, .string ⟨#[]⟩, .int .i64 0, .int .i64 0, .float .f64 0, .string ⟨#[]⟩, .slice none 0 0, .slice none 0 0, .slice none 0 0, .slice none 0 0, .int .i64 0, .string ⟨#[]⟩, .int .i64 0, .int .i64 0, .float .f64 0, .string ⟨#[]⟩, .slice none 0 0, .slice none 0 0, .slice none 0 0, .slice none 0 0, .int .i64 0, .int .i64 0, .int .i64 0, .int .i64 0, .int .i64 0]
theorem alloc58 (w : World) : (Instr.alloc 58 true (.tuple #[])).run Try.prog w = .ok (.pointer (some ⟨w.heap.size, 0, none⟩)) (w.alloc (.cells node0 58)) := by kernel_rfl
section
variable {md : Region.Mode} {ops : Array Oper} {Q : Exit → Act → World → Prop} {S : World → Prop} {fuel i : Nat} {o : Oper} {listed : Array Bool} {a : Act} {w : World}
theorem takeQ (d : Option Tmp) (v : Value) (ho : ops[i]? = some o) (hd : o.dst = d) (hs : Region.noSelect ops = true) (hf : Region.free md ops listed i = true) (hr : (Region.ready md ops listed).contains i = true)
    (hQ : ∀ c a w, Q (.panic c) (a.put d v) w → Q (.panic c) a w) (hS : S w) (hw : Region.wanted o (yielded ops a.tmps) = true) (hy : ∀ w, S w → (execOp a.eval o).run Try.prog w = .ok (.value v) w)
    (h : wpAnyH Try.prog md ops Q S fuel (listed.setIfInBounds i true) (a.put d v) w) : wpAnyH Try.prog md ops Q S (fuel + 1) listed a w :=
  wpAnyH_take ho hs hf hr (by rw [hd]; exact hQ) (Or.inl ⟨hw, hy⟩) hS (by rw [hd]; exact h)
/-- The one operation that may come up makes a node. -/
theorem allocQ (d : Option Tmp) (ho : ops[i]? = some o) (hw : Region.wanted o (yielded ops a.tmps) = true) (hd : o.dst = d) (hr : Region.ready md ops listed = [i]) (hop : o.op = .alloc 58)
    (h1 : S (w.alloc (.cells node0 58))) (h : wpAnyH Try.prog md ops Q S fuel (listed.setIfInBounds i true) (a.put d (.pointer (some ⟨w.heap.size, 0, none⟩))) (w.alloc (.cells node0 58))) : wpAnyH Try.prog md ops Q S (fuel + 1) listed a w :=
  wpAnyH_ready hr (by simp) (AllReadyH.cons ho (fun K' hK => by
    rw [if_pos hw]
    unfold Oper.wp
    have hrun : (execOp a.eval o).run Try.prog w = .ok (.value (.pointer (some ⟨w.heap.size, 0, none⟩))) (w.alloc (.cells node0 58)) := by
      unfold execOp
      simp only [hop, Sem.run_bind, alloc58, Result.andThen_ok]
      rfl
    rw [hrun]
    show K' (a.put o.dst _) _
    rw [hd]
    exact hK.out _ _ h1 (fun _ => h)) AllReadyH.nil)
/-- The one operation that may come up lays a node into what was made. -/
theorem storeQ (x y : Operand) (ho : ops[i]? = some o) (hw : Region.wanted o (yielded ops a.tmps) = true) (hd : o.dst = none) (hr : Region.ready md ops listed = [i]) (hop : o.op = .store 58 x y)
    (hx : a.eval x = .pointer (some ⟨w.heap.size, 0, none⟩)) (cs : List Value) (hy : a.eval y = .agg cs.toArray) (hn : cs.length = 29) (hone : cs.toArray.all (·.oneCell') = true)
    (h1 : S (w.alloc (.cells cs.toArray 58))) (h : wpAnyH Try.prog md ops Q S fuel (listed.setIfInBounds i true) (a.put none undef) (w.alloc (.cells cs.toArray 58))) : wpAnyH Try.prog md ops Q S (fuel + 1) listed a (w.alloc (.cells node0 58)) :=
  wpAnyH_ready hr (by simp) (AllReadyH.cons ho (fun K' hK => by
    rw [if_pos hw]
    refine wp_store_row 58 x y hop w.heap.size cs.toArray hx hy 58 node0 (heap_alloc_new w _) (by rw [info58, List.size_toArray, hn]) (by rw [show cs.toArray.size = 29 by simp [hn]]; rfl) hone ?_
    rw [alloc_setRow, hd]
    exact hK.out _ _ h1 (fun _ => h)) AllReadyH.nil)
/-- A load of one cell. -/
theorem run_ld (T : Nat) (x : Operand) (hop : o.op = .load T x) (g k : Nat) (hx : a.eval x = .pointer (some ⟨g, k, none⟩)) (u : Value) (hc : w.cell? ⟨g, k, none⟩ = some u) (hT : ∀ W : World, W.cell? ⟨g, k, none⟩ = some u → (loadVar T ⟨g, k, none⟩).run Try.prog W = .ok u W) :
    (execOp a.eval o).run Try.prog w = .ok (.value u) w := by
  unfold execOp
  simp only [hop, hx, Instr.loadAt, Instr.sureAddr, Sem.run_bind, Sem.run_pure, Result.andThen_ok, hT w hc]
theorem ld1 {W : World} {T : Nat} {p : Addr} {u : Value} (hT : (isAgg T).run Try.prog W = .ok false W) (h : W.cell? p = some u) : (loadVar T p).run Try.prog W = .ok u W := by
  simp [loadVar, Sem.run_bind, hT, h]
/-- A whole load of a node. -/
theorem run_ldN (x : Operand) (hop : o.op = .load 58 x) (g k : Nat) (hx : a.eval x = .pointer (some ⟨g, k, none⟩)) (cs : List Value) (hn : cs.length = 29) (hc : w.rangeAt g k cs) : (execOp a.eval o).run Try.prog w = .ok (.value (.agg cs.toArray)) w := by
  unfold execOp
  simp only [hop, hx, Sem.run_bind, run_loadAt_mid w g k 58 cs _ hc Try.underlying58 rfl (by rw [info58, hn]), Result.andThen_ok]
  rfl
/-- An entry's address. -/
theorem run_ix {T E C : Nat} (x y : Operand) (hop : o.op = .indexAddr T x y) (hT : Try.prog.underlying T = some (.slice E)) (hE : (Try.prog.info? E).map (·.size) = some C) (g k n c : Nat) (j : Nat) (hj : j < n) (hx : a.eval x = .slice (some ⟨g, k, none⟩) n c) (hy : a.eval y = .int .i64 (j : Int)) :
    (execOp a.eval o).run Try.prog w = .ok (.value (.pointer (some ⟨g, k + j * C, none⟩))) w := by
  unfold execOp
  have h0 : (0 : Int) ≤ (j : Int) := by omega
  obtain ⟨i, hi, hs⟩ := Option.map_eq_some_iff.1 hE
  simp [hop, hx, hy, Instr.indexAt, asIntOf, run_underlying hT, h0, sizeOf, typeInfo, hi, hs, Sem.run_bind, Addr.add_mid, hj]
end
end Go.Proofs.Ytmbjmibjobpdgaa
