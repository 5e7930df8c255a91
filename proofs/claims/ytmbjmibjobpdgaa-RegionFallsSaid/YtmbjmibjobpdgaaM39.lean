/-
  The landed Order.
  Weights and the longest way, as the program takes them: node by node, from the order's end.
  A region that draws its order, in a round of a loop over a function: walked as anywhere.
-/
import Derived.Test.YtmbjmibjobpdgaaM36
import Derived.Test.YtmbjmibjobpdgaaM38
import Derived.Test.YtmbjmibjobpdgaaM20
import Derived.Test.YtmbjmibjobpdgaaM27
import Derived.Test.YtmbjmibjobpdgaaM14
import Derived.RangeFuncCalls
import Derived.Test.YtmbjmibjobpdgaaM37
namespace Go.Proofs.Ytmbjmibjobpdgaa
open Go.RowKit

theorem ordI_eq (G : GT) : ordI G G.n = orderL G := rfl
theorem rows_few {G : GT} (hf : fewB G) (x : Nat) : (inN G x).length ≤ 4100 ∧ (outN G x).length ≤ 4100 := by
  have hE : (inE G).length ≤ 4100 := by
    have := edgesL_len hf (Nat.le_refl _)
    have := List.length_filter_le (toN G.n) (edgesL G G.n)
    have := hf.1
    unfold inE
    omega
  unfold inN outN
  rw [List.length_map, List.length_map]
  exact ⟨Nat.le_trans (List.length_filter_le _ _) hE, Nat.le_trans (List.length_filter_le _ _) hE⟩
/-- order's answer, of a graph without loops; of one with. -/
theorem order_yes {w : World} {G : GT} {lim cO cI : Nat} {AO AI : Option Addr} (hf : fewB G) (ha : Acyc G) (hO : LieC w lim AO G.n (outN G)) (hI : LieC w lim AI G.n (inN G)) (hlim : lim ≤ w.heap.size) :
    Calls Try.prog 29 #[.agg #[.slice AO G.n cO, .slice AI G.n cI]] w fun e w' => ∃ A c, e = .returned (.tuple #[.slice A G.n c, .bool true]) ∧ OwnI w' w.heap.size (.slice A G.n c) (orderL G) ∧ Below w.heap.size w w' := by
  refine (order_any hO hI hlim (by have := hf.1; omega) (fun x _ => by have := (rows_few hf x).1; omega) (fun x _ => by have := (rows_few hf x).2; omega)).mono ?_
  rintro e w' ⟨hb, ⟨_, v, rfl, ho⟩ | ⟨hna, _⟩⟩
  · obtain ⟨A, c, e⟩ := ho.open
    rw [ordI_len] at e
    subst e
    exact ⟨A, c, rfl, ho, hb⟩
  · exact absurd ha hna
theorem order_no {w : World} {G : GT} {lim cO cI : Nat} {AO AI : Option Addr} (hf : fewB G) (ha : ¬ Acyc G) (hO : LieC w lim AO G.n (outN G)) (hI : LieC w lim AI G.n (inN G)) (hlim : lim ≤ w.heap.size) :
    Calls Try.prog 29 #[.agg #[.slice AO G.n cO, .slice AI G.n cI]] w fun e w' => e = .returned (.tuple #[.slice none 0 0, .bool false]) ∧ Below w.heap.size w w' := by
  refine (order_any hO hI hlim (by have := hf.1; omega) (fun x _ => by have := (rows_few hf x).1; omega) (fun x _ => by have := (rows_few hf x).2; omega)).mono ?_
  rintro e w' ⟨hb, ⟨hna, _⟩ | ⟨_, rfl⟩⟩
  · exact absurd hna ha
  · exact ⟨rfl, hb⟩
theorem order_says {w : World} {G : GT} {lim cO cI : Nat} {AO AI : Option Addr} (hf : fewB G) (hO : LieC w lim AO G.n (outN G)) (hI : LieC w lim AI G.n (inN G)) (hlim : lim ≤ w.heap.size) :
    Calls Try.prog 29 #[.agg #[.slice AO G.n cO, .slice AI G.n cI]] w (SaysT w (orderA G) (okG G)) := by
  rcases loops_cases G with hl | ⟨_, hn⟩
  · refine (order_yes hf (loops_nil.1 hl) hO hI hlim).mono ?_
    rintro e w' ⟨A, c, rfl, ho, hb⟩
    obtain ⟨A', c', e', hlie⟩ := ho.lie
    unfold orderA okG
    rw [if_pos hl, decide_eq_true hl]
    exact ⟨A', c', by rw [e'], hlie, hb⟩
  · refine (order_no hf (fun h => hn (loops_nil.2 h)) hO hI hlim).mono ?_
    rintro e w' ⟨rfl, hb⟩
    unfold orderA okG
    rw [if_neg hn, decide_eq_false hn]
    exact ⟨none, 0, rfl, LieI.nil _ _ _, hb⟩
set_option maxRecDepth 20000 in
theorem LOrderZ {mv : Array Value} {G : GT} (w : World) (h : ModelAt w w.heap.size mv G) (hf : fewB G) : Calls Try.prog 10 #[.agg mv] w (SaysT w (orderA G) (okG G)) := by
  obtain ⟨ml, hmv, hM, hX, hbx⟩ := model_boxed h
  have hM := Lib.hid hM
  have hX := Lib.hid hX
  have hbx := Lib.hid hbx
  have hF := Lib.hid hf
  clear h hf
  generalize ml 0 = m0 at *
  generalize ml 1 = m1 at *
  generalize ml 2 = m2 at *
  generalize ml 3 = m3 at *
  generalize ml 4 = m4 at *
  generalize ml 5 = m5 at *
  subst hmv
  go_enter Try.func10, Try.ntmps10
  go_wp2_with (first
    | (refine wpList_load_row rfl 27 _ rfl w.heap.size rfl 27 #[m0, m1, m2, m3, m4, m5] (0, 0) _ hbx.out Try.underlying27 rfl (by kernel_rfl) ?_)
    | (go_at_call 28; refine (graphOf_any _ hM.out hF.out).mono ?_; rintro e w5 ⟨gO, gI, rfl, _, _, _, _, hO, hI, hb5, _⟩; have hO := Lib.hid hO; have hI := Lib.hid hI; have hb5 := Lib.hid hb5)
    | (go_at_call 29; refine (order_says hF.out hO.out hI.out (Nat.le_refl _)).mono ?_; rintro e w6 ⟨A, c, rfl, hl, hb⟩; have hl := Lib.hid hl; have hb := Lib.hid hb)
    | fail)
  go_ret2
  exact ⟨_, _, rfl, hl.out, hX.out.trans ((hb5.out.mono hX.out.size).trans (hb.out.mono (Nat.le_trans hX.out.size hb5.out.size)))⟩
end Go.Proofs.Ytmbjmibjobpdgaa
namespace Go.Proofs.Ytmbjmibjobpdgaa

def wOne (i : Nat) (f : Nat → Int) (to : Nat) : Nat → Int := fup f i (min (f i + f to) 1000000000)
/-- A node's weight. -/
def wStep (G : GT) (f : Nat → Int) (i : Nat) : Nat → Int := (outN G i).foldl (wOne i) (fup f i 1)
def okW (f : Nat → Int) : Prop := ∀ t, 0 ≤ f t ∧ f t ≤ 1000000000
theorem okW.set {f : Nat → Int} (h : okW f) (i : Nat) {x : Int} (h0 : 0 ≤ x) (h1 : x ≤ 1000000000) : okW (fup f i x) := by
  intro t
  unfold fup
  split
  · exact ⟨h0, h1⟩
  · exact h t
theorem okW.one {f : Nat → Int} (h : okW f) (i to : Nat) : okW (wOne i f to) := by
  have := h i
  have := h to
  exact h.set i (by omega) (by omega)
theorem okW.fold {f : Nat → Int} (h : okW f) (i : Nat) (L : List Nat) : okW (L.foldl (wOne i) f) := by
  induction L generalizing f with
  | nil => exact h
  | cons a L ih => exact ih (h.one i a)
theorem okW.step {f : Nat → Int} (h : okW f) (G : GT) (i : Nat) : okW (wStep G f i) := (h.set i (by omega) (by omega)).fold i _
theorem okW.zero : okW (fun _ => 0) := fun _ => ⟨Int.le_refl _, by show (0 : Int) ≤ 1000000000; omega⟩
theorem okW.all {f : Nat → Int} (h : okW f) (G : GT) (nd : Nat → Nat) (L : List Nat) : okW (L.foldl (fun s x => wStep G s (nd x)) f) := by
  induction L generalizing f with
  | nil => exact h
  | cons a L ih => exact ih (h.step G _)
theorem wOne_fold {i : Nat} {f : Nat → Int} : ∀ (L : List Nat), (∀ t ∈ L, t ≠ i) → ∀ (w : Int), L.foldl (wOne i) (fup f i w) = fup f i (L.foldl (fun w to => min (w + f to) 1000000000) w)
  | [], _, w => rfl
  | a :: L, h, w => by
    have ha : a ≠ i := h a (by simp)
    have e : wOne i (fup f i w) a = fup f i (min (w + f a) 1000000000) := by
      funext t
      unfold wOne
      by_cases ht : t = i
      · subst ht; rw [fup_same, fup_same, fup_same, fup_far ha]
      · rw [fup_far ht, fup_far ht, fup_far ht]
    rw [List.foldl_cons, List.foldl_cons, e]
    exact wOne_fold L (fun t ht => h t (by simp [ht])) _
theorem fold_rows {β : Type} (G : GT) (i : Nat) (f : β → Nat → β) (g : β → Edge → β) (hg : ∀ b (e : Edge), g b e = if e.1 = (i : Int) then f b e.2.2.toNat else b) (b : β) : (inE G).foldl g b = (outN G i).foldl f b := by
  unfold outN
  generalize inE G = E
  induction E generalizing b with
  | nil => rfl
  | cons e E ih =>
    rw [List.foldl_cons, hg]
    by_cases h : e.1 = (i : Int)
    · rw [if_pos h, List.filter_cons_of_pos (by simpa using h), List.map_cons, List.foldl_cons]
      exact ih _
    · rw [if_neg h, List.filter_cons_of_neg (by simpa using h)]
      exact ih _
theorem wStep_doc {G : GT} {i : Nat} (h : ¬ Stp G i i) (f : Nat → Int) : wStep G f i = upd f i (sumE (inE G) f i) := by
  unfold wStep sumE
  rw [fold_rows G i (fun w to => min (w + f to) 1000000000) (addE f i) (fun b e => rfl), wOne_fold]
  · rfl
  · rintro t ht rfl
    exact h (mem_outN.1 ht)
theorem acyc_self {G : GT} (ha : Acyc G) (i : Nat) : ¬ Stp G i i := fun h => ha i (.one h)
/-- What stands there once the last c nodes of the order were taken. -/
theorem weights_fold {G : GT} (ha : Acyc G) (c : Nat) : ((List.range c).map fun j => G.n - 1 - j).foldl (fun s x => wStep G s (ordK G.n (inE G) x)) (fun _ => 0) = outsK G.n (inE G) c := by
  induction c with
  | zero => rfl
  | succ c ih =>
    rw [List.range_succ, List.map_append, List.foldl_append, ih]
    show wStep G (outsK G.n (inE G) c) (ordK G.n (inE G) (G.n - 1 - c)) = _
    rw [wStep_doc (acyc_self ha _)]
    rfl
def fOne (i : Nat) (f : Nat → Int) (to : Nat) : Nat → Int := fup f i (max (f i) (f to))
/-- How far it is from a node, ahead of its own wait. -/
def fRow (G : GT) (f : Nat → Int) (i : Nat) : Nat → Int := (outN G i).foldl (fOne i) f
def fStep (G : GT) (s : (Nat → Int) × Int) (i : Nat) : (Nat → Int) × Int := (fup (fRow G s.1 i) i (fRow G s.1 i i + waitF G i), max s.2 (fRow G s.1 i i + waitF G i))
theorem longest_fold (G : GT) (c : Nat) : ((List.range c).map fun j => G.n - 1 - j).foldl (fun s x => fStep G s (ordK G.n (inE G) x)) (fun _ => 0, 0) = farK G.n (inE G) (waitF G) c := by
  induction c with
  | zero => rfl
  | succ c ih =>
    rw [List.range_succ, List.map_append, List.foldl_append, ih]
    show fStep G (farK G.n (inE G) (waitF G) c) (ordK G.n (inE G) (G.n - 1 - c)) = _
    have e : ∀ i (f : Nat → Int), (inE G).foldl (farE i) f = fRow G f i := fun i f => fold_rows G i (fOne i) (farE i) (fun b e => rfl) f
    unfold fStep
    rw [← e]
    rfl
def okF (b : Int) (f : Nat → Int) : Prop := ∀ t, 0 ≤ f t ∧ f t ≤ b
theorem okF.one {b : Int} {f : Nat → Int} (h : okF b f) (i to : Nat) : okF b (fOne i f to) := by
  have := h i
  have := h to
  intro t
  unfold fOne fup
  split
  · omega
  · exact h t
theorem okF.fold {b : Int} {f : Nat → Int} (h : okF b f) (i : Nat) (L : List Nat) : okF b (L.foldl (fOne i) f) := by
  induction L generalizing f with
  | nil => exact h
  | cons a L ih => exact ih (h.one i a)
def okL (b : Int) (s : (Nat → Int) × Int) : Prop := okF b s.1 ∧ 0 ≤ s.2 ∧ s.2 ≤ b
theorem okL.step {b : Int} {s : (Nat → Int) × Int} (h : okL b s) (G : GT) (i : Nat) : okL (b + 1000) (fStep G s i) := by
  have h1 : okF b (fRow G s.1 i) := h.1.fold i _
  have h2 := h1 i
  have h3 := wait_in G i
  obtain ⟨h4, h5⟩ := h.2
  refine ⟨fun t => ?_, by show 0 ≤ max _ _; omega, by show max _ _ ≤ _; omega⟩
  show 0 ≤ fup _ _ _ t ∧ fup _ _ _ t ≤ _
  unfold fup
  split
  · omega
  · have := h1 t; omega
end Go.Proofs.Ytmbjmibjobpdgaa
namespace Go.Proofs.Ytmbjmibjobpdgaa
open Go.RowKit

section
variable {P : Program} {l n : Nat} {Q : Exit → Act → World → Prop} {o : Oper} {ops : Array Oper} {a : Act} {w : World} {K K' : Act → World → Prop}
theorem rows_round {row : String} {args : Array Value} {R R' : Value → World → Prop} (h : Rows P row args w R) (hr : ∀ v w', R v w' → R' v w') : RowsIn (Fence.wide.inRound l) n P row args w R' := fun c cs _ =>
  let ⟨v, w', r, s⟩ := h c cs
  ⟨v, w', hr _ _ r, stepsIn_wide.2 s⟩
/-- An operation, in a round. -/
theorem oper_round (hd : ∀ c, o.op ≠ .defer c) (hK : ∀ a w, K a w → K' a w) (h : Oper.wp P o a w K Q) : Oper.wpIn (Fence.wide.inRound l) n P o a w K' Q := by
  refine ⟨fun _ _ => trivial, ?_⟩
  rw [Oper.semAt_eq _ _ _ hd]
  unfold Oper.wp at h
  generalize (execOp a.eval o).run P w = r at *
  cases r with
  | ok x w' =>
    cases x with
    | value v => exact hK _ _ h
    | skip => exact hK _ _ h
    | defer d => exact hK _ _ h
    | enter f args =>
      refine ⟨(fun h => by cases h), CallsIn.inRound l (CallsIn.mono (callsIn_wide.2 h) ?_)⟩
      intro e w2 he
      cases e with
      | returned v => exact hK _ _ he
      | panicked c => exact he
      | outgrown => exact he
    | row r args => exact ⟨(fun h => by cases h), rows_round h fun v w' => hK _ _⟩
    | _ => exact h.elim
  | halt x w' =>
    cases x with
    | panic v => exact h
    | _ => exact h.elim
theorem op_round (hd : ∀ (i : Nat) (o : Oper), ops[i]? = some o → ∀ c, o.op ≠ .defer c) (hQ : ¬ LetsOut Q) (hK : ∀ a w, K a w → K' a w) {i : Nat} (h : wpOp P ops Q i K a w) : wpOpIn (Fence.wide.inRound l) n P ops Q i K' a w := by
  unfold wpOp at h
  unfold wpOpIn
  cases ho : ops[i]? with
  | none => rw [ho] at h; exact hK _ _ h
  | some o =>
    rw [ho] at h
    dsimp only at h ⊢
    split
    · rename_i hw
      rw [if_pos hw] at h
      rcases h with h | h
      · exact oper_round (hd i o ho) hK h
      · exact absurd h.2 hQ
    · rename_i hw
      rw [if_neg hw] at h
      exact ⟨fun _ _ => trivial, hK _ _ h⟩
theorem any_round {md : Region.Mode} (hd : ∀ (i : Nat) (o : Oper), ops[i]? = some o → ∀ c, o.op ≠ .defer c) (hQ : ¬ LetsOut Q) : ∀ (fuel : Nat) (listed : Array Bool) (a : Act) (w : World), wpAny P md ops Q fuel listed a w → wpAnyIn (Fence.wide.inRound l) n P md ops Q fuel listed a w
  | 0, _, _, _, h => h
  | fuel + 1, _, _, _, h => ⟨h.1, fun i hi => op_round hd hQ (fun a w => any_round hd hQ fuel _ a w) (h.2 i hi)⟩
def noDefer (ops : Array Oper) : Bool := ops.toList.all fun o => match o.op with | .defer _ => false | _ => true
theorem noDefer_out (h : noDefer ops = true) : ∀ (i : Nat) (o : Oper), ops[i]? = some o → ∀ c, o.op ≠ .defer c := by
  intro i o ho c e
  have hm : o ∈ ops.toList := by
    obtain ⟨hlt, he⟩ := Array.getElem?_eq_some_iff.1 ho
    rw [← he]
    exact Array.getElem_mem_toList hlt
  have := List.all_eq_true.1 h o hm
  rw [e] at this
  cases this
theorem region_round {id : Nat} {S : World → Prop} (hm : P.follows .mixedOrders = true) (hd : noDefer ops = true) (hQ : ¬ LetsOut Q) (hS : S w.drew)
    (h : S w.drew → wpAnyH P .any ops Q S ops.size (Array.replicate ops.size false) a w.drew) : (Code.region id ops true).wpIn (Fence.wide.inRound l) n P Q a w :=
  wpIn_region_any hm (any_round (noDefer_out hd) hQ _ _ _ _ (wpAny_of_held _ _ _ _ (h hS)))
end
end Go.Proofs.Ytmbjmibjobpdgaa
