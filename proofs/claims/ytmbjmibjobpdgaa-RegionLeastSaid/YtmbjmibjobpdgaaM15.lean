/-
  Same of two equal lists of ints; the document's has and come.
  The order and the weights, plainly: each node stands once, edges rise, and a weight is one and the weights that edges lead to.
  Dominators, plainly: a graph without the edges to a node; who dominates a dominator dominates.
-/
import Derived.Test.YtmbjmibjobpdgaaM14
namespace Go.Proofs.Ytmbjmibjobpdgaa
open Go.RowKit

set_option maxHeartbeats 1000000 in
/-- Same of two lists that hold the same ints. -/
theorem SameI_eq {A A' : Option Addr} {c c' lim lim' : Nat} {L : List Int} (w : World) (h : LieI w lim A L) (h' : LieI w lim' A' L) (hlm : lim ≤ w.heap.size) (hlm' : lim' ≤ w.heap.size) (hl : L.length ≤ 10000) :
    Calls Try.prog 16 #[.slice A L.length c, .slice A' L.length c'] w fun e w' => e = .returned (.bool true) ∧ Below w.heap.size w w' := by
  have HA := Lib.hid h
  have HA' := Lib.hid h'
  obtain ⟨n, hn⟩ : ∃ n, n = L.length := ⟨_, rfl⟩
  have HN := Lib.hid hn
  rw [← hn] at hl ⊢
  clear h h' hn
  have hne : ((n : Int) != (n : Int)) = false := by simp
  go_enter Try.func16, Try.ntmps16
  go_wp2_with fail
  go_loopw [5] (fun i wr => ∃ k : Nat, k ≤ n ∧ i = .int .i64 k ∧ Hid (Below w.heap.size w wr)) (fun i _ => n - (intOf i).toNat)
  case atStart => exact ⟨0, Nat.zero_le _, rfl, Lib.hid (Below.refl _ _)⟩
  case round =>
    obtain ⟨k, hk, rfl, hb⟩ := hrel
    by_cases hlt : k < n
    · obtain ⟨g1, o1, rfl, hg1, hc1⟩ := HA.out (by have := HN.out; omega)
      obtain ⟨g2, o2, rfl, hg2, hc2⟩ := HA'.out (by have := HN.out; omega)
      have d1 := (hb.out.cell (p := ⟨g1, o1 + k, none⟩) (Nat.lt_of_lt_of_le hg1 hlm)).trans (hc1 k (by have := HN.out; omega))
      have d2 := (hb.out.cell (p := ⟨g2, o2 + k, none⟩) (Nat.lt_of_lt_of_le hg2 hlm')).trans (hc2 k (by have := HN.out; omega))
      clear hc1 hc2
      have hk0 : (0 : Int) ≤ k := by omega
      have hk1 : (k : Int) < n := by omega
      generalize L[k]'(by have := HN.out; omega) = x at *
      have hx' : (x != x) = false := by simp
      go_wp2_with fail
      go_quiet (fail)
      have hb2 := Lib.hid (below_draws hb.out nq)
      go_wp2_with fail
      go_roundw
      case rel => exact ⟨k + 1, by omega, by go_num, hb2⟩
      case measure => simp [intOf]; omega
    · obtain rfl : k = n := by omega
      go_wp2_with fail
      go_ret
      exact ⟨rfl, hb.out⟩
theorem take_mem {L : List Int} {x : Int} {k : Nat} (hk : k < L.length) : x ∈ L.take (k + 1) ↔ x ∈ L.take k ∨ x = L[k] := by
  rw [List.take_add_one, List.getElem?_eq_getElem hk, Option.toList, List.mem_append, List.mem_singleton]
set_option maxHeartbeats 1000000 in
theorem Rhas_any {A : Option Addr} {c lim : Nat} {L : List Int} (x : Int) (w : World) (h : LieI w lim A L) (hlm : lim ≤ w.heap.size) (hl : L.length ≤ 10000) :
    Calls Try.prog 46 #[.slice A L.length c, .int .i64 x] w fun e w' => e = .returned (.bool (decide (x ∈ L))) ∧ Below w.heap.size w w' := by
  have HA := Lib.hid h
  obtain ⟨n, hn⟩ : ∃ n, n = L.length := ⟨_, rfl⟩
  have HN := Lib.hid hn
  obtain ⟨ans, hans⟩ : ∃ b, b = decide (x ∈ L) := ⟨_, rfl⟩
  have HB := Lib.hid hans
  rw [← hn] at hl ⊢
  rw [← hans]
  clear h hn hans
  go_enter Try.func46, Try.ntmps46
  go_wp2_with fail
  go_loopw [5] (fun i wr => ∃ k : Nat, k ≤ n ∧ i = .int .i64 k ∧ Hid (x ∉ L.take k) ∧ Hid (Below w.heap.size w wr)) (fun i _ => n - (intOf i).toNat)
  case atStart => exact ⟨0, Nat.zero_le _, rfl, Lib.hid (by simp), Lib.hid (Below.refl _ _)⟩
  case round =>
    obtain ⟨k, hk, rfl, hno, hb⟩ := hrel
    by_cases hlt : k < n
    · obtain ⟨g1, o1, rfl, hg1, hc1⟩ := HA.out (by have := HN.out; omega)
      have hkl : k < L.length := by have := HN.out; omega
      have d1 := (hb.out.cell (p := ⟨g1, o1 + k, none⟩) (Nat.lt_of_lt_of_le hg1 hlm)).trans (hc1 k hkl)
      have htk := Lib.hid (take_mem (x := x) hkl)
      have hgm := Lib.hid (List.getElem_mem hkl)
      clear hc1
      have hk0 : (0 : Int) ≤ k := by omega
      have hk1 : (k : Int) < n := by omega
      generalize L[k] = y at *
      by_cases hy : y = x
      · subst hy
        have ty : (y == y) = true := by simp
        have hv : Hid (ans = true) := Lib.hid (by rw [HB.out]; exact decide_eq_true hgm.out)
        clear hno htk hgm
        go_wp2_with fail
        go_ret
        exact ⟨by rw [hv.out]; rfl, hb.out⟩
      · have ty : (y == x) = false := by simp [hy]
        have hno2 : Hid (x ∉ L.take (k + 1)) := Lib.hid (fun h => (htk.out.1 h).elim hno.out (fun e => hy e.symm))
        clear hno htk hgm hy
        go_wp2_with fail
        go_roundw
        case rel => exact ⟨k + 1, by omega, by go_num, hno2, hb⟩
        case measure => simp [intOf]; omega
    · obtain rfl : n = k := by omega
      have hv : Hid (ans = false) := Lib.hid (by
        rw [HB.out]
        have := hno.out
        rw [List.take_of_length_le (by have := HN.out; omega)] at this
        exact decide_eq_false this)
      clear hno
      go_wp2_with fail
      go_ret
      exact ⟨by rw [hv.out]; rfl, hb.out⟩
/-- What come answers: none, or those that are reached, and the root. -/
def comeL (G : GT) (a : Int) : List Int := if 0 ≤ a ∧ a < G.n then reachL G a ++ [a] else []
set_option maxRecDepth 20000 in
set_option maxHeartbeats 1000000 in
theorem Rcome_any {mv : Array Value} {G : GT} (w : World) (a : Int) (h : ModelAt w w.heap.size mv G) (hfew : fewB G) :
    Calls Try.prog 45 #[.agg mv, .int .i64 a] w fun e w' => ∃ v, e = .returned v ∧ OwnI w' w.heap.size v (comeL G a) ∧ Below w.heap.size w w' := by
  have hM := Lib.hid h
  have hF := Lib.hid hfew
  have hl100 : Hid ((reachL G a).length ≤ 100) := Lib.hid (by
    unfold reachL
    split
    · have := pickL_len G.n (reachB G a.toNat); have := hfew.1; omega
    · simp)
  have hcl : Hid (comeL G a = if 0 ≤ a ∧ a < G.n then reachL G a ++ [a] else []) := Lib.hid rfl
  clear hfew
  cases h with
  | mk lb A a1 aa B b bb V p pp S q qq N n nn vs ms ns d ha1 hb hp hq hn hV hvs hS hms hN hns =>
    clear ha1 hb hp hq hV hvs hS hms hN hns hn
    rw [show modelV lb A a1 aa B b bb V p pp S q qq N n nn = #[.int .i64 lb, .slice A a1 aa, .slice B b bb, .slice V p pp, .slice S q qq, .slice N n nn] from rfl]
    have hX : Hid (Below w.heap.size w (w.alloc (.cells #[.int .i64 lb, .slice A a1 aa, .slice B b bb, .slice V p pp, .slice S q qq, .slice N n nn] 27))) := Lib.hid ((Below.refl _ _).alloc (Nat.le_refl _) _)
    have hbx : Hid ((w.alloc (.cells #[.int .i64 lb, .slice A a1 aa, .slice B b bb, .slice V p pp, .slice S q qq, .slice N n nn] 27)).heap[w.heap.size]? = some (.cells #[.int .i64 lb, .slice A a1 aa, .slice B b bb, .slice V p pp, .slice S q qq, .slice N n nn] 27 (0, 0))) := Lib.hid (heap_alloc_new w _)
    have hM5 : Hid (ModelAt (w.alloc (.cells #[.int .i64 lb, .slice A a1 aa, .slice B b bb, .slice V p pp, .slice S q qq, .slice N n nn] 27)) (w.alloc (.cells #[.int .i64 lb, .slice A a1 aa, .slice B b bb, .slice V p pp, .slice S q qq, .slice N n nn] 27)).heap.size #[.int .i64 lb, .slice A a1 aa, .slice B b bb, .slice V p pp, .slice S q qq, .slice N n nn] ⟨n, d⟩) := Lib.hid ((hM.out.stay hX.out).mono hX.out.size)
    by_cases h0 : a < 0
    · have t0 : decide (a < 0) = true := decide_eq_true h0
      have hv : Hid (comeL ⟨n, d⟩ a = []) := Lib.hid (by rw [hcl.out, if_neg (by omega)])
      go_enter Try.func45, Try.ntmps45
      go_wp2_with fail
      go_ret
      exact ⟨_, rfl, by rw [hv.out]; exact OwnI.nil _ _, hX.out⟩
    · have t0 : decide (a < 0) = false := decide_eq_false h0
      by_cases h1 : (n : Int) ≤ a
      · have t1 : decide ((n : Int) ≤ a) = true := decide_eq_true h1
        have hv : Hid (comeL ⟨n, d⟩ a = []) := Lib.hid (by rw [hcl.out, if_neg (by show ¬ (0 ≤ a ∧ a < (n : Int)); omega)])
        go_enter Try.func45, Try.ntmps45
        go_wp2_with fail
        go_ret
        exact ⟨_, rfl, by rw [hv.out]; exact OwnI.nil _ _, hX.out⟩
      · have t1 : decide ((n : Int) ≤ a) = false := decide_eq_false h1
        have hv : Hid (comeL ⟨n, d⟩ a = reachL ⟨n, d⟩ a ++ [a]) := Lib.hid (by rw [hcl.out, if_pos (by show 0 ≤ a ∧ a < (n : Int); omega)])
        go_enter Try.func45, Try.ntmps45
        go_wp2_with (first
          | (refine wpList_load_row rfl 27 _ rfl w.heap.size rfl 27 #[.int .i64 lb, .slice A a1 aa, .slice B b bb, .slice V p pp, .slice S q qq, .slice N n nn] (0, 0) _ hbx.out Try.underlying27 rfl (by kernel_rfl) ?_)
          | (go_at_call 36; refine (RReach_any _ a hM5.out hF.out).mono ?_; rintro e w6 ⟨vl, rfl, hol, hb6⟩; refine Hid.out ?_)
          | fail)
        refine Lib.hid ?_
        have hB6 : Hid (Below w.heap.size w w6) := Lib.hid (hX.out.trans (hb6.mono hX.out.size))
        have hO1 : Hid (OwnI (w6.alloc (.cells #[.int .i64 a] 3)) w.heap.size vl (reachL ⟨n, d⟩ a)) := Lib.hid (World.ownsRow.alloc (hol.low hX.out.size) _)
        have hB7 : Hid (Below w.heap.size w (w6.alloc (.cells #[.int .i64 a] 3))) := Lib.hid (hB6.out.alloc hB6.out.size _)
        have w0 : (w6.alloc (.cells #[.int .i64 a] 3)).cell? ⟨w6.heap.size, 0, none⟩ = some (.int .i64 a) := by rw [World.cell?_alloc_new]; rfl
        clear hol hb6 hbx hX hM5 hB6
        go_wp2_with (at_builtin; refine Hid.out ?_)
        refine Lib.hid ?_
        go_loud (refine wpl_int rfl (.tmp 16) (.tmp 18) rfl w.heap.size _ _ rfl hO1.out w6.heap.size a rfl w0 (by have := hl100.out; omega) hB7.out.size ?_)
        intro v' w8 ho8 hg8
        have hO2 : Hid (OwnI w8 w.heap.size v' (comeL ⟨n, d⟩ a)) := Lib.hid (by rw [hv.out]; exact ho8)
        have hB8 : Hid (Below w.heap.size w w8) := Lib.hid (hB7.out.grown hg8 hB7.out.size (fun k e => (World.ownsRow.lt hO1.out k e).1))
        clear ho8 hg8 hO1 hB7 w0
        go_wp2_with fail
        go_ret
        exact ⟨_, rfl, hO2.out, hB8.out⟩
end Go.Proofs.Ytmbjmibjobpdgaa
namespace Go.Proofs.Ytmbjmibjobpdgaa

section
variable {G : GT} (ha : Acyc G)
include ha
theorem ord_ready {k : Nat} (hk : k < G.n) : nextN G.n (inE G) (doneK G.n (inE G) k) = some (ordK G.n (inE G) k) ∧ readyB (inE G) (doneK G.n (inE G) k) (ordK G.n (inE G) k) = true := by
  obtain ⟨j, hj, hr⟩ := done_next ha hk
  unfold ordK
  cases hn : nextN G.n (inE G) (doneK G.n (inE G) k) with
  | none => unfold nextN at hn; exact absurd hr (List.find?_eq_none.1 hn j (List.mem_range.2 hj))
  | some x => exact ⟨rfl, List.find?_some hn⟩
theorem done_succ {k : Nat} (hk : k < G.n) : doneK G.n (inE G) (k + 1) = upd (doneK G.n (inE G) k) (ordK G.n (inE G) k) true := by
  show (match nextN G.n (inE G) (doneK G.n (inE G) k) with | some i => upd (doneK G.n (inE G) k) i true | none => doneK G.n (inE G) k) = _
  rw [(ord_ready ha hk).1]
theorem done_iff : ∀ k, k ≤ G.n → ∀ t, doneK G.n (inE G) k t = true ↔ ∃ j, j < k ∧ ordK G.n (inE G) j = t := by
  intro k
  induction k with
  | zero => intro _ t; simp [doneK]
  | succ k ih =>
    intro hk t
    rw [done_succ ha (by omega)]
    unfold upd
    by_cases e : t = ordK G.n (inE G) k
    · rw [if_pos e]
      exact ⟨fun _ => ⟨k, by omega, e.symm⟩, fun _ => rfl⟩
    · rw [if_neg e, ih (by omega) t]
      constructor
      · rintro ⟨j, hj, h⟩; exact ⟨j, by omega, h⟩
      · rintro ⟨j, hj, h⟩
        by_cases hjk : j = k
        · subst hjk; exact absurd h.symm e
        · exact ⟨j, by omega, h⟩
theorem ord_inj {j k : Nat} (hj : j < G.n) (hk : k < G.n) (h : ordK G.n (inE G) j = ordK G.n (inE G) k) : j = k := by
  have key : ∀ {j k : Nat}, k < G.n → j < k → ordK G.n (inE G) j ≠ ordK G.n (inE G) k := fun {j k} hk hjk e => by
    have h1 := (ready_iff.1 (ord_ready ha hk).2).1
    have h2 := (done_iff ha k (by omega) (ordK G.n (inE G) k)).2 ⟨j, hjk, e⟩
    rw [h1] at h2
    cases h2
  rcases Nat.lt_trichotomy j k with h1 | h1 | h1
  · exact absurd h (key hk h1)
  · exact h1
  · exact absurd h.symm (key hj h1)
theorem ord_all {t : Nat} (ht : t < G.n) : ∃ k, k < G.n ∧ ordK G.n (inE G) k = t := by
  apply (done_iff ha G.n (Nat.le_refl _) t).1
  have hc := done_count ha G.n (Nat.le_refl _)
  cases e : doneK G.n (inE G) G.n t
  · have hp := pick_upd ht e
    have := pickL_len G.n (upd (doneK G.n (inE G) G.n) t true)
    omega
  · rfl
/-- An edge leads to a later place. -/
theorem ord_rise {p k : Nat} (hk : k < G.n) (hs : Stp G p (ordK G.n (inE G) k)) : ∃ j, j < k ∧ ordK G.n (inE G) j = p :=
  (done_iff ha k (by omega) p).1 ((ready_iff.1 (ord_ready ha hk).2).2 p hs)
theorem outs_final : ∀ (m c : Nat), c + m = G.n → ∀ k, G.n - c ≤ k → k < G.n → outsK G.n (inE G) G.n (ordK G.n (inE G) k) = outsK G.n (inE G) c (ordK G.n (inE G) k) := by
  intro m
  induction m with
  | zero =>
    intro c hc k _ _
    have : c = G.n := by omega
    rw [this]
  | succ m ih =>
    intro c hc k hk hkn
    rw [ih (c + 1) (by omega) k (by omega) hkn]
    show upd _ _ _ _ = _
    rw [upd_far]
    intro e
    have := ord_inj ha hkn (by omega) e
    omega
/-- The weight of a node. -/
theorem weight_sum {i : Nat} (hi : i < G.n) : weightsF G i = sumE (inE G) (weightsF G) i := by
  obtain ⟨k, hk, rfl⟩ := ord_all ha hi
  have h1 : weightsF G (ordK G.n (inE G) k) = outsK G.n (inE G) (G.n - 1 - k + 1) (ordK G.n (inE G) k) :=
    outs_final ha k (G.n - 1 - k + 1) (by omega) k (by omega) hk
  rw [h1]
  show upd _ _ _ _ = _
  rw [show G.n - 1 - (G.n - 1 - k) = k by omega, upd_same]
  unfold sumE
  have key : ∀ (L : List Edge), (∀ e ∈ L, e ∈ inE G) → ∀ x, L.foldl (addE (outsK G.n (inE G) (G.n - 1 - k)) (ordK G.n (inE G) k)) x = L.foldl (addE (weightsF G) (ordK G.n (inE G) k)) x := by
    intro L
    induction L with
    | nil => intro _ x; rfl
    | cons e L ih =>
      intro hL x
      rw [List.foldl_cons, List.foldl_cons]
      have he : addE (outsK G.n (inE G) (G.n - 1 - k)) (ordK G.n (inE G) k) x e = addE (weightsF G) (ordK G.n (inE G) k) x e := by
        unfold addE
        by_cases h : e.1 = ((ordK G.n (inE G) k : Nat) : Int)
        · rw [if_pos h, if_pos h]
          obtain ⟨p, j, e1, e2, hs⟩ := inE_stp (hL e (by simp))
          have hp : p = ordK G.n (inE G) k := by omega
          subst hp
          obtain ⟨l, hl, rfl⟩ := ord_all ha hs.2.1
          obtain ⟨q, hq, hqe⟩ := ord_rise ha hl hs
          have : q = k := ord_inj ha (by omega) hk hqe
          subst this
          have hf := outs_final ha (q + 1) (G.n - 1 - q) (by omega) l (by omega) hl
          rw [e2, Int.toNat_natCast]
          show min (x + _) _ = min (x + weightsF G _) _
          rw [show weightsF G (ordK G.n (inE G) l) = outsK G.n (inE G) G.n (ordK G.n (inE G) l) from rfl, hf]
        · rw [if_neg h, if_neg h]
      rw [he]
      exact ih (fun x hx => hL x (List.mem_cons_of_mem _ hx)) _
  exact key (inE G) (fun _ h => h) 1
end
theorem foldE_le {out : Nat → Int} (ho : ∀ t, 0 ≤ out t) {i : Nat} (E : List Edge) : ∀ x, x ≤ 1000000000 → x ≤ E.foldl (addE out i) x := by
  induction E with
  | nil => intro x _; exact Int.le_refl _
  | cons e E ih =>
    intro x hx
    have h1 : x ≤ addE out i x e ∧ addE out i x e ≤ 1000000000 := by
      unfold addE
      have := ho e.2.2.toNat
      split <;> omega
    exact Int.le_trans h1.1 (ih _ h1.2)
/-- Along an edge the weight falls, below 10^9. -/
theorem weight_falls {G : GT} (ha : Acyc G) {i j : Nat} (hs : Stp G i j) : weightsF G j < weightsF G i ∨ weightsF G i = 1000000000 := by
  obtain ⟨e, he, e1, e2⟩ := stp_inE hs
  have hw : ∀ t, 0 ≤ weightsF G t ∧ weightsF G t ≤ 1000000000 := outsK_in _ _ _
  rw [weight_sum ha hs.1]
  obtain ⟨A, B, hAB⟩ := List.append_of_mem he
  unfold sumE
  rw [hAB, List.foldl_append, List.foldl_cons]
  have h1 := foldE_in hw (i := i) A 1 (by omega)
  have h2 : addE (weightsF G) i (A.foldl (addE (weightsF G) i) 1) e = min (A.foldl (addE (weightsF G) i) 1 + weightsF G j) 1000000000 := by
    unfold addE
    rw [if_pos e1, e2, Int.toNat_natCast]
  rw [h2]
  have h3 := hw j
  have h4 := foldE_le (fun t => (hw t).1) (i := i) B (min (A.foldl (addE (weightsF G) i) 1 + weightsF G j) 1000000000) (by omega)
  have h5 := foldE_in hw (i := i) B (min (A.foldl (addE (weightsF G) i) 1 + weightsF G j) 1000000000) (by omega)
  omega
end Go.Proofs.Ytmbjmibjobpdgaa
namespace Go.Proofs.Ytmbjmibjobpdgaa

/-- Where a node's ways lead. -/
def nexts (x : NT) : List Int := (List.range x.c).map x.f ++ if 0 ≤ x.k then [x.k] else []
/-- A node without its ways to another one. -/
def withoutL (x : NT) (d : Int) : List Int := (nexts x).filter fun j => j != d
def withoutN (x : NT) (d : Int) : NT := ⟨(withoutL x d).length, fun j => (withoutL x d).getD j 0, -1, 0⟩
def withoutG (G : GT) (d : Int) : GT := ⟨G.n, fun i => withoutN (G.d i) d⟩
theorem nexts_without (x : NT) (d : Int) : nexts (withoutN x d) = withoutL x d := by
  unfold nexts withoutN
  simp only [show ¬ (0 ≤ (-1 : Int)) by omega, if_false, List.append_nil]
  apply List.ext_getElem
  · simp
  · intro i h1 h2
    simp [List.getD_eq_getElem?_getD, List.getElem?_eq_getElem h2]
theorem outE_map (x : NT) (i : Nat) : (outE x i).map (fun e => e.2.2) = nexts x := by
  unfold outE nexts
  rw [List.map_append, List.map_map]
  congr 1
  split <;> rfl
theorem outE_from {x : NT} {i : Nat} {e : Edge} (h : e ∈ outE x i) : e.1 = (i : Int) := by
  unfold outE at h
  rcases List.mem_append.1 h with h | h
  · obtain ⟨j, _, rfl⟩ := List.mem_map.1 h; rfl
  · split at h
    · simp at h; rw [h]
    · cases h
theorem stp_iff {G : GT} {i j : Nat} : Stp G i j ↔ i < G.n ∧ j < G.n ∧ (j : Int) ∈ nexts (G.d i) := by
  unfold Stp
  constructor
  · rintro ⟨hi, hj, e, he, h1, h2⟩
    refine ⟨hi, hj, ?_⟩
    unfold edgesL at he
    obtain ⟨k, hk, he⟩ := List.mem_flatMap.1 he
    have := outE_from he
    have hki : k = i := by omega
    subst hki
    rw [← outE_map (G.d k) k, ← h2]
    exact List.mem_map_of_mem he
  · rintro ⟨hi, hj, h⟩
    refine ⟨hi, hj, ?_⟩
    rw [← outE_map (G.d i) i] at h
    obtain ⟨e, he, h2⟩ := List.mem_map.1 h
    refine ⟨e, ?_, outE_from he, h2⟩
    unfold edgesL
    exact List.mem_flatMap.2 ⟨i, List.mem_range.2 hi, he⟩
theorem stp_without {G : GT} {d : Int} {i j : Nat} : Stp (withoutG G d) i j ↔ Stp G i j ∧ (j : Int) ≠ d := by
  rw [stp_iff, stp_iff]
  show i < G.n ∧ j < G.n ∧ (j : Int) ∈ nexts (withoutN (G.d i) d) ↔ _
  rw [nexts_without]
  unfold withoutL
  rw [List.mem_filter]
  simp only [bne_iff_ne, ne_eq]
  constructor
  · rintro ⟨a, b, c, e⟩; exact ⟨⟨a, b, c⟩, e⟩
  · rintro ⟨⟨a, b, c⟩, e⟩; exact ⟨a, b, c, e⟩
theorem fewB_without {G : GT} (h : fewB G) (d : Int) : fewB (withoutG G d) := by
  refine ⟨h.1, fun i hi => ?_⟩
  have h1 := h.2 i hi
  show (withoutL (G.d i) d).length + (if 0 ≤ (-1 : Int) then 1 else 0) ≤ 41
  have h2 : (withoutL (G.d i) d).length ≤ (nexts (G.d i)).length := List.length_filter_le _ _
  have h3 : (nexts (G.d i)).length = (G.d i).c + (if 0 ≤ (G.d i).k then 1 else 0) := by
    unfold nexts
    split <;> simp
  simp only [show ¬ (0 ≤ (-1 : Int)) by omega, if_false]
  omega
/-- Who is the root, or reached from it. -/
def Come (G : GT) (r t : Nat) : Prop := t = r ∨ Path G r t
theorem comeL_iff {G : GT} {r t : Nat} (hr : r < G.n) : (t : Int) ∈ comeL G (r : Int) ↔ Come G r t := by
  unfold comeL
  rw [if_pos ⟨by omega, by omega⟩, reachL_in hr, List.mem_append, List.mem_singleton, pickL_mem]
  unfold Come
  constructor
  · rintro (⟨i, e, _, hb⟩ | e)
    · have : t = i := by omega
      subst this
      exact .inr ((reachB_iff hr).1 hb)
    · exact .inl (by omega)
  · rintro (e | hp)
    · exact .inr (by omega)
    · exact .inl ⟨t, rfl, hp.lt.2, (reachB_iff hr).2 hp⟩
/-- d dominates t: the document's words. -/
def Dom (G : GT) (r d t : Nat) : Prop := Come G r d ∧ Come G r t ∧ (d = r ∨ t = d ∨ ¬ Come (withoutG G (d : Int)) r t)
theorem path_split {G : GT} {j k r : Nat} : ∀ {t : Nat}, Path (withoutG G (j : Int)) r t → Path (withoutG G (k : Int)) r t ∨ Path (withoutG G (j : Int)) r k := by
  intro t h
  induction h with
  | one s =>
    rename_i b
    by_cases e : b = k
    · subst e; exact .inr (.one s)
    · exact .inl (.one (stp_without.2 ⟨(stp_without.1 s).1, by omega⟩))
  | snoc hp s ih =>
    rename_i b c
    rcases ih with h | h
    · by_cases e : c = k
      · subst e; exact .inr (.snoc hp s)
      · exact .inl (.snoc h (stp_without.2 ⟨(stp_without.1 s).1, by omega⟩))
    · exact .inr h
/-- Who dominates a dominator dominates. -/
theorem dom_trans {G : GT} {r i j k : Nat} (h1 : Dom G r k i) (h2 : Dom G r j k) : Dom G r j i := by
  obtain ⟨hk, hi, h1⟩ := h1
  obtain ⟨hj, _, h2⟩ := h2
  refine ⟨hj, hi, ?_⟩
  rcases h2 with h2 | h2 | h2
  · exact .inl h2
  · subst h2
    exact h1
  · by_cases hjr : j = r
    · exact .inl hjr
    by_cases hij : i = j
    · exact .inr (.inl hij)
    refine .inr (.inr fun hc => ?_)
    rcases h1 with h1 | h1 | h1
    · subst h1
      exact h2 (.inl rfl)
    · subst h1
      exact h2 hc
    · rcases hc with hc | hc
      · subst hc
        exact h1 (.inl rfl)
      · rcases path_split (k := k) hc with h | h
        · exact h1 (.inr h)
        · exact h2 (.inr h)
theorem dom_self {G : GT} {r t : Nat} : Dom G r t t ↔ Come G r t := ⟨fun h => h.1, fun h => ⟨h, h, .inr (.inl rfl)⟩⟩
theorem dom_root {G : GT} {r t : Nat} : Dom G r r t ↔ Come G r t := ⟨fun h => h.2.1, fun h => ⟨.inl rfl, h, .inl rfl⟩⟩
/-- Without loops nobody dominates one that leads to it. -/
theorem dom_back {G : GT} (ha : Acyc G) {r p t : Nat} (hs : Stp G p t) : ¬ Dom G r t p := by
  rintro ⟨_, hp, h⟩
  have key : ∀ {q : Nat}, Path G r q → Come (withoutG G (t : Int)) r q ∨ Path G t q ∨ q = t := by
    intro q h
    induction h with
    | one s =>
      rename_i b
      by_cases e : b = t
      · exact .inr (.inr e)
      · exact .inl (.inr (.one (stp_without.2 ⟨s, by omega⟩)))
    | snoc hpp s ih =>
      rename_i b c
      by_cases e : c = t
      · exact .inr (.inr e)
      rcases ih with h | h | h
      · rcases h with h | h
        · subst h; exact .inl (.inr (.one (stp_without.2 ⟨s, by omega⟩)))
        · exact .inl (.inr (.snoc h (stp_without.2 ⟨s, by omega⟩)))
      · exact .inr (.inl (.snoc h s))
      · subst h; exact .inr (.inl (.one s))
  rcases h with h | h | h
  · subst h
    rcases hp with h | h
    · subst h; exact ha p (.one hs)
    · exact ha p (Path.trans (.one hs) h)
  · subst h; exact ha p (.one hs)
  · rcases hp with hp | hp
    · subst hp; exact h (.inl rfl)
    · rcases key hp with h' | h' | h'
      · exact h h'
      · exact ha p (Path.trans (.one hs) h')
      · subst h'; exact ha p (.one hs)
end Go.Proofs.Ytmbjmibjobpdgaa
