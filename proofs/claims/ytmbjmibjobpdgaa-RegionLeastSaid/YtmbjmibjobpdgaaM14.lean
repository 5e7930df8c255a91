/-
  The document's region: its Longest.
-/
import Derived.Test.YtmbjmibjobpdgaaM13
namespace Go.Proofs.Ytmbjmibjobpdgaa
open Go.RowKit

/-- What a node waits. -/
def waitF (G : GT) (i : Nat) : Int := if 0 ≤ (G.d i).t ∧ (G.d i).t ≤ 1000 then (G.d i).t else 0
def farE (i : Nat) (f : Nat → Int) (e : Edge) : Nat → Int := if e.1 = (i : Int) then upd f i (max (f i) (f e.2.2.toNat)) else f
/-- How far it is from a node, and the most so far, once the last c nodes of the order have theirs. -/
def farK (n : Nat) (E : List Edge) (wt : Nat → Int) : Nat → (Nat → Int) × Int
  | 0 => (fun _ => 0, 0)
  | c + 1 =>
    let i := ordK n E (n - 1 - c)
    let f := E.foldl (farE i) (farK n E wt c).1
    (upd f i (f i + wt i), max (farK n E wt c).2 (f i + wt i))
def longestI (G : GT) : Int := (farK G.n (inE G) (waitF G) G.n).2
theorem farE_in {b : Int} {i : Nat} {f : Nat → Int} (hf : ∀ t, 0 ≤ f t ∧ f t ≤ b) (e : Edge) : ∀ t, 0 ≤ farE i f e t ∧ farE i f e t ≤ b := by
  intro t
  unfold farE
  split
  · unfold upd
    have h1 := hf i
    have h2 := hf e.2.2.toNat
    split
    · omega
    · exact hf t
  · exact hf t
theorem farF_in {b : Int} {i : Nat} (E : List Edge) : ∀ f : Nat → Int, (∀ t, 0 ≤ f t ∧ f t ≤ b) → ∀ t, 0 ≤ E.foldl (farE i) f t ∧ E.foldl (farE i) f t ≤ b := by
  induction E with
  | nil => intro f h; exact h
  | cons e E ih => intro f h; exact ih _ (farE_in h e)
theorem wait_in (G : GT) (i : Nat) : 0 ≤ waitF G i ∧ waitF G i ≤ 1000 := by
  unfold waitF
  split <;> omega
theorem farK_in {n : Nat} {E : List Edge} {wt : Nat → Int} (hw : ∀ i, 0 ≤ wt i ∧ wt i ≤ 1000) : ∀ c, (∀ t, 0 ≤ (farK n E wt c).1 t ∧ (farK n E wt c).1 t ≤ 1000 * (c : Int)) ∧ 0 ≤ (farK n E wt c).2 ∧ (farK n E wt c).2 ≤ 1000 * (c : Int) := by
  intro c
  induction c with
  | zero => exact ⟨fun t => ⟨Int.le_refl _, by show (0 : Int) ≤ 1000 * ((0 : Nat) : Int); omega⟩, Int.le_refl _, by show (0 : Int) ≤ 1000 * ((0 : Nat) : Int); omega⟩
  | succ c ih =>
    have h1 := farF_in (i := ordK n E (n - 1 - c)) E _ ih.1
    have h2 := hw (ordK n E (n - 1 - c))
    have h3 := h1 (ordK n E (n - 1 - c))
    refine ⟨fun t => ?_, ?_, ?_⟩
    · show 0 ≤ upd _ _ _ t ∧ upd _ _ _ t ≤ _
      unfold upd
      split
      · push_cast; omega
      · have := h1 t; push_cast; omega
    · show 0 ≤ max _ _
      have := ih.2.1
      omega
    · show max _ _ ≤ _
      have := ih.2.2
      push_cast; omega
/-- What Longest answers. -/
def SaysL (w : World) (x : Int) (e : Ending) (w' : World) : Prop := e = .returned (.tuple #[.int .i64 x, .bool true]) ∧ Below w.heap.size w w'
set_option maxRecDepth 20000 in
set_option maxHeartbeats 2000000 in
theorem RLongest_no {mv : Array Value} {G : GT} (w : World) (h : ModelAt w w.heap.size mv G) (hfew : fewB G) (hl : 0 < (loopsL G).length) :
    Calls Try.prog 15 #[.agg mv] w fun e w' => e = .returned (.tuple #[.int .i64 0, .bool false]) ∧ Below w.heap.size w w' := by
  have hM := Lib.hid h
  have hF := Lib.hid hfew
  clear hfew
  cases h with
  | mk lb A a1 aa B b bb V p pp S q qq N n nn vs ms ns d ha1 hb hp hq hn hV hvs hS hms hN hns =>
    clear ha1 hb hp hq hV hvs hS hms hN hns hn
    rw [show modelV lb A a1 aa B b bb V p pp S q qq N n nn = #[.int .i64 lb, .slice A a1 aa, .slice B b bb, .slice V p pp, .slice S q qq, .slice N n nn] from rfl]
    have hX : Hid (Below w.heap.size w (w.alloc (.cells #[.int .i64 lb, .slice A a1 aa, .slice B b bb, .slice V p pp, .slice S q qq, .slice N n nn] 27))) := Lib.hid ((Below.refl _ _).alloc (Nat.le_refl _) _)
    have hbx : Hid ((w.alloc (.cells #[.int .i64 lb, .slice A a1 aa, .slice B b bb, .slice V p pp, .slice S q qq, .slice N n nn] 27)).heap[w.heap.size]? = some (.cells #[.int .i64 lb, .slice A a1 aa, .slice B b bb, .slice V p pp, .slice S q qq, .slice N n nn] 27 (0, 0))) := Lib.hid (heap_alloc_new w _)
    have hM5 : Hid (ModelAt (w.alloc (.cells #[.int .i64 lb, .slice A a1 aa, .slice B b bb, .slice V p pp, .slice S q qq, .slice N n nn] 27)) (w.alloc (.cells #[.int .i64 lb, .slice A a1 aa, .slice B b bb, .slice V p pp, .slice S q qq, .slice N n nn] 27)).heap.size #[.int .i64 lb, .slice A a1 aa, .slice B b bb, .slice V p pp, .slice S q qq, .slice N n nn] ⟨n, d⟩) := Lib.hid ((hM.out.stay hX.out).mono hX.out.size)
    have hLn : Hid (0 < (loopsL ⟨n, d⟩).length) := Lib.hid hl
    clear hl
    go_enter Try.func15, Try.ntmps15
    go_wp2_with (first
      | (refine wpList_load_row rfl 27 _ rfl w.heap.size rfl 27 #[.int .i64 lb, .slice A a1 aa, .slice B b bb, .slice V p pp, .slice S q qq, .slice N n nn] (0, 0) _ hbx.out Try.underlying27 rfl (by kernel_rfl) ?_)
      | (go_at_call 11; refine (ROrder_no _ hM5.out hF.out hLn.out).mono ?_; rintro e w6 ⟨rfl, hb6⟩)
      | fail)
    have hB6 : Hid (Below w.heap.size w w6) := Lib.hid (hX.out.trans (hb6.mono hX.out.size))
    go_ret2
    exact ⟨rfl, hB6.out⟩
set_option maxRecDepth 20000 in
set_option maxHeartbeats 4000000 in
theorem RLongest_yes {mv : Array Value} {G : GT} (w : World) (h : ModelAt w w.heap.size mv G) (hfew : fewB G) (hl : loopsL G = []) :
    Calls Try.prog 15 #[.agg mv] w (SaysL w (longestI G)) := by
  have hM := Lib.hid h
  have hF := Lib.hid hfew
  have hnn1 := hfew.1
  have hL0 := Lib.hid hl
  have hEl : Hid ((inE G).length ≤ 4100) := Lib.hid (by
    have := edgesL_len hfew (Nat.le_refl _)
    have := List.length_filter_le (toN G.n) (edgesL G G.n)
    unfold inE
    omega)
  have hto : Hid (∀ e ∈ inE G, ∃ p j : Nat, e.1 = (p : Int) ∧ e.2.2 = (j : Int) ∧ p < G.n ∧ j < G.n) := Lib.hid (fun e he => by
    obtain ⟨p, j, h1, h2, hs⟩ := inE_stp he
    exact ⟨p, j, h1, h2, hs.1, hs.2.1⟩)
  have hok : Hid (∀ k, k < G.n → ordK G.n (inE G) k < G.n) := Lib.hid (fun k hk => ordK_lt (loops_nil.1 hl) hk)
  have hw0 : Hid (longestI G = (farK G.n (inE G) (waitF G) G.n).2) := Lib.hid rfl
  have hwt : Hid (∀ i, waitF G i = if 0 ≤ (G.d i).t ∧ (G.d i).t ≤ 1000 then (G.d i).t else 0) := Lib.hid fun _ => rfl
  have hwi : Hid (∀ i, 0 ≤ waitF G i ∧ waitF G i ≤ 1000) := Lib.hid (wait_in G)
  have hR : Hid (orderL G = ordL G.n (inE G) G.n) := Lib.hid rfl
  clear hfew hl
  cases h with
  | mk lb A a1 aa B b bb V p pp S q qq N n nn vs ms ns d ha1 hb hp hq hn hV hvs hS hms hN hns =>
    clear ha1 hb hp hq hV hvs hS hms hn
    have hn100 : n ≤ 100 := hnn1
    clear hnn1
    rw [show modelV lb A a1 aa B b bb V p pp S q qq N n nn = #[.int .i64 lb, .slice A a1 aa, .slice B b bb, .slice V p pp, .slice S q qq, .slice N n nn] from rfl]
    have hX : Hid (Below w.heap.size w (w.alloc (.cells #[.int .i64 lb, .slice A a1 aa, .slice B b bb, .slice V p pp, .slice S q qq, .slice N n nn] 27))) := Lib.hid ((Below.refl _ _).alloc (Nat.le_refl _) _)
    have hbx : Hid ((w.alloc (.cells #[.int .i64 lb, .slice A a1 aa, .slice B b bb, .slice V p pp, .slice S q qq, .slice N n nn] 27)).heap[w.heap.size]? = some (.cells #[.int .i64 lb, .slice A a1 aa, .slice B b bb, .slice V p pp, .slice S q qq, .slice N n nn] 27 (0, 0))) := Lib.hid (heap_alloc_new w _)
    have hM5 : Hid (ModelAt (w.alloc (.cells #[.int .i64 lb, .slice A a1 aa, .slice B b bb, .slice V p pp, .slice S q qq, .slice N n nn] 27)) (w.alloc (.cells #[.int .i64 lb, .slice A a1 aa, .slice B b bb, .slice V p pp, .slice S q qq, .slice N n nn] 27)).heap.size #[.int .i64 lb, .slice A a1 aa, .slice B b bb, .slice V p pp, .slice S q qq, .slice N n nn] ⟨n, d⟩) := Lib.hid ((hM.out.stay hX.out).mono hX.out.size)
    have hNN := Lib.hid hN
    have hns1 := Lib.hid hns
    clear hN hns
    generalize hE : inE ⟨n, d⟩ = E at *
    generalize waitF ⟨n, d⟩ = wt at *
    have HE := Lib.hid hE
    clear hE
    go_enter Try.func15, Try.ntmps15
    go_wp2_with (first
      | (refine wpList_load_row rfl 27 _ rfl w.heap.size rfl 27 #[.int .i64 lb, .slice A a1 aa, .slice B b bb, .slice V p pp, .slice S q qq, .slice N n nn] (0, 0) _ hbx.out Try.underlying27 rfl (by kernel_rfl) ?_)
      | (go_at_call 11; refine (ROrder_yes _ hM5.out hF.out hL0.out).mono ?_; rintro e w6 ⟨vo, rfl, hoo, hb6⟩; refine Hid.out ?_)
      | fail)
    refine Lib.hid ?_
    rw [hR.out] at hoo
    obtain ⟨AO, cO, e0, hlie⟩ := hoo.lie
    rw [ordL_len] at e0
    subst e0
    have hlo := Lib.hid hlie
    have hB6 : Hid (Below w.heap.size w w6) := Lib.hid (hX.out.trans (hb6.mono hX.out.size))
    have hbx6 : Hid (w6.heap[w.heap.size]? = some (.cells #[.int .i64 lb, .slice A a1 aa, .slice B b bb, .slice V p pp, .slice S q qq, .slice N n nn] 27 (0, 0))) := Lib.hid (by rw [hb6.block _ (row_lt hbx.out)]; exact hbx.out)
    have c5 : w6.cell? ⟨w.heap.size, 5, none⟩ = some (.slice N n nn) := by rw [cell_of_row w6 _ 5 _ 27 (0, 0) hbx6.out]; rfl
    clear hoo hb6 hX hbx hM5 hlie
    go_wp2_with (first | (refine wp_mk info3' (by decide) Try.underlying30 rfl rfl _ _ rfl n rfl rfl (by omega) ?_; intro w7 hcb hb7; refine Hid.out ?_) | fail)
    refine Lib.hid ?_
    obtain ⟨gm, hgm⟩ : ∃ gm, gm = w6.heap.size := ⟨_, rfl⟩
    rw [← hgm] at hcb hlo ⊢
    have hgl : Hid (w.heap.size ≤ gm) := Lib.hid (by rw [hgm]; exact hB6.out.size)
    have hB7 : Hid (Below w.heap.size w w7) := Lib.hid (hB6.out.trans (hb7.mono hB6.out.size))
    have hbx7 : Hid (w7.heap[w.heap.size]? = some (.cells #[.int .i64 lb, .slice A a1 aa, .slice B b bb, .slice V p pp, .slice S q qq, .slice N n nn] 27 (0, 0))) := Lib.hid (by rw [hb7.block _ (row_lt hbx6.out)]; exact hbx6.out)
    have hM7 : Hid (ModelAt w7 w7.heap.size #[.int .i64 lb, .slice A a1 aa, .slice B b bb, .slice V p pp, .slice S q qq, .slice N n nn] ⟨n, d⟩) := Lib.hid ((hM.out.stay hB7.out).mono hB7.out.size)
    have hCB := Lib.hid hcb
    have hlo7 : Hid (LieI w7 gm AO (ordL n E n)) := Lib.hid (hlo.out.keep fun k o hk => hb7.cell (p := ⟨k, o, none⟩) (by show k < w6.heap.size; rw [← hgm]; exact hk))
    clear hcb hb7 hB6 hbx6 c5 hgm hlo
    go_wp2_with (first
      | (refine wpList_load_row rfl 27 _ rfl w.heap.size rfl 27 #[.int .i64 lb, .slice A a1 aa, .slice B b bb, .slice V p pp, .slice S q qq, .slice N n nn] (0, 0) _ hbx7.out Try.underlying27 rfl (by kernel_rfl) ?_)
      | (go_at_call 30; refine (REdges15_any _ hM7.out hF.out).mono ?_; rintro e w8 ⟨ve, rfl, hoe, hb8⟩; refine Hid.out ?_)
      | fail)
    refine Lib.hid ?_
    rw [HE.out] at hoe
    obtain ⟨AE, cE, rfl⟩ := hoe.open
    have hB8 : Hid (Below w.heap.size w w8) := Lib.hid (hB7.out.trans (hb8.mono hB7.out.size))
    have hcb8 : Hid (CB w8 3 gm n (fun i => .int .i64 ((farK n E wt 0).1 i))) := Lib.hid ((hCB.out.keep hb8).congr fun _ _ => rfl)
    have hlo8 : Hid (LieI w8 gm AO (ordL n E n)) := Lib.hid (hlo7.out.keep fun k o hk => hb8.cell (p := ⟨k, o, none⟩) (Nat.lt_trans hk hCB.out.lt))
    have hbx8 : Hid (w8.heap[w.heap.size]? = some (.cells #[.int .i64 lb, .slice A a1 aa, .slice B b bb, .slice V p pp, .slice S q qq, .slice N n nn] 27 (0, 0))) := Lib.hid (by rw [hb8.block _ (row_lt hbx7.out)]; exact hbx7.out)
    obtain ⟨m, hm⟩ : ∃ m, m = E.length := ⟨_, rfl⟩
    have HMM := Lib.hid hm
    rw [← hm] at hoe hEl ⊢
    have hoe8 := Lib.hid hoe
    clear hoe hb8 hbx7 hM7 hB7 hCB hlo7 hm
    have hm41 := hEl.out
    go_wp2_with fail
    go_loopw [8, 9] (fun bv iv wr => ∃ c : Nat, c ≤ n ∧ iv = .int .i64 ((n : Int) - 1 - (c : Int)) ∧ bv = .int .i64 (farK n E wt c).2 ∧ Hid (w8.grownBy wr (some gm)) ∧ Hid (CB wr 3 gm n (fun i => .int .i64 ((farK n E wt c).1 i)))) (fun _ iv _ => (intOf iv + 1).toNat)
    case atStart => exact ⟨0, Nat.zero_le _, by go_num, rfl, Lib.hid (grown_refl _ _), hcb8⟩
    case round =>
      obtain ⟨c, hc, rfl, rfl, hg, hcb⟩ := hrel
      by_cases hcn : c < n
      · obtain ⟨i, hi⟩ : ∃ i : Nat, i + c + 1 = n := ⟨n - 1 - c, by omega⟩
        have hiv : (n : Int) - 1 - (c : Int) = (i : Int) := by omega
        rw [hiv]
        have hcg : Hid (gm < w8.heap.size) := Lib.hid hcb8.out.lt
        have hox := hok.out i (by omega)
        have hfk : Hid (farK n E wt (c + 1) = (upd (E.foldl (farE (ordK n E i)) (farK n E wt c).1) (ordK n E i) (E.foldl (farE (ordK n E i)) (farK n E wt c).1 (ordK n E i) + wt (ordK n E i)), max (farK n E wt c).2 (E.foldl (farE (ordK n E i)) (farK n E wt c).1 (ordK n E i) + wt (ordK n E i)))) := Lib.hid (by
          show (upd (E.foldl (farE (ordK n E (n - 1 - c))) (farK n E wt c).1) (ordK n E (n - 1 - c)) _, _) = _
          rw [show n - 1 - c = i by omega])
        have hbd : Hid ((∀ t, 0 ≤ (farK n E wt c).1 t ∧ (farK n E wt c).1 t ≤ 1000 * (c : Int)) ∧ 0 ≤ (farK n E wt c).2 ∧ (farK n E wt c).2 ≤ 1000 * (c : Int)) := Lib.hid (farK_in hwi.out c)
        have hoc : Hid (∀ wr, w8.grownBy wr (some gm) → ∃ g o, AO = some ⟨g, o, none⟩ ∧ wr.cell? ⟨g, o + i, none⟩ = some (.int .i64 (ordK n E i : Int))) := Lib.hid (fun wr hg => by
          obtain ⟨g, o, e, _, hx⟩ := (hlo8.out.far (Nat.le_refl _) (Nat.le_of_lt hcg.out) hg) (by rw [ordL_len]; omega)
          exact ⟨g, o, e, by rw [hx i (by rw [ordL_len]; omega)]; simp [ordL]⟩)
        have hec : Hid (∀ wr, w8.grownBy wr (some gm) → OwnE wr w7.heap.size (.slice AE m cE) E) := Lib.hid (fun wr hg => by
          obtain ⟨cs, h1, _⟩ := hcb8.out
          exact hoe8.out.kept h1 (by decide) hg)
        obtain ⟨go, oo, rfl, y0⟩ := hoc.out _ hg.out
        generalize (farK n E wt c).1 = f at *
        generalize (farK n E wt c).2 = best at *
        generalize ordK n E i = ox at *
        go_wp2_with fail
        go_loopw [11] (fun tv wr => ∃ t : Nat, t ≤ m ∧ tv = .int .i64 t ∧ Hid (w8.grownBy wr (some gm)) ∧ Hid (CB wr 3 gm n (fun i => .int .i64 ((E.take t).foldl (farE ox) f i)))) (fun tv _ => m - (intOf tv).toNat)
        case atStart => exact ⟨0, Nat.zero_le _, rfl, hg, Lib.hid (by simpa using hcb.out)⟩
        case round =>
          clear hg hcb y0
          obtain ⟨t, ht, rfl, hg, hcb⟩ := hrel
          by_cases htm : t < m
          · have htl : t < E.length := by have := HMM.out; omega
            obtain ⟨ge, oe, rfl, x0, _, x2⟩ := (hec.out _ hg.out).cells htl
            obtain ⟨p1, j1, ep, ej, hp1, hj1⟩ := hto.out E[t] (List.getElem_mem htl)
            have hft := Lib.hid (fold_take (farE ox) f E htl)
            have hWb := Lib.hid (farF_in (i := ox) (E.take t) f hbd.out.1)
            have hae : Hid (∀ x, farE ox x E[t] = if (p1 : Int) = (ox : Int) then upd x ox (max (x ox) (x j1)) else x) := Lib.hid (fun x => by unfold farE; rw [ep, ej]; rfl)
            rw [ep] at x0
            rw [ej] at x2
            clear ep ej
            generalize (E.take t).foldl (farE ox) f = f1 at *
            by_cases hpo : p1 = ox
            · subst hpo
              have tz : ((p1 : Int) == (p1 : Int)) = true := by simp
              have z0 := hcb.out.cell hj1
              have z1 := hcb.out.cell hp1
              have z2 := hcb.out.free p1
              have hM1 : Hid ((if f1 p1 < f1 j1 then f1 j1 else f1 p1) = max (f1 p1) (f1 j1)) := Lib.hid (by split <;> omega)
              have hne : Hid (upd f1 p1 (max (f1 p1) (f1 j1)) = (E.take (t + 1)).foldl (farE p1) f) := Lib.hid (by rw [hft.out, hae.out]; simp)
              have hg2 : Hid (w8.grownBy ((wr.setCell ⟨gm, p1, none⟩ (.int .i64 (if f1 p1 < f1 j1 then f1 j1 else f1 p1))).drew) (some gm)) := Lib.hid (grown_drew (grown_trans hg.out (grown_set wr gm p1 _)) 1)
              have hc2 : Hid (CB ((wr.setCell ⟨gm, p1, none⟩ (.int .i64 (if f1 p1 < f1 j1 then f1 j1 else f1 p1))).drew) 3 gm n (fun i => .int .i64 ((E.take (t + 1)).foldl (farE p1) f i))) := Lib.hid (by
                have := hcb.out.set p1 (.int .i64 (if f1 p1 < f1 j1 then f1 j1 else f1 p1))
                refine CB.congr (u := upd (fun i => .int .i64 (f1 i)) p1 (.int .i64 (if f1 p1 < f1 j1 then f1 j1 else f1 p1))) this fun i _ => ?_
                rw [← hne.out, hM1.out]
                unfold upd
                split <;> rfl)
              clear hft hae hM1 hne
              go_upto_region 15 with (fail)
              go_region
              clear x0 x2 z0 z1 z2 hg hcb
              generalize (wr.setCell ⟨gm, p1, none⟩ (.int .i64 (if f1 p1 < f1 j1 then f1 j1 else f1 p1))).drew = wq at *
              go_simp
              go_wp2_with fail
              go_roundw
              case rel => exact ⟨t + 1, by omega, by go_num, hg2, hc2⟩
              case measure => simp [intOf]; omega
            · have tz : ((p1 : Int) == (ox : Int)) = false := by simp; omega
              have hne : Hid (f1 = (E.take (t + 1)).foldl (farE ox) f) := Lib.hid (by rw [hft.out, hae.out, if_neg (by omega)])
              have hcb2 : Hid (CB wr 3 gm n (fun i => .int .i64 ((E.take (t + 1)).foldl (farE ox) f i))) := Lib.hid (by rw [← hne.out]; exact hcb.out)
              clear x2 hcb hft hae
              go_wp2_with fail
              go_roundw
              case rel => exact ⟨t + 1, by omega, by go_num, hg, hcb2⟩
              case measure => simp [intOf]; omega
          · have hWe : Hid ((E.take t).foldl (farE ox) f = E.foldl (farE ox) f) := Lib.hid (by rw [List.take_of_length_le (by have := HMM.out; omega)])
            have hcb1 : Hid (CB wr 3 gm n (fun i => .int .i64 (E.foldl (farE ox) f i))) := Lib.hid (by rw [← hWe.out]; exact hcb.out)
            have hf2 := Lib.hid (farF_in (i := ox) E f hbd.out.1)
            generalize E.foldl (farE ox) f = f2 at *
            have hF2 := hf2.out ox
            have hbst := hbd.out.2
            have hwl := hwi.out ox
            have hBr : Hid (Below w.heap.size w wr) := Lib.hid (hB8.out.grown hg.out hB8.out.size (fun k e => by cases e; exact hgl.out))
            have c5 : wr.cell? ⟨w.heap.size, 5, none⟩ = some (.slice N n nn) := by
              have hb : wr.heap[w.heap.size]? = some (.cells #[.int .i64 lb, .slice A a1 aa, .slice B b bb, .slice V p pp, .slice S q qq, .slice N n nn] 27 (0, 0)) := by
                rw [hg.out.block _ (row_lt hbx8.out) (fun e => by
                  have e' : w.heap.size = gm := by injection e
                  obtain ⟨cs, h1, _⟩ := hcb8.out
                  have h2 := hbx8.out
                  rw [e', h1] at h2
                  injection h2 with h2
                  injection h2 with _ h3 _
                  exact absurd h3 (by decide))]
                exact hbx8.out
              rw [cell_of_row wr _ 5 _ 27 (0, 0) hb]; rfl
            obtain ⟨g, o, rfl, hgl2, hx⟩ := hNN.out (by omega)
            obtain ⟨L, _, _, _, _, _, _, _, _, _, _, _, ev, hL, _, _, _, _, h27, _⟩ := (hns1.out ox hox).list
            have n27 : wr.cell? ⟨g, o + ox * 29 + 27, none⟩ = some (.int .i64 (d ox).t) := by
              rw [hBr.out.cell (p := ⟨g, o + ox * 29 + 27, none⟩) hgl2, hx ox hox 27 (by omega), ev]
              simpa using h27
            have hwo : Hid (wt ox = if 0 ≤ (d ox).t ∧ (d ox).t ≤ 1000 then (d ox).t else 0) := Lib.hid (hwt.out ox)
            clear hx ev hL h27
            generalize (d ox).t = T at *
            have z0 := hcb1.out.cell hox
            have z2 := hcb1.out.free ox
            by_cases hT : 0 ≤ T ∧ T ≤ 1000
            · have tT0 : decide (0 ≤ T) = true := decide_eq_true hT.1
              have tT1 : decide (T ≤ 1000) = true := decide_eq_true hT.2
              have hwT : Hid (wt ox = T) := Lib.hid (by rw [hwo.out, if_pos hT])
              have hg2 : Hid (w8.grownBy ((wr.setCell ⟨gm, ox, none⟩ (.int .i64 (f2 ox + T))).drew) (some gm)) := Lib.hid (grown_drew (grown_trans hg.out (grown_set wr gm ox _)) 1)
              have hc2 : Hid (CB ((wr.setCell ⟨gm, ox, none⟩ (.int .i64 (f2 ox + T))).drew) 3 gm n (fun i => .int .i64 ((farK n E wt (c + 1)).1 i))) := Lib.hid (by
                have := hcb1.out.set ox (.int .i64 (f2 ox + T))
                refine CB.congr (u := upd (fun i => .int .i64 (f2 i)) ox (.int .i64 (f2 ox + T))) this fun i _ => ?_
                rw [hfk.out, hwT.out]
                by_cases e : i = ox
                · subst e; simp [upd]
                · simp [upd, e])
              have hb2 : Hid ((if best < f2 ox + T then f2 ox + T else best) = (farK n E wt (c + 1)).2) := Lib.hid (by
                rw [hfk.out, hwT.out]
                show _ = max best (f2 ox + T)
                split <;> omega)
              have zq : ((wr.setCell ⟨gm, ox, none⟩ (.int .i64 (f2 ox + T))).drew).cell? ⟨gm, ox, none⟩ = some (.int .i64 (f2 ox + T)) := by
                have := (hcb1.out.set ox (.int .i64 (f2 ox + T))).cell hox
                rw [upd_same] at this
                exact this
              go_upto_region 17 with (fail)
              go_region
              clear z0 z2 hg hcb hcb1 c5 n27
              generalize (wr.setCell ⟨gm, ox, none⟩ (.int .i64 (f2 ox + T))).drew = wq at *
              generalize f2 ox = F at *
              go_simp
              go_wp2_with fail
              go_roundw
              case rel => exact ⟨c + 1, by omega, by go_num, by rw [← hb2.out], hg2, hc2⟩
              case measure => simp [intOf] <;> omega
            · have hwT : Hid (wt ox = 0) := Lib.hid (by rw [hwo.out, if_neg hT])
              have hc2 : Hid (CB wr 3 gm n (fun i => .int .i64 ((farK n E wt (c + 1)).1 i))) := Lib.hid (hcb1.out.congr fun i _ => by
                rw [hfk.out, hwT.out]
                by_cases e : i = ox
                · subst e; simp [upd]
                · simp [upd, e])
              have hb2 : Hid ((if best < f2 ox then f2 ox else best) = (farK n E wt (c + 1)).2) := Lib.hid (by
                rw [hfk.out, hwT.out]
                show _ = max best (f2 ox + 0)
                split <;> omega)
              clear hcb hcb1
              generalize f2 ox = F at *
              by_cases hT0 : 0 ≤ T
              · have tT0 : decide (0 ≤ T) = true := decide_eq_true hT0
                have tT1 : decide (T ≤ 1000) = false := decide_eq_false (by omega)
                go_wp2_with fail
                go_roundw
                case rel => exact ⟨c + 1, by omega, by go_num, by rw [← hb2.out], hg, hc2⟩
                case measure => simp [intOf] <;> omega
              · have tT0 : decide (0 ≤ T) = false := decide_eq_false hT0
                go_wp2_with fail
                go_roundw
                case rel => exact ⟨c + 1, by omega, by go_num, by rw [← hb2.out], hg, hc2⟩
                case measure => simp [intOf] <;> omega
      · obtain rfl : n = c := by omega
        first | rw [show (n : Int) - 1 - (n : Int) = -1 by omega] | skip
        have hfin : Hid (longestI ⟨n, d⟩ = (farK n E wt n).2) := Lib.hid hw0.out
        have hbl : Hid (Below w.heap.size w wr) := Lib.hid (hB8.out.grown hg.out hB8.out.size (fun k e => by cases e; exact hgl.out))
        clear hg hcb
        go_wp2_with fail
        go_ret2
        exact ⟨by rw [hfin.out]; rfl, hbl.out⟩
end Go.Proofs.Ytmbjmibjobpdgaa
