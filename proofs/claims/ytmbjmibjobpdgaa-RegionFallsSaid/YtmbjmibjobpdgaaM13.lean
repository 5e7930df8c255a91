/-
  The document's region: its Weights.
-/
import Derived.Test.YtmbjmibjobpdgaaM12
namespace Go.Proofs.Ytmbjmibjobpdgaa
open Go.RowKit

def addE (out : Nat → Int) (i : Nat) (w : Int) (e : Edge) : Int := if e.1 = (i : Int) then min (w + out e.2.2.toNat) 1000000000 else w
def sumE (E : List Edge) (out : Nat → Int) (i : Nat) : Int := E.foldl (addE out i) 1
/-- The weights, once the last c nodes of the order have theirs. -/
def outsK (n : Nat) (E : List Edge) : Nat → Nat → Int
  | 0 => fun _ => 0
  | c + 1 => upd (outsK n E c) (ordK n E (n - 1 - c)) (sumE E (outsK n E c) (ordK n E (n - 1 - c)))
def weightsF (G : GT) : Nat → Int := outsK G.n (inE G) G.n
theorem addE_in {out : Nat → Int} (ho : ∀ t, 0 ≤ out t ∧ out t ≤ 1000000000) {i : Nat} {w : Int} (hw : 1 ≤ w ∧ w ≤ 1000000000) (e : Edge) : 1 ≤ addE out i w e ∧ addE out i w e ≤ 1000000000 := by
  unfold addE
  have := ho e.2.2.toNat
  split <;> omega
theorem foldE_in {out : Nat → Int} (ho : ∀ t, 0 ≤ out t ∧ out t ≤ 1000000000) {i : Nat} (E : List Edge) : ∀ w, (1 ≤ w ∧ w ≤ 1000000000) → 1 ≤ E.foldl (addE out i) w ∧ E.foldl (addE out i) w ≤ 1000000000 := by
  induction E with
  | nil => intro w h; exact h
  | cons e E ih => intro w h; exact ih _ (addE_in ho h e)
theorem outsK_in (n : Nat) (E : List Edge) : ∀ c t, 0 ≤ outsK n E c t ∧ outsK n E c t ≤ 1000000000 := by
  intro c
  induction c with
  | zero => intro t; exact ⟨Int.le_refl _, by show (0 : Int) ≤ 1000000000; omega⟩
  | succ c ih =>
    intro t
    unfold outsK upd
    split
    · have := foldE_in ih (i := ordK n E (n - 1 - c)) E 1 (by omega)
      unfold sumE
      omega
    · exact ih t
theorem ordK_lt {G : GT} (ha : Acyc G) {k : Nat} (hk : k < G.n) : ordK G.n (inE G) k < G.n := by
  obtain ⟨j, hj, hr⟩ := done_next ha hk
  unfold ordK
  cases hn : nextN G.n (inE G) (doneK G.n (inE G) k) with
  | none => unfold nextN at hn; exact absurd hr (List.find?_eq_none.1 hn j (List.mem_range.2 hj))
  | some x => exact List.mem_range.1 (List.mem_of_find?_eq_some hn)
theorem grown_refl (w : World) (row : Option Nat) : w.grownBy w row := ⟨rfl, rfl, rfl, Nat.le_refl _, fun _ _ _ => rfl⟩
theorem grown_trans {a b c : World} {g : Nat} (h : a.grownBy b (some g)) (k : b.grownBy c (some g)) : a.grownBy c (some g) :=
  ⟨k.os.trans h.os, k.tape.trans h.tape, k.output.trans h.output, Nat.le_trans h.size k.size, fun i hi hne => (k.block i (Nat.lt_of_lt_of_le hi h.size) hne).trans (h.block i hi hne)⟩
theorem grown_drew {a b : World} {row : Option Nat} (h : a.grownBy b row) (n : Nat) : a.grownBy (b.drewN n) row := ⟨h.os, h.tape, h.output, h.size, h.block⟩
theorem LieI.far {w w' : World} {lim g : Nat} {A : Option Addr} {L : List Int} (h : LieI w lim A L) (hl : lim ≤ g) (hs : lim ≤ w.heap.size) (hg : w.grownBy w' (some g)) : LieI w' lim A L :=
  h.keep fun k o hk => World.cell?_of_block (w := w) (a := ⟨k, o, none⟩) (hg.block k (by omega) (by intro e; cases e; omega))
/-- What Weights answers. -/
def SaysW (w : World) (n : Nat) (f : Nat → Int) (e : Ending) (w' : World) : Prop :=
  ∃ g, e = .returned (.tuple #[.slice (some ⟨g, 0, none⟩) n n, .bool true]) ∧ w.heap.size ≤ g ∧ CB w' 3 g n (fun i => .int .i64 (f i)) ∧ Below w.heap.size w w'
set_option maxRecDepth 20000 in
set_option maxHeartbeats 2000000 in
theorem RWeights_no {mv : Array Value} {G : GT} (w : World) (h : ModelAt w w.heap.size mv G) (hfew : fewB G) (hl : 0 < (loopsL G).length) :
    Calls Try.prog 13 #[.agg mv] w fun e w' => e = .returned (.tuple #[.slice none 0 0, .bool false]) ∧ Below w.heap.size w w' := by
  have hM := Lib.hid h
  have hF := Lib.hid hfew
  clear hfew
  cases h with
  | mk lb A a1 aa B b bb V p pp S q qq N n nn vs ms ns d ha1 hb hp hq hn hV hvs hS hms hN hns =>
    clear ha1 hb hp hq hV hvs hS hms hN hns hn
    rw [show modelV lb A a1 aa B b bb V p pp S q qq N n nn = #[.int .i64 lb, .slice A a1 aa, .slice B b bb, .slice V p pp, .slice S q qq, .slice N n nn] from rfl]
    have hX : Hid (Below w.heap.size w (w.alloc (.cells #[.int .i64 lb, .slice A a1 aa, .slice B b bb, .slice V p pp, .slice S q qq, .slice N n nn] 27))) := Lib.hid ((Below.refl _ _).alloc (Nat.le_refl _) _)
    have hbx : Hid ((w.alloc (.cells #[.int .i64 lb, .slice A a1 aa, .slice B b bb, .slice V p pp, .slice S q qq, .slice N n nn] 27)).heap[w.heap.size]? = some (.cells #[.int .i64 lb, .slice A a1 aa, .slice B b bb, .slice V p pp, .slice S q qq, .slice N n nn] 27 (0, 0))) := Lib.hid (heap_alloc_new w _)
    have hM5 : Hid (ModelAt (w.alloc (.cells #[.int .i64 lb, .slice A a1 aa, .slice B b bb, .slice V p pp, .slice S q qq, .slice N n nn] 27)) (w.alloc (.cells #[.int .i64 lb, .slice A a1 aa, .slice B b bb, .slice V p pp, .slice S q qq, .slice N n nn] 27)).heap.size #[.int .i64 lb, .slice A a1 aa, .slice B b bb, .slice V p pp, .slice S q qq, .slice N n nn] ⟨n, d⟩) := Lib.hid ((hM.out.stay hX.out).mono hX.out.size)
    have hLn : Hid (0 < (loopsL ⟨n, d⟩).length) := Lib.hid hl
    clear hl
    go_enter Try.func13, Try.ntmps13
    go_wp2_with (first
      | (refine wpList_load_row rfl 27 _ rfl w.heap.size rfl 27 #[.int .i64 lb, .slice A a1 aa, .slice B b bb, .slice V p pp, .slice S q qq, .slice N n nn] (0, 0) _ hbx.out Try.underlying27 rfl (by kernel_rfl) ?_)
      | (go_at_call 11; refine (ROrder_no _ hM5.out hF.out hLn.out).mono ?_; rintro e w6 ⟨rfl, hb6⟩)
      | fail)
    have hB6 : Hid (Below w.heap.size w w6) := Lib.hid (hX.out.trans (hb6.mono hX.out.size))
    go_ret2
    exact ⟨rfl, hB6.out⟩
set_option maxRecDepth 20000 in
set_option maxHeartbeats 4000000 in
theorem RWeights_yes {mv : Array Value} {G : GT} (w : World) (h : ModelAt w w.heap.size mv G) (hfew : fewB G) (hl : loopsL G = []) :
    Calls Try.prog 13 #[.agg mv] w (SaysW w G.n (weightsF G)) := by
  have hM := Lib.hid h
  have hF := Lib.hid hfew
  have hnn1 := hfew.1
  have hL0 := Lib.hid hl
  have hEl : Hid ((inE G).length ≤ 4100) := Lib.hid (by
    have := edgesL_len hfew (Nat.le_refl _)
    have := List.length_filter_le (toN G.n) (edgesL G G.n)
    unfold inE
    omega)
  have hto : Hid (∀ e ∈ inE G, ∃ p j : Nat, e.1 = (p : Int) ∧ e.2.2 = (j : Int) ∧ p < G.n ∧ j < G.n) := Lib.hid (fun e he => by
    obtain ⟨p, j, h1, h2, hs⟩ := inE_stp he
    exact ⟨p, j, h1, h2, hs.1, hs.2.1⟩)
  have hok : Hid (∀ k, k < G.n → ordK G.n (inE G) k < G.n) := Lib.hid (fun k hk => ordK_lt (loops_nil.1 hl) hk)
  have hw0 : Hid (weightsF G = outsK G.n (inE G) G.n) := Lib.hid rfl
  have hR : Hid (orderL G = ordL G.n (inE G) G.n) := Lib.hid rfl
  clear hfew hl
  cases h with
  | mk lb A a1 aa B b bb V p pp S q qq N n nn vs ms ns d ha1 hb hp hq hn hV hvs hS hms hN hns =>
    clear ha1 hb hp hq hV hvs hS hms hN hns hn
    have hn100 : n ≤ 100 := hnn1
    clear hnn1
    rw [show modelV lb A a1 aa B b bb V p pp S q qq N n nn = #[.int .i64 lb, .slice A a1 aa, .slice B b bb, .slice V p pp, .slice S q qq, .slice N n nn] from rfl]
    have hX : Hid (Below w.heap.size w (w.alloc (.cells #[.int .i64 lb, .slice A a1 aa, .slice B b bb, .slice V p pp, .slice S q qq, .slice N n nn] 27))) := Lib.hid ((Below.refl _ _).alloc (Nat.le_refl _) _)
    have hbx : Hid ((w.alloc (.cells #[.int .i64 lb, .slice A a1 aa, .slice B b bb, .slice V p pp, .slice S q qq, .slice N n nn] 27)).heap[w.heap.size]? = some (.cells #[.int .i64 lb, .slice A a1 aa, .slice B b bb, .slice V p pp, .slice S q qq, .slice N n nn] 27 (0, 0))) := Lib.hid (heap_alloc_new w _)
    have hM5 : Hid (ModelAt (w.alloc (.cells #[.int .i64 lb, .slice A a1 aa, .slice B b bb, .slice V p pp, .slice S q qq, .slice N n nn] 27)) (w.alloc (.cells #[.int .i64 lb, .slice A a1 aa, .slice B b bb, .slice V p pp, .slice S q qq, .slice N n nn] 27)).heap.size #[.int .i64 lb, .slice A a1 aa, .slice B b bb, .slice V p pp, .slice S q qq, .slice N n nn] ⟨n, d⟩) := Lib.hid ((hM.out.stay hX.out).mono hX.out.size)
    generalize hE : inE ⟨n, d⟩ = E at *
    have HE := Lib.hid hE
    clear hE
    go_enter Try.func13, Try.ntmps13
    go_wp2_with (first
      | (refine wpList_load_row rfl 27 _ rfl w.heap.size rfl 27 #[.int .i64 lb, .slice A a1 aa, .slice B b bb, .slice V p pp, .slice S q qq, .slice N n nn] (0, 0) _ hbx.out Try.underlying27 rfl (by kernel_rfl) ?_)
      | (go_at_call 11; refine (ROrder_yes _ hM5.out hF.out hL0.out).mono ?_; rintro e w6 ⟨vo, rfl, hoo, hb6⟩; refine Hid.out ?_)
      | fail)
    refine Lib.hid ?_
    rw [hR.out] at hoo
    obtain ⟨AO, cO, e0, hlie⟩ := hoo.lie
    rw [ordL_len] at e0
    subst e0
    have hlo := Lib.hid hlie
    have hB6 : Hid (Below w.heap.size w w6) := Lib.hid (hX.out.trans (hb6.mono hX.out.size))
    have hbx6 : Hid (w6.heap[w.heap.size]? = some (.cells #[.int .i64 lb, .slice A a1 aa, .slice B b bb, .slice V p pp, .slice S q qq, .slice N n nn] 27 (0, 0))) := Lib.hid (by rw [hb6.block _ (row_lt hbx.out)]; exact hbx.out)
    have c5 : w6.cell? ⟨w.heap.size, 5, none⟩ = some (.slice N n nn) := by rw [cell_of_row w6 _ 5 _ 27 (0, 0) hbx6.out]; rfl
    clear hoo hb6 hX hbx hM5 hlie
    go_wp2_with (first | (refine wp_mk info3' (by decide) Try.underlying30 rfl rfl _ _ rfl n rfl rfl (by omega) ?_; intro w7 hcb hb7; refine Hid.out ?_) | fail)
    refine Lib.hid ?_
    obtain ⟨gm, hgm⟩ : ∃ gm, gm = w6.heap.size := ⟨_, rfl⟩
    rw [← hgm] at hcb hlo ⊢
    have hgl : Hid (w.heap.size ≤ gm) := Lib.hid (by rw [hgm]; exact hB6.out.size)
    have hB7 : Hid (Below w.heap.size w w7) := Lib.hid (hB6.out.trans (hb7.mono hB6.out.size))
    have hbx7 : Hid (w7.heap[w.heap.size]? = some (.cells #[.int .i64 lb, .slice A a1 aa, .slice B b bb, .slice V p pp, .slice S q qq, .slice N n nn] 27 (0, 0))) := Lib.hid (by rw [hb7.block _ (row_lt hbx6.out)]; exact hbx6.out)
    have hM7 : Hid (ModelAt w7 w7.heap.size #[.int .i64 lb, .slice A a1 aa, .slice B b bb, .slice V p pp, .slice S q qq, .slice N n nn] ⟨n, d⟩) := Lib.hid ((hM.out.stay hB7.out).mono hB7.out.size)
    have hCB := Lib.hid hcb
    have hlo7 : Hid (LieI w7 gm AO (ordL n E n)) := Lib.hid (hlo.out.keep fun k o hk => hb7.cell (p := ⟨k, o, none⟩) (by show k < w6.heap.size; rw [← hgm]; exact hk))
    clear hcb hb7 hB6 hbx6 c5 hgm hlo
    go_wp2_with (first
      | (refine wpList_load_row rfl 27 _ rfl w.heap.size rfl 27 #[.int .i64 lb, .slice A a1 aa, .slice B b bb, .slice V p pp, .slice S q qq, .slice N n nn] (0, 0) _ hbx7.out Try.underlying27 rfl (by kernel_rfl) ?_)
      | (go_at_call 30; refine (REdges15_any _ hM7.out hF.out).mono ?_; rintro e w8 ⟨ve, rfl, hoe, hb8⟩; refine Hid.out ?_)
      | fail)
    refine Lib.hid ?_
    rw [HE.out] at hoe
    obtain ⟨AE, cE, rfl⟩ := hoe.open
    have hB8 : Hid (Below w.heap.size w w8) := Lib.hid (hB7.out.trans (hb8.mono hB7.out.size))
    have hcb8 : Hid (CB w8 3 gm n (fun i => .int .i64 (outsK n E 0 i))) := Lib.hid ((hCB.out.keep hb8).congr fun _ _ => rfl)
    have hlo8 : Hid (LieI w8 gm AO (ordL n E n)) := Lib.hid (hlo7.out.keep fun k o hk => hb8.cell (p := ⟨k, o, none⟩) (Nat.lt_trans hk hCB.out.lt))
    obtain ⟨m, hm⟩ : ∃ m, m = E.length := ⟨_, rfl⟩
    have HMM := Lib.hid hm
    rw [← hm] at hoe hEl ⊢
    have hoe8 := Lib.hid hoe
    clear hoe hb8 hbx7 hM7 hB7 hCB hlo7 hm
    have hm41 := hEl.out
    go_wp2_with fail
    go_loopw [8] (fun iv wr => ∃ c : Nat, c ≤ n ∧ iv = .int .i64 ((n : Int) - 1 - (c : Int)) ∧ Hid (w8.grownBy wr (some gm)) ∧ Hid (CB wr 3 gm n (fun i => .int .i64 (outsK n E c i)))) (fun iv _ => (intOf iv + 1).toNat)
    case atStart => exact ⟨0, Nat.zero_le _, by go_num, Lib.hid (grown_refl _ _), hcb8⟩
    case round =>
      obtain ⟨c, hc, rfl, hg, hcb⟩ := hrel
      by_cases hcn : c < n
      · obtain ⟨i, hi⟩ : ∃ i : Nat, i + c + 1 = n := ⟨n - 1 - c, by omega⟩
        have hiv : (n : Int) - 1 - (c : Int) = (i : Int) := by omega
        rw [hiv]
        have hcg : Hid (gm < w8.heap.size) := Lib.hid hcb8.out.lt
        have hox := hok.out i (by omega)
        have hss : Hid (outsK n E (c + 1) = upd (outsK n E c) (ordK n E i) (E.foldl (addE (outsK n E c) (ordK n E i)) 1)) := Lib.hid (by
          show upd (outsK n E c) (ordK n E (n - 1 - c)) (sumE E (outsK n E c) (ordK n E (n - 1 - c))) = _
          rw [show n - 1 - c = i by omega]; rfl)
        have hbd : Hid (∀ t, 0 ≤ outsK n E c t ∧ outsK n E c t ≤ 1000000000) := Lib.hid (outsK_in n E c)
        have hoc : Hid (∀ wr, w8.grownBy wr (some gm) → ∃ g o, AO = some ⟨g, o, none⟩ ∧ wr.cell? ⟨g, o + i, none⟩ = some (.int .i64 (ordK n E i : Int))) := Lib.hid (fun wr hg => by
          obtain ⟨g, o, e, _, hx⟩ := (hlo8.out.far (Nat.le_refl _) (Nat.le_of_lt hcg.out) hg) (by rw [ordL_len]; omega)
          exact ⟨g, o, e, by rw [hx i (by rw [ordL_len]; omega)]; simp [ordL]⟩)
        have hec : Hid (∀ wr, w8.grownBy wr (some gm) → OwnE wr w7.heap.size (.slice AE m cE) E) := Lib.hid (fun wr hg => by
          obtain ⟨cs, h1, _⟩ := hcb8.out
          exact hoe8.out.kept h1 (by decide) hg)
        generalize outsK n E c = f at *
        generalize ordK n E i = ox at *
        go_wp2_with fail
        go_loopw [9, 10] (fun wv tv wr => ∃ t : Nat, t ≤ m ∧ tv = .int .i64 t ∧ wv = .int .i64 ((E.take t).foldl (addE f ox) 1) ∧ Hid (w8.grownBy wr (some gm)) ∧ Hid (CB wr 3 gm n (fun i => .int .i64 (f i)))) (fun _ tv _ => m - (intOf tv).toNat)
        case atStart => exact ⟨0, Nat.zero_le _, rfl, by simp, hg, hcb⟩
        case round =>
          clear hg hcb
          obtain ⟨t, ht, rfl, rfl, hg, hcb⟩ := hrel
          by_cases htm : t < m
          · have htl : t < E.length := by have := HMM.out; omega
            obtain ⟨ge, oe, rfl, x0, _, x2⟩ := (hec.out _ hg.out).cells htl
            obtain ⟨go, oo, rfl, y0⟩ := hoc.out _ hg.out
            obtain ⟨p1, j1, ep, ej, hp1, hj1⟩ := hto.out E[t] (List.getElem_mem htl)
            have hft := Lib.hid (fold_take (addE f ox) 1 E htl)
            have hWb := foldE_in hbd.out (i := ox) (E.take t) 1 (by omega)
            have hae : Hid (∀ x, addE f ox x E[t] = if (p1 : Int) = (ox : Int) then min (x + f j1) 1000000000 else x) := Lib.hid (fun x => by unfold addE; rw [ep, ej]; rfl)
            rw [ep] at x0
            rw [ej] at x2
            clear ep ej
            have z0 := hcb.out.cell hj1
            have hob := hbd.out j1
            generalize (E.take t).foldl (addE f ox) 1 = W at *
            generalize f j1 = O at *
            by_cases hpo : p1 = ox
            · subst hpo
              have tz : ((p1 : Int) == (p1 : Int)) = true := by simp
              have hne : Hid (min (W + O) 1000000000 = (E.take (t + 1)).foldl (addE f p1) 1) := Lib.hid (by rw [hft.out, hae.out]; simp)
              go_upto_region 13 with (fail)
              go_quiet (fail)
              have hgq := Lib.hid (grown_drew hg.out nq)
              have hcq : Hid (CB (wr.drewN nq) 3 gm n (fun i => .int .i64 (f i))) := Lib.hid hcb.out
              have a0 : (wr.drewN nq).cell? ⟨ge, oe + t * 3, none⟩ = some (.int .i64 p1) := x0
              have a2 : (wr.drewN nq).cell? ⟨ge, oe + t * 3 + 2, none⟩ = some (.int .i64 j1) := x2
              have az : (wr.drewN nq).cell? ⟨gm, j1, none⟩ = some (.int .i64 O) := z0
              clear x0 x2 y0 z0 hg hcb hft hae
              generalize wr.drewN nq = wq at *
              by_cases hmn : W + O ≤ 1000000000
              · have hmin : Hid (min (W + O) 1000000000 = W + O) := Lib.hid (by omega)
                go_wp2_with fail
                go_roundw
                case rel => exact ⟨t + 1, by omega, by go_num, by rw [← hne.out, hmin.out], hgq, hcq⟩
                case measure => simp [intOf]; omega
              · have hmin : Hid (min (W + O) 1000000000 = 1000000000) := Lib.hid (by omega)
                go_wp2_with fail
                go_roundw
                case rel => exact ⟨t + 1, by omega, by go_num, by rw [← hne.out, hmin.out, if_pos (by omega)], hgq, hcq⟩
                case measure => simp [intOf]; omega
            · have tz : ((p1 : Int) == (ox : Int)) = false := by simp; omega
              have hne : Hid (W = (E.take (t + 1)).foldl (addE f ox) 1) := Lib.hid (by rw [hft.out, hae.out, if_neg (by omega)])
              go_upto_region 13 with (fail)
              go_quiet (fail)
              have hgq := Lib.hid (grown_drew hg.out nq)
              have hcq : Hid (CB (wr.drewN nq) 3 gm n (fun i => .int .i64 (f i))) := Lib.hid hcb.out
              clear x0 x2 y0 z0 hg hcb hft hae
              generalize wr.drewN nq = wq at *
              go_wp2_with fail
              go_roundw
              case rel => exact ⟨t + 1, by omega, by go_num, by rw [← hne.out], hgq, hcq⟩
              case measure => simp [intOf]; omega
          · obtain ⟨go, oo, rfl, y0⟩ := hoc.out _ hg.out
            have z0 := hcb.out.cell hox
            have z1 := hcb.out.free ox
            have hWe : Hid ((E.take t).foldl (addE f ox) 1 = E.foldl (addE f ox) 1) := Lib.hid (by rw [List.take_of_length_le (by have := HMM.out; omega)])
            rw [hWe.out]
            generalize E.foldl (addE f ox) 1 = W at *
            have hg2 : Hid (w8.grownBy (wr.setCell ⟨gm, ox, none⟩ (.int .i64 W)) (some gm)) := Lib.hid (grown_trans hg.out (grown_set wr gm ox _))
            have hc2 : Hid (CB (wr.setCell ⟨gm, ox, none⟩ (.int .i64 W)) 3 gm n (fun i => .int .i64 (outsK n E (c + 1) i))) := Lib.hid ((hcb.out.set ox (.int .i64 W)).congr fun i _ => by
              rw [hss.out]
              unfold upd
              split <;> rfl)
            clear hg hcb hWe
            go_wp2_with fail
            go_roundw
            case rel => exact ⟨c + 1, by omega, by go_num, hg2, hc2⟩
            case measure => simp [intOf] <;> omega
      · obtain rfl : n = c := by omega
        have hiv : (n : Int) - 1 - (n : Int) = -1 := by omega
        first | rw [hiv] | skip
        have hfin : Hid (CB wr 3 gm n (fun i => .int .i64 (weightsF ⟨n, d⟩ i))) := Lib.hid (by rw [hw0.out]; exact hcb.out)
        have hbl : Hid (Below w.heap.size w wr) := Lib.hid (hB8.out.grown hg.out hB8.out.size (fun k e => by cases e; exact hgl.out))
        clear hg hcb
        go_wp2_with fail
        go_ret2
        exact ⟨gm, rfl, hgl.out, hfin.out, hbl.out⟩
end Go.Proofs.Ytmbjmibjobpdgaa
