/-
  The document's Reach.
-/
import Derived.Test.YtmbjmibjobpdgaaM08
namespace Go.Proofs.Ytmbjmibjobpdgaa
open Go.RowKit

def hitE (n s : Nat) (f : Nat → Bool) (e : Edge) : Bool := decide (0 ≤ e.2.2) && decide (e.2.2 < n) && (e.1 == (s : Int) || f e.1.toNat)
def stepE (n s : Nat) (f : Nat → Bool) (e : Edge) : Nat → Bool := if hitE n s f e then upd f e.2.2.toNat true else f
def passE (n s : Nat) (E : List Edge) (f : Nat → Bool) : Nat → Bool := E.foldl (stepE n s) f
def roundsE (n s : Nat) (E : List Edge) : Nat → Nat → Bool
  | 0 => fun _ => false
  | k + 1 => passE n s E (roundsE n s E k)
/-- Those of the first n that f holds of. -/
def pickL (n : Nat) (f : Nat → Bool) : List Int := ((List.range n).filter f).map fun (i : Nat) => (i : Int)
/-- What Reach answers. -/
def reachB (G : GT) (s : Nat) : Nat → Bool := roundsE G.n s (edgesL G G.n) (G.n + 1)
def reachL (G : GT) (a : Int) : List Int := if 0 ≤ a ∧ a < G.n then pickL G.n (reachB G a.toNat) else []
theorem pickL_succ (n : Nat) (f : Nat → Bool) : pickL (n + 1) f = pickL n f ++ if f n then [(n : Int)] else [] := by
  unfold pickL
  rw [List.range_succ, List.filter_append, List.map_append]
  cases h : f n <;> simp [h]
theorem pickL_len (n : Nat) (f : Nat → Bool) : (pickL n f).length ≤ n := by
  unfold pickL
  rw [List.length_map]
  exact Nat.le_trans (List.length_filter_le _ _) (by simp)
theorem edgesL_from {G : GT} {k : Nat} : ∀ e ∈ edgesL G k, 0 ≤ e.1 ∧ e.1 < k := by
  intro e he
  unfold edgesL at he
  obtain ⟨i, hi, he⟩ := List.mem_flatMap.1 he
  have hi := List.mem_range.1 hi
  have : e.1 = (i : Int) := by
    unfold outE at he
    rcases List.mem_append.1 he with h | h
    · obtain ⟨j, _, rfl⟩ := List.mem_map.1 h
      rfl
    · split at h
      · simp at h; rw [h]
      · cases h
  omega
theorem OwnE.low {w : World} {B B' : Nat} {v : Value} {E : List Edge} (h : OwnE w B v E) (hB : B' ≤ B) : OwnE w B' v E := by
  refine ⟨h.1, ?_⟩
  rcases h.2 with h | ⟨g, cap, cur, e, hg, r⟩
  · exact .inl h
  · exact .inr ⟨g, cap, cur, e, Nat.le_trans hB hg, r⟩
theorem OwnE.cells {w : World} {B : Nat} {A : Option Addr} {n c : Nat} {E : List Edge} (h : OwnE w B (.slice A n c) E) {i : Nat} (hi : i < E.length) :
    ∃ g o, A = some ⟨g, o, none⟩ ∧ w.cell? ⟨g, o + i * 3, none⟩ = some (.int .i64 E[i].1) ∧ w.cell? ⟨g, o + i * 3 + 1, none⟩ = some (.int .i64 E[i].2.1) ∧ w.cell? ⟨g, o + i * 3 + 2, none⟩ = some (.int .i64 E[i].2.2) := by
  obtain ⟨A', c', e, hl⟩ := h.lie
  injection e with e1 e2 e3
  subst e1
  obtain ⟨g, o, rfl, _, hx⟩ := hl (by omega)
  exact ⟨g, o, rfl, hx i hi⟩
theorem fold_take {α β : Type} (st : β → α → β) (b : β) (L : List α) {j : Nat} (hj : j < L.length) : (L.take (j + 1)).foldl st b = st ((L.take j).foldl st b) L[j] := by
  rw [List.take_add_one, List.getElem?_eq_getElem hj, Option.toList, List.foldl_append]
  rfl
/-- The world amid Reach. -/
structure AmidR (w wr : World) (gm n : Nat) (f : Nat → Bool) (v : Value) (E : List Edge) : Prop where
  below : Below w.heap.size w wr
  lo : w.heap.size ≤ gm
  met : CB wr 4 gm n (fun i => .bool (f i))
  own : OwnE wr w.heap.size v E
theorem AmidR.set {w wr : World} {gm n : Nat} {f : Nat → Bool} {v : Value} {E : List Edge} (h : AmidR w wr gm n f v E) (t : Nat) : AmidR w (wr.setCell ⟨gm, t, none⟩ (.bool true)) gm n (upd f t true) v E := by
  have hm := h.met
  obtain ⟨cs, h1, h2, h3⟩ := hm
  refine ⟨h.below.grown (grown_set wr gm t _) h.below.size (fun k e => by cases e; exact h.lo), h.lo, ?_, h.own.kept h1 (by decide) (grown_set wr gm t _)⟩
  refine (h.met.set t (.bool true)).congr fun i _ => ?_
  unfold upd
  split <;> rfl
/-- Edges stay where a row of ints grows. -/
theorem OwnE.ints {w w' : World} {B B' : Nat} {v u : Value} {E : List Edge} {L : List Int} (h : OwnE w B v E) (hu : OwnI w B' u L) (hg : w.grownBy w' u.ownBlock) : OwnE w' B v E := by
  refine World.ownsRow.kept h hg ?_
  rcases h.2 with ⟨rfl, _⟩ | ⟨r, cap, cur, rfl, _, hh, _⟩
  · exact .inl rfl
  · exact .inr (hu.ne hh (by decide))
theorem AmidR.ints {w wr w2 : World} {gm n : Nat} {f : Nat → Bool} {v : Value} {E : List Edge} {u : Value} {L : List Int} (h : AmidR w wr gm n f v E) (hu : OwnI wr w.heap.size u L) (hg : wr.grownBy w2 u.ownBlock) : AmidR w w2 gm n f v E := by
  have hm := h.met
  obtain ⟨cs, h1, _, _⟩ := hm
  exact ⟨h.below.grown hg h.below.size (fun k e => (World.ownsRow.lt hu k e).1), h.lo, h.met.grown hg (hu.ne h1 (by decide)), h.own.ints hu hg⟩
set_option maxRecDepth 20000 in
set_option maxHeartbeats 1000000 in
theorem RReach_out {mv : Array Value} {G : GT} (w : World) (a : Int) (h : ModelAt w w.heap.size mv G) (ha : ¬ (0 ≤ a ∧ a < G.n)) :
    Calls Try.prog 36 #[.agg mv, .int .i64 a] w fun e w' => ∃ v, e = .returned v ∧ OwnI w' w.heap.size v (reachL G a) ∧ Below w.heap.size w w' := by
  have hR : Hid (reachL G a = []) := Lib.hid (if_neg ha)
  cases h with
  | mk lb A a1 aa B b bb V p pp S q qq N n nn vs ms ns d ha1 hb hp hq hn hV hvs hS hms hN hns =>
    clear ha1 hb hp hq hV hvs hS hms hN hns hn
    unfold modelV
    have hX : Hid (Below w.heap.size w (w.alloc (.cells #[.int .i64 lb, .slice A a1 aa, .slice B b bb, .slice V p pp, .slice S q qq, .slice N n nn] 27))) := Lib.hid ((Below.refl _ _).alloc (Nat.le_refl _) _)
    by_cases h0 : a < 0
    · have t0 : decide (a < 0) = true := decide_eq_true h0
      go_enter Try.func36, Try.ntmps36
      go_wp2_with fail
      go_ret
      exact ⟨_, rfl, by rw [hR.out]; exact OwnI.nil _ _, hX.out⟩
    · have t0 : decide (a < 0) = false := decide_eq_false h0
      have t1 : decide ((n : Int) ≤ a) = true := decide_eq_true (by simp only at ha; omega)
      go_enter Try.func36, Try.ntmps36
      go_wp2_with fail
      go_ret
      exact ⟨_, rfl, by rw [hR.out]; exact OwnI.nil _ _, hX.out⟩
set_option maxRecDepth 20000 in
set_option maxHeartbeats 4000000 in
theorem RReach_in {mv : Array Value} {G : GT} (w : World) (s : Nat) (h : ModelAt w w.heap.size mv G) (hfew : fewB G) (hs : s < G.n) :
    Calls Try.prog 36 #[.agg mv, .int .i64 (s : Int)] w fun e w' => ∃ v, e = .returned v ∧ OwnI w' w.heap.size v (reachL G s) ∧ Below w.heap.size w w' := by
  have hR : Hid (reachL G s = pickL G.n (reachB G s)) := Lib.hid (by unfold reachL; rw [if_pos ⟨by omega, by omega⟩]; rfl)
  have hM := Lib.hid h
  have hF := Lib.hid hfew
  have hn1 := hfew.1
  have hfr : Hid (∀ e ∈ edgesL G G.n, 0 ≤ e.1 ∧ e.1 < G.n) := Lib.hid edgesL_from
  have hEl : Hid ((edgesL G G.n).length ≤ 4100) := Lib.hid (by have := edgesL_len hfew (Nat.le_refl _); omega)
  clear hfew
  cases h with
  | mk lb A a1 aa B b bb V p pp S q qq N n nn vs ms ns d ha1 hb hp hq hn hV hvs hS hms hN hns =>
    clear ha1 hb hp hq hV hvs hS hms hN hns hn
    simp only at hs hn1
    have t0 : decide ((s : Int) < 0) = false := decide_eq_false (by omega)
    have t1 : decide ((n : Int) ≤ (s : Int)) = false := decide_eq_false (by omega)
    obtain ⟨mv, hmv⟩ : ∃ mv, mv = modelV lb A a1 aa B b bb V p pp S q qq N n nn := ⟨_, rfl⟩
    rw [← hmv] at hM
    rw [show modelV lb A a1 aa B b bb V p pp S q qq N n nn = #[.int .i64 lb, .slice A a1 aa, .slice B b bb, .slice V p pp, .slice S q qq, .slice N n nn] from rfl]
    have hm2 : mv = #[.int .i64 lb, .slice A a1 aa, .slice B b bb, .slice V p pp, .slice S q qq, .slice N n nn] := hmv
    have HM2 := Lib.hid hm2
    obtain ⟨W1, hW1⟩ : ∃ W1, W1 = w.alloc (.cells mv 27) := ⟨_, rfl⟩
    have hX : Hid (Below w.heap.size w W1) := Lib.hid (by rw [hW1]; exact (Below.refl _ _).alloc (Nat.le_refl _) _)
    have hbx : Hid (W1.heap[w.heap.size]? = some (.cells mv 27 (0, 0))) := Lib.hid (by rw [hW1]; exact heap_alloc_new w _)
    have HW := Lib.hid hW1
    clear hmv hm2 hW1
    generalize hE : edgesL ⟨n, d⟩ n = E at *
    have HE := Lib.hid hE
    clear hE
    go_enter Try.func36, Try.ntmps36
    go_wp2_with (first | (refine wp_mk info4' (by decide) Try.underlying47 rfl rfl _ _ rfl n rfl rfl (by omega) ?_; intro w5 hcb hb5; refine Hid.out ?_) | fail)
    refine Lib.hid ?_
    rw [← HM2.out] at hcb hb5 ⊢
    rw [← HW.out] at hcb hb5
    have hgm1 : W1.heap.size = w.heap.size + 1 := by rw [HW.out]; simp
    rw [hgm1] at hcb
    obtain ⟨gm, hgm⟩ : ∃ gm, gm = w.heap.size + 1 := ⟨_, rfl⟩
    rw [← hgm] at hcb ⊢
    have HGM := Lib.hid hgm
    have hB5 : Hid (Below w.heap.size w w5) := Lib.hid (hX.out.trans (hb5.mono hX.out.size))
    have hbx5 : w5.heap[w.heap.size]? = some (.cells mv 27 (0, 0)) := by rw [hb5.block _ (row_lt hbx.out)]; exact hbx.out
    have hM5 : Hid (ModelAt w5 w5.heap.size mv ⟨n, d⟩) := Lib.hid ((hM.out.stay hB5.out).mono hB5.out.size)
    have hmvs : Hid (mv.size = 6) := Lib.hid (by rw [HM2.out]; rfl)
    have hCB := Lib.hid hcb
    have hbx6 := Lib.hid hbx5
    clear hcb hb5 hX hbx HW hgm1 hgm hbx5
    go_wp2_with (first
      | (refine wpList_load_row rfl 27 _ rfl w.heap.size rfl 27 mv (0, 0) _ hbx6.out Try.underlying27 rfl (by rw [hmvs.out]; kernel_rfl) ?_)
      | (go_at_call 62; refine (REdges_any _ hM5.out hF.out).mono ?_; rintro e w6 ⟨v, rfl, hov, hb6⟩; refine Hid.out ?_)
      | fail)
    refine Lib.hid ?_
    have hA0 : AmidR w w6 gm n (roundsE n s E 0) v E := ⟨hB5.out.trans (hb6.mono hB5.out.size), by have := HGM.out; omega, hCB.out.keep hb6, by rw [HE.out] at hov; exact hov.low hB5.out.size⟩
    have hA := Lib.hid hA0
    clear hA0 hov hb6 hbx6 hM5 hB5 hCB hmvs HM2 HGM
    obtain ⟨A0, c0, rfl⟩ := hA.out.own.open
    obtain ⟨m, hm⟩ : ∃ m, m = E.length := ⟨_, rfl⟩
    have HMM := Lib.hid hm
    have hA1 : Hid (AmidR w w6 gm n (roundsE n s E 0) (.slice A0 m c0) E) := Lib.hid (by rw [hm]; exact hA.out)
    rw [← hm] at hEl ⊢
    clear hA hm
    go_wp2_with fail
    go_loopw [8] (fun kv wr => ∃ k : Nat, k ≤ n + 1 ∧ kv = .int .i64 k ∧ Hid (AmidR w wr gm n (roundsE n s E k) (.slice A0 m c0) E)) (fun kv _ => n + 1 - (intOf kv).toNat)
    case atStart => exact ⟨0, Nat.zero_le _, rfl, hA1⟩
    case round =>
      clear hA1
      obtain ⟨k, hk, rfl, hA⟩ := hrel
      by_cases hkn : k ≤ n
      · have tk : decide ((k : Int) ≤ (n : Int)) = true := decide_eq_true (by omega)
        have hRk : Hid (roundsE n s E (k + 1) = E.foldl (stepE n s) (roundsE n s E k)) := Lib.hid rfl
        generalize roundsE n s E k = f0 at *
        go_wp2_with fail
        go_loopw [9] (fun jv wr => ∃ j : Nat, j ≤ m ∧ jv = .int .i64 j ∧ Hid (AmidR w wr gm n ((E.take j).foldl (stepE n s) f0) (.slice A0 m c0) E)) (fun jv _ => m - (intOf jv).toNat)
        case atStart => exact ⟨0, Nat.zero_le _, rfl, Lib.hid (by simpa using hA.out)⟩
        case round =>
          clear hA
          obtain ⟨j, hj, rfl, hA⟩ := hrel
          by_cases hjm : j < m
          · have hjl : j < E.length := by have := HMM.out; omega
            have hm41 := hEl.out
            obtain ⟨ge, oe, rfl, x0, _, x2⟩ := hA.out.own.cells hjl
            obtain ⟨q0, q1⟩ := hfr.out E[j] (List.getElem_mem hjl)
            have hft := Lib.hid (fold_take (stepE n s) f0 E hjl)
            obtain ⟨q, hq⟩ : ∃ q : Nat, E[j].1 = (q : Int) := ⟨E[j].1.toNat, by omega⟩
            obtain ⟨z, hz⟩ : ∃ z, E[j].2.2 = z := ⟨_, rfl⟩
            have hhit : Hid (∀ f, hitE n s f E[j] = (decide (0 ≤ z) && decide (z < (n : Int)) && ((q : Int) == (s : Int) || f q))) := Lib.hid (fun f => by unfold hitE; rw [hq, hz]; rfl)
            have hzz := Lib.hid hz
            rw [hq] at x0 q1
            rw [hz] at x2
            clear hq hz q0
            by_cases hz0 : 0 ≤ z
            · have tz0 : decide (0 ≤ z) = true := decide_eq_true hz0
              by_cases hzn : z < (n : Int)
              · have tz1 : decide (z < (n : Int)) = true := decide_eq_true hzn
                obtain ⟨t, rfl⟩ : ∃ t : Nat, z = (t : Int) := ⟨z.toNat, by omega⟩
                have hztn : t < n := by omega
                by_cases hqs : q = s
                · have tq : ((q : Int) == (s : Int)) = true := by simp [hqs]
                  have hA2 : Hid (AmidR w (wr.setCell ⟨gm, t, none⟩ (.bool true)) gm n ((E.take (j + 1)).foldl (stepE n s) f0) (.slice (some ⟨ge, oe, none⟩) m c0) E) := Lib.hid (by
                    rw [hft.out, stepE, if_pos (by rw [hhit.out]; simp [hqs, hztn]), hzz.out, Int.toNat_natCast]
                    exact hA.out.set t)
                  have z0 := hA.out.met.cell hztn
                  have z1 := hA.out.met.free t
                  clear hA hft hhit
                  go_wp2_with fail
                  go_roundw
                  case rel => exact ⟨j + 1, by omega, by go_num, hA2⟩
                  case measure => simp [intOf]; omega
                · have tq : ((q : Int) == (s : Int)) = false := by simp; omega
                  have y0 := hA.out.met.cell (i := q) (by omega)
                  cases hfq : ((E.take j).foldl (stepE n s) f0) q
                  · rw [hfq] at y0
                    have hA2 : Hid (AmidR w wr gm n ((E.take (j + 1)).foldl (stepE n s) f0) (.slice (some ⟨ge, oe, none⟩) m c0) E) := Lib.hid (by
                      rw [hft.out, stepE, if_neg (by rw [hhit.out, hfq]; simp; intro _; omega)]
                      exact hA.out)
                    clear hA hft hhit
                    go_wp2_with fail
                    go_roundw
                    case rel => exact ⟨j + 1, by omega, by go_num, hA2⟩
                    case measure => simp [intOf]; omega
                  · rw [hfq] at y0
                    have hA2 : Hid (AmidR w (wr.setCell ⟨gm, t, none⟩ (.bool true)) gm n ((E.take (j + 1)).foldl (stepE n s) f0) (.slice (some ⟨ge, oe, none⟩) m c0) E) := Lib.hid (by
                      rw [hft.out, stepE, if_pos (by rw [hhit.out, hfq]; simp [hztn]), hzz.out, Int.toNat_natCast]
                      exact hA.out.set t)
                    have z0 := hA.out.met.cell hztn
                    have z1 := hA.out.met.free t
                    clear hA hft hhit
                    go_wp2_with fail
                    go_roundw
                    case rel => exact ⟨j + 1, by omega, by go_num, hA2⟩
                    case measure => simp [intOf]; omega
              · have tz1 : decide (z < (n : Int)) = false := decide_eq_false hzn
                have hA2 : Hid (AmidR w wr gm n ((E.take (j + 1)).foldl (stepE n s) f0) (.slice (some ⟨ge, oe, none⟩) m c0) E) := Lib.hid (by
                  rw [hft.out, stepE, if_neg (by rw [hhit.out]; simp [hzn])]
                  exact hA.out)
                clear hA hft hhit
                go_wp2_with fail
                go_roundw
                case rel => exact ⟨j + 1, by omega, by go_num, hA2⟩
                case measure => simp [intOf]; omega
            · have tz0 : decide (0 ≤ z) = false := decide_eq_false hz0
              have hA2 : Hid (AmidR w wr gm n ((E.take (j + 1)).foldl (stepE n s) f0) (.slice (some ⟨ge, oe, none⟩) m c0) E) := Lib.hid (by
                rw [hft.out, stepE, if_neg (by rw [hhit.out]; simp [hz0])]
                exact hA.out)
              clear hA hft hhit
              go_wp2_with fail
              go_roundw
              case rel => exact ⟨j + 1, by omega, by go_num, hA2⟩
              case measure => simp [intOf]; omega
          · obtain rfl : m = j := by omega
            have hA2 : Hid (AmidR w wr gm n (roundsE n s E (k + 1)) (.slice A0 m c0) E) := Lib.hid (by
              have := hA.out
              rw [List.take_of_length_le (by have := HMM.out; omega), ← hRk.out] at this
              exact this)
            clear hA
            go_wp2_with fail
            go_roundw
            case rel => exact ⟨k + 1, by omega, by go_num, hA2⟩
            case measure => simp [intOf]; omega
      · have tk : decide ((k : Int) ≤ (n : Int)) = false := decide_eq_false (by omega)
        have hA2 := hA.out
        rw [show roundsE n s E k = reachB ⟨n, d⟩ s by rw [show k = n + 1 by omega, ← HE.out]; rfl] at hA2
        have hA3 := Lib.hid hA2
        clear hA hA2
        generalize reachB ⟨n, d⟩ s = f at *
        go_wp2_with fail
        go_loopw [10, 11] (fun v iv wr => ∃ i : Nat, i ≤ n ∧ iv = .int .i64 i ∧ Hid (AmidR w wr gm n f (.slice A0 m c0) E) ∧ Hid (OwnI wr w.heap.size v (pickL i f))) (fun _ iv _ => n - (intOf iv).toNat)
        case atStart => exact ⟨0, Nat.zero_le _, rfl, hA3, Lib.hid (OwnI.nil _ _)⟩
        case round =>
          clear hA3
          obtain ⟨i, hi, rfl, hA, hO⟩ := hrel
          by_cases hin : i < n
          · have y0 := hA.out.met.cell hin
            have hps := Lib.hid (pickL_succ i f)
            have hpl : Hid ((pickL i f).length ≤ 100) := Lib.hid (by have := pickL_len i f; omega)
            cases hfi : f i
            · rw [hfi] at y0
              have hO2 : Hid (OwnI wr w.heap.size u10 (pickL (i + 1) f)) := Lib.hid (by rw [hps.out, hfi]; simpa using hO.out)
              clear hO hps
              go_wp2_with fail
              go_roundw
              case rel => exact ⟨i + 1, by omega, by go_num, hA, hO2⟩
              case measure => simp [intOf]; omega
            · rw [hfi] at y0
              have hal : Hid (Below wr.heap.size wr (wr.alloc (.cells #[.int .i64 (i : Int)] 3))) := Lib.hid ((Below.refl _ _).alloc (Nat.le_refl _) _)
              have hO1 : Hid (OwnI (wr.alloc (.cells #[.int .i64 (i : Int)] 3)) w.heap.size u10 (pickL i f)) := Lib.hid (World.ownsRow.alloc hO.out _)
              have hA1 : Hid (AmidR w (wr.alloc (.cells #[.int .i64 (i : Int)] 3)) gm n f (.slice A0 m c0) E) := Lib.hid ⟨hA.out.below.trans (hal.out.mono hA.out.below.size), hA.out.lo, hA.out.met.keep hal.out, World.ownsRow.alloc hA.out.own _⟩
              have w0 : (wr.alloc (.cells #[.int .i64 (i : Int)] 3)).cell? ⟨wr.heap.size, 0, none⟩ = some (.int .i64 (i : Int)) := by rw [World.cell?_alloc_new]; rfl
              have hs1 : Hid (w.heap.size ≤ (wr.alloc (.cells #[.int .i64 (i : Int)] 3)).heap.size) := Lib.hid hA1.out.below.size
              go_wp2_with (at_builtin; refine Hid.out ?_)
              refine Lib.hid ?_
              go_loud (refine wpl_int rfl (.tmp 87) (.tmp 89) rfl w.heap.size _ _ rfl hO1.out wr.heap.size (i : Int) rfl w0 (by have := hpl.out; omega) hs1.out ?_)
              intro v' w8 ho8 hg8
              have hO2 : Hid (OwnI w8 w.heap.size v' (pickL (i + 1) f)) := Lib.hid (by rw [hps.out, hfi]; simpa using ho8)
              have hA2 : Hid (AmidR w w8 gm n f (.slice A0 m c0) E) := Lib.hid (hA1.out.ints hO1.out hg8)
              clear ho8 hg8 hO1 hA1 hO hA hal w0 hs1 hps
              go_wp2_with fail
              go_roundw
              case rel => exact ⟨i + 1, by omega, by go_num, hA2, hO2⟩
              case measure => simp [intOf]; omega
          · obtain rfl : n = i := by omega
            have hfin : Hid (OwnI wr w.heap.size u10 (reachL ⟨n, d⟩ s)) := Lib.hid (by rw [hR.out]; exact hO.out)
            have hbl := Lib.hid hA.out.below
            clear hA hO
            go_wp2_with fail
            go_ret
            exact ⟨_, rfl, hfin.out, hbl.out⟩
theorem RReach_any {mv : Array Value} {G : GT} (w : World) (a : Int) (h : ModelAt w w.heap.size mv G) (hfew : fewB G) :
    Calls Try.prog 36 #[.agg mv, .int .i64 a] w fun e w' => ∃ v, e = .returned v ∧ OwnI w' w.heap.size v (reachL G a) ∧ Below w.heap.size w w' := by
  by_cases ha : 0 ≤ a ∧ a < G.n
  · obtain ⟨s, rfl⟩ : ∃ s : Nat, a = (s : Int) := ⟨a.toNat, by omega⟩
    exact RReach_in w s h hfew (by omega)
  · exact RReach_out w a h ha
end Go.Proofs.Ytmbjmibjobpdgaa
