/-
  sort.IntSlice's three: Len, Less, Swap, at a block of ints.
  A heap in a queue's box: its methods through the interface.
  container/heap's up over the queue.
  container/heap's down over the queue.
-/
import Derived.Test.YtmbjmibjobpdgaaM26
import Derived.Test.YtmbjmibjobpdgaaM29
import Derived.Test.YtmbjmibjobpdgaaM27
namespace Go.Proofs.Ytmbjmibjobpdgaa
open Go.RowKit

/-- Nothing but the draws moved. -/
structure Sm (w w' : World) : Prop where
  os : w'.os = w.os
  tape : w'.tape = w.tape
  output : w'.output = w.output
  heap : w'.heap = w.heap
theorem Sm.refl (w : World) : Sm w w := ⟨rfl, rfl, rfl, rfl⟩
theorem Sm.drew (w : World) : Sm w w.drew := ⟨rfl, rfl, rfl, rfl⟩
theorem Sm.trans {w w' w'' : World} (h : Sm w w') (h' : Sm w' w'') : Sm w w'' := ⟨h'.os.trans h.os, h'.tape.trans h.tape, h'.output.trans h.output, h'.heap.trans h.heap⟩
theorem Sm.below {w w' : World} (h : Sm w w') (B : Nat) : Below B w w' := ⟨h.os, h.tape, h.output, by rw [h.heap]; exact Nat.le_refl _, fun k _ => by rw [h.heap]⟩
/-- A block of ints with room. -/
def Qh (w : World) (g cap n : Nat) (f : Nat → Int) : Prop := ∃ cur, w.heap[g]? = some (.cells cur 3 (0, 0)) ∧ cur.size = cap ∧ n ≤ cap ∧ ∀ k, k < n → cur[k]? = some (.int .i64 (f k))
section
variable {w w' : World} {g cap n : Nat} {f : Nat → Int}
theorem Qh.oat (h : Qh w g cap n f) : OAt w g n f := by
  obtain ⟨cur, h1, h2, h3, h4⟩ := h
  exact ⟨cur, h1, by omega, h4⟩
theorem Qh.block (h : Qh w g cap n f) (hb : w'.heap[g]? = w.heap[g]?) : Qh w' g cap n f := by
  obtain ⟨cur, h1, h2⟩ := h
  exact ⟨cur, hb.trans h1, h2⟩
theorem Qh.same (h : Qh w g cap n f) (hs : Sm w w') : Qh w' g cap n f := h.block (by rw [hs.heap])
theorem Qh.congr {f' : Nat → Int} (h : Qh w g cap n f) (he : ∀ k, k < n → f' k = f k) : Qh w g cap n f' := by
  obtain ⟨cur, h1, h2, h3, h4⟩ := h
  exact ⟨cur, h1, h2, h3, fun k hk => by rw [he k hk]; exact h4 k hk⟩
theorem Qh.set (h : Qh w g cap n f) (i : Nat) (x : Int) : Qh (w.setCell ⟨g, i, none⟩ (.int .i64 x)) g cap n (fup f i x) := by
  obtain ⟨cur, h1, h2, h3, h4⟩ := h
  refine ⟨_, heap_set h1 i _, by simpa using h2, h3, fun k hk => ?_⟩
  by_cases e : k = i
  · subst e
    rw [fup_same, Array.getElem?_setIfInBounds_self_of_lt (by omega)]
  · rw [fup_far e, Array.getElem?_setIfInBounds_ne (Ne.symm e)]
    exact h4 k hk
end
theorem swp_fup (f : Nat → Int) (i j : Nat) : fup (fup f i (f j)) j (f i) = swp f i j := by
  funext k
  unfold fup swp
  by_cases e : k = j
  · subst e
    by_cases e2 : k = i
    · subst e2; simp
    · rw [if_pos rfl, if_neg e2, if_pos rfl]
  · rw [if_neg e]
    by_cases e2 : k = i
    · rw [if_pos e2, if_pos e2]
    · rw [if_neg e2, if_neg e2, if_neg e]
theorem swp_comm (f : Nat → Int) (i j : Nat) : swp f j i = swp f i j := by
  funext k
  unfold swp
  by_cases e : k = i
  · by_cases e2 : k = j
    · subst e; subst e2; simp
    · rw [if_pos e, if_neg e2, if_pos e]
  · by_cases e2 : k = j
    · rw [if_pos e2, if_neg e, if_pos e2]
    · rw [if_neg e2, if_neg e, if_neg e, if_neg e2]
theorem iLen_any (w : World) (A : Option Addr) (n c : Nat) : Calls Try.prog 60 #[.slice A n c] w fun e w' => e = .returned (.int .i64 (n : Int)) ∧ Sm w w' := by
  go_enter Try.func60, Try.ntmps60
  go_wp2_with fail
  go_ret
  exact ⟨rfl, Sm.refl _⟩
set_option maxHeartbeats 1000000 in
theorem iLess_any {w : World} {g n c i j : Nat} {f : Nat → Int} (h : OAt w g n f) (hi : i < n) (hj : j < n) : Calls Try.prog 118 #[.slice (some ⟨g, 0, none⟩) n c, .int .i64 (i : Int), .int .i64 (j : Int)] w fun e w' => e = .returned (.bool (decide (f i < f j))) ∧ Sm w w' := by
  have c1 := h.cell hi
  have c2 := h.cell hj
  generalize f i = x at *
  generalize f j = y at *
  clear h
  have i0 : (0 : Int) ≤ i := by omega
  have i1 : (i : Int) < n := by omega
  have j0 : (0 : Int) ≤ j := by omega
  have j1 : (j : Int) < n := by omega
  go_enter Try.func118, Try.ntmps118
  go_wp2_with fail
  go_region
  all_goals
    go_wp2_with fail
    go_ret
    exact ⟨rfl, Sm.drew _⟩
set_option maxHeartbeats 1000000 in
theorem iSwap_any {w : World} {g cap n c i j : Nat} {f : Nat → Int} (h : Qh w g cap n f) (hi : i < n) (hj : j < n) : Calls Try.prog 122 #[.slice (some ⟨g, 0, none⟩) n c, .int .i64 (i : Int), .int .i64 (j : Int)] w fun e w' => e = .returned (.tuple #[]) ∧ Qh w' g cap n (swp f i j) ∧ Bow w.heap.size g w w' := by
  have c1 := h.oat.cell hi
  have c2 := h.oat.cell hj
  have fr : ∀ i, w.frozen? ⟨g, i, none⟩ = false := fun i => h.oat.free i
  have i0 : (0 : Int) ≤ i := by omega
  have i1 : (i : Int) < n := by omega
  have j0 : (0 : Int) ≤ j := by omega
  have j1 : (j : Int) < n := by omega
  have H := Lib.hid h
  clear h
  have FIN : Hid (∀ w', w' = ((w.setCell ⟨g, i, none⟩ (.int .i64 (f j))).setCell ⟨g, j, none⟩ (.int .i64 (f i))).drew → Qh w' g cap n (swp f i j) ∧ Bow w.heap.size g w w') := Lib.hid fun w' hw' => by
    subst hw'
    refine ⟨?_, (((Bow.refl _ _ _).set _ _).set _ _).trans ⟨rfl, rfl, rfl, Nat.le_refl _, fun _ _ _ => rfl⟩⟩
    rw [← swp_fup]
    exact ((H.out.set i _).set j _).same (Sm.drew _)
  clear H
  by_cases hij : i = j
  · subst hij
    generalize f i = x at *
    go_enter Try.func122, Try.ntmps122
    go_wp2_with fail
    go_region
    go_wp2_with fail
    go_end0
    exact ⟨rfl, FIN.out _ rfl⟩
  · generalize f i = x at *
    generalize f j = y at *
    go_enter Try.func122, Try.ntmps122
    go_wp2_with fail
    go_region
    go_wp2_with fail
    go_end0
    exact ⟨rfl, FIN.out _ rfl⟩
end Go.Proofs.Ytmbjmibjobpdgaa
namespace Go.Proofs.Ytmbjmibjobpdgaa
open Go.RowKit

theorem m_push (w : World) (b : Nat) : (method 270 104 (.pointer (some ⟨b, 0, none⟩)) "Push").run Try.prog w = .ok (120, .pointer (some ⟨b, 0, none⟩)) w := by kernel_rfl
theorem m_pop (w : World) (b : Nat) : (method 270 104 (.pointer (some ⟨b, 0, none⟩)) "Pop").run Try.prog w = .ok (119, .pointer (some ⟨b, 0, none⟩)) w := by kernel_rfl
theorem m_len (w : World) (b : Nat) (v : Value) (hc : w.cell? ⟨b, 0, none⟩ = some v) : (method 270 104 (.pointer (some ⟨b, 0, none⟩)) "Len").run Try.prog w = .ok (60, v) w := by
  have h : (method 270 104 (.pointer (some ⟨b, 0, none⟩)) "Len").run Try.prog w = (do let v ← loadVar 105 ⟨b, 0, none⟩; pure (60, v) : Sem (FuncId × Value)).run Try.prog w := by kernel_rfl
  rw [h]
  go_simp
theorem m_less (w : World) (b : Nat) (v : Value) (hc : w.cell? ⟨b, 0, none⟩ = some v) : (method 270 104 (.pointer (some ⟨b, 0, none⟩)) "Less").run Try.prog w = .ok (118, v) w := by
  have h : (method 270 104 (.pointer (some ⟨b, 0, none⟩)) "Less").run Try.prog w = (do let v ← loadVar 105 ⟨b, 0, none⟩; pure (118, v) : Sem (FuncId × Value)).run Try.prog w := by kernel_rfl
  rw [h]
  go_simp
theorem m_swap (w : World) (b : Nat) (v : Value) (hc : w.cell? ⟨b, 0, none⟩ = some v) : (method 270 104 (.pointer (some ⟨b, 0, none⟩)) "Swap").run Try.prog w = .ok (122, v) w := by
  have h : (method 270 104 (.pointer (some ⟨b, 0, none⟩)) "Swap").run Try.prog w = (do let v ← loadVar 105 ⟨b, 0, none⟩; pure (122, v) : Sem (FuncId × Value)).run Try.prog w := by kernel_rfl
  rw [h]
  go_simp
end Go.Proofs.Ytmbjmibjobpdgaa
namespace Go.Proofs.Ytmbjmibjobpdgaa
open Go.RowKit

theorem Bow.mono {B B' g : Nat} {w w' : World} (h : Bow B g w w') (hB : B' ≤ B) : Bow B' g w w' := ⟨h.os, h.tape, h.output, h.size, fun k hk hne => h.block k (by omega) hne⟩
/-- The queue's box and its heap. -/
structure Qb (w wr : World) (b g cap c n : Nat) (f : Nat → Int) : Prop where
  box : wr.heap[b]? = some (.cells #[.slice (some ⟨g, 0, none⟩) n c] 107 (0, 0))
  row : Qh wr g cap n f
  bow : Bow w.heap.size g w wr
section
variable {w wr w' : World} {b g cap c n : Nat} {f f' : Nat → Int}
theorem Qb.ne (h : Qb w wr b g cap c n f) : b ≠ g := by
  rintro rfl
  obtain ⟨cur, h1, _⟩ := h.row
  have := h.box
  rw [h1] at this
  injection this with this
  injection this with _ this _
  exact absurd this (by decide)
theorem Qb.cell (h : Qb w wr b g cap c n f) : wr.cell? ⟨b, 0, none⟩ = some (.slice (some ⟨g, 0, none⟩) n c) := by rw [cell_of_row wr b 0 _ _ (0, 0) h.box]; rfl
theorem Qb.same (h : Qb w wr b g cap c n f) (hs : Sm wr w') : Qb w w' b g cap c n f :=
  ⟨by rw [hs.heap]; exact h.box, h.row.same hs, h.bow.trans ⟨hs.os, hs.tape, hs.output, by rw [hs.heap]; exact Nat.le_refl _, fun k _ _ => by rw [hs.heap]⟩⟩
theorem Qb.step (h : Qb w wr b g cap c n f) (hq : Qh w' g cap n f') (hb : Bow wr.heap.size g wr w') : Qb w w' b g cap c n f' :=
  ⟨(hb.block b (row_lt h.box) h.ne).trans h.box, hq, h.bow.trans (hb.mono h.bow.size)⟩
end
set_option maxRecDepth 20000 in
set_option maxHeartbeats 2000000 in
theorem up_any {w : World} {b g cap c n j : Nat} {f : Nat → Int} {Q : Int → Prop} (h : Qb w w b g cap c n f) (hU : UpI f n j) (hN : Numbs f n Q) (hj : j < n) (hn : n ≤ 10000) :
    Calls Try.prog 79 #[.iface 104 (.pointer (some ⟨b, 0, none⟩)), .int .i64 (j : Int)] w fun e w' => e = .returned (.tuple #[]) ∧ ∃ f', Qb w w' b g cap c n f' ∧ HeapOk f' n ∧ Numbs f' n Q := by
  have H0 : Hid (∃ f', Qb w w b g cap c n f' ∧ UpI f' n j ∧ Numbs f' n Q) := Lib.hid ⟨f, h, hU, hN⟩
  clear h hU hN
  go_enter Try.func79, Try.ntmps79
  go_wp2_with fail
  go_loopw [1] (fun jv wr => ∃ k : Nat, k < n ∧ jv = .int .i64 k ∧ Hid (∃ f', Qb w wr b g cap c n f' ∧ UpI f' n k ∧ Numbs f' n Q)) (fun jv _ => (intOf jv).toNat)
  case atStart => exact ⟨j, hj, rfl, H0⟩
  case round =>
    clear H0
    obtain ⟨k, hk, rfl, hr⟩ := hrel
    obtain ⟨f', hQ, hU, hN⟩ := hr.out
    rcases Nat.eq_zero_or_pos k with rfl | h0
    · have HF : Hid (∃ f', Qb w wr b g cap c n f' ∧ HeapOk f' n ∧ Numbs f' n Q) := Lib.hid ⟨f', hQ, hU.stop (.inl rfl), hN⟩
      clear hr hQ hU hN
      go_wp2_with fail
      go_end0
      exact ⟨rfl, HF.out⟩
    · clear hr
      have hm := m_less wr b _ hQ.cell
      obtain ⟨p, hp⟩ : ∃ p, p = (k - 1) / 2 := ⟨_, rfl⟩
      have hpk : ((k : Int) - 1) / 2 = (p : Int) := by omega
      have hne : ((p : Int) == (k : Int)) = false := by simp; omega
      have hpn : p < n := by omega
      have hpl : p < k := by omega
      have HQ := Lib.hid hQ
      have HU := Lib.hid hU
      have HN := Lib.hid hN
      clear hQ hU hN
      by_cases hlt : f' k < f' p
      · have hd : decide (f' k < f' p) = true := decide_eq_true hlt
        have HS : Hid (UpI (swp f' p k) n p ∧ Numbs (swp f' p k) n Q) := Lib.hid (by
          rw [hp] at hlt ⊢
          exact ⟨HU.out.step hk h0 hlt, HN.out.turn (by omega) hk⟩)
        clear hlt hp HU HN
        go_wp2_with (first
          | (go_at_call 118; refine (iLess_any HQ.out.row.oat hk hpn).mono ?_; rintro e w6 ⟨rfl, hs⟩; rw [hd]; have hQ6 := HQ.out.same hs; have hm2 := m_swap w6 b _ hQ6.cell; have HQ6 := Lib.hid hQ6; clear hQ6 hs)
          | (go_at_call 122; refine (iSwap_any HQ6.out.row hpn hk).mono ?_; rintro e w7 ⟨rfl, hr7, hb7⟩; have HQ7 := Lib.hid (HQ6.out.step hr7 hb7); clear hr7 hb7)
          | fail)
        go_roundw
        case rel => exact ⟨p, hpn, rfl, Lib.hid ⟨_, HQ7.out, HS.out⟩⟩
        case measure => simp [intOf]; omega
      · have hd : decide (f' k < f' p) = false := decide_eq_false hlt
        have HF : Hid (HeapOk f' n ∧ Numbs f' n Q) := Lib.hid ⟨HU.out.stop (.inr (by rw [← hp]; omega)), HN.out⟩
        clear hlt hp HU HN
        go_wp2_with (first
          | (go_at_call 118; refine (iLess_any HQ.out.row.oat hk hpn).mono ?_; rintro e w6 ⟨rfl, hs⟩; rw [hd]; have HQ6 := Lib.hid (HQ.out.same hs); clear hs)
          | fail)
        go_end0
        exact ⟨rfl, _, HQ6.out, HF.out⟩
end Go.Proofs.Ytmbjmibjobpdgaa
namespace Go.Proofs.Ytmbjmibjobpdgaa
open Go.RowKit

set_option maxRecDepth 20000 in
set_option maxHeartbeats 4000000 in
theorem down_any {w : World} {b g cap c n : Nat} {f : Nat → Int} {Q : Int → Prop} (h : Qb w w b g cap c (n + 1) f) (hU : DnI f n 0) (hN : Numbs f (n + 1) Q) (hn : n ≤ 9999) :
    Calls Try.prog 80 #[.iface 104 (.pointer (some ⟨b, 0, none⟩)), .int .i64 0, .int .i64 (n : Int)] w fun e w' => ∃ bb f', e = .returned (.bool bb) ∧ Qb w w' b g cap c (n + 1) f' ∧ HeapOk f' n ∧ Numbs f' (n + 1) Q ∧ f' n = f n := by
  have H0 : Hid (∃ f', Qb w w b g cap c (n + 1) f' ∧ DnI f' n 0 ∧ Numbs f' (n + 1) Q ∧ f' n = f n) := Lib.hid ⟨f, h, hU, hN, rfl⟩
  obtain ⟨x, hx⟩ : ∃ x, x = f n := ⟨_, rfl⟩
  rw [← hx] at H0 ⊢
  clear h hU hN hx
  go_enter Try.func80, Try.ntmps80
  go_wp2_with fail
  go_loopw [7] (fun iv wr => ∃ k : Nat, k ≤ n ∧ iv = .int .i64 k ∧ Hid (∃ f', Qb w wr b g cap c (n + 1) f' ∧ DnI f' n k ∧ Numbs f' (n + 1) Q ∧ f' n = x)) (fun iv _ => n - (intOf iv).toNat)
  case atStart => exact ⟨0, Nat.zero_le _, rfl, H0⟩
  case round =>
    clear H0
    obtain ⟨k, hk, rfl, hr⟩ := hrel
    obtain ⟨f', hQ, hU, hN, hl⟩ := hr.out
    clear hr
    obtain ⟨j1, hj1⟩ : ∃ j1, j1 = 2 * k + 1 := ⟨_, rfl⟩
    have e1 : 2 * (k : Int) + 1 = (j1 : Int) := by omega
    have s1 : (j1 : Int) ≤ 20001 := by omega
    by_cases hlt1 : j1 < n
    · have HQ := Lib.hid hQ
      have HU := Lib.hid hU
      have HN := Lib.hid hN
      have HL := Lib.hid hl
      have hm := m_less wr b _ hQ.cell
      clear hQ hU hN hl
      obtain ⟨j2, hj2⟩ : ∃ j2, j2 = j1 + 1 := ⟨_, rfl⟩
      have e2 : (j1 : Int) + 1 = (j2 : Int) := by omega
      have k1 : k < n + 1 := by omega
      have k2 : j1 < n + 1 := by omega
      by_cases hlt2 : j2 < n
      · have k3 : j2 < n + 1 := by omega
        by_cases hc : f' j2 < f' j1
        · have hd1 : decide (f' j2 < f' j1) = true := decide_eq_true hc
          have HM : Hid (∀ c, 0 < c → c < n → (c - 1) / 2 = k → f' j2 ≤ f' c) := Lib.hid fun c _ hcn hck => by
            rcases (show c = j1 ∨ c = j2 by omega) with rfl | rfl <;> omega
          by_cases hd : f' j2 < f' k
          · have hd2 : decide (f' j2 < f' k) = true := decide_eq_true hd
            have HS : Hid (DnI (swp f' k j2) n j2 ∧ Numbs (swp f' k j2) (n + 1) Q ∧ swp f' k j2 n = x) := Lib.hid (by
              refine ⟨HU.out.step (by omega) (by omega) (by omega) HM.out hd, HN.out.turn k1 k3, ?_⟩
              rw [swp_o (by omega) (by omega)]
              exact HL.out)
            have hjn : j2 ≤ n := by omega
            have hjk : k < j2 := by omega
            clear hd HM HU HN HL hc hj1 hj2
            go_wp2_with (first | (go_at_call 118; (with_reducible refine (iLess_any HQ.out.row.oat k3 k2).mono ?_); rintro e w6 ⟨rfl, hs⟩; rw [hd1]; have hQ6 := HQ.out.same hs; have hm6 := m_less w6 b _ hQ6.cell; have HQ6 := Lib.hid hQ6; clear hQ6 hs) | (go_at_call 118; (with_reducible refine (iLess_any HQ6.out.row.oat k3 k1).mono ?_); rintro e w7 ⟨rfl, hs⟩; rw [hd2]; have hQ7 := HQ6.out.same hs; have hm7 := m_swap w7 b _ hQ7.cell; have HQ7 := Lib.hid hQ7; clear hQ7 hs) | (go_at_call 122; (with_reducible refine (iSwap_any HQ7.out.row k1 k3).mono ?_); rintro e w8 ⟨rfl, hr8, hb8⟩; have HQ8 := Lib.hid (HQ7.out.step hr8 hb8); clear hr8 hb8) | fail)
            go_roundw
            case rel => exact ⟨j2, hjn, rfl, Lib.hid ⟨_, HQ8.out, HS.out⟩⟩
            case measure => simp [intOf]; omega
          · have hd2 : decide (f' j2 < f' k) = false := decide_eq_false hd
            have HF : Hid (HeapOk f' n ∧ Numbs f' (n + 1) Q ∧ f' n = x) := Lib.hid ⟨HU.out.stop (fun c h1 h2 h3 => Int.le_trans (by omega) (HM.out c h1 h2 h3)), HN.out, HL.out⟩
            clear hd HM HU HN HL hc hj1 hj2
            go_wp2_with (first | (go_at_call 118; (with_reducible refine (iLess_any HQ.out.row.oat k3 k2).mono ?_); rintro e w6 ⟨rfl, hs⟩; rw [hd1]; have hQ6 := HQ.out.same hs; have hm6 := m_less w6 b _ hQ6.cell; have HQ6 := Lib.hid hQ6; clear hQ6 hs) | (go_at_call 118; (with_reducible refine (iLess_any HQ6.out.row.oat k3 k1).mono ?_); rintro e w7 ⟨rfl, hs⟩; rw [hd2]; have hQ7 := HQ6.out.same hs; have HQ7 := Lib.hid hQ7; clear hQ7 hs) | fail)
            go_ret
            exact ⟨_, f', rfl, HQ7.out, HF.out⟩
        · have hd1 : decide (f' j2 < f' j1) = false := decide_eq_false hc
          have HM : Hid (∀ c, 0 < c → c < n → (c - 1) / 2 = k → f' j1 ≤ f' c) := Lib.hid fun c _ hcn hck => by
            rcases (show c = j1 ∨ c = j2 by omega) with rfl | rfl <;> omega
          by_cases hd : f' j1 < f' k
          · have hd2 : decide (f' j1 < f' k) = true := decide_eq_true hd
            have HS : Hid (DnI (swp f' k j1) n j1 ∧ Numbs (swp f' k j1) (n + 1) Q ∧ swp f' k j1 n = x) := Lib.hid (by
              refine ⟨HU.out.step (by omega) (by omega) (by omega) HM.out hd, HN.out.turn k1 k2, ?_⟩
              rw [swp_o (by omega) (by omega)]
              exact HL.out)
            have hjn : j1 ≤ n := by omega
            have hjk : k < j1 := by omega
            clear hd HM HU HN HL hc hj1 hj2
            go_wp2_with (first | (go_at_call 118; (with_reducible refine (iLess_any HQ.out.row.oat k3 k2).mono ?_); rintro e w6 ⟨rfl, hs⟩; rw [hd1]; have hQ6 := HQ.out.same hs; have hm6 := m_less w6 b _ hQ6.cell; have HQ6 := Lib.hid hQ6; clear hQ6 hs) | (go_at_call 118; (with_reducible refine (iLess_any HQ6.out.row.oat k2 k1).mono ?_); rintro e w7 ⟨rfl, hs⟩; rw [hd2]; have hQ7 := HQ6.out.same hs; have hm7 := m_swap w7 b _ hQ7.cell; have HQ7 := Lib.hid hQ7; clear hQ7 hs) | (go_at_call 122; (with_reducible refine (iSwap_any HQ7.out.row k1 k2).mono ?_); rintro e w8 ⟨rfl, hr8, hb8⟩; have HQ8 := Lib.hid (HQ7.out.step hr8 hb8); clear hr8 hb8) | fail)
            go_roundw
            case rel => exact ⟨j1, hjn, rfl, Lib.hid ⟨_, HQ8.out, HS.out⟩⟩
            case measure => simp [intOf]; omega
          · have hd2 : decide (f' j1 < f' k) = false := decide_eq_false hd
            have HF : Hid (HeapOk f' n ∧ Numbs f' (n + 1) Q ∧ f' n = x) := Lib.hid ⟨HU.out.stop (fun c h1 h2 h3 => Int.le_trans (by omega) (HM.out c h1 h2 h3)), HN.out, HL.out⟩
            clear hd HM HU HN HL hc hj1 hj2
            go_wp2_with (first | (go_at_call 118; (with_reducible refine (iLess_any HQ.out.row.oat k3 k2).mono ?_); rintro e w6 ⟨rfl, hs⟩; rw [hd1]; have hQ6 := HQ.out.same hs; have hm6 := m_less w6 b _ hQ6.cell; have HQ6 := Lib.hid hQ6; clear hQ6 hs) | (go_at_call 118; (with_reducible refine (iLess_any HQ6.out.row.oat k2 k1).mono ?_); rintro e w7 ⟨rfl, hs⟩; rw [hd2]; have hQ7 := HQ6.out.same hs; have HQ7 := Lib.hid hQ7; clear hQ7 hs) | fail)
            go_ret
            exact ⟨_, f', rfl, HQ7.out, HF.out⟩
      · have hng : ¬ (j2 : Int) < n := by omega
        have HM : Hid (∀ c, 0 < c → c < n → (c - 1) / 2 = k → f' j1 ≤ f' c) := Lib.hid fun c _ hcn hck => by
          obtain rfl : c = j1 := by omega
          exact Int.le_refl _
        by_cases hd : f' j1 < f' k
        · have hd2 : decide (f' j1 < f' k) = true := decide_eq_true hd
          have HS : Hid (DnI (swp f' k j1) n j1 ∧ Numbs (swp f' k j1) (n + 1) Q ∧ swp f' k j1 n = x) := Lib.hid (by
            refine ⟨HU.out.step (by omega) (by omega) (by omega) HM.out hd, HN.out.turn k1 k2, ?_⟩
            rw [swp_o (by omega) (by omega)]
            exact HL.out)
          have hjn : j1 ≤ n := by omega
          have hjk : k < j1 := by omega
          clear hd HM HU HN HL hj1 hj2
          go_wp2_with (first | (go_at_call 118; (with_reducible refine (iLess_any HQ.out.row.oat k2 k1).mono ?_); rintro e w7 ⟨rfl, hs⟩; rw [hd2]; have hQ7 := HQ.out.same hs; have hm7 := m_swap w7 b _ hQ7.cell; have HQ7 := Lib.hid hQ7; clear hQ7 hs) | (go_at_call 122; (with_reducible refine (iSwap_any HQ7.out.row k1 k2).mono ?_); rintro e w8 ⟨rfl, hr8, hb8⟩; have HQ8 := Lib.hid (HQ7.out.step hr8 hb8); clear hr8 hb8) | fail)
          go_roundw
          case rel => exact ⟨j1, hjn, rfl, Lib.hid ⟨_, HQ8.out, HS.out⟩⟩
          case measure => simp [intOf]; omega
        · have hd2 : decide (f' j1 < f' k) = false := decide_eq_false hd
          have HF : Hid (HeapOk f' n ∧ Numbs f' (n + 1) Q ∧ f' n = x) := Lib.hid ⟨HU.out.stop (fun c h1 h2 h3 => Int.le_trans (by omega) (HM.out c h1 h2 h3)), HN.out, HL.out⟩
          clear hd HM HU HN HL hj1 hj2
          go_wp2_with (first | (go_at_call 118; (with_reducible refine (iLess_any HQ.out.row.oat k2 k1).mono ?_); rintro e w7 ⟨rfl, hs⟩; rw [hd2]; have hQ7 := HQ.out.same hs; have HQ7 := Lib.hid hQ7; clear hQ7 hs) | fail)
          go_ret
          exact ⟨_, f', rfl, HQ7.out, HF.out⟩
    · have HF : Hid (∃ f', Qb w wr b g cap c (n + 1) f' ∧ HeapOk f' n ∧ Numbs f' (n + 1) Q ∧ f' n = x) := Lib.hid ⟨f', hQ, hU.stop (fun c _ hcn hck => by omega), hN, hl⟩
      have hng : ¬ (j1 : Int) < n := by omega
      clear hQ hU hN hl hj1
      go_wp2_with fail
      go_ret
      refine ⟨?_, HF.out⟩
      show Ending.returned (Value.bool (decide (0 < k))) = _ ∨ Ending.returned (Value.bool (decide (0 < k))) = _
      cases decide (0 < k)
      · exact .inl rfl
      · exact .inr rfl
end Go.Proofs.Ytmbjmibjobpdgaa
