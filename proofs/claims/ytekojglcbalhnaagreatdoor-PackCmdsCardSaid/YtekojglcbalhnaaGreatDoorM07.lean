/-
  Contract of the program's isRightAlone.
  Contract of basculeref04's right, of lists.
-/
import Derived.Test.YtekojglcbalhnaaGreatDoorM06
import Derived.Test.YtekojglcbalhnaaGreatDoorM04
namespace Go.Proofs.YtekojglcbalhnaaGreatDoor
open Go.RowKit

/-- Is a value right, whatever its items are? -/
def aloneB (k n : Int) (f : Nat) (s : ByteArray) (c : Nat) (ns : Nat → ByteArray) (m : Nat) : Bool :=
  if k = 1 then (decide (n = 0) || decide (n = 1)) && nofB 0 f s c m
  else if k = 2 then nofB 0 f s c m
  else if k = 3 then nofB n 0 s c m
  else if k = 4 then decide (s.size ≤ 200) && nofB n f ⟨#[]⟩ c m
  else if k = 5 then nofB n f s c 0
  else if k = 6 then (((c : Int) == (m : Int)) && riseB c ns) && nofB n f s 0 0
  else false
theorem alone_plain {k n : Int} {f : Nat} {s : ByteArray} {c m : Nat} (ns : Nat → ByteArray) (h5 : k ≠ 5) (h6 : k ≠ 6) : aloneB k n f s c ns m = plainB k n f s c m := by
  have z0 : zeroB 0 = true := by unfold zeroB; simp
  have e0 : emptyB ⟨#[]⟩ = true := by decide +kernel
  unfold aloneB plainB nofB
  rw [if_neg h5, if_neg h6, z0, e0]
  by_cases h1 : k = 1
  · rw [if_pos h1, if_pos h1]
    cases decide (n = 0) <;> cases decide (n = 1) <;> cases zeroB f <;> cases emptyB s <;> cases decide (c = 0) <;> cases decide (m = 0) <;> rfl
  rw [if_neg h1, if_neg h1]
  by_cases h2 : k = 2
  · rw [if_pos h2, if_pos h2]
    cases zeroB f <;> cases emptyB s <;> cases decide (c = 0) <;> cases decide (m = 0) <;> rfl
  rw [if_neg h2, if_neg h2]
  by_cases h3 : k = 3
  · rw [if_pos h3, if_pos h3]
    cases decide (n = 0) <;> cases emptyB s <;> cases decide (c = 0) <;> cases decide (m = 0) <;> rfl
  rw [if_neg h3, if_neg h3]
  by_cases h4 : k = 4
  · rw [if_pos h4, if_pos h4]
    cases decide (n = 0) <;> cases zeroB f <;> cases decide (s.size ≤ 200) <;> cases decide (c = 0) <;> cases decide (m = 0) <;> rfl
  rw [if_neg h4, if_neg h4]
theorem alone_head {k n : Int} {f : Nat} {s : ByteArray} {c m : Nat} (ns : Nat → ByteArray) (h : k = 5 ∨ k = 6) : aloneB k n f s c ns m = headB k n f s c ns m := by
  unfold aloneB headB nofB
  rcases h with rfl | rfl
  · simp only [show ¬ ((5 : Int) = 1) by omega, show ¬ ((5 : Int) = 2) by omega, show ¬ ((5 : Int) = 3) by omega, show ¬ ((5 : Int) = 4) by omega, if_true, if_false]
    cases decide (n = 0) <;> cases zeroB f <;> cases emptyB s <;> cases decide (c = 0) <;> rfl
  · simp only [show ¬ ((6 : Int) = 1) by omega, show ¬ ((6 : Int) = 2) by omega, show ¬ ((6 : Int) = 3) by omega, show ¬ ((6 : Int) = 4) by omega, show ¬ ((6 : Int) = 5) by omega, if_true, if_false]
    cases decide (n = 0) <;> cases zeroB f <;> cases emptyB s <;> cases riseB c ns <;> cases ((c : Int) == (m : Int)) <;> rfl

/-- The box may be written. -/
theorem box_free {w : World} {a0 a1 a2 a3 a4 a5 : Value} {t : TypeId} : Hid (∀ w', Below (w.alloc (.cells #[a0, a1, a2, a3, a4, a5] t)).heap.size (w.alloc (.cells #[a0, a1, a2, a3, a4, a5] t)) w' → ∀ o, w'.frozen? ⟨w.heap.size, o, none⟩ = false) := Lib.hid fun w' hb o => by
  rw [hb.frozen (p := ⟨w.heap.size, o, none⟩) (by simp)]
  simp

set_option maxHeartbeats 2000000 in
theorem alone_f {k n : Int} {f : Nat} {s : ByteArray} {A : Option Addr} {c ca : Nat} {B : Option Addr} {m cb : Nat} {ns : Nat → ByteArray} {w : World} (hf : okW f) (hns : Strs w w.heap.size A c ns) (hc : c ≤ 9223372036854775807) :
    Calls Tryz.prog 158 #[.agg (fields k n f s A c ca B m cb)] w fun e w' => e = .returned (.bool (aloneB k n f s c ns m)) ∧ Below w.heap.size w w' := by
  have hbW : ∀ cs t, Below w.heap.size w (w.alloc (.cells cs t)) := fun cs t => (Below.refl _ _).alloc (Nat.le_refl _) _
  have hsW : ∀ cs t, w.heap.size ≤ (w.alloc (.cells cs t)).heap.size := fun cs t => (hbW cs t).size
  have N := fun (k' n' : Int) (f' : Nat) (s' : ByteArray) (A' : Option Addr) (c' ca' : Nat) (B' : Option Addr) (m' cb' : Nat) (h : okW f') (W : World) => nof_f (k := k') (n := n') (f := f') (s := s') (A := A') (c := c') (ca := ca') (B := B') (m := m') (cb := cb') h W
  have SF := float_store
  have ok0 : okW 0 := by unfold okW; decide
  unfold fields at *
  by_cases h1 : k = 1
  · by_cases hn : n = 0 ∨ n = 1
    · have R : Hid (aloneB k n f s c ns m = nofB 0 f s c m) := Lib.hid (by unfold aloneB; rw [if_pos h1]; rcases hn with rfl | rfl <;> simp)
      have N1 := N 1 0 f s A c ca B m cb hf
      rcases hn with rfl | rfl
      · subst h1
        clear N hns
        go_enter Tryz.func158, Tryz.ntmps158
        go_wp2_with (go_at_call 188; refine (N1 _).mono ?_; rintro e w3 ⟨rfl, hb3⟩)
        go_ret
        exact ⟨by rw [R.out]; rfl, (hbW _ _).trans (hb3.mono (hsW _ _))⟩
      · subst h1
        clear N hns
        go_enter Tryz.func158, Tryz.ntmps158
        go_wp2_with (go_at_call 188; refine (N1 _).mono ?_; rintro e w3 ⟨rfl, hb3⟩)
        go_ret
        exact ⟨by rw [R.out]; rfl, (hbW _ _).trans (hb3.mono (hsW _ _))⟩
    · have R : Hid (aloneB k n f s c ns m = false) := Lib.hid (by unfold aloneB; rw [if_pos h1]; simp; omega)
      have t0 : (n != 0) = true := by simp; omega
      have t1 : (n != 1) = true := by simp; omega
      subst h1
      clear N hns hn
      go_enter Tryz.func158, Tryz.ntmps158
      go_wp2_with fail
      go_ret
      exact ⟨by rw [R.out]; rfl, hbW _ _⟩
  · have k1 : (k == 1) = false := by simpa using h1
    by_cases h2 : k = 2
    · have R : Hid (aloneB k n f s c ns m = nofB 0 f s c m) := Lib.hid (by unfold aloneB; rw [if_neg h1, if_pos h2])
      have N1 := N 2 0 f s A c ca B m cb hf
      subst h2
      clear N hns k1 h1
      go_enter Tryz.func158, Tryz.ntmps158
      go_wp2_with (go_at_call 188; refine (N1 _).mono ?_; rintro e w3 ⟨rfl, hb3⟩)
      go_ret
      exact ⟨by rw [R.out]; rfl, (hbW _ _).trans (hb3.mono (hsW _ _))⟩
    · have k2 : (k == 2) = false := by simpa using h2
      by_cases h3 : k = 3
      · have R : Hid (aloneB k n f s c ns m = nofB n 0 s c m) := Lib.hid (by unfold aloneB; rw [if_neg h1, if_neg h2, if_pos h3])
        have N1 := N 3 n 0 s A c ca B m cb ok0
        subst h3
        clear N hns k1 h1 k2 h2
        go_enter Tryz.func158, Tryz.ntmps158
        go_wp2_with (go_at_call 188; refine (N1 _).mono ?_; rintro e w3 ⟨rfl, hb3⟩)
        go_ret
        exact ⟨by rw [R.out]; rfl, (hbW _ _).trans (hb3.mono (hsW _ _))⟩
      · have k3 : (k == 3) = false := by simpa using h3
        by_cases h4 : k = 4
        · by_cases hl : s.size ≤ 200
          · have R : Hid (aloneB k n f s c ns m = nofB n f ⟨#[]⟩ c m) := Lib.hid (by unfold aloneB; rw [if_neg h1, if_neg h2, if_neg h3, if_pos h4, decide_eq_true hl, Bool.true_and])
            have N1 := N 4 n f ⟨#[]⟩ A c ca B m cb hf
            subst h4
            clear N hns k1 h1 k2 h2 k3 h3
            go_enter Tryz.func158, Tryz.ntmps158
            go_wp2_with (go_at_call 188; refine (N1 _).mono ?_; rintro e w3 ⟨rfl, hb3⟩)
            go_ret
            exact ⟨by rw [R.out]; rfl, (hbW _ _).trans (hb3.mono (hsW _ _))⟩
          · have R : Hid (aloneB k n f s c ns m = false) := Lib.hid (by unfold aloneB; rw [if_neg h1, if_neg h2, if_neg h3, if_pos h4, decide_eq_false hl, Bool.false_and])
            subst h4
            clear N hns k1 h1 k2 h2 k3 h3
            go_enter Tryz.func158, Tryz.ntmps158
            go_wp2_with fail
            go_ret
            exact ⟨by rw [R.out]; rfl, hbW _ _⟩
        · have k4 : (k == 4) = false := by simpa using h4
          by_cases h5 : k = 5
          · have R : Hid (aloneB k n f s c ns m = nofB n f s c 0) := Lib.hid (by unfold aloneB; rw [if_neg h1, if_neg h2, if_neg h3, if_neg h4, if_pos h5])
            have N1 := N 5 n f s A c ca none 0 0 hf
            subst h5
            clear N hns k1 h1 k2 h2 k3 h3 k4 h4
            go_enter Tryz.func158, Tryz.ntmps158
            go_wp2_with (go_at_call 188; refine (N1 _).mono ?_; rintro e w3 ⟨rfl, hb3⟩)
            go_ret
            exact ⟨by rw [R.out]; rfl, (hbW _ _).trans (hb3.mono (hsW _ _))⟩
          · have k5 : (k == 5) = false := by simpa using h5
            by_cases h6 : k = 6
            · have hE : Hid (aloneB k n f s c ns m = ((((c : Int) == (m : Int)) && riseB c ns) && nofB n f s 0 0)) := Lib.hid (by unfold aloneB; rw [if_neg h1, if_neg h2, if_neg h3, if_neg h4, if_neg h5, if_pos h6])
              have N1 := N 6 n f s none 0 0 none 0 0 hf
              have HK := box_stays (w := w) (a0 := .int .i64 6) (a1 := .int .i64 n) (a2 := .float .f64 f) (a3 := .string s) (a4 := .slice A c ca) (a5 := .slice B m cb) (t := 28)
              have HF := box_free (w := w) (a0 := .int .i64 6) (a1 := .int .i64 n) (a2 := .float .f64 f) (a3 := .string s) (a4 := .slice A c ca) (a5 := .slice B m cb) (t := 28)
              have M := names_f (ca := ca) (n := (m : Int)) (strs_keep hns (hbW #[.int .i64 6, .int .i64 n, .float .f64 f, .string s, .slice A c ca, .slice B m cb] 28)) (hsW _ _) hc
              subst h6
              generalize hr : (((c : Int) == (m : Int)) && riseB c ns) = r at *
              clear N hns k1 h1 k2 h2 k3 h3 k4 h4 k5 h5 hr
              cases r with
              | false =>
                go_enter Tryz.func158, Tryz.ntmps158
                go_wp2_with (first | (go_at_call 187; refine M.mono ?_; rintro e w1 ⟨rfl, hb1⟩))
                go_ret
                exact ⟨by rw [hE.out]; rfl, (hbW _ _).trans (hb1.mono (hsW _ _))⟩
              | true =>
                have hbig : ∀ w1 : World, Below (w.alloc (.cells #[.int .i64 6, .int .i64 n, .float .f64 f, .string s, .slice A c ca, .slice B m cb] 28)).heap.size (w.alloc (.cells #[.int .i64 6, .int .i64 n, .float .f64 f, .string s, .slice A c ca, .slice B m cb] 28)) w1 → Below w.heap.size w ((w1.setCell ⟨w.heap.size, 4, none⟩ (.slice none 0 0)).setCell ⟨w.heap.size, 5, none⟩ (.slice none 0 0)) := fun w1 hb1 =>
                  (((hbW _ _).trans (hb1.mono (hsW _ _))).setCell (Nat.le_refl _) _).setCell (Nat.le_refl _) _
                go_enter Tryz.func158, Tryz.ntmps158
                go_wp2_with (first | (go_at_call 187; refine M.mono ?_; rintro e w1 ⟨rfl, hb1⟩; obtain ⟨q0, q1, q2, q3, q4, q5⟩ := HK.out w1 hb1; have f4 := HF.out w1 hb1 4; have f5 := HF.out w1 hb1 5) | (go_at_call 188; refine (N1 _).mono ?_; rintro e w3 ⟨rfl, hb3⟩))
                go_ret
                exact ⟨by rw [hE.out]; rfl, (hbig w1 hb1).trans (hb3.mono (hbig w1 hb1).size)⟩
            · have k6 : (k == 6) = false := by simpa using h6
              have R : Hid (aloneB k n f s c ns m = false) := Lib.hid (by unfold aloneB; rw [if_neg h1, if_neg h2, if_neg h3, if_neg h4, if_neg h5, if_neg h6])
              clear N hns h1 h2 h3 h4 h5 h6
              go_enter Tryz.func158, Tryz.ntmps158
              go_wp2_with fail
              go_ret
              exact ⟨by rw [R.out]; rfl, hbW _ _⟩
end Go.Proofs.YtekojglcbalhnaaGreatDoor
namespace Go.Proofs.YtekojglcbalhnaaGreatDoor
open Go.RowKit

set_option maxHeartbeats 2000000 in
set_option maxRecDepth 10000 in
theorem right_5 {n : Int} {f : Nat} {s : ByteArray} {A : Option Addr} {c ca : Nat} {B : Option Addr} {m cb : Nat} {w : World} {far : Int} {ns : Nat → ByteArray} {vs : Nat → Array Value} {xs : Nat → VT} (h0 : 1 ≤ far) (h9 : far ≤ 1000) (hmx : m ≤ 9223372036854775807)
    (hB : 0 < m → ∃ g o, B = some ⟨g, o, none⟩ ∧ g < w.heap.size ∧ ∀ i, i < m → SixAt w g (o + i * 6) (vs i)) (hxs : ∀ i, i < m → Val w w.heap.size (vs i) (xs i))
    (ih : ∀ (i : Nat) (v : Array Value) (far : Int) (w : World), Val w w.heap.size v (xs i) → 0 ≤ far → far ≤ 1000 → Calls Tryz.prog 107 #[.agg v, .int .i64 far] w fun e w' => e = .returned (.bool (rightV (xs i) far)) ∧ Below w.heap.size w w') :
    Calls Tryz.prog 107 #[.agg (fields 5 n f s A c ca B m cb), .int .i64 far] w fun e w' => e = .returned (.bool (headB 5 n f s c ns m && (List.range m).all (fun i => rightV (xs i) (far - 1)))) ∧ Below w.heap.size w w' := by
  have hbW : Below w.heap.size w (w.alloc (.cells (fields 5 n f s A c ca B m cb) 28)) := (Below.refl _ _).alloc (Nat.le_refl _) _
  have hsz : (w.alloc (.cells (fields 5 n f s A c ca B m cb) 28)).heap.size = w.heap.size + 1 := by simp
  have HZ := Lib.hid hsz
  clear hsz
  have Z := fun w => zero_at (k := 5) (n := n) (f := f) (s := s) (A := A) (c := c) (ca := ca) (B := B) (m := m) (cb := cb) w
  unfold fields at *
  have HK := box_stays (w := w) (a0 := .int .i64 5) (a1 := .int .i64 n) (a2 := .float .f64 f) (a3 := .string s) (a4 := .slice A c ca) (a5 := .slice B m cb) (t := 28)
  have HBW := Lib.hid hbW
  obtain ⟨T, hT0⟩ : ∃ T, T = (headB 5 n f s c ns m && (List.range m).all (fun i => rightV (xs i) (far - 1))) := ⟨_, rfl⟩
  rw [← hT0]
  cases tm : ((m : Int) == 0)
  · skip
    by_cases hc : c = 0
    · skip
      by_cases hz : zeroB f = true
      · skip
        by_cases hn : n = 0
        · skip
          by_cases hs : emptyB s = true
          · skip
            have hT : Hid (T = (List.range m).all (fun i => rightV (xs i) (far - 1))) := Lib.hid (by rw [hT0]; unfold headB; simp [hc, hz, hn, hs])
            have tc : ((c : Int) == 0) = true := by simp; omega
            have td : decide ((0 : Int) < (c : Int)) = false := by simp; omega
            have te : decide (0 < c) = false := by simp; omega
            rw [hz] at Z
            have tn : (n == 0) = true := by simpa using hn
            have tn2 : (n != 0) = false := by simpa using hn
            have ts : s.toList.isEmpty = true := hs
            have ts2 : (!s.toList.isEmpty) = false := by rw [ts]; rfl
            clear hc hz hn hs hT0
            go_enter Tryz.func107, Tryz.ntmps107
            go_wp2_with (go_at_call 135; refine (Z _).mono ?_; rintro e w1 ⟨rfl, hb1⟩; obtain ⟨q0, q1, q2, q3, q4, q5⟩ := HK.out w1 hb1)
            have HW := Lib.hid (And.intro (hbW.trans (hb1.mono hbW.size)) (show w.heap.size < w1.heap.size by have := hb1.size; have := HZ.out; omega))
            have H5 := Lib.hid q5
            clear hbW hb1 q0 q1 q2 q3 q4 q5
            go_loopw [6] (fun iv wr => ∃ i : Nat, i ≤ m ∧ iv = .int .i64 i ∧ Hid (∀ j, j < i → rightV (xs j) (far - 1) = true) ∧ Below w1.heap.size w1 wr) (fun iv _ => m - (intOf iv).toNat)
            case atStart => exact ⟨0, Nat.zero_le _, rfl, Lib.hid fun j hj => absurd hj (by omega), Below.refl _ _⟩
            case round =>
              obtain ⟨i, hi, rfl, hh, hb⟩ := hrel
              have h5r : wr.cell? ⟨w.heap.size, 5, none⟩ = some (.slice B m cb) := (hb.cell (p := ⟨w.heap.size, 5, none⟩) HW.out.2).trans H5.out
              have hfin : Below w.heap.size w wr := HW.out.1.trans (hb.mono HW.out.1.size)
              by_cases hlt : i < m
              · obtain ⟨g, o, rfl, hg, hx⟩ := hB (by omega)
                have hvr := ((hxs i hlt).stay hfin).mono hfin.size
                have hcall := ih i (vs i) (far - 1) wr hvr (by omega) (by omega)
                have hsix := (hx i hlt).keep (w' := wr) fun o => hfin.cell (p := ⟨g, o, none⟩) hg
                obtain ⟨a0, a1, a2, a3, a4, a5, hv0⟩ := (hxs i hlt).six
                rw [hv0] at hsix hcall
                obtain ⟨e0, e1, e2, e3, e4, e5⟩ := hsix.cells
                have yes : rightV (xs i) (far - 1) = true → Hid (∀ j, j < i + 1 → rightV (xs j) (far - 1) = true) := fun hy => Lib.hid fun j hj => by
                  by_cases e : j = i
                  · subst e; exact hy
                  · exact hh.out j (by omega)
                have no : rightV (xs i) (far - 1) = false → Hid (T = false) := fun hn => Lib.hid (by
                  rw [hT.out, List.all_eq_false.2 ⟨i, List.mem_range.2 hlt, by rw [hn]; simp⟩])
                clear hv0 hsix hvr hx hB ih hxs hh
                cases hr : rightV (xs i) (far - 1)
                · have N := no hr
                  rw [hr] at hcall
                  clear yes no hr hT
                  go_wp2_with (go_at_call 107; refine hcall.mono ?_; rintro e w3 ⟨rfl, hb3⟩)
                  go_ret
                  exact ⟨by rw [N.out]; rfl, hfin.trans (hb3.mono hfin.size)⟩
                · have Y := yes hr
                  rw [hr] at hcall
                  clear yes no hr hT
                  go_wp2_with (go_at_call 107; refine hcall.mono ?_; rintro e w3 ⟨rfl, hb3⟩)
                  go_roundw
                  case rel => exact ⟨i + 1, by omega, by go_num, Y, hb.trans (hb3.mono hb.size)⟩
                  case measure => simp [intOf]; omega
              · have R : Hid (T = true) := Lib.hid (by rw [hT.out, List.all_eq_true.2 fun j hj => hh.out j (by have := List.mem_range.1 hj; omega)])
                clear hh hT ih hxs hB
                go_wp2_with fail
                go_ret
                exact ⟨by rw [R.out]; rfl, hfin⟩
          · skip
            have R : Hid (T = false) := Lib.hid (by rw [hT0]; unfold headB; simp [hc, hz, hn, hs])
            have tc : ((c : Int) == 0) = true := by simp; omega
            have td : decide ((0 : Int) < (c : Int)) = false := by simp; omega
            have te : decide (0 < c) = false := by simp; omega
            rw [hz] at Z
            have tn : (n == 0) = true := by simpa using hn
            have tn2 : (n != 0) = false := by simpa using hn
            have ts : s.toList.isEmpty = false := by unfold emptyB at hs; simpa using hs
            have ts2 : (!s.toList.isEmpty) = true := by rw [ts]; rfl
            clear hc hz hn hs hT0 ih hxs hB
            go_enter Tryz.func107, Tryz.ntmps107
            go_wp2_with (go_at_call 135; refine (Z _).mono ?_; rintro e w1 ⟨rfl, hb1⟩; obtain ⟨q0, q1, q2, q3, q4, q5⟩ := HK.out w1 hb1)
            go_ret
            exact ⟨by rw [R.out]; rfl, hbW.trans (hb1.mono hbW.size)⟩
        · skip
          have R : Hid (T = false) := Lib.hid (by rw [hT0]; unfold headB; simp [hc, hz, hn])
          have tc : ((c : Int) == 0) = true := by simp; omega
          have td : decide ((0 : Int) < (c : Int)) = false := by simp; omega
          have te : decide (0 < c) = false := by simp; omega
          rw [hz] at Z
          have tn : (n == 0) = false := by simpa using hn
          have tn2 : (n != 0) = true := by simpa using hn
          clear hc hz hn hT0 ih hxs hB
          go_enter Tryz.func107, Tryz.ntmps107
          go_wp2_with (go_at_call 135; refine (Z _).mono ?_; rintro e w1 ⟨rfl, hb1⟩; obtain ⟨q0, q1, q2, q3, q4, q5⟩ := HK.out w1 hb1)
          go_ret
          exact ⟨by rw [R.out]; rfl, hbW.trans (hb1.mono hbW.size)⟩
      · skip
        have R : Hid (T = false) := Lib.hid (by rw [hT0]; unfold headB; simp [hc, hz])
        have tc : ((c : Int) == 0) = true := by simp; omega
        have td : decide ((0 : Int) < (c : Int)) = false := by simp; omega
        have te : decide (0 < c) = false := by simp; omega
        rw [show zeroB f = false by simpa using hz] at Z
        clear hc hz hT0 ih hxs hB
        go_enter Tryz.func107, Tryz.ntmps107
        go_wp2_with (go_at_call 135; refine (Z _).mono ?_; rintro e w1 ⟨rfl, hb1⟩; obtain ⟨q0, q1, q2, q3, q4, q5⟩ := HK.out w1 hb1)
        go_ret
        exact ⟨by rw [R.out]; rfl, hbW.trans (hb1.mono hbW.size)⟩
    · skip
      by_cases hz : zeroB f = true
      · skip
        by_cases hn : n = 0
        · skip
          by_cases hs : emptyB s = true
          · skip
            have R : Hid (T = false) := Lib.hid (by rw [hT0]; unfold headB; simp [hc, hz, hn, hs])
            have tc : ((c : Int) == 0) = false := by simp; omega
            have td : decide ((0 : Int) < (c : Int)) = true := by simp; omega
            have te : decide (0 < c) = true := by simp; omega
            rw [hz] at Z
            have tn : (n == 0) = true := by simpa using hn
            have tn2 : (n != 0) = false := by simpa using hn
            have ts : s.toList.isEmpty = true := hs
            have ts2 : (!s.toList.isEmpty) = false := by rw [ts]; rfl
            clear hc hz hn hs hT0 ih hxs hB
            go_enter Tryz.func107, Tryz.ntmps107
            go_wp2_with (go_at_call 135; refine (Z _).mono ?_; rintro e w1 ⟨rfl, hb1⟩; obtain ⟨q0, q1, q2, q3, q4, q5⟩ := HK.out w1 hb1)
            go_ret
            exact ⟨by rw [R.out]; rfl, hbW.trans (hb1.mono hbW.size)⟩
          · skip
            have R : Hid (T = false) := Lib.hid (by rw [hT0]; unfold headB; simp [hc, hz, hn, hs])
            have tc : ((c : Int) == 0) = false := by simp; omega
            have td : decide ((0 : Int) < (c : Int)) = true := by simp; omega
            have te : decide (0 < c) = true := by simp; omega
            rw [hz] at Z
            have tn : (n == 0) = true := by simpa using hn
            have tn2 : (n != 0) = false := by simpa using hn
            have ts : s.toList.isEmpty = false := by unfold emptyB at hs; simpa using hs
            have ts2 : (!s.toList.isEmpty) = true := by rw [ts]; rfl
            clear hc hz hn hs hT0 ih hxs hB
            go_enter Tryz.func107, Tryz.ntmps107
            go_wp2_with (go_at_call 135; refine (Z _).mono ?_; rintro e w1 ⟨rfl, hb1⟩; obtain ⟨q0, q1, q2, q3, q4, q5⟩ := HK.out w1 hb1)
            go_ret
            exact ⟨by rw [R.out]; rfl, hbW.trans (hb1.mono hbW.size)⟩
        · skip
          have R : Hid (T = false) := Lib.hid (by rw [hT0]; unfold headB; simp [hc, hz, hn])
          have tc : ((c : Int) == 0) = false := by simp; omega
          have td : decide ((0 : Int) < (c : Int)) = true := by simp; omega
          have te : decide (0 < c) = true := by simp; omega
          rw [hz] at Z
          have tn : (n == 0) = false := by simpa using hn
          have tn2 : (n != 0) = true := by simpa using hn
          clear hc hz hn hT0 ih hxs hB
          go_enter Tryz.func107, Tryz.ntmps107
          go_wp2_with (go_at_call 135; refine (Z _).mono ?_; rintro e w1 ⟨rfl, hb1⟩; obtain ⟨q0, q1, q2, q3, q4, q5⟩ := HK.out w1 hb1)
          go_ret
          exact ⟨by rw [R.out]; rfl, hbW.trans (hb1.mono hbW.size)⟩
      · skip
        have R : Hid (T = false) := Lib.hid (by rw [hT0]; unfold headB; simp [hc, hz])
        have tc : ((c : Int) == 0) = false := by simp; omega
        have td : decide ((0 : Int) < (c : Int)) = true := by simp; omega
        have te : decide (0 < c) = true := by simp; omega
        rw [show zeroB f = false by simpa using hz] at Z
        clear hc hz hT0 ih hxs hB
        go_enter Tryz.func107, Tryz.ntmps107
        go_wp2_with (go_at_call 135; refine (Z _).mono ?_; rintro e w1 ⟨rfl, hb1⟩; obtain ⟨q0, q1, q2, q3, q4, q5⟩ := HK.out w1 hb1)
        go_ret
        exact ⟨by rw [R.out]; rfl, hbW.trans (hb1.mono hbW.size)⟩
  · skip
    by_cases hc : c = 0
    · skip
      by_cases hz : zeroB f = true
      · skip
        by_cases hn : n = 0
        · skip
          by_cases hs : emptyB s = true
          · skip
            have hT : Hid (T = (List.range m).all (fun i => rightV (xs i) (far - 1))) := Lib.hid (by rw [hT0]; unfold headB; simp [hc, hz, hn, hs])
            have tc : ((c : Int) == 0) = true := by simp; omega
            have td : decide ((0 : Int) < (c : Int)) = false := by simp; omega
            have te : decide (0 < c) = false := by simp; omega
            rw [hz] at Z
            have tn : (n == 0) = true := by simpa using hn
            have tn2 : (n != 0) = false := by simpa using hn
            have ts : s.toList.isEmpty = true := hs
            have ts2 : (!s.toList.isEmpty) = false := by rw [ts]; rfl
            clear hc hz hn hs hT0
            go_enter Tryz.func107, Tryz.ntmps107
            go_wp2_with (go_at_call 135; refine (Z _).mono ?_; rintro e w1 ⟨rfl, hb1⟩; obtain ⟨q0, q1, q2, q3, q4, q5⟩ := HK.out w1 hb1)
            have HW := Lib.hid (And.intro (hbW.trans (hb1.mono hbW.size)) (show w.heap.size < w1.heap.size by have := hb1.size; have := HZ.out; omega))
            have H5 := Lib.hid q5
            clear hbW hb1 q0 q1 q2 q3 q4 q5
            go_loopw [6] (fun iv wr => ∃ i : Nat, i ≤ m ∧ iv = .int .i64 i ∧ Hid (∀ j, j < i → rightV (xs j) (far - 1) = true) ∧ Below w1.heap.size w1 wr) (fun iv _ => m - (intOf iv).toNat)
            case atStart => exact ⟨0, Nat.zero_le _, rfl, Lib.hid fun j hj => absurd hj (by omega), Below.refl _ _⟩
            case round =>
              obtain ⟨i, hi, rfl, hh, hb⟩ := hrel
              have h5r : wr.cell? ⟨w.heap.size, 5, none⟩ = some (.slice B m cb) := (hb.cell (p := ⟨w.heap.size, 5, none⟩) HW.out.2).trans H5.out
              have hfin : Below w.heap.size w wr := HW.out.1.trans (hb.mono HW.out.1.size)
              by_cases hlt : i < m
              · obtain ⟨g, o, rfl, hg, hx⟩ := hB (by omega)
                have hvr := ((hxs i hlt).stay hfin).mono hfin.size
                have hcall := ih i (vs i) (far - 1) wr hvr (by omega) (by omega)
                have hsix := (hx i hlt).keep (w' := wr) fun o => hfin.cell (p := ⟨g, o, none⟩) hg
                obtain ⟨a0, a1, a2, a3, a4, a5, hv0⟩ := (hxs i hlt).six
                rw [hv0] at hsix hcall
                obtain ⟨e0, e1, e2, e3, e4, e5⟩ := hsix.cells
                have yes : rightV (xs i) (far - 1) = true → Hid (∀ j, j < i + 1 → rightV (xs j) (far - 1) = true) := fun hy => Lib.hid fun j hj => by
                  by_cases e : j = i
                  · subst e; exact hy
                  · exact hh.out j (by omega)
                have no : rightV (xs i) (far - 1) = false → Hid (T = false) := fun hn => Lib.hid (by
                  rw [hT.out, List.all_eq_false.2 ⟨i, List.mem_range.2 hlt, by rw [hn]; simp⟩])
                clear hv0 hsix hvr hx hB ih hxs hh
                cases hr : rightV (xs i) (far - 1)
                · have N := no hr
                  rw [hr] at hcall
                  clear yes no hr hT
                  go_wp2_with (go_at_call 107; refine hcall.mono ?_; rintro e w3 ⟨rfl, hb3⟩)
                  go_ret
                  exact ⟨by rw [N.out]; rfl, hfin.trans (hb3.mono hfin.size)⟩
                · have Y := yes hr
                  rw [hr] at hcall
                  clear yes no hr hT
                  go_wp2_with (go_at_call 107; refine hcall.mono ?_; rintro e w3 ⟨rfl, hb3⟩)
                  go_roundw
                  case rel => exact ⟨i + 1, by omega, by go_num, Y, hb.trans (hb3.mono hb.size)⟩
                  case measure => simp [intOf]; omega
              · have R : Hid (T = true) := Lib.hid (by rw [hT.out, List.all_eq_true.2 fun j hj => hh.out j (by have := List.mem_range.1 hj; omega)])
                clear hh hT ih hxs hB
                go_wp2_with fail
                go_ret
                exact ⟨by rw [R.out]; rfl, hfin⟩
          · skip
            have R : Hid (T = false) := Lib.hid (by rw [hT0]; unfold headB; simp [hc, hz, hn, hs])
            have tc : ((c : Int) == 0) = true := by simp; omega
            have td : decide ((0 : Int) < (c : Int)) = false := by simp; omega
            have te : decide (0 < c) = false := by simp; omega
            rw [hz] at Z
            have tn : (n == 0) = true := by simpa using hn
            have tn2 : (n != 0) = false := by simpa using hn
            have ts : s.toList.isEmpty = false := by unfold emptyB at hs; simpa using hs
            have ts2 : (!s.toList.isEmpty) = true := by rw [ts]; rfl
            clear hc hz hn hs hT0 ih hxs hB
            go_enter Tryz.func107, Tryz.ntmps107
            go_wp2_with (go_at_call 135; refine (Z _).mono ?_; rintro e w1 ⟨rfl, hb1⟩; obtain ⟨q0, q1, q2, q3, q4, q5⟩ := HK.out w1 hb1)
            go_ret
            exact ⟨by rw [R.out]; rfl, hbW.trans (hb1.mono hbW.size)⟩
        · skip
          have R : Hid (T = false) := Lib.hid (by rw [hT0]; unfold headB; simp [hc, hz, hn])
          have tc : ((c : Int) == 0) = true := by simp; omega
          have td : decide ((0 : Int) < (c : Int)) = false := by simp; omega
          have te : decide (0 < c) = false := by simp; omega
          rw [hz] at Z
          have tn : (n == 0) = false := by simpa using hn
          have tn2 : (n != 0) = true := by simpa using hn
          clear hc hz hn hT0 ih hxs hB
          go_enter Tryz.func107, Tryz.ntmps107
          go_wp2_with (go_at_call 135; refine (Z _).mono ?_; rintro e w1 ⟨rfl, hb1⟩; obtain ⟨q0, q1, q2, q3, q4, q5⟩ := HK.out w1 hb1)
          go_ret
          exact ⟨by rw [R.out]; rfl, hbW.trans (hb1.mono hbW.size)⟩
      · skip
        have R : Hid (T = false) := Lib.hid (by rw [hT0]; unfold headB; simp [hc, hz])
        have tc : ((c : Int) == 0) = true := by simp; omega
        have td : decide ((0 : Int) < (c : Int)) = false := by simp; omega
        have te : decide (0 < c) = false := by simp; omega
        rw [show zeroB f = false by simpa using hz] at Z
        clear hc hz hT0 ih hxs hB
        go_enter Tryz.func107, Tryz.ntmps107
        go_wp2_with (go_at_call 135; refine (Z _).mono ?_; rintro e w1 ⟨rfl, hb1⟩; obtain ⟨q0, q1, q2, q3, q4, q5⟩ := HK.out w1 hb1)
        go_ret
        exact ⟨by rw [R.out]; rfl, hbW.trans (hb1.mono hbW.size)⟩
    · skip
      by_cases hz : zeroB f = true
      · skip
        by_cases hn : n = 0
        · skip
          by_cases hs : emptyB s = true
          · skip
            have R : Hid (T = false) := Lib.hid (by rw [hT0]; unfold headB; simp [hc, hz, hn, hs])
            have tc : ((c : Int) == 0) = false := by simp; omega
            have td : decide ((0 : Int) < (c : Int)) = true := by simp; omega
            have te : decide (0 < c) = true := by simp; omega
            rw [hz] at Z
            have tn : (n == 0) = true := by simpa using hn
            have tn2 : (n != 0) = false := by simpa using hn
            have ts : s.toList.isEmpty = true := hs
            have ts2 : (!s.toList.isEmpty) = false := by rw [ts]; rfl
            clear hc hz hn hs hT0 ih hxs hB
            go_enter Tryz.func107, Tryz.ntmps107
            go_wp2_with (go_at_call 135; refine (Z _).mono ?_; rintro e w1 ⟨rfl, hb1⟩; obtain ⟨q0, q1, q2, q3, q4, q5⟩ := HK.out w1 hb1)
            go_ret
            exact ⟨by rw [R.out]; rfl, hbW.trans (hb1.mono hbW.size)⟩
          · skip
            have R : Hid (T = false) := Lib.hid (by rw [hT0]; unfold headB; simp [hc, hz, hn, hs])
            have tc : ((c : Int) == 0) = false := by simp; omega
            have td : decide ((0 : Int) < (c : Int)) = true := by simp; omega
            have te : decide (0 < c) = true := by simp; omega
            rw [hz] at Z
            have tn : (n == 0) = true := by simpa using hn
            have tn2 : (n != 0) = false := by simpa using hn
            have ts : s.toList.isEmpty = false := by unfold emptyB at hs; simpa using hs
            have ts2 : (!s.toList.isEmpty) = true := by rw [ts]; rfl
            clear hc hz hn hs hT0 ih hxs hB
            go_enter Tryz.func107, Tryz.ntmps107
            go_wp2_with (go_at_call 135; refine (Z _).mono ?_; rintro e w1 ⟨rfl, hb1⟩; obtain ⟨q0, q1, q2, q3, q4, q5⟩ := HK.out w1 hb1)
            go_ret
            exact ⟨by rw [R.out]; rfl, hbW.trans (hb1.mono hbW.size)⟩
        · skip
          have R : Hid (T = false) := Lib.hid (by rw [hT0]; unfold headB; simp [hc, hz, hn])
          have tc : ((c : Int) == 0) = false := by simp; omega
          have td : decide ((0 : Int) < (c : Int)) = true := by simp; omega
          have te : decide (0 < c) = true := by simp; omega
          rw [hz] at Z
          have tn : (n == 0) = false := by simpa using hn
          have tn2 : (n != 0) = true := by simpa using hn
          clear hc hz hn hT0 ih hxs hB
          go_enter Tryz.func107, Tryz.ntmps107
          go_wp2_with (go_at_call 135; refine (Z _).mono ?_; rintro e w1 ⟨rfl, hb1⟩; obtain ⟨q0, q1, q2, q3, q4, q5⟩ := HK.out w1 hb1)
          go_ret
          exact ⟨by rw [R.out]; rfl, hbW.trans (hb1.mono hbW.size)⟩
      · skip
        have R : Hid (T = false) := Lib.hid (by rw [hT0]; unfold headB; simp [hc, hz])
        have tc : ((c : Int) == 0) = false := by simp; omega
        have td : decide ((0 : Int) < (c : Int)) = true := by simp; omega
        have te : decide (0 < c) = true := by simp; omega
        rw [show zeroB f = false by simpa using hz] at Z
        clear hc hz hT0 ih hxs hB
        go_enter Tryz.func107, Tryz.ntmps107
        go_wp2_with (go_at_call 135; refine (Z _).mono ?_; rintro e w1 ⟨rfl, hb1⟩; obtain ⟨q0, q1, q2, q3, q4, q5⟩ := HK.out w1 hb1)
        go_ret
        exact ⟨by rw [R.out]; rfl, hbW.trans (hb1.mono hbW.size)⟩
end Go.Proofs.YtekojglcbalhnaaGreatDoor
