/-
  Contract of basculeref04's right, of lists.
-/
import Derived.Test.YtcmohggnehkjeaaGreatVk
namespace Go.Proofs.YtcmohggnehkjeaaGreat
open Go.RowKit

set_option maxHeartbeats 2000000 in
set_option maxRecDepth 10000 in
theorem right_5 {n : Int} {f : Nat} {s : ByteArray} {A : Option Addr} {c ca : Nat} {B : Option Addr} {m cb : Nat} {w : World} {far : Int} {ns : Nat → ByteArray} {vs : Nat → Array Value} {xs : Nat → VT} (h0 : 1 ≤ far) (h9 : far ≤ 1000) (hmx : m ≤ 9223372036854775807)
    (hB : 0 < m → ∃ g o, B = some ⟨g, o, none⟩ ∧ g < w.heap.size ∧ ∀ i, i < m → SixAt w g (o + i * 6) (vs i)) (hxs : ∀ i, i < m → Val w w.heap.size (vs i) (xs i))
    (ih : ∀ (i : Nat) (v : Array Value) (far : Int) (w : World), Val w w.heap.size v (xs i) → 0 ≤ far → far ≤ 1000 → Calls Tryz.prog 75 #[.agg v, .int .i64 far] w fun e w' => e = .returned (.bool (rightV (xs i) far)) ∧ Below w.heap.size w w') :
    Calls Tryz.prog 75 #[.agg (fields 5 n f s A c ca B m cb), .int .i64 far] w fun e w' => e = .returned (.bool (headB 5 n f s c ns m && (List.range m).all (fun i => rightV (xs i) (far - 1)))) ∧ Below w.heap.size w w' := by
  have hbW : Below w.heap.size w (w.alloc (.cells (fields 5 n f s A c ca B m cb) 38)) := (Below.refl _ _).alloc (Nat.le_refl _) _
  have hsz : (w.alloc (.cells (fields 5 n f s A c ca B m cb) 38)).heap.size = w.heap.size + 1 := by simp
  have HZ := Lib.hid hsz
  clear hsz
  have Z := fun w => zero_at (k := 5) (n := n) (f := f) (s := s) (A := A) (c := c) (ca := ca) (B := B) (m := m) (cb := cb) w
  unfold fields at *
  have HK := box_stays (w := w) (a0 := .int .i64 5) (a1 := .int .i64 n) (a2 := .float .f64 f) (a3 := .string s) (a4 := .slice A c ca) (a5 := .slice B m cb) (t := 38)
  have HBW := Lib.hid hbW
  obtain ⟨T, hT0⟩ : ∃ T, T = (headB 5 n f s c ns m && (List.range m).all (fun i => rightV (xs i) (far - 1))) := ⟨_, rfl⟩
  rw [← hT0]
  cases tm : ((m : Int) == 0)
  · skip
    by_cases hc : c = 0
    · skip
      by_cases hz : zeroB f = true
      · skip
        by_cases hn : n = 0
        · skip
          by_cases hs : emptyB s = true
          · skip
            have hT : Hid (T = (List.range m).all (fun i => rightV (xs i) (far - 1))) := Lib.hid (by rw [hT0]; unfold headB; simp [hc, hz, hn, hs])
            have tc : ((c : Int) == 0) = true := by simp; omega
            have td : decide ((0 : Int) < (c : Int)) = false := by simp; omega
            have te : decide (0 < c) = false := by simp; omega
            rw [hz] at Z
            have tn : (n == 0) = true := by simpa using hn
            have tn2 : (n != 0) = false := by simpa using hn
            have ts : s.toList.isEmpty = true := hs
            have ts2 : (!s.toList.isEmpty) = false := by rw [ts]; rfl
            clear hc hz hn hs hT0
            go_enter Tryz.func75, Tryz.ntmps75
            go_wp2_with (go_at_call 113; refine (Z _).mono ?_; rintro e w1 ⟨rfl, hb1⟩; obtain ⟨q0, q1, q2, q3, q4, q5⟩ := HK.out w1 hb1)
            have HW := Lib.hid (And.intro (hbW.trans (hb1.mono hbW.size)) (show w.heap.size < w1.heap.size by have := hb1.size; have := HZ.out; omega))
            have H5 := Lib.hid q5
            clear hbW hb1 q0 q1 q2 q3 q4 q5
            go_loopw [6] (fun iv wr => ∃ i : Nat, i ≤ m ∧ iv = .int .i64 i ∧ Hid (∀ j, j < i → rightV (xs j) (far - 1) = true) ∧ Below w1.heap.size w1 wr) (fun iv _ => m - (intOf iv).toNat)
            case atStart => exact ⟨0, Nat.zero_le _, rfl, Lib.hid fun j hj => absurd hj (by omega), Below.refl _ _⟩
            case round =>
              obtain ⟨i, hi, rfl, hh, hb⟩ := hrel
              have h5r : wr.cell? ⟨w.heap.size, 5, none⟩ = some (.slice B m cb) := (hb.cell (p := ⟨w.heap.size, 5, none⟩) HW.out.2).trans H5.out
              have hfin : Below w.heap.size w wr := HW.out.1.trans (hb.mono HW.out.1.size)
              by_cases hlt : i < m
              · obtain ⟨g, o, rfl, hg, hx⟩ := hB (by omega)
                have hvr := ((hxs i hlt).stay hfin).mono hfin.size
                have hcall := ih i (vs i) (far - 1) wr hvr (by omega) (by omega)
                have hsix := (hx i hlt).keep (w' := wr) fun o => hfin.cell (p := ⟨g, o, none⟩) hg
                obtain ⟨a0, a1, a2, a3, a4, a5, hv0⟩ := (hxs i hlt).six
                rw [hv0] at hsix hcall
                obtain ⟨e0, e1, e2, e3, e4, e5⟩ := hsix.cells
                have yes : rightV (xs i) (far - 1) = true → Hid (∀ j, j < i + 1 → rightV (xs j) (far - 1) = true) := fun hy => Lib.hid fun j hj => by
                  by_cases e : j = i
                  · subst e; exact hy
                  · exact hh.out j (by omega)
                have no : rightV (xs i) (far - 1) = false → Hid (T = false) := fun hn => Lib.hid (by
                  rw [hT.out, List.all_eq_false.2 ⟨i, List.mem_range.2 hlt, by rw [hn]; simp⟩])
                clear hv0 hsix hvr hx hB ih hxs hh
                cases hr : rightV (xs i) (far - 1)
                · have N := no hr
                  rw [hr] at hcall
                  clear yes no hr hT
                  go_wp2_with (go_at_call 75; refine hcall.mono ?_; rintro e w3 ⟨rfl, hb3⟩)
                  go_ret
                  exact ⟨by rw [N.out]; rfl, hfin.trans (hb3.mono hfin.size)⟩
                · have Y := yes hr
                  rw [hr] at hcall
                  clear yes no hr hT
                  go_wp2_with (go_at_call 75; refine hcall.mono ?_; rintro e w3 ⟨rfl, hb3⟩)
                  go_roundw
                  case rel => exact ⟨i + 1, by omega, by go_num, Y, hb.trans (hb3.mono hb.size)⟩
                  case measure => simp [intOf]; omega
              · have R : Hid (T = true) := Lib.hid (by rw [hT.out, List.all_eq_true.2 fun j hj => hh.out j (by have := List.mem_range.1 hj; omega)])
                clear hh hT ih hxs hB
                go_wp2_with fail
                go_ret
                exact ⟨by rw [R.out]; rfl, hfin⟩
          · skip
            have R : Hid (T = false) := Lib.hid (by rw [hT0]; unfold headB; simp [hc, hz, hn, hs])
            have tc : ((c : Int) == 0) = true := by simp; omega
            have td : decide ((0 : Int) < (c : Int)) = false := by simp; omega
            have te : decide (0 < c) = false := by simp; omega
            rw [hz] at Z
            have tn : (n == 0) = true := by simpa using hn
            have tn2 : (n != 0) = false := by simpa using hn
            have ts : s.toList.isEmpty = false := by unfold emptyB at hs; simpa using hs
            have ts2 : (!s.toList.isEmpty) = true := by rw [ts]; rfl
            clear hc hz hn hs hT0 ih hxs hB
            go_enter Tryz.func75, Tryz.ntmps75
            go_wp2_with (go_at_call 113; refine (Z _).mono ?_; rintro e w1 ⟨rfl, hb1⟩; obtain ⟨q0, q1, q2, q3, q4, q5⟩ := HK.out w1 hb1)
            go_ret
            exact ⟨by rw [R.out]; rfl, hbW.trans (hb1.mono hbW.size)⟩
        · skip
          have R : Hid (T = false) := Lib.hid (by rw [hT0]; unfold headB; simp [hc, hz, hn])
          have tc : ((c : Int) == 0) = true := by simp; omega
          have td : decide ((0 : Int) < (c : Int)) = false := by simp; omega
          have te : decide (0 < c) = false := by simp; omega
          rw [hz] at Z
          have tn : (n == 0) = false := by simpa using hn
          have tn2 : (n != 0) = true := by simpa using hn
          clear hc hz hn hT0 ih hxs hB
          go_enter Tryz.func75, Tryz.ntmps75
          go_wp2_with (go_at_call 113; refine (Z _).mono ?_; rintro e w1 ⟨rfl, hb1⟩; obtain ⟨q0, q1, q2, q3, q4, q5⟩ := HK.out w1 hb1)
          go_ret
          exact ⟨by rw [R.out]; rfl, hbW.trans (hb1.mono hbW.size)⟩
      · skip
        have R : Hid (T = false) := Lib.hid (by rw [hT0]; unfold headB; simp [hc, hz])
        have tc : ((c : Int) == 0) = true := by simp; omega
        have td : decide ((0 : Int) < (c : Int)) = false := by simp; omega
        have te : decide (0 < c) = false := by simp; omega
        rw [show zeroB f = false by simpa using hz] at Z
        clear hc hz hT0 ih hxs hB
        go_enter Tryz.func75, Tryz.ntmps75
        go_wp2_with (go_at_call 113; refine (Z _).mono ?_; rintro e w1 ⟨rfl, hb1⟩; obtain ⟨q0, q1, q2, q3, q4, q5⟩ := HK.out w1 hb1)
        go_ret
        exact ⟨by rw [R.out]; rfl, hbW.trans (hb1.mono hbW.size)⟩
    · skip
      by_cases hz : zeroB f = true
      · skip
        by_cases hn : n = 0
        · skip
          by_cases hs : emptyB s = true
          · skip
            have R : Hid (T = false) := Lib.hid (by rw [hT0]; unfold headB; simp [hc, hz, hn, hs])
            have tc : ((c : Int) == 0) = false := by simp; omega
            have td : decide ((0 : Int) < (c : Int)) = true := by simp; omega
            have te : decide (0 < c) = true := by simp; omega
            rw [hz] at Z
            have tn : (n == 0) = true := by simpa using hn
            have tn2 : (n != 0) = false := by simpa using hn
            have ts : s.toList.isEmpty = true := hs
            have ts2 : (!s.toList.isEmpty) = false := by rw [ts]; rfl
            clear hc hz hn hs hT0 ih hxs hB
            go_enter Tryz.func75, Tryz.ntmps75
            go_wp2_with (go_at_call 113; refine (Z _).mono ?_; rintro e w1 ⟨rfl, hb1⟩; obtain ⟨q0, q1, q2, q3, q4, q5⟩ := HK.out w1 hb1)
            go_ret
            exact ⟨by rw [R.out]; rfl, hbW.trans (hb1.mono hbW.size)⟩
          · skip
            have R : Hid (T = false) := Lib.hid (by rw [hT0]; unfold headB; simp [hc, hz, hn, hs])
            have tc : ((c : Int) == 0) = false := by simp; omega
            have td : decide ((0 : Int) < (c : Int)) = true := by simp; omega
            have te : decide (0 < c) = true := by simp; omega
            rw [hz] at Z
            have tn : (n == 0) = true := by simpa using hn
            have tn2 : (n != 0) = false := by simpa using hn
            have ts : s.toList.isEmpty = false := by unfold emptyB at hs; simpa using hs
            have ts2 : (!s.toList.isEmpty) = true := by rw [ts]; rfl
            clear hc hz hn hs hT0 ih hxs hB
            go_enter Tryz.func75, Tryz.ntmps75
            go_wp2_with (go_at_call 113; refine (Z _).mono ?_; rintro e w1 ⟨rfl, hb1⟩; obtain ⟨q0, q1, q2, q3, q4, q5⟩ := HK.out w1 hb1)
            go_ret
            exact ⟨by rw [R.out]; rfl, hbW.trans (hb1.mono hbW.size)⟩
        · skip
          have R : Hid (T = false) := Lib.hid (by rw [hT0]; unfold headB; simp [hc, hz, hn])
          have tc : ((c : Int) == 0) = false := by simp; omega
          have td : decide ((0 : Int) < (c : Int)) = true := by simp; omega
          have te : decide (0 < c) = true := by simp; omega
          rw [hz] at Z
          have tn : (n == 0) = false := by simpa using hn
          have tn2 : (n != 0) = true := by simpa using hn
          clear hc hz hn hT0 ih hxs hB
          go_enter Tryz.func75, Tryz.ntmps75
          go_wp2_with (go_at_call 113; refine (Z _).mono ?_; rintro e w1 ⟨rfl, hb1⟩; obtain ⟨q0, q1, q2, q3, q4, q5⟩ := HK.out w1 hb1)
          go_ret
          exact ⟨by rw [R.out]; rfl, hbW.trans (hb1.mono hbW.size)⟩
      · skip
        have R : Hid (T = false) := Lib.hid (by rw [hT0]; unfold headB; simp [hc, hz])
        have tc : ((c : Int) == 0) = false := by simp; omega
        have td : decide ((0 : Int) < (c : Int)) = true := by simp; omega
        have te : decide (0 < c) = true := by simp; omega
        rw [show zeroB f = false by simpa using hz] at Z
        clear hc hz hT0 ih hxs hB
        go_enter Tryz.func75, Tryz.ntmps75
        go_wp2_with (go_at_call 113; refine (Z _).mono ?_; rintro e w1 ⟨rfl, hb1⟩; obtain ⟨q0, q1, q2, q3, q4, q5⟩ := HK.out w1 hb1)
        go_ret
        exact ⟨by rw [R.out]; rfl, hbW.trans (hb1.mono hbW.size)⟩
  · skip
    by_cases hc : c = 0
    · skip
      by_cases hz : zeroB f = true
      · skip
        by_cases hn : n = 0
        · skip
          by_cases hs : emptyB s = true
          · skip
            have hT : Hid (T = (List.range m).all (fun i => rightV (xs i) (far - 1))) := Lib.hid (by rw [hT0]; unfold headB; simp [hc, hz, hn, hs])
            have tc : ((c : Int) == 0) = true := by simp; omega
            have td : decide ((0 : Int) < (c : Int)) = false := by simp; omega
            have te : decide (0 < c) = false := by simp; omega
            rw [hz] at Z
            have tn : (n == 0) = true := by simpa using hn
            have tn2 : (n != 0) = false := by simpa using hn
            have ts : s.toList.isEmpty = true := hs
            have ts2 : (!s.toList.isEmpty) = false := by rw [ts]; rfl
            clear hc hz hn hs hT0
            go_enter Tryz.func75, Tryz.ntmps75
            go_wp2_with (go_at_call 113; refine (Z _).mono ?_; rintro e w1 ⟨rfl, hb1⟩; obtain ⟨q0, q1, q2, q3, q4, q5⟩ := HK.out w1 hb1)
            have HW := Lib.hid (And.intro (hbW.trans (hb1.mono hbW.size)) (show w.heap.size < w1.heap.size by have := hb1.size; have := HZ.out; omega))
            have H5 := Lib.hid q5
            clear hbW hb1 q0 q1 q2 q3 q4 q5
            go_loopw [6] (fun iv wr => ∃ i : Nat, i ≤ m ∧ iv = .int .i64 i ∧ Hid (∀ j, j < i → rightV (xs j) (far - 1) = true) ∧ Below w1.heap.size w1 wr) (fun iv _ => m - (intOf iv).toNat)
            case atStart => exact ⟨0, Nat.zero_le _, rfl, Lib.hid fun j hj => absurd hj (by omega), Below.refl _ _⟩
            case round =>
              obtain ⟨i, hi, rfl, hh, hb⟩ := hrel
              have h5r : wr.cell? ⟨w.heap.size, 5, none⟩ = some (.slice B m cb) := (hb.cell (p := ⟨w.heap.size, 5, none⟩) HW.out.2).trans H5.out
              have hfin : Below w.heap.size w wr := HW.out.1.trans (hb.mono HW.out.1.size)
              by_cases hlt : i < m
              · obtain ⟨g, o, rfl, hg, hx⟩ := hB (by omega)
                have hvr := ((hxs i hlt).stay hfin).mono hfin.size
                have hcall := ih i (vs i) (far - 1) wr hvr (by omega) (by omega)
                have hsix := (hx i hlt).keep (w' := wr) fun o => hfin.cell (p := ⟨g, o, none⟩) hg
                obtain ⟨a0, a1, a2, a3, a4, a5, hv0⟩ := (hxs i hlt).six
                rw [hv0] at hsix hcall
                obtain ⟨e0, e1, e2, e3, e4, e5⟩ := hsix.cells
                have yes : rightV (xs i) (far - 1) = true → Hid (∀ j, j < i + 1 → rightV (xs j) (far - 1) = true) := fun hy => Lib.hid fun j hj => by
                  by_cases e : j = i
                  · subst e; exact hy
                  · exact hh.out j (by omega)
                have no : rightV (xs i) (far - 1) = false → Hid (T = false) := fun hn => Lib.hid (by
                  rw [hT.out, List.all_eq_false.2 ⟨i, List.mem_range.2 hlt, by rw [hn]; simp⟩])
                clear hv0 hsix hvr hx hB ih hxs hh
                cases hr : rightV (xs i) (far - 1)
                · have N := no hr
                  rw [hr] at hcall
                  clear yes no hr hT
                  go_wp2_with (go_at_call 75; refine hcall.mono ?_; rintro e w3 ⟨rfl, hb3⟩)
                  go_ret
                  exact ⟨by rw [N.out]; rfl, hfin.trans (hb3.mono hfin.size)⟩
                · have Y := yes hr
                  rw [hr] at hcall
                  clear yes no hr hT
                  go_wp2_with (go_at_call 75; refine hcall.mono ?_; rintro e w3 ⟨rfl, hb3⟩)
                  go_roundw
                  case rel => exact ⟨i + 1, by omega, by go_num, Y, hb.trans (hb3.mono hb.size)⟩
                  case measure => simp [intOf]; omega
              · have R : Hid (T = true) := Lib.hid (by rw [hT.out, List.all_eq_true.2 fun j hj => hh.out j (by have := List.mem_range.1 hj; omega)])
                clear hh hT ih hxs hB
                go_wp2_with fail
                go_ret
                exact ⟨by rw [R.out]; rfl, hfin⟩
          · skip
            have R : Hid (T = false) := Lib.hid (by rw [hT0]; unfold headB; simp [hc, hz, hn, hs])
            have tc : ((c : Int) == 0) = true := by simp; omega
            have td : decide ((0 : Int) < (c : Int)) = false := by simp; omega
            have te : decide (0 < c) = false := by simp; omega
            rw [hz] at Z
            have tn : (n == 0) = true := by simpa using hn
            have tn2 : (n != 0) = false := by simpa using hn
            have ts : s.toList.isEmpty = false := by unfold emptyB at hs; simpa using hs
            have ts2 : (!s.toList.isEmpty) = true := by rw [ts]; rfl
            clear hc hz hn hs hT0 ih hxs hB
            go_enter Tryz.func75, Tryz.ntmps75
            go_wp2_with (go_at_call 113; refine (Z _).mono ?_; rintro e w1 ⟨rfl, hb1⟩; obtain ⟨q0, q1, q2, q3, q4, q5⟩ := HK.out w1 hb1)
            go_ret
            exact ⟨by rw [R.out]; rfl, hbW.trans (hb1.mono hbW.size)⟩
        · skip
          have R : Hid (T = false) := Lib.hid (by rw [hT0]; unfold headB; simp [hc, hz, hn])
          have tc : ((c : Int) == 0) = true := by simp; omega
          have td : decide ((0 : Int) < (c : Int)) = false := by simp; omega
          have te : decide (0 < c) = false := by simp; omega
          rw [hz] at Z
          have tn : (n == 0) = false := by simpa using hn
          have tn2 : (n != 0) = true := by simpa using hn
          clear hc hz hn hT0 ih hxs hB
          go_enter Tryz.func75, Tryz.ntmps75
          go_wp2_with (go_at_call 113; refine (Z _).mono ?_; rintro e w1 ⟨rfl, hb1⟩; obtain ⟨q0, q1, q2, q3, q4, q5⟩ := HK.out w1 hb1)
          go_ret
          exact ⟨by rw [R.out]; rfl, hbW.trans (hb1.mono hbW.size)⟩
      · skip
        have R : Hid (T = false) := Lib.hid (by rw [hT0]; unfold headB; simp [hc, hz])
        have tc : ((c : Int) == 0) = true := by simp; omega
        have td : decide ((0 : Int) < (c : Int)) = false := by simp; omega
        have te : decide (0 < c) = false := by simp; omega
        rw [show zeroB f = false by simpa using hz] at Z
        clear hc hz hT0 ih hxs hB
        go_enter Tryz.func75, Tryz.ntmps75
        go_wp2_with (go_at_call 113; refine (Z _).mono ?_; rintro e w1 ⟨rfl, hb1⟩; obtain ⟨q0, q1, q2, q3, q4, q5⟩ := HK.out w1 hb1)
        go_ret
        exact ⟨by rw [R.out]; rfl, hbW.trans (hb1.mono hbW.size)⟩
    · skip
      by_cases hz : zeroB f = true
      · skip
        by_cases hn : n = 0
        · skip
          by_cases hs : emptyB s = true
          · skip
            have R : Hid (T = false) := Lib.hid (by rw [hT0]; unfold headB; simp [hc, hz, hn, hs])
            have tc : ((c : Int) == 0) = false := by simp; omega
            have td : decide ((0 : Int) < (c : Int)) = true := by simp; omega
            have te : decide (0 < c) = true := by simp; omega
            rw [hz] at Z
            have tn : (n == 0) = true := by simpa using hn
            have tn2 : (n != 0) = false := by simpa using hn
            have ts : s.toList.isEmpty = true := hs
            have ts2 : (!s.toList.isEmpty) = false := by rw [ts]; rfl
            clear hc hz hn hs hT0 ih hxs hB
            go_enter Tryz.func75, Tryz.ntmps75
            go_wp2_with (go_at_call 113; refine (Z _).mono ?_; rintro e w1 ⟨rfl, hb1⟩; obtain ⟨q0, q1, q2, q3, q4, q5⟩ := HK.out w1 hb1)
            go_ret
            exact ⟨by rw [R.out]; rfl, hbW.trans (hb1.mono hbW.size)⟩
          · skip
            have R : Hid (T = false) := Lib.hid (by rw [hT0]; unfold headB; simp [hc, hz, hn, hs])
            have tc : ((c : Int) == 0) = false := by simp; omega
            have td : decide ((0 : Int) < (c : Int)) = true := by simp; omega
            have te : decide (0 < c) = true := by simp; omega
            rw [hz] at Z
            have tn : (n == 0) = true := by simpa using hn
            have tn2 : (n != 0) = false := by simpa using hn
            have ts : s.toList.isEmpty = false := by unfold emptyB at hs; simpa using hs
            have ts2 : (!s.toList.isEmpty) = true := by rw [ts]; rfl
            clear hc hz hn hs hT0 ih hxs hB
            go_enter Tryz.func75, Tryz.ntmps75
            go_wp2_with (go_at_call 113; refine (Z _).mono ?_; rintro e w1 ⟨rfl, hb1⟩; obtain ⟨q0, q1, q2, q3, q4, q5⟩ := HK.out w1 hb1)
            go_ret
            exact ⟨by rw [R.out]; rfl, hbW.trans (hb1.mono hbW.size)⟩
        · skip
          have R : Hid (T = false) := Lib.hid (by rw [hT0]; unfold headB; simp [hc, hz, hn])
          have tc : ((c : Int) == 0) = false := by simp; omega
          have td : decide ((0 : Int) < (c : Int)) = true := by simp; omega
          have te : decide (0 < c) = true := by simp; omega
          rw [hz] at Z
          have tn : (n == 0) = false := by simpa using hn
          have tn2 : (n != 0) = true := by simpa using hn
          clear hc hz hn hT0 ih hxs hB
          go_enter Tryz.func75, Tryz.ntmps75
          go_wp2_with (go_at_call 113; refine (Z _).mono ?_; rintro e w1 ⟨rfl, hb1⟩; obtain ⟨q0, q1, q2, q3, q4, q5⟩ := HK.out w1 hb1)
          go_ret
          exact ⟨by rw [R.out]; rfl, hbW.trans (hb1.mono hbW.size)⟩
      · skip
        have R : Hid (T = false) := Lib.hid (by rw [hT0]; unfold headB; simp [hc, hz])
        have tc : ((c : Int) == 0) = false := by simp; omega
        have td : decide ((0 : Int) < (c : Int)) = true := by simp; omega
        have te : decide (0 < c) = true := by simp; omega
        rw [show zeroB f = false by simpa using hz] at Z
        clear hc hz hT0 ih hxs hB
        go_enter Tryz.func75, Tryz.ntmps75
        go_wp2_with (go_at_call 113; refine (Z _).mono ?_; rintro e w1 ⟨rfl, hb1⟩; obtain ⟨q0, q1, q2, q3, q4, q5⟩ := HK.out w1 hb1)
        go_ret
        exact ⟨by rw [R.out]; rfl, hbW.trans (hb1.mono hbW.size)⟩
end Go.Proofs.YtcmohggnehkjeaaGreat
