/-
  The document's Next: the walk.
-/
import Derived.Test.YtcmohggnehkjeaaGreatUi
namespace Go.Proofs.YtcmohggnehkjeaaGreat
open Go.RowKit

set_option maxRecDepth 20000 in
set_option maxHeartbeats 8000000 in
theorem Next_in {s : ByteArray} {a : Nat} (ha : a ≤ s.size) (hs2 : s.size ≤ 2000) (w : World) : Calls Tryz.prog 141 #[.string s, .int .i64 a] w fun e w' => e = .returned (refV (nextN s a)) ∧ Below w.heap.size w w' := by
  have hs : s.size ≤ 100000 := by omega
  obtain ⟨B, hB⟩ : ∃ B, a + blkN (left s a) = B := ⟨_, rfl⟩
  obtain ⟨N, hN⟩ : ∃ N, nxOf B (headT (left s B)) = N := ⟨_, rfl⟩
  have hnx : nextN s a = N := by
    unfold nextN
    rw [if_neg (by omega), show ((a : Int)).toNat = a by omega, hB, hN]
  rw [hnx]
  obtain ⟨r, hr⟩ : ∃ r, r = refV N := ⟨_, rfl⟩
  rw [← hr]
  have HR := Lib.hid hr
  have HN := Lib.hid hN
  have HB := Lib.hid hB
  have t1 : ¬ (a : Int) < 0 := by omega
  have t2 : ¬ s.size < a := by omega
  have t3 : ¬ 2000 < s.size := by omega
  have SF := float_store
  clear hr hN hnx hB
  go_enter Tryz.func141, Tryz.ntmps141
  go_wp2_with fail
  go_loopw [1] (fun iv wr => ∃ k : Nat, a ≤ k ∧ k ≤ s.size ∧ iv = .int .i64 k ∧ Hid (k + blkN (left s k) = B) ∧ wr = w.alloc (.cells #[.int .i64 0, .int .i64 0, .int .i64 0, .int .i64 0, .float .f64 0, .string ⟨#[]⟩] 174)) (fun iv _ => s.size - (intOf iv).toNat)
  case atStart => exact ⟨a, Nat.le_refl _, ha, rfl, HB, rfl⟩
  case round =>
    obtain ⟨k, hak, hk, rfl, hF, rfl⟩ := hrel
    by_cases hlt : k < s.size
    · obtain ⟨c, hc⟩ : ∃ c, s[k] = c := ⟨_, rfl⟩
      have BC := fun W => blank_any c W
      have hF' := hF.out
      rw [left_cons hlt, hc] at hF'
      cases hb : blkB c with
      | true =>
        rw [hb] at BC
        have HF : Hid (k + 1 + blkN (left s (k + 1)) = B) := Lib.hid (by unfold blkN at hF' ⊢; rw [tw_cons hb] at hF'; omega)
        clear hF hF' hb
        go_wp2_with (go_at_call 168; refine (BC _).mono ?_; rintro e w1 ⟨rfl, rfl⟩)
        go_roundw
        case rel => exact ⟨k + 1, by omega, by omega, by go_num, HF, trivial⟩
        case measure => simp [intOf]; omega
      | false =>
        rw [hb] at BC
        have HK : Hid (k = B) := Lib.hid (by unfold blkN at hF'; rw [tw_stop hb] at hF'; omega)
        have tk : ((k : Int) == (s.size : Int)) = false := by rw [beq_eq_false_iff_ne]; omega
        have DC := fun W => digit_any c W
        have LC := fun W => letter_any c W
        have ha2 : k ≤ s.size := hk
        clear hF hF' hb
        cases hD : isD c with
        | true =>
          have hHd : headT (left s k) = numT (left s k) := by
            have e := left_cons hlt
            rw [hc] at e
            conv => lhs; rw [e]
            rw [headT_cons, ← e]
            rw [if_pos hD]
          have C := fun W => lexnum_any hs ha2 W
          rw [hD] at DC
          unfold tok0 ktokV at C
          cases hT : numT (left s k) with
          | ok t =>
            rw [hT] at C hHd
            have hr : r = .tuple #[.agg #[.int .i64 t.k, .int .i64 k, .int .i64 ((k + t.len : Nat) : Int), .int .i64 t.n, .float .f64 t.f, .string (strL t.s)], .int .i64 k, .int .i64 0] := by
              rw [HR.out, ← HN.out, ← HK.out, hHd]; rfl
            have C' : ∀ W, Calls Tryz.prog 170 #[.string s, .agg #[.int .i64 1, .int .i64 k, .int .i64 k, .int .i64 0, .float .f64 0, .string ⟨#[]⟩]] W fun e w' => e = .returned (.tuple #[.agg #[.int .i64 t.k, .int .i64 k, .int .i64 ((k + t.len : Nat) : Int), .int .i64 t.n, .float .f64 t.f, .string (strL t.s)], .int .i64 0]) ∧ Below W.heap.size W w' := C
            have HR2 := Lib.hid hr
            generalize ((k + t.len : Nat) : Int) = nx at C' HR2
            generalize strL t.s = ss at C' HR2
            clear C hHd hr hT hD
            go_wp2_with (first | (go_at_call 168; refine (BC _).mono ?_; rintro e w1 ⟨rfl, rfl⟩) | (go_at_call 169; refine (DC _).mono ?_; rintro e w1 ⟨rfl, rfl⟩) | (go_at_call 170; refine (C' _).mono ?_; rintro e w4 ⟨rfl, hb4⟩; refine Hid.out ?_))
            refine Lib.hid ?_
            have hW4 := (NW.start w #[.int .i64 1, .int .i64 k, .int .i64 k, .int .i64 0, .float .f64 0, .string ⟨#[]⟩]).step hb4
            obtain ⟨c0, c1, c2, c3, c4, c5, cf⟩ := hW4.tok.cells
            obtain ⟨a0, a1, a2, a3, a4, a5, d0, d1, d2, d3, d4, d5, df⟩ := hW4.out6
            have HW4 := Lib.hid hW4
            clear hW4 hb4 C'
            go_wp2_with fail
            exact six_ends rfl (HW4.out.fill rfl _ _ _ _ _ _) rfl rfl rfl HR2.out
          | err y =>
            rw [hT] at C hHd
            have hy := headT_err hHd
            have ty : (y == 0) = false := by rw [beq_eq_false_iff_ne]; exact hy
            have ty2 : (y != 0) = true := by rw [bne, ty]; rfl
            have hr : r = .tuple #[.agg #[.int .i64 0, .int .i64 0, .int .i64 0, .int .i64 0, .float .f64 0, .string ⟨#[]⟩], .int .i64 k, .int .i64 y] := by
              rw [HR.out, ← HN.out, ← HK.out, hHd]; rfl
            have C' : ∀ W, Calls Tryz.prog 170 #[.string s, .agg #[.int .i64 1, .int .i64 k, .int .i64 k, .int .i64 0, .float .f64 0, .string ⟨#[]⟩]] W fun e w' => (∃ k i b n f s, e = .returned (.tuple #[.agg #[.int .i64 k, .int .i64 i, .int .i64 b, .int .i64 n, .float .f64 f, .string s], .int .i64 y])) ∧ Below W.heap.size W w' := C
            have HR2 := Lib.hid hr
            clear C hHd hr hT hy hD
            go_wp2_with (first | (go_at_call 168; refine (BC _).mono ?_; rintro e w1 ⟨rfl, rfl⟩) | (go_at_call 169; refine (DC _).mono ?_; rintro e w1 ⟨rfl, rfl⟩) | (go_at_call 170; refine (C' _).mono ?_; rintro e w4 ⟨⟨k', i', b', n', f', s', rfl⟩, hb4⟩; refine Hid.out ?_))
            refine Lib.hid ?_
            have hW4 := (NW.start w #[.int .i64 1, .int .i64 k, .int .i64 k, .int .i64 0, .float .f64 0, .string ⟨#[]⟩]).step hb4
            obtain ⟨c0, c1, c2, c3, c4, c5, cf⟩ := hW4.tok.cells
            obtain ⟨a0, a1, a2, a3, a4, a5, d0, d1, d2, d3, d4, d5, df⟩ := hW4.out6
            have HW4 := Lib.hid hW4
            clear hW4 hb4 C'
            go_wp2_with fail
            exact six_ends rfl (HW4.out.fill rfl _ _ _ _ _ _) rfl rfl rfl HR2.out
        | false =>
          cases hL : letB c with
          | true =>
            have hHd : headT (left s k) = nameT (left s k) := by
              have e := left_cons hlt
              rw [hc] at e
              conv => lhs; rw [e]
              rw [headT_cons, ← e]
              rw [if_neg (by rw [hD]; exact Bool.false_ne_true), if_pos hL]
            have C := fun W => lexname_any hs ha2 W
            rw [hD] at DC
            rw [hL] at LC
            unfold tok0 ktokV at C
            cases hT : nameT (left s k) with
            | ok t =>
              rw [hT] at C hHd
              have hr : r = .tuple #[.agg #[.int .i64 t.k, .int .i64 k, .int .i64 ((k + t.len : Nat) : Int), .int .i64 t.n, .float .f64 t.f, .string (strL t.s)], .int .i64 k, .int .i64 0] := by
                rw [HR.out, ← HN.out, ← HK.out, hHd]; rfl
              have C' : ∀ W, Calls Tryz.prog 172 #[.string s, .agg #[.int .i64 1, .int .i64 k, .int .i64 k, .int .i64 0, .float .f64 0, .string ⟨#[]⟩]] W fun e w' => e = .returned (.tuple #[.agg #[.int .i64 t.k, .int .i64 k, .int .i64 ((k + t.len : Nat) : Int), .int .i64 t.n, .float .f64 t.f, .string (strL t.s)], .int .i64 0]) ∧ Below W.heap.size W w' := C
              have HR2 := Lib.hid hr
              generalize ((k + t.len : Nat) : Int) = nx at C' HR2
              generalize strL t.s = ss at C' HR2
              clear C hHd hr hT hD hL
              go_wp2_with (first | (go_at_call 168; refine (BC _).mono ?_; rintro e w1 ⟨rfl, rfl⟩) | (go_at_call 169; refine (DC _).mono ?_; rintro e w1 ⟨rfl, rfl⟩) | (go_at_call 171; refine (LC _).mono ?_; rintro e w1 ⟨rfl, rfl⟩) | (go_at_call 172; refine (C' _).mono ?_; rintro e w4 ⟨rfl, hb4⟩; refine Hid.out ?_))
              refine Lib.hid ?_
              have hW4 := (NW.start w #[.int .i64 1, .int .i64 k, .int .i64 k, .int .i64 0, .float .f64 0, .string ⟨#[]⟩]).step hb4
              obtain ⟨c0, c1, c2, c3, c4, c5, cf⟩ := hW4.tok.cells
              obtain ⟨a0, a1, a2, a3, a4, a5, d0, d1, d2, d3, d4, d5, df⟩ := hW4.out6
              have HW4 := Lib.hid hW4
              clear hW4 hb4 C'
              go_wp2_with fail
              exact six_ends rfl (HW4.out.fill rfl _ _ _ _ _ _) rfl rfl rfl HR2.out
            | err y =>
              rw [hT] at C hHd
              have hy := headT_err hHd
              have ty : (y == 0) = false := by rw [beq_eq_false_iff_ne]; exact hy
              have ty2 : (y != 0) = true := by rw [bne, ty]; rfl
              have hr : r = .tuple #[.agg #[.int .i64 0, .int .i64 0, .int .i64 0, .int .i64 0, .float .f64 0, .string ⟨#[]⟩], .int .i64 k, .int .i64 y] := by
                rw [HR.out, ← HN.out, ← HK.out, hHd]; rfl
              have C' : ∀ W, Calls Tryz.prog 172 #[.string s, .agg #[.int .i64 1, .int .i64 k, .int .i64 k, .int .i64 0, .float .f64 0, .string ⟨#[]⟩]] W fun e w' => (∃ k i b n f s, e = .returned (.tuple #[.agg #[.int .i64 k, .int .i64 i, .int .i64 b, .int .i64 n, .float .f64 f, .string s], .int .i64 y])) ∧ Below W.heap.size W w' := C
              have HR2 := Lib.hid hr
              clear C hHd hr hT hy hD hL
              go_wp2_with (first | (go_at_call 168; refine (BC _).mono ?_; rintro e w1 ⟨rfl, rfl⟩) | (go_at_call 169; refine (DC _).mono ?_; rintro e w1 ⟨rfl, rfl⟩) | (go_at_call 171; refine (LC _).mono ?_; rintro e w1 ⟨rfl, rfl⟩) | (go_at_call 172; refine (C' _).mono ?_; rintro e w4 ⟨⟨k', i', b', n', f', s', rfl⟩, hb4⟩; refine Hid.out ?_))
              refine Lib.hid ?_
              have hW4 := (NW.start w #[.int .i64 1, .int .i64 k, .int .i64 k, .int .i64 0, .float .f64 0, .string ⟨#[]⟩]).step hb4
              obtain ⟨c0, c1, c2, c3, c4, c5, cf⟩ := hW4.tok.cells
              obtain ⟨a0, a1, a2, a3, a4, a5, d0, d1, d2, d3, d4, d5, df⟩ := hW4.out6
              have HW4 := Lib.hid hW4
              clear hW4 hb4 C'
              go_wp2_with fail
              exact six_ends rfl (HW4.out.fill rfl _ _ _ _ _ _) rfl rfl rfl HR2.out
          | false =>
            by_cases h34 : c = 34
            · have _h := trivial
              have hHd : headT (left s k) = strT (left s k) := by
                have e := left_cons hlt
                rw [hc] at e
                conv => lhs; rw [e]
                rw [headT_cons, ← e]
                rw [if_neg (by rw [hD]; exact Bool.false_ne_true), if_neg (by rw [hL]; exact Bool.false_ne_true), if_pos h34]
              have C := fun W => str_any hs hlt W
              rw [hD] at DC
              rw [hL] at LC
              have t34 : ((c.toNat : Int) == 34) = true := by rw [h34]; rfl
              unfold tok0 ktokV at C
              cases hT : strT (left s k) with
              | ok t =>
                rw [hT] at C hHd
                have hr : r = .tuple #[.agg #[.int .i64 t.k, .int .i64 k, .int .i64 ((k + t.len : Nat) : Int), .int .i64 t.n, .float .f64 t.f, .string (strL t.s)], .int .i64 k, .int .i64 0] := by
                  rw [HR.out, ← HN.out, ← HK.out, hHd]; rfl
                have C' : ∀ W, Calls Tryz.prog 173 #[.string s, .agg #[.int .i64 1, .int .i64 k, .int .i64 k, .int .i64 0, .float .f64 0, .string ⟨#[]⟩]] W fun e w' => e = .returned (.tuple #[.agg #[.int .i64 t.k, .int .i64 k, .int .i64 ((k + t.len : Nat) : Int), .int .i64 t.n, .float .f64 t.f, .string (strL t.s)], .int .i64 0]) ∧ Below W.heap.size W w' := C
                have HR2 := Lib.hid hr
                generalize ((k + t.len : Nat) : Int) = nx at C' HR2
                generalize strL t.s = ss at C' HR2
                clear C hHd hr hT hD hL h34
                go_wp2_with (first | (go_at_call 168; refine (BC _).mono ?_; rintro e w1 ⟨rfl, rfl⟩) | (go_at_call 169; refine (DC _).mono ?_; rintro e w1 ⟨rfl, rfl⟩) | (go_at_call 171; refine (LC _).mono ?_; rintro e w1 ⟨rfl, rfl⟩) | (go_at_call 173; refine (C' _).mono ?_; rintro e w4 ⟨rfl, hb4⟩; refine Hid.out ?_))
                refine Lib.hid ?_
                have hW4 := (NW.start w #[.int .i64 1, .int .i64 k, .int .i64 k, .int .i64 0, .float .f64 0, .string ⟨#[]⟩]).step hb4
                obtain ⟨c0, c1, c2, c3, c4, c5, cf⟩ := hW4.tok.cells
                obtain ⟨a0, a1, a2, a3, a4, a5, d0, d1, d2, d3, d4, d5, df⟩ := hW4.out6
                have HW4 := Lib.hid hW4
                clear hW4 hb4 C'
                go_wp2_with fail
                exact six_ends rfl (HW4.out.fill rfl _ _ _ _ _ _) rfl rfl rfl HR2.out
              | err y =>
                rw [hT] at C hHd
                have hy := headT_err hHd
                have ty : (y == 0) = false := by rw [beq_eq_false_iff_ne]; exact hy
                have ty2 : (y != 0) = true := by rw [bne, ty]; rfl
                have hr : r = .tuple #[.agg #[.int .i64 0, .int .i64 0, .int .i64 0, .int .i64 0, .float .f64 0, .string ⟨#[]⟩], .int .i64 k, .int .i64 y] := by
                  rw [HR.out, ← HN.out, ← HK.out, hHd]; rfl
                have C' : ∀ W, Calls Tryz.prog 173 #[.string s, .agg #[.int .i64 1, .int .i64 k, .int .i64 k, .int .i64 0, .float .f64 0, .string ⟨#[]⟩]] W fun e w' => (∃ k i b n f s, e = .returned (.tuple #[.agg #[.int .i64 k, .int .i64 i, .int .i64 b, .int .i64 n, .float .f64 f, .string s], .int .i64 y])) ∧ Below W.heap.size W w' := C
                have HR2 := Lib.hid hr
                clear C hHd hr hT hy hD hL h34
                go_wp2_with (first | (go_at_call 168; refine (BC _).mono ?_; rintro e w1 ⟨rfl, rfl⟩) | (go_at_call 169; refine (DC _).mono ?_; rintro e w1 ⟨rfl, rfl⟩) | (go_at_call 171; refine (LC _).mono ?_; rintro e w1 ⟨rfl, rfl⟩) | (go_at_call 173; refine (C' _).mono ?_; rintro e w4 ⟨⟨k', i', b', n', f', s', rfl⟩, hb4⟩; refine Hid.out ?_))
                refine Lib.hid ?_
                have hW4 := (NW.start w #[.int .i64 1, .int .i64 k, .int .i64 k, .int .i64 0, .float .f64 0, .string ⟨#[]⟩]).step hb4
                obtain ⟨c0, c1, c2, c3, c4, c5, cf⟩ := hW4.tok.cells
                obtain ⟨a0, a1, a2, a3, a4, a5, d0, d1, d2, d3, d4, d5, df⟩ := hW4.out6
                have HW4 := Lib.hid hW4
                clear hW4 hb4 C'
                go_wp2_with fail
                exact six_ends rfl (HW4.out.fill rfl _ _ _ _ _ _) rfl rfl rfl HR2.out
            · have _h := trivial
              have hHd : headT (left s k) = signT (left s k) c := by
                have e := left_cons hlt
                rw [hc] at e
                conv => lhs; rw [e]
                rw [headT_cons, ← e]
                rw [if_neg (by rw [hD]; exact Bool.false_ne_true), if_neg (by rw [hL]; exact Bool.false_ne_true), if_neg h34]
              have C := fun W => ksign_any hs hlt hc W
              rw [hD] at DC
              rw [hL] at LC
              have t34 : ((c.toNat : Int) == 34) = false := (u8_eqI (c := c) 34 34 rfl).trans (decide_eq_false h34)
              unfold tok0 ktokV at C
              cases hT : signT (left s k) c with
              | ok t =>
                rw [hT] at C hHd
                have hr : r = .tuple #[.agg #[.int .i64 t.k, .int .i64 k, .int .i64 ((k + t.len : Nat) : Int), .int .i64 t.n, .float .f64 t.f, .string (strL t.s)], .int .i64 k, .int .i64 0] := by
                  rw [HR.out, ← HN.out, ← HK.out, hHd]; rfl
                have C' : ∀ W, Calls Tryz.prog 174 #[.string s, .agg #[.int .i64 1, .int .i64 k, .int .i64 k, .int .i64 0, .float .f64 0, .string ⟨#[]⟩]] W fun e w' => e = .returned (.tuple #[.agg #[.int .i64 t.k, .int .i64 k, .int .i64 ((k + t.len : Nat) : Int), .int .i64 t.n, .float .f64 t.f, .string (strL t.s)], .int .i64 0]) ∧ Below W.heap.size W w' := C
                have HR2 := Lib.hid hr
                generalize ((k + t.len : Nat) : Int) = nx at C' HR2
                generalize strL t.s = ss at C' HR2
                clear C hHd hr hT hD hL h34
                go_wp2_with (first | (go_at_call 168; refine (BC _).mono ?_; rintro e w1 ⟨rfl, rfl⟩) | (go_at_call 169; refine (DC _).mono ?_; rintro e w1 ⟨rfl, rfl⟩) | (go_at_call 171; refine (LC _).mono ?_; rintro e w1 ⟨rfl, rfl⟩) | (go_at_call 174; refine (C' _).mono ?_; rintro e w4 ⟨rfl, hb4⟩; refine Hid.out ?_))
                refine Lib.hid ?_
                have hW4 := (NW.start w #[.int .i64 1, .int .i64 k, .int .i64 k, .int .i64 0, .float .f64 0, .string ⟨#[]⟩]).step hb4
                obtain ⟨c0, c1, c2, c3, c4, c5, cf⟩ := hW4.tok.cells
                obtain ⟨a0, a1, a2, a3, a4, a5, d0, d1, d2, d3, d4, d5, df⟩ := hW4.out6
                have HW4 := Lib.hid hW4
                clear hW4 hb4 C'
                go_wp2_with fail
                exact six_ends rfl (HW4.out.fill rfl _ _ _ _ _ _) rfl rfl rfl HR2.out
              | err y =>
                rw [hT] at C hHd
                have hy := headT_err hHd
                have ty : (y == 0) = false := by rw [beq_eq_false_iff_ne]; exact hy
                have ty2 : (y != 0) = true := by rw [bne, ty]; rfl
                have hr : r = .tuple #[.agg #[.int .i64 0, .int .i64 0, .int .i64 0, .int .i64 0, .float .f64 0, .string ⟨#[]⟩], .int .i64 k, .int .i64 y] := by
                  rw [HR.out, ← HN.out, ← HK.out, hHd]; rfl
                have C' : ∀ W, Calls Tryz.prog 174 #[.string s, .agg #[.int .i64 1, .int .i64 k, .int .i64 k, .int .i64 0, .float .f64 0, .string ⟨#[]⟩]] W fun e w' => (∃ k i b n f s, e = .returned (.tuple #[.agg #[.int .i64 k, .int .i64 i, .int .i64 b, .int .i64 n, .float .f64 f, .string s], .int .i64 y])) ∧ Below W.heap.size W w' := C
                have HR2 := Lib.hid hr
                clear C hHd hr hT hy hD hL h34
                go_wp2_with (first | (go_at_call 168; refine (BC _).mono ?_; rintro e w1 ⟨rfl, rfl⟩) | (go_at_call 169; refine (DC _).mono ?_; rintro e w1 ⟨rfl, rfl⟩) | (go_at_call 171; refine (LC _).mono ?_; rintro e w1 ⟨rfl, rfl⟩) | (go_at_call 174; refine (C' _).mono ?_; rintro e w4 ⟨⟨k', i', b', n', f', s', rfl⟩, hb4⟩; refine Hid.out ?_))
                refine Lib.hid ?_
                have hW4 := (NW.start w #[.int .i64 1, .int .i64 k, .int .i64 k, .int .i64 0, .float .f64 0, .string ⟨#[]⟩]).step hb4
                obtain ⟨c0, c1, c2, c3, c4, c5, cf⟩ := hW4.tok.cells
                obtain ⟨a0, a1, a2, a3, a4, a5, d0, d1, d2, d3, d4, d5, df⟩ := hW4.out6
                have HW4 := Lib.hid hW4
                clear hW4 hb4 C'
                go_wp2_with fail
                exact six_ends rfl (HW4.out.fill rfl _ _ _ _ _ _) rfl rfl rfl HR2.out
    · have hk2 : k = s.size := by omega
      have tk : ((k : Int) == (s.size : Int)) = true := by rw [beq_iff_eq]; omega
      have hl : left s k = [] := left_nil (by omega)
      have hkB : k = B := by
        have := hF.out
        rw [hl] at this
        simpa [blkN] using this
      have hr : r = .tuple #[.agg #[.int .i64 1, .int .i64 k, .int .i64 k, .int .i64 0, .float .f64 0, .string ⟨#[]⟩], .int .i64 k, .int .i64 0] := by
        rw [HR.out, ← HN.out, ← hkB, hl]; rfl
      have hx := (Bx.new w #[.int .i64 1, .int .i64 k, .int .i64 k, .int .i64 0, .float .f64 0, .string ⟨#[]⟩]).alloc (.cells #[.int .i64 1, .int .i64 k, .int .i64 k, .int .i64 0, .float .f64 0, .string ⟨#[]⟩] 174)
      have hb : Below w.heap.size w ((w.alloc (.cells #[.int .i64 1, .int .i64 k, .int .i64 k, .int .i64 0, .float .f64 0, .string ⟨#[]⟩] 174)).alloc (.cells #[.int .i64 1, .int .i64 k, .int .i64 k, .int .i64 0, .float .f64 0, .string ⟨#[]⟩] 174)) := ((Below.refl _ _).alloc (Nat.le_refl _) _).alloc (by simp) _
      have HX := Lib.hid hx
      have HB2 := Lib.hid hb
      have HR2 := Lib.hid hr
      clear hF hl hkB hr hx hb hk2
      go_wp2_with fail
      exact bodyPost_ret (results_next rfl _ _ w.heap.size _ _ _ _ _ _ _ _ rfl rfl rfl HX.out) rfl ⟨by rw [HR2.out]; rfl, HB2.out⟩
theorem Nextr_any {s : ByteArray} {a : Int} (w : World) : Calls Tryz.prog 141 #[.string s, .int .i64 a] w fun e w' => e = .returned (refV (nextN s a)) ∧ Below w.heap.size w w' := by
  by_cases h : a < 0 ∨ (s.size : Int) < a ∨ 2000 < s.size
  · have : nextN s a = .range := by unfold nextN; rw [if_pos h]
    rw [this]
    exact Next_range h w
  · obtain ⟨i, rfl⟩ : ∃ i : Nat, a = i := ⟨a.toNat, by omega⟩
    exact Next_in (by omega) (by omega) w
end Go.Proofs.YtcmohggnehkjeaaGreat
