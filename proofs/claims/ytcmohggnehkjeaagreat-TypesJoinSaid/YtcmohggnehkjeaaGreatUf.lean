/-
  The document's name.
-/
import Derived.Test.YtcmohggnehkjeaaGreatUe
namespace Go.Proofs.YtcmohggnehkjeaaGreat
open Go.RowKit

set_option maxRecDepth 20000 in
set_option maxHeartbeats 2000000 in
theorem name_flonan {s : ByteArray} {a : Nat} {W : List UInt8} (hs : s.size ≤ 100000) (ha : a ≤ s.size) (hWd : W = (left s a).takeWhile namB) (hW0 : W = nanL) (w : World) :
    Calls Tryz.prog 172 #[.string s, .agg (tok0 a)] w fun e w' => HdEnds a (.ok ⟨3, W.length, 0, floW (parseV W), []⟩) w e w' := by
  have hW := RW.start w (tok0 a)
  have SF := float_store
  obtain ⟨R, hR⟩ : ∃ R, a + W.length = R := ⟨_, rfl⟩
  have hRs : R ≤ s.size := by
    have h1 : W.length ≤ (left s a).length := by rw [hWd]; exact (List.takeWhile_sublist _).length_le
    have h2 := left_len s a
    omega
  have haR : a ≤ R := by omega
  have hx : s.extract a R = strL W := by
    rw [ext_self s a R, show R - a = W.length by omega]
    congr 1
    rw [hWd]
    exact (List.prefix_iff_eq_take.1 (List.takeWhile_prefix namB)).symm
  have T1 : ((s.extract a R).toList == [110, 97, 110]) = true := by rw [hx, hW0]; exact beq_yes (by rw [str_is]; rfl)
  have PR := fun X => Parse_ref (show W.length ≤ 100000 by rw [hW0]; decide) X
  rw [← hx, parse_pair W] at PR
  generalize floW (parseV W) = F at PR ⊢
  generalize errW (parseV W) = E at PR
  have HR : Hid (a + ((left s a).takeWhile namB).length = R) := Lib.hid (by rw [← hWd]; exact hR)
  obtain ⟨v, hv⟩ : ∃ v, s.extract a R = v := ⟨_, rfl⟩
  rw [hv] at hx T1 PR
  have HX := Lib.hid hx
  have HL := Lib.hid hR
  clear hWd hR hx hW0
  unfold tok0 ktokV at *
  go_enter Tryz.func172, Tryz.ntmps172
  go_wp2_with fail
  generalize ((w.alloc (.cells #[.int .i64 1, .int .i64 a, .int .i64 a, .int .i64 0, .float .f64 0, .string ⟨#[]⟩] 174)).alloc (.cells #[.int .i64 0, .int .i64 0, .int .i64 0, .int .i64 0, .float .f64 0, .string ⟨#[]⟩] 174)) = w2 at hW ⊢
  obtain ⟨c0, c1, c2, c3, c4, c5, cf⟩ := hW.tok.cells
  obtain ⟨a0, a1, a2, a3, a4, a5, d0, d1, d2, d3, d4, d5⟩ := hW.out6
  have df := hW.free
  have HW := Lib.hid hW
  clear hW
  go_loopw [6] (fun iv wr => ∃ k : Nat, a ≤ k ∧ k ≤ s.size ∧ iv = .int .i64 k ∧ Hid (k + ((left s k).takeWhile namB).length = R) ∧ wr = w2) (fun iv _ => s.size - (intOf iv).toNat)
  case atStart => exact ⟨a, Nat.le_refl _, ha, rfl, HR, rfl⟩
  case round =>
    obtain ⟨k, hak, hk, rfl, hF, rfl⟩ := hrel
    by_cases hlt : k < s.size
    · obtain ⟨c, hc⟩ : ∃ c, s[k] = c := ⟨_, rfl⟩
      have hF' := hF.out
      rw [left_cons hlt, hc] at hF'
      have LC := fun W => letter_any c W
      have DC := fun W => digit_any c W
      cases hl : letB c with
      | true =>
        rw [hl] at LC
        have HN : Hid (k + 1 + ((left s (k + 1)).takeWhile namB).length = R) := Lib.hid (by
          rw [tw_cons (by unfold namB; rw [hl]; rfl)] at hF'; omega)
        clear hF' hF hl DC
        go_wp2_with (go_at_call 171; refine (LC _).mono ?_; rintro e w1 ⟨rfl, rfl⟩)
        go_roundw
        case rel => exact ⟨k + 1, by omega, by omega, by go_num, HN, trivial⟩
        case measure => simp [intOf]; omega
      | false =>
        rw [hl] at LC
        cases hd : isD c with
        | true =>
          rw [hd] at DC
          have HN : Hid (k + 1 + ((left s (k + 1)).takeWhile namB).length = R) := Lib.hid (by
            rw [tw_cons (by unfold namB; rw [hl, hd]; rfl)] at hF'; omega)
          clear hF' hF hl hd
          go_wp2_with (first | (go_at_call 171; refine (LC _).mono ?_; rintro e w1 ⟨rfl, rfl⟩) | (go_at_call 169; refine (DC _).mono ?_; rintro e w1 ⟨rfl, rfl⟩))
          go_roundw
          case rel => exact ⟨k + 1, by omega, by omega, by go_num, HN, trivial⟩
          case measure => simp [intOf]; omega
        | false =>
          rw [hd] at DC
          by_cases h95 : c.toNat = 95
          · have t95 : ((c.toNat : Int) == 95) = true := by rw [beq_iff_eq]; omega
            have HN : Hid (k + 1 + ((left s (k + 1)).takeWhile namB).length = R) := Lib.hid (by
              rw [tw_cons (by unfold namB; rw [hl, hd, h95]; rfl)] at hF'; omega)
            clear hF' hF hl hd h95
            go_wp2_with (first | (go_at_call 171; refine (LC _).mono ?_; rintro e w1 ⟨rfl, rfl⟩) | (go_at_call 169; refine (DC _).mono ?_; rintro e w1 ⟨rfl, rfl⟩))
            go_roundw
            case rel => exact ⟨k + 1, by omega, by omega, by go_num, HN, trivial⟩
            case measure => simp [intOf]; omega
          · have t95 : ((c.toNat : Int) == 95) = false := by rw [beq_eq_false_iff_ne]; omega
            have hkR : k = R := by
              rw [tw_stop (by unfold namB; rw [hl, hd, decide_eq_false h95]; rfl)] at hF'; omega
            clear hF' hF hl hd h95
            subst hkR
            go_wp2_with (first | (go_at_call 171; refine (LC _).mono ?_; rintro e w1 ⟨rfl, rfl⟩) | (go_at_call 169; refine (DC _).mono ?_; rintro e w1 ⟨rfl, rfl⟩) | (go_at_call 198; refine (PR _).mono ?_; rintro e w4 ⟨rfl, hb4⟩; refine Hid.out ?_))
            refine Lib.hid ?_
            have hW4 : RW w w4 #[.int .i64 3, .int .i64 a, .int .i64 k, .int .i64 0, .float .f64 0, .string ⟨#[]⟩] := ((HW.out.set 2 (.int .i64 k)).set 0 (.int .i64 3)).step hb4
            clear c0 c1 c2 c3 c4 c5 cf d0 d1 d2 d3 d4 d5 df hb4
            obtain ⟨c0, c1, c2, c3, c4, c5, cf⟩ := hW4.tok.cells
            obtain ⟨b0, b1, b2, b3, b4, b5, d0, d1, d2, d3, d4, d5⟩ := hW4.out6
            have df := hW4.free
            have HW4 := Lib.hid hW4
            clear hW4 HW
            go_wp2_with fail
            exact RW.good (t := ⟨3, W.length, 0, F, []⟩) rfl (HW4.out.set 4 _) rfl rfl (by have := HL.out; show (k : Int) = ((a + W.length : Nat) : Int); omega) rfl rfl
    · have hkR : k = R := by
        have hF' := hF.out
        rw [left_nil (by omega)] at hF'
        simpa using hF'
      clear hF
      subst hkR
      go_wp2_with (first | (go_at_call 198; refine (PR _).mono ?_; rintro e w4 ⟨rfl, hb4⟩; refine Hid.out ?_))
      refine Lib.hid ?_
      have hW4 : RW w w4 #[.int .i64 3, .int .i64 a, .int .i64 k, .int .i64 0, .float .f64 0, .string ⟨#[]⟩] := ((HW.out.set 2 (.int .i64 k)).set 0 (.int .i64 3)).step hb4
      clear c0 c1 c2 c3 c4 c5 cf d0 d1 d2 d3 d4 d5 df hb4
      obtain ⟨c0, c1, c2, c3, c4, c5, cf⟩ := hW4.tok.cells
      obtain ⟨b0, b1, b2, b3, b4, b5, d0, d1, d2, d3, d4, d5⟩ := hW4.out6
      have df := hW4.free
      have HW4 := Lib.hid hW4
      clear hW4 HW
      go_wp2_with fail
      exact RW.good (t := ⟨3, W.length, 0, F, []⟩) rfl (HW4.out.set 4 _) rfl rfl (by have := HL.out; show (k : Int) = ((a + W.length : Nat) : Int); omega) rfl rfl
set_option maxRecDepth 20000 in
set_option maxHeartbeats 2000000 in
theorem name_floinf {s : ByteArray} {a : Nat} {W : List UInt8} (hs : s.size ≤ 100000) (ha : a ≤ s.size) (hWd : W = (left s a).takeWhile namB) (hW0 : W = infL) (w : World) :
    Calls Tryz.prog 172 #[.string s, .agg (tok0 a)] w fun e w' => HdEnds a (.ok ⟨3, W.length, 0, floW (parseV W), []⟩) w e w' := by
  have hW := RW.start w (tok0 a)
  have SF := float_store
  obtain ⟨R, hR⟩ : ∃ R, a + W.length = R := ⟨_, rfl⟩
  have hRs : R ≤ s.size := by
    have h1 : W.length ≤ (left s a).length := by rw [hWd]; exact (List.takeWhile_sublist _).length_le
    have h2 := left_len s a
    omega
  have haR : a ≤ R := by omega
  have hx : s.extract a R = strL W := by
    rw [ext_self s a R, show R - a = W.length by omega]
    congr 1
    rw [hWd]
    exact (List.prefix_iff_eq_take.1 (List.takeWhile_prefix namB)).symm
  have T1 : ((s.extract a R).toList == [110, 97, 110]) = false := by rw [hx, hW0]; exact beq_no (by rw [str_is]; decide)
  have T2 : ((s.extract a R).toList == [105, 110, 102]) = true := by rw [hx, hW0]; exact beq_yes (by rw [str_is]; rfl)
  have PR := fun X => Parse_ref (show W.length ≤ 100000 by rw [hW0]; decide) X
  rw [← hx, parse_pair W] at PR
  generalize floW (parseV W) = F at PR ⊢
  generalize errW (parseV W) = E at PR
  have HR : Hid (a + ((left s a).takeWhile namB).length = R) := Lib.hid (by rw [← hWd]; exact hR)
  obtain ⟨v, hv⟩ : ∃ v, s.extract a R = v := ⟨_, rfl⟩
  rw [hv] at hx T1 T2 PR
  have HX := Lib.hid hx
  have HL := Lib.hid hR
  clear hWd hR hx hW0
  unfold tok0 ktokV at *
  go_enter Tryz.func172, Tryz.ntmps172
  go_wp2_with fail
  generalize ((w.alloc (.cells #[.int .i64 1, .int .i64 a, .int .i64 a, .int .i64 0, .float .f64 0, .string ⟨#[]⟩] 174)).alloc (.cells #[.int .i64 0, .int .i64 0, .int .i64 0, .int .i64 0, .float .f64 0, .string ⟨#[]⟩] 174)) = w2 at hW ⊢
  obtain ⟨c0, c1, c2, c3, c4, c5, cf⟩ := hW.tok.cells
  obtain ⟨a0, a1, a2, a3, a4, a5, d0, d1, d2, d3, d4, d5⟩ := hW.out6
  have df := hW.free
  have HW := Lib.hid hW
  clear hW
  go_loopw [6] (fun iv wr => ∃ k : Nat, a ≤ k ∧ k ≤ s.size ∧ iv = .int .i64 k ∧ Hid (k + ((left s k).takeWhile namB).length = R) ∧ wr = w2) (fun iv _ => s.size - (intOf iv).toNat)
  case atStart => exact ⟨a, Nat.le_refl _, ha, rfl, HR, rfl⟩
  case round =>
    obtain ⟨k, hak, hk, rfl, hF, rfl⟩ := hrel
    by_cases hlt : k < s.size
    · obtain ⟨c, hc⟩ : ∃ c, s[k] = c := ⟨_, rfl⟩
      have hF' := hF.out
      rw [left_cons hlt, hc] at hF'
      have LC := fun W => letter_any c W
      have DC := fun W => digit_any c W
      cases hl : letB c with
      | true =>
        rw [hl] at LC
        have HN : Hid (k + 1 + ((left s (k + 1)).takeWhile namB).length = R) := Lib.hid (by
          rw [tw_cons (by unfold namB; rw [hl]; rfl)] at hF'; omega)
        clear hF' hF hl DC
        go_wp2_with (go_at_call 171; refine (LC _).mono ?_; rintro e w1 ⟨rfl, rfl⟩)
        go_roundw
        case rel => exact ⟨k + 1, by omega, by omega, by go_num, HN, trivial⟩
        case measure => simp [intOf]; omega
      | false =>
        rw [hl] at LC
        cases hd : isD c with
        | true =>
          rw [hd] at DC
          have HN : Hid (k + 1 + ((left s (k + 1)).takeWhile namB).length = R) := Lib.hid (by
            rw [tw_cons (by unfold namB; rw [hl, hd]; rfl)] at hF'; omega)
          clear hF' hF hl hd
          go_wp2_with (first | (go_at_call 171; refine (LC _).mono ?_; rintro e w1 ⟨rfl, rfl⟩) | (go_at_call 169; refine (DC _).mono ?_; rintro e w1 ⟨rfl, rfl⟩))
          go_roundw
          case rel => exact ⟨k + 1, by omega, by omega, by go_num, HN, trivial⟩
          case measure => simp [intOf]; omega
        | false =>
          rw [hd] at DC
          by_cases h95 : c.toNat = 95
          · have t95 : ((c.toNat : Int) == 95) = true := by rw [beq_iff_eq]; omega
            have HN : Hid (k + 1 + ((left s (k + 1)).takeWhile namB).length = R) := Lib.hid (by
              rw [tw_cons (by unfold namB; rw [hl, hd, h95]; rfl)] at hF'; omega)
            clear hF' hF hl hd h95
            go_wp2_with (first | (go_at_call 171; refine (LC _).mono ?_; rintro e w1 ⟨rfl, rfl⟩) | (go_at_call 169; refine (DC _).mono ?_; rintro e w1 ⟨rfl, rfl⟩))
            go_roundw
            case rel => exact ⟨k + 1, by omega, by omega, by go_num, HN, trivial⟩
            case measure => simp [intOf]; omega
          · have t95 : ((c.toNat : Int) == 95) = false := by rw [beq_eq_false_iff_ne]; omega
            have hkR : k = R := by
              rw [tw_stop (by unfold namB; rw [hl, hd, decide_eq_false h95]; rfl)] at hF'; omega
            clear hF' hF hl hd h95
            subst hkR
            go_wp2_with (first | (go_at_call 171; refine (LC _).mono ?_; rintro e w1 ⟨rfl, rfl⟩) | (go_at_call 169; refine (DC _).mono ?_; rintro e w1 ⟨rfl, rfl⟩) | (go_at_call 198; refine (PR _).mono ?_; rintro e w4 ⟨rfl, hb4⟩; refine Hid.out ?_))
            refine Lib.hid ?_
            have hW4 : RW w w4 #[.int .i64 3, .int .i64 a, .int .i64 k, .int .i64 0, .float .f64 0, .string ⟨#[]⟩] := ((HW.out.set 2 (.int .i64 k)).set 0 (.int .i64 3)).step hb4
            clear c0 c1 c2 c3 c4 c5 cf d0 d1 d2 d3 d4 d5 df hb4
            obtain ⟨c0, c1, c2, c3, c4, c5, cf⟩ := hW4.tok.cells
            obtain ⟨b0, b1, b2, b3, b4, b5, d0, d1, d2, d3, d4, d5⟩ := hW4.out6
            have df := hW4.free
            have HW4 := Lib.hid hW4
            clear hW4 HW
            go_wp2_with fail
            exact RW.good (t := ⟨3, W.length, 0, F, []⟩) rfl (HW4.out.set 4 _) rfl rfl (by have := HL.out; show (k : Int) = ((a + W.length : Nat) : Int); omega) rfl rfl
    · have hkR : k = R := by
        have hF' := hF.out
        rw [left_nil (by omega)] at hF'
        simpa using hF'
      clear hF
      subst hkR
      go_wp2_with (first | (go_at_call 198; refine (PR _).mono ?_; rintro e w4 ⟨rfl, hb4⟩; refine Hid.out ?_))
      refine Lib.hid ?_
      have hW4 : RW w w4 #[.int .i64 3, .int .i64 a, .int .i64 k, .int .i64 0, .float .f64 0, .string ⟨#[]⟩] := ((HW.out.set 2 (.int .i64 k)).set 0 (.int .i64 3)).step hb4
      clear c0 c1 c2 c3 c4 c5 cf d0 d1 d2 d3 d4 d5 df hb4
      obtain ⟨c0, c1, c2, c3, c4, c5, cf⟩ := hW4.tok.cells
      obtain ⟨b0, b1, b2, b3, b4, b5, d0, d1, d2, d3, d4, d5⟩ := hW4.out6
      have df := hW4.free
      have HW4 := Lib.hid hW4
      clear hW4 HW
      go_wp2_with fail
      exact RW.good (t := ⟨3, W.length, 0, F, []⟩) rfl (HW4.out.set 4 _) rfl rfl (by have := HL.out; show (k : Int) = ((a + W.length : Nat) : Int); omega) rfl rfl
set_option maxRecDepth 20000 in
set_option maxHeartbeats 2000000 in
theorem name_far {s : ByteArray} {a : Nat} {W : List UInt8} (hs : s.size ≤ 100000) (ha : a ≤ s.size) (hWd : W = (left s a).takeWhile namB) (hW0 : ¬ (W = nanL ∨ W = infL)) (hl : 30 < W.length) (w : World) :
    Calls Tryz.prog 172 #[.string s, .agg (tok0 a)] w fun e w' => HdEnds a (.err 3) w e w' := by
  have hW := RW.start w (tok0 a)
  have SF := float_store
  obtain ⟨R, hR⟩ : ∃ R, a + W.length = R := ⟨_, rfl⟩
  have hRs : R ≤ s.size := by
    have h1 : W.length ≤ (left s a).length := by rw [hWd]; exact (List.takeWhile_sublist _).length_le
    have h2 := left_len s a
    omega
  have haR : a ≤ R := by omega
  have hx : s.extract a R = strL W := by
    rw [ext_self s a R, show R - a = W.length by omega]
    congr 1
    rw [hWd]
    exact (List.prefix_iff_eq_take.1 (List.takeWhile_prefix namB)).symm
  have T1 : ((s.extract a R).toList == [110, 97, 110]) = false := beq_no (fun h => hW0 (.inl (by rw [hx, str_is] at h; exact h)))
  have T2 : ((s.extract a R).toList == [105, 110, 102]) = false := beq_no (fun h => hW0 (.inr (by rw [hx, str_is] at h; exact h)))
  have t30 : 30 < (s.extract a R).size := by rw [hx]; exact hl
  have HR : Hid (a + ((left s a).takeWhile namB).length = R) := Lib.hid (by rw [← hWd]; exact hR)
  obtain ⟨v, hv⟩ : ∃ v, s.extract a R = v := ⟨_, rfl⟩
  rw [hv] at hx T1 T2 t30
  have HX := Lib.hid hx
  have HL := Lib.hid hR
  clear hWd hR hx hW0 hl
  unfold tok0 ktokV at *
  go_enter Tryz.func172, Tryz.ntmps172
  go_wp2_with fail
  generalize ((w.alloc (.cells #[.int .i64 1, .int .i64 a, .int .i64 a, .int .i64 0, .float .f64 0, .string ⟨#[]⟩] 174)).alloc (.cells #[.int .i64 0, .int .i64 0, .int .i64 0, .int .i64 0, .float .f64 0, .string ⟨#[]⟩] 174)) = w2 at hW ⊢
  obtain ⟨c0, c1, c2, c3, c4, c5, cf⟩ := hW.tok.cells
  obtain ⟨a0, a1, a2, a3, a4, a5, d0, d1, d2, d3, d4, d5⟩ := hW.out6
  have df := hW.free
  have HW := Lib.hid hW
  clear hW
  go_loopw [6] (fun iv wr => ∃ k : Nat, a ≤ k ∧ k ≤ s.size ∧ iv = .int .i64 k ∧ Hid (k + ((left s k).takeWhile namB).length = R) ∧ wr = w2) (fun iv _ => s.size - (intOf iv).toNat)
  case atStart => exact ⟨a, Nat.le_refl _, ha, rfl, HR, rfl⟩
  case round =>
    obtain ⟨k, hak, hk, rfl, hF, rfl⟩ := hrel
    by_cases hlt : k < s.size
    · obtain ⟨c, hc⟩ : ∃ c, s[k] = c := ⟨_, rfl⟩
      have hF' := hF.out
      rw [left_cons hlt, hc] at hF'
      have LC := fun W => letter_any c W
      have DC := fun W => digit_any c W
      cases hl : letB c with
      | true =>
        rw [hl] at LC
        have HN : Hid (k + 1 + ((left s (k + 1)).takeWhile namB).length = R) := Lib.hid (by
          rw [tw_cons (by unfold namB; rw [hl]; rfl)] at hF'; omega)
        clear hF' hF hl DC
        go_wp2_with (go_at_call 171; refine (LC _).mono ?_; rintro e w1 ⟨rfl, rfl⟩)
        go_roundw
        case rel => exact ⟨k + 1, by omega, by omega, by go_num, HN, trivial⟩
        case measure => simp [intOf]; omega
      | false =>
        rw [hl] at LC
        cases hd : isD c with
        | true =>
          rw [hd] at DC
          have HN : Hid (k + 1 + ((left s (k + 1)).takeWhile namB).length = R) := Lib.hid (by
            rw [tw_cons (by unfold namB; rw [hl, hd]; rfl)] at hF'; omega)
          clear hF' hF hl hd
          go_wp2_with (first | (go_at_call 171; refine (LC _).mono ?_; rintro e w1 ⟨rfl, rfl⟩) | (go_at_call 169; refine (DC _).mono ?_; rintro e w1 ⟨rfl, rfl⟩))
          go_roundw
          case rel => exact ⟨k + 1, by omega, by omega, by go_num, HN, trivial⟩
          case measure => simp [intOf]; omega
        | false =>
          rw [hd] at DC
          by_cases h95 : c.toNat = 95
          · have t95 : ((c.toNat : Int) == 95) = true := by rw [beq_iff_eq]; omega
            have HN : Hid (k + 1 + ((left s (k + 1)).takeWhile namB).length = R) := Lib.hid (by
              rw [tw_cons (by unfold namB; rw [hl, hd, h95]; rfl)] at hF'; omega)
            clear hF' hF hl hd h95
            go_wp2_with (first | (go_at_call 171; refine (LC _).mono ?_; rintro e w1 ⟨rfl, rfl⟩) | (go_at_call 169; refine (DC _).mono ?_; rintro e w1 ⟨rfl, rfl⟩))
            go_roundw
            case rel => exact ⟨k + 1, by omega, by omega, by go_num, HN, trivial⟩
            case measure => simp [intOf]; omega
          · have t95 : ((c.toNat : Int) == 95) = false := by rw [beq_eq_false_iff_ne]; omega
            have hkR : k = R := by
              rw [tw_stop (by unfold namB; rw [hl, hd, decide_eq_false h95]; rfl)] at hF'; omega
            clear hF' hF hl hd h95
            subst hkR
            go_wp2_with (first | (go_at_call 171; refine (LC _).mono ?_; rintro e w1 ⟨rfl, rfl⟩) | (go_at_call 169; refine (DC _).mono ?_; rintro e w1 ⟨rfl, rfl⟩))
            exact RW.bad rfl (((HW.out.set 2 _).set 0 _).set 5 _) rfl rfl
    · have hkR : k = R := by
        have hF' := hF.out
        rw [left_nil (by omega)] at hF'
        simpa using hF'
      clear hF
      subst hkR
      go_wp2_with fail
      exact RW.bad rfl (((HW.out.set 2 _).set 0 _).set 5 _) rfl rfl
set_option maxRecDepth 20000 in
set_option maxHeartbeats 2000000 in
theorem name_ok {s : ByteArray} {a : Nat} {W : List UInt8} (hs : s.size ≤ 100000) (ha : a ≤ s.size) (hWd : W = (left s a).takeWhile namB) (hW0 : ¬ (W = nanL ∨ W = infL)) (hl : ¬ 30 < W.length) (w : World) :
    Calls Tryz.prog 172 #[.string s, .agg (tok0 a)] w fun e w' => HdEnds a (.ok ⟨5, W.length, 0, 0, W⟩) w e w' := by
  have hW := RW.start w (tok0 a)
  have SF := float_store
  obtain ⟨R, hR⟩ : ∃ R, a + W.length = R := ⟨_, rfl⟩
  have hRs : R ≤ s.size := by
    have h1 : W.length ≤ (left s a).length := by rw [hWd]; exact (List.takeWhile_sublist _).length_le
    have h2 := left_len s a
    omega
  have haR : a ≤ R := by omega
  have hx : s.extract a R = strL W := by
    rw [ext_self s a R, show R - a = W.length by omega]
    congr 1
    rw [hWd]
    exact (List.prefix_iff_eq_take.1 (List.takeWhile_prefix namB)).symm
  have T1 : ((s.extract a R).toList == [110, 97, 110]) = false := beq_no (fun h => hW0 (.inl (by rw [hx, str_is] at h; exact h)))
  have T2 : ((s.extract a R).toList == [105, 110, 102]) = false := beq_no (fun h => hW0 (.inr (by rw [hx, str_is] at h; exact h)))
  have t30 : ¬ 30 < (s.extract a R).size := by rw [hx]; exact hl
  have HR : Hid (a + ((left s a).takeWhile namB).length = R) := Lib.hid (by rw [← hWd]; exact hR)
  obtain ⟨v, hv⟩ : ∃ v, s.extract a R = v := ⟨_, rfl⟩
  rw [hv] at hx T1 T2 t30
  have HX := Lib.hid hx
  have HL := Lib.hid hR
  clear hWd hR hx hW0 hl
  unfold tok0 ktokV at *
  go_enter Tryz.func172, Tryz.ntmps172
  go_wp2_with fail
  generalize ((w.alloc (.cells #[.int .i64 1, .int .i64 a, .int .i64 a, .int .i64 0, .float .f64 0, .string ⟨#[]⟩] 174)).alloc (.cells #[.int .i64 0, .int .i64 0, .int .i64 0, .int .i64 0, .float .f64 0, .string ⟨#[]⟩] 174)) = w2 at hW ⊢
  obtain ⟨c0, c1, c2, c3, c4, c5, cf⟩ := hW.tok.cells
  obtain ⟨a0, a1, a2, a3, a4, a5, d0, d1, d2, d3, d4, d5⟩ := hW.out6
  have df := hW.free
  have HW := Lib.hid hW
  clear hW
  go_loopw [6] (fun iv wr => ∃ k : Nat, a ≤ k ∧ k ≤ s.size ∧ iv = .int .i64 k ∧ Hid (k + ((left s k).takeWhile namB).length = R) ∧ wr = w2) (fun iv _ => s.size - (intOf iv).toNat)
  case atStart => exact ⟨a, Nat.le_refl _, ha, rfl, HR, rfl⟩
  case round =>
    obtain ⟨k, hak, hk, rfl, hF, rfl⟩ := hrel
    by_cases hlt : k < s.size
    · obtain ⟨c, hc⟩ : ∃ c, s[k] = c := ⟨_, rfl⟩
      have hF' := hF.out
      rw [left_cons hlt, hc] at hF'
      have LC := fun W => letter_any c W
      have DC := fun W => digit_any c W
      cases hl : letB c with
      | true =>
        rw [hl] at LC
        have HN : Hid (k + 1 + ((left s (k + 1)).takeWhile namB).length = R) := Lib.hid (by
          rw [tw_cons (by unfold namB; rw [hl]; rfl)] at hF'; omega)
        clear hF' hF hl DC
        go_wp2_with (go_at_call 171; refine (LC _).mono ?_; rintro e w1 ⟨rfl, rfl⟩)
        go_roundw
        case rel => exact ⟨k + 1, by omega, by omega, by go_num, HN, trivial⟩
        case measure => simp [intOf]; omega
      | false =>
        rw [hl] at LC
        cases hd : isD c with
        | true =>
          rw [hd] at DC
          have HN : Hid (k + 1 + ((left s (k + 1)).takeWhile namB).length = R) := Lib.hid (by
            rw [tw_cons (by unfold namB; rw [hl, hd]; rfl)] at hF'; omega)
          clear hF' hF hl hd
          go_wp2_with (first | (go_at_call 171; refine (LC _).mono ?_; rintro e w1 ⟨rfl, rfl⟩) | (go_at_call 169; refine (DC _).mono ?_; rintro e w1 ⟨rfl, rfl⟩))
          go_roundw
          case rel => exact ⟨k + 1, by omega, by omega, by go_num, HN, trivial⟩
          case measure => simp [intOf]; omega
        | false =>
          rw [hd] at DC
          by_cases h95 : c.toNat = 95
          · have t95 : ((c.toNat : Int) == 95) = true := by rw [beq_iff_eq]; omega
            have HN : Hid (k + 1 + ((left s (k + 1)).takeWhile namB).length = R) := Lib.hid (by
              rw [tw_cons (by unfold namB; rw [hl, hd, h95]; rfl)] at hF'; omega)
            clear hF' hF hl hd h95
            go_wp2_with (first | (go_at_call 171; refine (LC _).mono ?_; rintro e w1 ⟨rfl, rfl⟩) | (go_at_call 169; refine (DC _).mono ?_; rintro e w1 ⟨rfl, rfl⟩))
            go_roundw
            case rel => exact ⟨k + 1, by omega, by omega, by go_num, HN, trivial⟩
            case measure => simp [intOf]; omega
          · have t95 : ((c.toNat : Int) == 95) = false := by rw [beq_eq_false_iff_ne]; omega
            have hkR : k = R := by
              rw [tw_stop (by unfold namB; rw [hl, hd, decide_eq_false h95]; rfl)] at hF'; omega
            clear hF' hF hl hd h95
            subst hkR
            go_wp2_with (first | (go_at_call 171; refine (LC _).mono ?_; rintro e w1 ⟨rfl, rfl⟩) | (go_at_call 169; refine (DC _).mono ?_; rintro e w1 ⟨rfl, rfl⟩))
            exact RW.good (t := ⟨5, W.length, 0, 0, W⟩) rfl (((HW.out.set 2 _).set 0 _).set 5 _) rfl rfl (by have := HL.out; show (k : Int) = ((a + W.length : Nat) : Int); omega) rfl HX.out
    · have hkR : k = R := by
        have hF' := hF.out
        rw [left_nil (by omega)] at hF'
        simpa using hF'
      clear hF
      subst hkR
      go_wp2_with fail
      exact RW.good (t := ⟨5, W.length, 0, 0, W⟩) rfl (((HW.out.set 2 _).set 0 _).set 5 _) rfl rfl (by have := HL.out; show (k : Int) = ((a + W.length : Nat) : Int); omega) rfl HX.out
theorem lexname_any {s : ByteArray} {a : Nat} (hs : s.size ≤ 100000) (ha : a ≤ s.size) (w : World) : Calls Tryz.prog 172 #[.string s, .agg (tok0 a)] w fun e w' => HdEnds a (nameT (left s a)) w e w' := by
  unfold nameT wrdT
  obtain ⟨W, hW⟩ : ∃ W, W = (left s a).takeWhile namB := ⟨_, rfl⟩
  rw [← hW]
  by_cases h : W = nanL ∨ W = infL
  · rw [if_pos h]
    rcases h with h | h
    · exact name_flonan hs ha hW h w
    · exact name_floinf hs ha hW h w
  · rw [if_neg h]
    by_cases hl : 30 < W.length
    · rw [if_pos hl]; exact name_far hs ha hW h hl w
    · rw [if_neg hl]; exact name_ok hs ha hW h hl w
end Go.Proofs.YtcmohggnehkjeaaGreat
