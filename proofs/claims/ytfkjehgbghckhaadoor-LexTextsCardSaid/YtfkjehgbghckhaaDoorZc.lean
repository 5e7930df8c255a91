/-
  The landed lex's number and name: the walks.
-/
import Derived.Test.YtfkjehgbghckhaaDoorZb
namespace Go.Proofs.YtfkjehgbghckhaaDoor
open Go.RowKit

theorem at_left (s : ByteArray) (d : Nat) : (left s d)[0]? = (left s 0)[d]? := by
  unfold left; rw [List.getElem?_drop, List.drop_zero, Nat.add_zero]
theorem tabs_box {w : World} (ht : Tabs w) (o : Obj) : Tabs (w.alloc o) := ht.below ((Below.refl _ _).alloc (Nat.le_refl _) _)
theorem pint_range {s : ByteArray} (hs : s.size ≤ 100000) (h : Lib.parseIntB 64 s.data.toList = .range) {w : World} (ht : Tabs w) :
    Calls Tryd.prog 41 #[.string s, .int .i64 10, .int .i64 64] w fun e w' => (∃ n ty p, e = .returned (.tuple #[.int .i64 n, .iface ty (.pointer p)])) ∧ Below w.heap.size w w' := by
  obtain ⟨te, pe, he⟩ := ht.err
  refine (lib_strconv_ParseInt_10_at64_range s (by omega) h (.iface te pe) w he (.inr ⟨te, pe, rfl⟩)).mono ?_
  rintro e w1 ⟨N, rfl, _, _, hb⟩
  exact ⟨⟨_, _, _, rfl⟩, hb⟩
set_option maxRecDepth 20000 in
set_option maxHeartbeats 2000000 in
theorem lnum_any {s : ByteArray} (hs : s.size ≤ 100000) (hd1 : 1 ≤ (dig (left s 0)).length) {w : World} (ht : Tabs w) :
    Calls Tryd.prog 30 #[.string s] w fun e w' => HdEnds 0 (numT (left s 0)) w e w' := by
  have SF := float_store
  have C := fun W => lcnt_any hs W
  have hdl := dig_le (left s 0)
  rw [left_len, Nat.sub_zero] at hdl
  have PF := fun W => lib_strings_HasPrefix (s.extract (dig (left s 0)).length s.size) ⟨#[112]⟩ W
  rw [rest_list, show (⟨#[112]⟩ : ByteArray).data.toList = [112] from rfl, pre_one, at_left] at PF
  obtain ⟨d, hd⟩ : ∃ d, (dig (left s 0)).length = d := ⟨_, rfl⟩
  obtain ⟨v1, hv1⟩ : ∃ v, s.extract d s.size = v := ⟨_, rfl⟩
  obtain ⟨H, hH⟩ : ∃ H, numT (left s 0) = H := ⟨_, rfl⟩
  rw [hH]
  unfold numT at hH
  rw [hd] at hd1 hdl C PF hH
  rw [hv1] at PF
  by_cases hp : (left s 0)[d]? = some 112
  · rw [decide_eq_true hp] at PF
    rw [if_pos hp] at hH
    have hlt : d < s.size := by
      rcases Nat.lt_or_ge d s.size with h | h
      · exact h
      · rw [List.getElem?_eq_none (by rw [left_len]; omega)] at hp; cases hp
    have hdrop : (left s 0).drop (d + 1) = left s (d + 1) := by rw [← left_drop, Nat.zero_add]
    obtain ⟨q, hq⟩ : ∃ q, floL d (left s (d + 1)) = q := ⟨_, rfl⟩
    have hqE : floE s (d + 1) q := hq.symm
    have FL := fun (W : World) (hT : Tabs W) => lflo_any hs (show d + 1 ≤ s.size by omega) hqE hT
    have hcase : (errW (parseV ((left s 0).take q)) = 0 ∧ H = .ok ⟨3, q, 0, floW (parseV ((left s 0).take q)), []⟩) ∨ H = .err (errW (parseV ((left s 0).take q))) := by
      rw [hdrop] at hH
      unfold floT at hH
      rw [hq] at hH
      by_cases h0 : (dig ((left s (d + 1)).drop (expM (left s (d + 1))))).length = 0
      · rw [if_pos h0] at hH
        refine .inr ?_
        have hh0 := h0
        rw [← hdrop, ← hd] at hh0
        obtain ⟨r, hr, ht⟩ := take_flo (R := left s 0) (by rw [hd]; exact hp) hh0
        rw [hd, hdrop, hq] at ht
        rw [ht, parse_torn (dig_all _) (fun e => by rw [e] at hd; simp at hd; omega) hr]
        exact hH.symm
      · rw [if_neg h0] at hH
        by_cases hE : errW (parseV ((left s 0).take q)) = 0
        · rw [if_pos hE] at hH
          exact .inl ⟨hE, hH.symm⟩
        · rw [if_neg hE] at hH
          exact .inr hH.symm
    generalize floW (parseV ((left s 0).take q)) = F at FL hcase
    generalize errW (parseV ((left s 0).take q)) = E at FL hcase
    have HC := Lib.hid hcase
    obtain ⟨k, hk⟩ : ∃ k, d + 1 = k := ⟨_, rfl⟩
    rw [hk] at FL
    have e1 : (d : Int) + 1 = (k : Int) := by omega
    clear hH hp hd hq hqE hdrop hcase hk
    go_enter Tryd.func30, Tryd.ntmps30
    go_wp2_with (first | (go_at_call 38; refine (C _).mono ?_; rintro e w1 ⟨rfl, rfl⟩) | (go_at_call 39; refine (PF _).mono ?_; rintro e w1 ⟨rfl, rfl⟩) | (go_at_call 40; refine (FL _ (tabs_box ht _)).mono ?_; rintro e w1 ⟨rfl, hb1⟩; refine Hid.out ?_))
    refine Lib.hid ?_
    have hR := (RB.start w (.int .i64 0) (.int .i64 0) (.int .i64 0) (.int .i64 0) (.float .f64 0) (.string ⟨#[]⟩)).step hb1
    obtain ⟨a0, a1, a2, a3, a4, a5, d0, d1, d2, d3, d4, d5, df⟩ := hR.cells
    have HR := Lib.hid hR
    clear hR hb1 C PF FL
    go_wp2_with fail
    have hG := HR.out.done (.int .i64 3) (.int .i64 0) (.int .i64 q) (.int .i64 0) (.float .f64 F) (.string ⟨#[]⟩)
    rcases HC.out with ⟨rfl, h⟩ | h
    · rw [h]
      exact box_good (t := ⟨3, q, 0, F, []⟩) rfl hG.1 hG.2 rfl rfl rfl rfl rfl
    · rw [h]
      exact box_bad rfl hG.1 hG.2 rfl rfl
  · rw [decide_eq_false hp] at PF
    rw [if_neg hp] at hH
    unfold intT at hH
    have hcut := dig_cut s
    have hne : dig (left s 0) ≠ [] := fun e => by rw [e] at hd; simp at hd; omega
    have hI := int_dig (dig_all (left s 0)) hne
    have hsz : (strL (dig (left s 0))).size = d := hd
    rw [hd] at hH hcut
    by_cases hN : numN (dig (left s 0)) < 9223372036854775808
    · rw [if_pos hN] at hI
      rw [if_neg (show ¬ 9223372036854775808 ≤ numN (dig (left s 0)) by omega)] at hH
      have PI := fun W => (lib_strconv_ParseInt_10_at64_ok (strL (dig (left s 0))) (by omega) _ hI W)
      rw [← hcut] at PI
      generalize numN (dig (left s 0)) = n at PI hH
      obtain ⟨v2, hv2⟩ : ∃ v, s.extract 0 d = v := ⟨_, rfl⟩
      rw [hv2] at PI
      by_cases h19 : 19 < d
      · rw [if_pos h19] at hH
        subst hH
        clear hp hd hcut hne hI hsz hN
        go_enter Tryd.func30, Tryd.ntmps30
        go_wp2_with (first | (go_at_call 38; refine (C _).mono ?_; rintro e w1 ⟨rfl, rfl⟩) | (go_at_call 39; refine (PF _).mono ?_; rintro e w1 ⟨rfl, rfl⟩) | (go_at_call 41; refine (PI _).mono ?_; rintro e w1 ⟨rfl, hw1⟩; refine Hid.out ?_))
        refine Lib.hid ?_
        have hR := (RB.start w (.int .i64 0) (.int .i64 0) (.int .i64 0) (.int .i64 0) (.float .f64 0) (.string ⟨#[]⟩)).step (below_bytes hw1)
        obtain ⟨a0, a1, a2, a3, a4, a5, d0, d1, d2, d3, d4, d5, df⟩ := hR.cells
        have HR := Lib.hid hR
        clear hR hw1 C PF PI
        go_wp2_with fail
        have hG := HR.out.done (.int .i64 0) (.int .i64 0) (.int .i64 0) (.int .i64 0) (.float .f64 0) (.string ⟨#[]⟩)
        exact box_bad rfl hG.1 hG.2 rfl rfl
      · rw [if_neg h19] at hH
        subst hH
        clear hp hd hcut hne hI hsz hN
        go_enter Tryd.func30, Tryd.ntmps30
        go_wp2_with (first | (go_at_call 38; refine (C _).mono ?_; rintro e w1 ⟨rfl, rfl⟩) | (go_at_call 39; refine (PF _).mono ?_; rintro e w1 ⟨rfl, rfl⟩) | (go_at_call 41; refine (PI _).mono ?_; rintro e w1 ⟨rfl, hw1⟩; refine Hid.out ?_))
        refine Lib.hid ?_
        have hR := (RB.start w (.int .i64 0) (.int .i64 0) (.int .i64 0) (.int .i64 0) (.float .f64 0) (.string ⟨#[]⟩)).step (below_bytes hw1)
        obtain ⟨a0, a1, a2, a3, a4, a5, d0, d1, d2, d3, d4, d5, df⟩ := hR.cells
        have HR := Lib.hid hR
        clear hR hw1 C PF PI
        go_wp2_with fail
        have hG := HR.out.done (.int .i64 2) (.int .i64 0) (.int .i64 d) (.int .i64 n) (.float .f64 0) (.string ⟨#[]⟩)
        exact box_good (t := ⟨2, d, n, 0, []⟩) rfl hG.1 hG.2 rfl rfl rfl rfl rfl
    · rw [if_neg hN] at hI
      rw [if_pos (show 9223372036854775808 ≤ numN (dig (left s 0)) by omega), ite_self] at hH
      have PI := fun (W : World) (hT : Tabs W) => pint_range (s := strL (dig (left s 0))) (by omega) hI hT
      rw [← hcut] at PI
      obtain ⟨v2, hv2⟩ : ∃ v, s.extract 0 d = v := ⟨_, rfl⟩
      rw [hv2] at PI
      subst hH
      clear hp hd hcut hne hI hsz hN
      go_enter Tryd.func30, Tryd.ntmps30
      go_wp2_with (first | (go_at_call 38; refine (C _).mono ?_; rintro e w1 ⟨rfl, rfl⟩) | (go_at_call 39; refine (PF _).mono ?_; rintro e w1 ⟨rfl, rfl⟩) | (go_at_call 41; refine (PI _ (tabs_box ht _)).mono ?_; rintro e w1 ⟨⟨n, ty, p, rfl⟩, hb1⟩; refine Hid.out ?_))
      refine Lib.hid ?_
      have hR := (RB.start w (.int .i64 0) (.int .i64 0) (.int .i64 0) (.int .i64 0) (.float .f64 0) (.string ⟨#[]⟩)).step hb1
      obtain ⟨a0, a1, a2, a3, a4, a5, d0, d1, d2, d3, d4, d5, df⟩ := hR.cells
      have HR := Lib.hid hR
      clear hR hb1 C PF PI
      go_wp2_with fail
      have hG := HR.out.done (.int .i64 0) (.int .i64 0) (.int .i64 0) (.int .i64 0) (.float .f64 0) (.string ⟨#[]⟩)
      exact box_bad rfl hG.1 hG.2 rfl rfl
theorem strL_at {W : List UInt8} {j : Nat} (h : j < (strL W).size) : (strL W)[j] = W[j]'h := rfl
theorem vname_list {W : List UInt8} (hs : W.length ≤ 100000) {c : UInt8} {R : List UInt8} (hW : W = c :: R) (hl : letB c = true) (ha : W.all namB = true) (w : World) :
    Calls Tryd.prog 44 #[.string (strL W)] w fun e w' => e = .returned (.bool (decide (W.length ≤ 30))) ∧ w = w' := by
  have h0 : 0 < (strL W).size := by show 0 < W.length; rw [hW]; simp
  have := vname_any (s := strL W) hs h0 (by rw [strL_at h0]; subst hW; exact hl) (fun j h => by
    rw [strL_at h]
    exact (List.all_eq_true.1 ha) _ (List.getElem_mem h)) w
  exact this
set_option maxRecDepth 20000 in
set_option maxHeartbeats 2000000 in
theorem lname_nan {s : ByteArray} {W : List UInt8} (hs : s.size ≤ 100000) (h0 : 0 < s.size) (hl : letB s[0] = true) (hWd : W = (left s 0).takeWhile namB) (hW0 : W = nanL) {w : World} (ht : Tabs w) :
    Calls Tryd.prog 32 #[.string s] w fun e w' => HdEnds 0 (.ok ⟨3, W.length, 0, floW (parseV W), []⟩) w e w' := by
  have SF := float_store
  obtain ⟨R, hR⟩ : ∃ R, W.length = R := ⟨_, rfl⟩
  have hRs : R ≤ s.size := by
    have h1 : W.length ≤ (left s 0).length := by rw [hWd]; exact (List.takeWhile_sublist _).length_le
    have h2 := left_len s 0
    omega
  have hx : s.extract 0 R = strL W := by
    rw [ext_self s 0 R, Nat.sub_zero, ← hR]
    congr 1
    rw [hWd]
    exact (List.prefix_iff_eq_take.1 (List.takeWhile_prefix namB)).symm
  have hl1 : left s 0 = s[0] :: left s 1 := left_cons h0
  have hst : Hid (1 + ((left s 1).takeWhile namB).length = R) := Lib.hid (by
    rw [← hR, hWd, hl1, tw_cons (by unfold namB; rw [hl]; rfl)]; omega)
  have hall : W.all namB = true := by rw [hWd]; exact List.all_takeWhile
  have hWc : W = s[0] :: (left s 1).takeWhile namB := by rw [hWd, hl1, List.takeWhile_cons_of_pos (by unfold namB; rw [hl]; rfl)]
  have T1 : ((s.extract 0 R).toList == [110, 97, 110]) = true := by rw [hx, hW0]; exact beq_yes (by rw [str_is]; rfl)
  have PR := fun (X : World) (hT : Tabs X) => Parse_f (show W.length ≤ 100000 by rw [hW0]; decide) hT
  have hE : errW (parseV W) = 0 := by rw [hW0]; rfl
  rw [← hx, parse_pair W, hE] at PR
  generalize floW (parseV W) = F at PR ⊢
  clear hW0 hE
  obtain ⟨v, hv⟩ : ∃ v, s.extract 0 R = v := ⟨_, rfl⟩
  rw [hv] at hx PR T1
  have HV := Lib.hid hx
  have HL := Lib.hid hR
  clear hWd hR hx hWc hall hl hl1
  go_enter Tryd.func32, Tryd.ntmps32
  go_wp2_with fail
  go_loopw [4] (fun iv wr => ∃ k : Nat, 1 ≤ k ∧ k ≤ s.size ∧ iv = .int .i64 k ∧ Hid (k + ((left s k).takeWhile namB).length = R) ∧ wr = w.alloc (.cells #[.int .i64 0, .int .i64 0, .int .i64 0, .int .i64 0, .float .f64 0, .string ⟨#[]⟩] 30)) (fun iv _ => s.size - (intOf iv).toNat)
  case atStart => exact ⟨1, Nat.le_refl _, h0, by go_num, hst, rfl⟩
  case round =>
    obtain ⟨k, hak, hk, rfl, hF, rfl⟩ := hrel
    by_cases hlt : k < s.size
    · obtain ⟨c, hc⟩ : ∃ c, s[k] = c := ⟨_, rfl⟩
      have hF' := hF.out
      rw [left_cons hlt, hc] at hF'
      have NC := fun W => lnam_any c W
      cases hl : namB c with
      | true =>
        rw [hl] at NC
        have HN : Hid (k + 1 + ((left s (k + 1)).takeWhile namB).length = R) := Lib.hid (by rw [tw_cons hl] at hF'; omega)
        clear hF' hF hl
        go_wp2_with (go_at_call 42; refine (NC _).mono ?_; rintro e w1 ⟨rfl, rfl⟩)
        go_roundw
        case rel => exact ⟨k + 1, by omega, by omega, by go_num, HN, trivial⟩
        case measure => simp [intOf]; omega
      | false =>
        rw [hl] at NC
        have hkR : k = R := by rw [tw_stop hl] at hF'; omega
        clear hF' hF hl
        subst hkR
        go_wp2_with (first | (go_at_call 42; refine (NC _).mono ?_; rintro e w1 ⟨rfl, rfl⟩) | (go_at_call 43; refine (PR _ (tabs_box ht _)).mono ?_; rintro e w4 ⟨rfl, nq, rfl⟩; refine Hid.out ?_))
        refine Lib.hid ?_
        have hR := (RB.start w (.int .i64 0) (.int .i64 0) (.int .i64 0) (.int .i64 0) (.float .f64 0) (.string ⟨#[]⟩)).step (below_drewN (Below.refl _ _) nq)
        obtain ⟨a0, a1, a2, a3, a4, a5, d0, d1, d2, d3, d4, d5, df⟩ := hR.cells
        have HR := Lib.hid hR
        clear hR PR
        go_wp2_with fail
        have hG := HR.out.done (.int .i64 3) (.int .i64 0) (.int .i64 k) (.int .i64 0) (.float .f64 F) (.string ⟨#[]⟩)
        exact box_good (t := ⟨3, W.length, 0, F, []⟩) rfl hG.1 hG.2 rfl rfl (by show (k : Int) = ((W.length : Nat) : Int); rw [HL.out]) rfl rfl
    · have hkR : k = R := by
        have hF' := hF.out
        rw [left_nil (by omega)] at hF'
        simpa using hF'
      clear hF
      subst hkR
      go_wp2_with (first | (go_at_call 43; refine (PR _ (tabs_box ht _)).mono ?_; rintro e w4 ⟨rfl, nq, rfl⟩; refine Hid.out ?_))
      refine Lib.hid ?_
      have hR := (RB.start w (.int .i64 0) (.int .i64 0) (.int .i64 0) (.int .i64 0) (.float .f64 0) (.string ⟨#[]⟩)).step (below_drewN (Below.refl _ _) nq)
      obtain ⟨a0, a1, a2, a3, a4, a5, d0, d1, d2, d3, d4, d5, df⟩ := hR.cells
      have HR := Lib.hid hR
      clear hR PR
      go_wp2_with fail
      have hG := HR.out.done (.int .i64 3) (.int .i64 0) (.int .i64 k) (.int .i64 0) (.float .f64 F) (.string ⟨#[]⟩)
      exact box_good (t := ⟨3, W.length, 0, F, []⟩) rfl hG.1 hG.2 rfl rfl (by show (k : Int) = ((W.length : Nat) : Int); rw [HL.out]) rfl rfl
set_option maxRecDepth 20000 in
set_option maxHeartbeats 2000000 in
theorem lname_inf {s : ByteArray} {W : List UInt8} (hs : s.size ≤ 100000) (h0 : 0 < s.size) (hl : letB s[0] = true) (hWd : W = (left s 0).takeWhile namB) (hW0 : W = infL) {w : World} (ht : Tabs w) :
    Calls Tryd.prog 32 #[.string s] w fun e w' => HdEnds 0 (.ok ⟨3, W.length, 0, floW (parseV W), []⟩) w e w' := by
  have SF := float_store
  obtain ⟨R, hR⟩ : ∃ R, W.length = R := ⟨_, rfl⟩
  have hRs : R ≤ s.size := by
    have h1 : W.length ≤ (left s 0).length := by rw [hWd]; exact (List.takeWhile_sublist _).length_le
    have h2 := left_len s 0
    omega
  have hx : s.extract 0 R = strL W := by
    rw [ext_self s 0 R, Nat.sub_zero, ← hR]
    congr 1
    rw [hWd]
    exact (List.prefix_iff_eq_take.1 (List.takeWhile_prefix namB)).symm
  have hl1 : left s 0 = s[0] :: left s 1 := left_cons h0
  have hst : Hid (1 + ((left s 1).takeWhile namB).length = R) := Lib.hid (by
    rw [← hR, hWd, hl1, tw_cons (by unfold namB; rw [hl]; rfl)]; omega)
  have hall : W.all namB = true := by rw [hWd]; exact List.all_takeWhile
  have hWc : W = s[0] :: (left s 1).takeWhile namB := by rw [hWd, hl1, List.takeWhile_cons_of_pos (by unfold namB; rw [hl]; rfl)]
  have T2 : ((s.extract 0 R).toList == [105, 110, 102]) = true := by rw [hx, hW0]; exact beq_yes (by rw [str_is]; rfl)
  have T1 : ((s.extract 0 R).toList == [110, 97, 110]) = false := by rw [hx, hW0]; exact beq_no (by rw [str_is]; decide)
  have PR := fun (X : World) (hT : Tabs X) => Parse_f (show W.length ≤ 100000 by rw [hW0]; decide) hT
  have hE : errW (parseV W) = 0 := by rw [hW0]; rfl
  rw [← hx, parse_pair W, hE] at PR
  generalize floW (parseV W) = F at PR ⊢
  clear hW0 hE
  obtain ⟨v, hv⟩ : ∃ v, s.extract 0 R = v := ⟨_, rfl⟩
  rw [hv] at hx PR T1 T2
  have HV := Lib.hid hx
  have HL := Lib.hid hR
  clear hWd hR hx hWc hall hl hl1
  go_enter Tryd.func32, Tryd.ntmps32
  go_wp2_with fail
  go_loopw [4] (fun iv wr => ∃ k : Nat, 1 ≤ k ∧ k ≤ s.size ∧ iv = .int .i64 k ∧ Hid (k + ((left s k).takeWhile namB).length = R) ∧ wr = w.alloc (.cells #[.int .i64 0, .int .i64 0, .int .i64 0, .int .i64 0, .float .f64 0, .string ⟨#[]⟩] 30)) (fun iv _ => s.size - (intOf iv).toNat)
  case atStart => exact ⟨1, Nat.le_refl _, h0, by go_num, hst, rfl⟩
  case round =>
    obtain ⟨k, hak, hk, rfl, hF, rfl⟩ := hrel
    by_cases hlt : k < s.size
    · obtain ⟨c, hc⟩ : ∃ c, s[k] = c := ⟨_, rfl⟩
      have hF' := hF.out
      rw [left_cons hlt, hc] at hF'
      have NC := fun W => lnam_any c W
      cases hl : namB c with
      | true =>
        rw [hl] at NC
        have HN : Hid (k + 1 + ((left s (k + 1)).takeWhile namB).length = R) := Lib.hid (by rw [tw_cons hl] at hF'; omega)
        clear hF' hF hl
        go_wp2_with (go_at_call 42; refine (NC _).mono ?_; rintro e w1 ⟨rfl, rfl⟩)
        go_roundw
        case rel => exact ⟨k + 1, by omega, by omega, by go_num, HN, trivial⟩
        case measure => simp [intOf]; omega
      | false =>
        rw [hl] at NC
        have hkR : k = R := by rw [tw_stop hl] at hF'; omega
        clear hF' hF hl
        subst hkR
        go_wp2_with (first | (go_at_call 42; refine (NC _).mono ?_; rintro e w1 ⟨rfl, rfl⟩) | (go_at_call 43; refine (PR _ (tabs_box ht _)).mono ?_; rintro e w4 ⟨rfl, nq, rfl⟩; refine Hid.out ?_))
        refine Lib.hid ?_
        have hR := (RB.start w (.int .i64 0) (.int .i64 0) (.int .i64 0) (.int .i64 0) (.float .f64 0) (.string ⟨#[]⟩)).step (below_drewN (Below.refl _ _) nq)
        obtain ⟨a0, a1, a2, a3, a4, a5, d0, d1, d2, d3, d4, d5, df⟩ := hR.cells
        have HR := Lib.hid hR
        clear hR PR
        go_wp2_with fail
        have hG := HR.out.done (.int .i64 3) (.int .i64 0) (.int .i64 k) (.int .i64 0) (.float .f64 F) (.string ⟨#[]⟩)
        exact box_good (t := ⟨3, W.length, 0, F, []⟩) rfl hG.1 hG.2 rfl rfl (by show (k : Int) = ((W.length : Nat) : Int); rw [HL.out]) rfl rfl
    · have hkR : k = R := by
        have hF' := hF.out
        rw [left_nil (by omega)] at hF'
        simpa using hF'
      clear hF
      subst hkR
      go_wp2_with (first | (go_at_call 43; refine (PR _ (tabs_box ht _)).mono ?_; rintro e w4 ⟨rfl, nq, rfl⟩; refine Hid.out ?_))
      refine Lib.hid ?_
      have hR := (RB.start w (.int .i64 0) (.int .i64 0) (.int .i64 0) (.int .i64 0) (.float .f64 0) (.string ⟨#[]⟩)).step (below_drewN (Below.refl _ _) nq)
      obtain ⟨a0, a1, a2, a3, a4, a5, d0, d1, d2, d3, d4, d5, df⟩ := hR.cells
      have HR := Lib.hid hR
      clear hR PR
      go_wp2_with fail
      have hG := HR.out.done (.int .i64 3) (.int .i64 0) (.int .i64 k) (.int .i64 0) (.float .f64 F) (.string ⟨#[]⟩)
      exact box_good (t := ⟨3, W.length, 0, F, []⟩) rfl hG.1 hG.2 rfl rfl (by show (k : Int) = ((W.length : Nat) : Int); rw [HL.out]) rfl rfl
set_option maxRecDepth 20000 in
set_option maxHeartbeats 2000000 in
theorem lname_far {s : ByteArray} {W : List UInt8} (hs : s.size ≤ 100000) (h0 : 0 < s.size) (hl : letB s[0] = true) (hWd : W = (left s 0).takeWhile namB) (hn : W ≠ nanL) (hi : W ≠ infL) (h30 : 30 < W.length) {w : World} (_ht : Tabs w) :
    Calls Tryd.prog 32 #[.string s] w fun e w' => HdEnds 0 (.err 3) w e w' := by
  have SF := float_store
  obtain ⟨R, hR⟩ : ∃ R, W.length = R := ⟨_, rfl⟩
  have hRs : R ≤ s.size := by
    have h1 : W.length ≤ (left s 0).length := by rw [hWd]; exact (List.takeWhile_sublist _).length_le
    have h2 := left_len s 0
    omega
  have hx : s.extract 0 R = strL W := by
    rw [ext_self s 0 R, Nat.sub_zero, ← hR]
    congr 1
    rw [hWd]
    exact (List.prefix_iff_eq_take.1 (List.takeWhile_prefix namB)).symm
  have hl1 : left s 0 = s[0] :: left s 1 := left_cons h0
  have hst : Hid (1 + ((left s 1).takeWhile namB).length = R) := Lib.hid (by
    rw [← hR, hWd, hl1, tw_cons (by unfold namB; rw [hl]; rfl)]; omega)
  have hall : W.all namB = true := by rw [hWd]; exact List.all_takeWhile
  have hWc : W = s[0] :: (left s 1).takeWhile namB := by rw [hWd, hl1, List.takeWhile_cons_of_pos (by unfold namB; rw [hl]; rfl)]
  have T1 : ((s.extract 0 R).toList == [110, 97, 110]) = false := by rw [hx]; exact beq_no (fun e => hn (by rw [str_is] at e; exact e))
  have T2 : ((s.extract 0 R).toList == [105, 110, 102]) = false := by rw [hx]; exact beq_no (fun e => hi (by rw [str_is] at e; exact e))
  have VC := fun X => vname_list (show W.length ≤ 100000 by omega) hWc hl hall X
  rw [← hx, decide_eq_false (show ¬ W.length ≤ 30 by omega)] at VC
  clear hn hi
  obtain ⟨v, hv⟩ : ∃ v, s.extract 0 R = v := ⟨_, rfl⟩
  rw [hv] at hx VC T1 T2
  have HV := Lib.hid hx
  have HL := Lib.hid hR
  clear hWd hR hx hWc hall hl hl1
  go_enter Tryd.func32, Tryd.ntmps32
  go_wp2_with fail
  go_loopw [4] (fun iv wr => ∃ k : Nat, 1 ≤ k ∧ k ≤ s.size ∧ iv = .int .i64 k ∧ Hid (k + ((left s k).takeWhile namB).length = R) ∧ wr = w.alloc (.cells #[.int .i64 0, .int .i64 0, .int .i64 0, .int .i64 0, .float .f64 0, .string ⟨#[]⟩] 30)) (fun iv _ => s.size - (intOf iv).toNat)
  case atStart => exact ⟨1, Nat.le_refl _, h0, by go_num, hst, rfl⟩
  case round =>
    obtain ⟨k, hak, hk, rfl, hF, rfl⟩ := hrel
    by_cases hlt : k < s.size
    · obtain ⟨c, hc⟩ : ∃ c, s[k] = c := ⟨_, rfl⟩
      have hF' := hF.out
      rw [left_cons hlt, hc] at hF'
      have NC := fun W => lnam_any c W
      cases hl : namB c with
      | true =>
        rw [hl] at NC
        have HN : Hid (k + 1 + ((left s (k + 1)).takeWhile namB).length = R) := Lib.hid (by rw [tw_cons hl] at hF'; omega)
        clear hF' hF hl
        go_wp2_with (go_at_call 42; refine (NC _).mono ?_; rintro e w1 ⟨rfl, rfl⟩)
        go_roundw
        case rel => exact ⟨k + 1, by omega, by omega, by go_num, HN, trivial⟩
        case measure => simp [intOf]; omega
      | false =>
        rw [hl] at NC
        have hkR : k = R := by rw [tw_stop hl] at hF'; omega
        clear hF' hF hl
        subst hkR
        go_wp2_with (first | (go_at_call 42; refine (NC _).mono ?_; rintro e w1 ⟨rfl, rfl⟩) | (go_at_call 44; refine (VC _).mono ?_; rintro e w4 ⟨rfl, rfl⟩))
        exact box_bad rfl (Bx.new w _) (RB.start w (.int .i64 0) (.int .i64 0) (.int .i64 0) (.int .i64 0) (.float .f64 0) (.string ⟨#[]⟩)).below rfl rfl
    · have hkR : k = R := by
        have hF' := hF.out
        rw [left_nil (by omega)] at hF'
        simpa using hF'
      clear hF
      subst hkR
      go_wp2_with (first | (go_at_call 44; refine (VC _).mono ?_; rintro e w4 ⟨rfl, rfl⟩))
      exact box_bad rfl (Bx.new w _) (RB.start w (.int .i64 0) (.int .i64 0) (.int .i64 0) (.int .i64 0) (.float .f64 0) (.string ⟨#[]⟩)).below rfl rfl
set_option maxRecDepth 20000 in
set_option maxHeartbeats 2000000 in
theorem lname_ok {s : ByteArray} {W : List UInt8} (hs : s.size ≤ 100000) (h0 : 0 < s.size) (hl : letB s[0] = true) (hWd : W = (left s 0).takeWhile namB) (hn : W ≠ nanL) (hi : W ≠ infL) (h30 : W.length ≤ 30) {w : World} (_ht : Tabs w) :
    Calls Tryd.prog 32 #[.string s] w fun e w' => HdEnds 0 (.ok ⟨5, W.length, 0, 0, W⟩) w e w' := by
  have SF := float_store
  obtain ⟨R, hR⟩ : ∃ R, W.length = R := ⟨_, rfl⟩
  have hRs : R ≤ s.size := by
    have h1 : W.length ≤ (left s 0).length := by rw [hWd]; exact (List.takeWhile_sublist _).length_le
    have h2 := left_len s 0
    omega
  have hx : s.extract 0 R = strL W := by
    rw [ext_self s 0 R, Nat.sub_zero, ← hR]
    congr 1
    rw [hWd]
    exact (List.prefix_iff_eq_take.1 (List.takeWhile_prefix namB)).symm
  have hl1 : left s 0 = s[0] :: left s 1 := left_cons h0
  have hst : Hid (1 + ((left s 1).takeWhile namB).length = R) := Lib.hid (by
    rw [← hR, hWd, hl1, tw_cons (by unfold namB; rw [hl]; rfl)]; omega)
  have hall : W.all namB = true := by rw [hWd]; exact List.all_takeWhile
  have hWc : W = s[0] :: (left s 1).takeWhile namB := by rw [hWd, hl1, List.takeWhile_cons_of_pos (by unfold namB; rw [hl]; rfl)]
  have T1 : ((s.extract 0 R).toList == [110, 97, 110]) = false := by rw [hx]; exact beq_no (fun e => hn (by rw [str_is] at e; exact e))
  have T2 : ((s.extract 0 R).toList == [105, 110, 102]) = false := by rw [hx]; exact beq_no (fun e => hi (by rw [str_is] at e; exact e))
  have VC := fun X => vname_list (show W.length ≤ 100000 by omega) hWc hl hall X
  rw [← hx, decide_eq_true h30] at VC
  clear hn hi
  have WC := fun X => wtx_any (s := s.extract 0 R) (by rw [hx]; show W.length ≤ 100000; omega) 5 X
  have hvs : (s.extract 0 R).size = R := by rw [hx]; exact hR
  rw [hvs] at WC
  clear hvs
  obtain ⟨v, hv⟩ : ∃ v, s.extract 0 R = v := ⟨_, rfl⟩
  rw [hv] at hx VC WC T1 T2
  have HV := Lib.hid hx
  have HL := Lib.hid hR
  clear hWd hR hx hWc hall hl hl1
  go_enter Tryd.func32, Tryd.ntmps32
  go_wp2_with fail
  go_loopw [4] (fun iv wr => ∃ k : Nat, 1 ≤ k ∧ k ≤ s.size ∧ iv = .int .i64 k ∧ Hid (k + ((left s k).takeWhile namB).length = R) ∧ wr = w.alloc (.cells #[.int .i64 0, .int .i64 0, .int .i64 0, .int .i64 0, .float .f64 0, .string ⟨#[]⟩] 30)) (fun iv _ => s.size - (intOf iv).toNat)
  case atStart => exact ⟨1, Nat.le_refl _, h0, by go_num, hst, rfl⟩
  case round =>
    obtain ⟨k, hak, hk, rfl, hF, rfl⟩ := hrel
    by_cases hlt : k < s.size
    · obtain ⟨c, hc⟩ : ∃ c, s[k] = c := ⟨_, rfl⟩
      have hF' := hF.out
      rw [left_cons hlt, hc] at hF'
      have NC := fun W => lnam_any c W
      cases hl : namB c with
      | true =>
        rw [hl] at NC
        have HN : Hid (k + 1 + ((left s (k + 1)).takeWhile namB).length = R) := Lib.hid (by rw [tw_cons hl] at hF'; omega)
        clear hF' hF hl
        go_wp2_with (go_at_call 42; refine (NC _).mono ?_; rintro e w1 ⟨rfl, rfl⟩)
        go_roundw
        case rel => exact ⟨k + 1, by omega, by omega, by go_num, HN, trivial⟩
        case measure => simp [intOf]; omega
      | false =>
        rw [hl] at NC
        have hkR : k = R := by rw [tw_stop hl] at hF'; omega
        clear hF' hF hl
        subst hkR
        go_wp2_with (first | (go_at_call 42; refine (NC _).mono ?_; rintro e w1 ⟨rfl, rfl⟩) | (go_at_call 44; refine (VC _).mono ?_; rintro e w4 ⟨rfl, rfl⟩) | (go_at_call 45; refine (WC _).mono ?_; rintro e w4 ⟨rfl, hb4⟩; refine Hid.out ?_))
        refine Lib.hid ?_
        have hR := (RB.start w (.int .i64 0) (.int .i64 0) (.int .i64 0) (.int .i64 0) (.float .f64 0) (.string ⟨#[]⟩)).step hb4
        obtain ⟨a0, a1, a2, a3, a4, a5, d0, d1, d2, d3, d4, d5, df⟩ := hR.cells
        have HR := Lib.hid hR
        clear hR hb4 VC WC
        go_wp2_with fail
        have hG := HR.out.done (.int .i64 5) (.int .i64 0) (.int .i64 k) (.int .i64 0) (.float .f64 0) (.string v)
        exact box_good (t := ⟨5, W.length, 0, 0, W⟩) rfl hG.1 hG.2 rfl rfl (by show (k : Int) = ((W.length : Nat) : Int); rw [HL.out]) rfl HV.out
    · have hkR : k = R := by
        have hF' := hF.out
        rw [left_nil (by omega)] at hF'
        simpa using hF'
      clear hF
      subst hkR
      go_wp2_with (first | (go_at_call 44; refine (VC _).mono ?_; rintro e w4 ⟨rfl, rfl⟩) | (go_at_call 45; refine (WC _).mono ?_; rintro e w4 ⟨rfl, hb4⟩; refine Hid.out ?_))
      refine Lib.hid ?_
      have hR := (RB.start w (.int .i64 0) (.int .i64 0) (.int .i64 0) (.int .i64 0) (.float .f64 0) (.string ⟨#[]⟩)).step hb4
      obtain ⟨a0, a1, a2, a3, a4, a5, d0, d1, d2, d3, d4, d5, df⟩ := hR.cells
      have HR := Lib.hid hR
      clear hR hb4 VC WC
      go_wp2_with fail
      have hG := HR.out.done (.int .i64 5) (.int .i64 0) (.int .i64 k) (.int .i64 0) (.float .f64 0) (.string v)
      exact box_good (t := ⟨5, W.length, 0, 0, W⟩) rfl hG.1 hG.2 rfl rfl (by show (k : Int) = ((W.length : Nat) : Int); rw [HL.out]) rfl HV.out
theorem lname_any {s : ByteArray} (hs : s.size ≤ 100000) (h0 : 0 < s.size) (hl : letB s[0] = true) {w : World} (ht : Tabs w) :
    Calls Tryd.prog 32 #[.string s] w fun e w' => HdEnds 0 (nameT (left s 0)) w e w' := by
  unfold nameT wrdT
  by_cases hn : (left s 0).takeWhile namB = nanL
  · rw [if_pos (.inl hn)]
    exact lname_nan hs h0 hl rfl hn ht
  · by_cases hi : (left s 0).takeWhile namB = infL
    · rw [if_pos (.inr hi)]
      exact lname_inf hs h0 hl rfl hi ht
    · rw [if_neg (fun h => h.elim hn hi)]
      by_cases h30 : 30 < ((left s 0).takeWhile namB).length
      · rw [if_pos h30]
        exact lname_far hs h0 hl rfl hn hi h30 ht
      · rw [if_neg h30]
        exact lname_ok hs h0 hl rfl hn hi (by omega) ht
end Go.Proofs.YtfkjehgbghckhaaDoor
