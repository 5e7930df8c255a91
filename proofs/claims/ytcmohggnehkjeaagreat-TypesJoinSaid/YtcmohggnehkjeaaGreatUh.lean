/-
  The document's sign.
-/
import Derived.Test.YtcmohggnehkjeaaGreatUg
namespace Go.Proofs.YtcmohggnehkjeaaGreat
open Go.RowKit

theorem boxes (w : World) (cs : Array Value) (v0 v1 v2 v3 v4 v5 : Value) : Bx ((w.alloc (.cells cs 174)).alloc (.cells #[v0, v1, v2, v3, v4, v5] 174)) (w.heap.size + 1) #[v0, v1, v2, v3, v4, v5] ∧ Below w.heap.size w ((w.alloc (.cells cs 174)).alloc (.cells #[v0, v1, v2, v3, v4, v5] 174)) := by
  have h := Bx.new (w.alloc (.cells cs 174)) #[v0, v1, v2, v3, v4, v5]
  rw [show (w.alloc (.cells cs 174)).heap.size = w.heap.size + 1 by simp] at h
  exact ⟨h, ((Below.refl _ _).alloc (Nat.le_refl _) _).alloc (by simp) _⟩
theorem good2 {fn : Func} (hfn : fn.results = #[.cell 4 174, .tmp 5]) {w : World} {cs : Array Value} {b n : Int} {s : ByteArray} {t : Tk} {tmps : Array Value} {at_ : Nat}
    (hp : tmps.getD 4 undef = .pointer (some ⟨w.heap.size + 1, 0, none⟩)) (h5 : tmps.getD 5 undef = .int .i64 0) (hb : b = ((at_ + t.len : Nat) : Int)) (hn : n = (t.n : Int)) (hs : s = strL t.s) :
    bodyPost Tryz.prog fn (fun e w' => HdEnds at_ (.ok t) w e w') Exit.ret ⟨tmps, []⟩ ((w.alloc (.cells cs 174)).alloc (.cells #[.int .i64 t.k, .int .i64 at_, .int .i64 b, .int .i64 n, .float .f64 t.f, .string s] 174)) := by
  subst hb hn hs
  obtain ⟨h1, h2⟩ := boxes w cs (.int .i64 t.k) (.int .i64 at_) (.int .i64 ((at_ + t.len : Nat) : Int)) (.int .i64 t.n) (.float .f64 t.f) (.string (strL t.s))
  exact bodyPost_ret (results_tok hfn _ _ (w.heap.size + 1) _ _ _ _ _ _ _ hp h5 h1) rfl ⟨rfl, h2⟩
theorem data_list (v : ByteArray) (l : List UInt8) (h : v = strL l) : v.toList = l := by rw [h, str_is]; rfl
set_option maxRecDepth 20000 in
set_option maxHeartbeats 2000000 in
theorem sign_two0 {s : ByteArray} {a : Nat} (hs : s.size ≤ 100000) (ha : a < s.size) (h2 : (left s a).take 2 = [61, 61]) (w : World) :
    Calls Tryz.prog 174 #[.string s, .agg (tok0 a)] w fun e w' => HdEnds a (.ok ⟨6, 2, 0, 0, [61, 61]⟩) w e w' := by
  obtain ⟨m, hm⟩ : ∃ m, min (a + 2) s.size = m := ⟨_, rfl⟩
  have m1 : min ((a : Int) + 2) (s.size : Int) = (m : Int) := by omega
  have m2 : a ≤ m := by omega
  have m3 : m ≤ s.size := by omega
  obtain ⟨v, hv⟩ : ∃ v, s.extract a m = v := ⟨_, rfl⟩
  have hx : v = strL ((left s a).take 2) := by
    rw [← hv, ext_self]
    congr 1
    have hl := left_len s a
    by_cases h : a + 2 ≤ s.size
    · rw [show m - a = 2 by omega]
    · rw [List.take_of_length_le (by omega), List.take_of_length_le (by omega)]
  have T0 : (v.toList == [61, 61]) = true := by rw [data_list v _ hx, h2]; rfl
  rw [h2] at hx
  have SF := float_store
  have HX := Lib.hid hx
  clear hx h2 hm
  unfold tok0 ktokV at *
  go_enter Tryz.func174, Tryz.ntmps174
  go_wp2_with fail
  exact good2 (t := ⟨6, 2, 0, 0, [61, 61]⟩) rfl rfl rfl (by show (a : Int) + 2 = ((a + 2 : Nat) : Int); omega) rfl HX.out
set_option maxRecDepth 20000 in
set_option maxHeartbeats 2000000 in
theorem sign_two1 {s : ByteArray} {a : Nat} (hs : s.size ≤ 100000) (ha : a < s.size) (h2 : (left s a).take 2 = [60, 61]) (w : World) :
    Calls Tryz.prog 174 #[.string s, .agg (tok0 a)] w fun e w' => HdEnds a (.ok ⟨6, 2, 0, 0, [60, 61]⟩) w e w' := by
  obtain ⟨m, hm⟩ : ∃ m, min (a + 2) s.size = m := ⟨_, rfl⟩
  have m1 : min ((a : Int) + 2) (s.size : Int) = (m : Int) := by omega
  have m2 : a ≤ m := by omega
  have m3 : m ≤ s.size := by omega
  obtain ⟨v, hv⟩ : ∃ v, s.extract a m = v := ⟨_, rfl⟩
  have hx : v = strL ((left s a).take 2) := by
    rw [← hv, ext_self]
    congr 1
    have hl := left_len s a
    by_cases h : a + 2 ≤ s.size
    · rw [show m - a = 2 by omega]
    · rw [List.take_of_length_le (by omega), List.take_of_length_le (by omega)]
  have T0 : (v.toList == [61, 61]) = false := by rw [data_list v _ hx, h2]; rfl
  have T1 : (v.toList == [60, 61]) = true := by rw [data_list v _ hx, h2]; rfl
  rw [h2] at hx
  have SF := float_store
  have HX := Lib.hid hx
  clear hx h2 hm
  unfold tok0 ktokV at *
  go_enter Tryz.func174, Tryz.ntmps174
  go_wp2_with fail
  exact good2 (t := ⟨6, 2, 0, 0, [60, 61]⟩) rfl rfl rfl (by show (a : Int) + 2 = ((a + 2 : Nat) : Int); omega) rfl HX.out
set_option maxRecDepth 20000 in
set_option maxHeartbeats 2000000 in
theorem sign_two2 {s : ByteArray} {a : Nat} (hs : s.size ≤ 100000) (ha : a < s.size) (h2 : (left s a).take 2 = [38, 38]) (w : World) :
    Calls Tryz.prog 174 #[.string s, .agg (tok0 a)] w fun e w' => HdEnds a (.ok ⟨6, 2, 0, 0, [38, 38]⟩) w e w' := by
  obtain ⟨m, hm⟩ : ∃ m, min (a + 2) s.size = m := ⟨_, rfl⟩
  have m1 : min ((a : Int) + 2) (s.size : Int) = (m : Int) := by omega
  have m2 : a ≤ m := by omega
  have m3 : m ≤ s.size := by omega
  obtain ⟨v, hv⟩ : ∃ v, s.extract a m = v := ⟨_, rfl⟩
  have hx : v = strL ((left s a).take 2) := by
    rw [← hv, ext_self]
    congr 1
    have hl := left_len s a
    by_cases h : a + 2 ≤ s.size
    · rw [show m - a = 2 by omega]
    · rw [List.take_of_length_le (by omega), List.take_of_length_le (by omega)]
  have T0 : (v.toList == [61, 61]) = false := by rw [data_list v _ hx, h2]; rfl
  have T1 : (v.toList == [60, 61]) = false := by rw [data_list v _ hx, h2]; rfl
  have T2 : (v.toList == [38, 38]) = true := by rw [data_list v _ hx, h2]; rfl
  rw [h2] at hx
  have SF := float_store
  have HX := Lib.hid hx
  clear hx h2 hm
  unfold tok0 ktokV at *
  go_enter Tryz.func174, Tryz.ntmps174
  go_wp2_with fail
  exact good2 (t := ⟨6, 2, 0, 0, [38, 38]⟩) rfl rfl rfl (by show (a : Int) + 2 = ((a + 2 : Nat) : Int); omega) rfl HX.out
set_option maxRecDepth 20000 in
set_option maxHeartbeats 2000000 in
theorem sign_two3 {s : ByteArray} {a : Nat} (hs : s.size ≤ 100000) (ha : a < s.size) (h2 : (left s a).take 2 = [124, 124]) (w : World) :
    Calls Tryz.prog 174 #[.string s, .agg (tok0 a)] w fun e w' => HdEnds a (.ok ⟨6, 2, 0, 0, [124, 124]⟩) w e w' := by
  obtain ⟨m, hm⟩ : ∃ m, min (a + 2) s.size = m := ⟨_, rfl⟩
  have m1 : min ((a : Int) + 2) (s.size : Int) = (m : Int) := by omega
  have m2 : a ≤ m := by omega
  have m3 : m ≤ s.size := by omega
  obtain ⟨v, hv⟩ : ∃ v, s.extract a m = v := ⟨_, rfl⟩
  have hx : v = strL ((left s a).take 2) := by
    rw [← hv, ext_self]
    congr 1
    have hl := left_len s a
    by_cases h : a + 2 ≤ s.size
    · rw [show m - a = 2 by omega]
    · rw [List.take_of_length_le (by omega), List.take_of_length_le (by omega)]
  have T0 : (v.toList == [61, 61]) = false := by rw [data_list v _ hx, h2]; rfl
  have T1 : (v.toList == [60, 61]) = false := by rw [data_list v _ hx, h2]; rfl
  have T2 : (v.toList == [38, 38]) = false := by rw [data_list v _ hx, h2]; rfl
  have T3 : (v.toList == [124, 124]) = true := by rw [data_list v _ hx, h2]; rfl
  rw [h2] at hx
  have SF := float_store
  have HX := Lib.hid hx
  clear hx h2 hm
  unfold tok0 ktokV at *
  go_enter Tryz.func174, Tryz.ntmps174
  go_wp2_with fail
  exact good2 (t := ⟨6, 2, 0, 0, [124, 124]⟩) rfl rfl rfl (by show (a : Int) + 2 = ((a + 2 : Nat) : Int); omega) rfl HX.out
def twosL : List (List UInt8) := [[61, 61], [60, 61], [38, 38], [124, 124]]
def signsA : ByteArray := ⟨#[40, 41, 91, 93, 123, 125, 44, 58, 46, 63, 43, 45, 42, 47, 37, 33, 60]⟩
theorem signs_cut : ∀ i, i < 17 → ∃ d, onesL[i]? = some d ∧ signsA.extract i (i + 1) = strL [d] := by
  intro i hi
  have h : (List.range 17).all (fun i => match onesL[i]? with | some d => decide (signsA.extract i (i + 1) = strL [d]) | none => false) = true := by decide +kernel
  rw [List.all_eq_true] at h
  have h1 := h i (List.mem_range.2 hi)
  cases hd : onesL[i]? with
  | none => rw [hd] at h1; cases h1
  | some d => rw [hd] at h1; exact ⟨d, rfl, by simpa using h1⟩
set_option maxRecDepth 20000 in
set_option maxHeartbeats 2000000 in
theorem sign_one {s : ByteArray} {a : Nat} {c : UInt8} (hs : s.size ≤ 100000) (ha : a < s.size) (hc : s[a] = c) (h2 : ∀ j, j < 4 → ¬ twosL[j]? = some ((left s a).take 2)) (w : World) :
    Calls Tryz.prog 174 #[.string s, .agg (tok0 a)] w fun e w' => HdEnds a (oneT c) w e w' := by
  obtain ⟨m, hm⟩ : ∃ m, min (a + 2) s.size = m := ⟨_, rfl⟩
  have m1 : min ((a : Int) + 2) (s.size : Int) = (m : Int) := by omega
  have m2 : a ≤ m := by omega
  have m3 : m ≤ s.size := by omega
  obtain ⟨v, hv⟩ : ∃ v, s.extract a m = v := ⟨_, rfl⟩
  have hx : v = strL ((left s a).take 2) := by
    rw [← hv, ext_self]
    congr 1
    have hl := left_len s a
    by_cases h : a + 2 ≤ s.size
    · rw [show m - a = 2 by omega]
    · rw [List.take_of_length_le (by omega), List.take_of_length_le (by omega)]
  have T0 : (v.toList == [61, 61]) = false := beq_no (fun h => by rw [data_list v _ hx] at h; exact h2 0 (by decide) (by rw [h]; rfl))
  have T1 : (v.toList == [60, 61]) = false := beq_no (fun h => by rw [data_list v _ hx] at h; exact h2 1 (by decide) (by rw [h]; rfl))
  have T2 : (v.toList == [38, 38]) = false := beq_no (fun h => by rw [data_list v _ hx] at h; exact h2 2 (by decide) (by rw [h]; rfl))
  have T3 : (v.toList == [124, 124]) = false := beq_no (fun h => by rw [data_list v _ hx] at h; exact h2 3 (by decide) (by rw [h]; rfl))
  obtain ⟨u, hu⟩ : ∃ u, s.extract a (a + 1) = u := ⟨_, rfl⟩
  have hux : u = strL [c] := by
    rw [← hu, ext_self, show a + 1 - a = 1 by omega, left_cons ha, hc]; rfl
  have j1 : (a : Int) ≤ (a : Int) + 1 := by omega
  have j2 : (a : Int) + 1 ≤ (s.size : Int) := by omega
  have j3 : ((a : Int) + 1).toNat = a + 1 := by omega
  have hW := RW.start w (ktokV 6 a a 0 0 ⟨#[]⟩)
  have SF := float_store
  obtain ⟨H, hH⟩ : ∃ H, oneT c = H := ⟨_, rfl⟩
  rw [hH]
  have HH := Lib.hid hH
  have HU := Lib.hid hux
  clear hx h2 hm hH hux hc
  unfold tok0 ktokV at *
  go_enter Tryz.func174, Tryz.ntmps174
  go_wp2_with fail
  generalize ((w.alloc (.cells #[.int .i64 6, .int .i64 a, .int .i64 a, .int .i64 0, .float .f64 0, .string ⟨#[]⟩] 174)).alloc (.cells #[.int .i64 0, .int .i64 0, .int .i64 0, .int .i64 0, .float .f64 0, .string ⟨#[]⟩] 174)) = w2 at hW ⊢
  obtain ⟨c0, c1, c2, c3, c4, c5, cf⟩ := hW.tok.cells
  obtain ⟨a0, a1, a2, a3, a4, a5, d0, d1, d2, d3, d4, d5⟩ := hW.out6
  have df := hW.free
  have HW := Lib.hid hW
  clear hW
  obtain ⟨A, hA⟩ : ∃ A, signsA = A := ⟨_, rfl⟩
  have hA' : (⟨#[40, 41, 91, 93, 123, 125, 44, 58, 46, 63, 43, 45, 42, 47, 37, 33, 60]⟩ : ByteArray) = A := hA
  rw [hA']
  have hAs : A.size = 17 := by rw [← hA]; rfl
  have SC := signs_cut
  rw [hA] at SC
  clear hA hA'
  go_loopw [9] (fun iv wr => ∃ i : Nat, i ≤ 17 ∧ iv = .int .i64 i ∧ Hid (∀ j, j < i → ¬ onesL[j]? = some c) ∧ wr = w2) (fun iv _ => 17 - (intOf iv).toNat)
  case atStart => exact ⟨0, by omega, rfl, Lib.hid (fun j h => absurd h (Nat.not_lt_zero _)), rfl⟩
  case round =>
    obtain ⟨i, hi, rfl, hF, rfl⟩ := hrel
    by_cases hlt : i < 17
    · obtain ⟨d, hd, hx⟩ := SC i hlt
      obtain ⟨x, hxx⟩ : ∃ x, A.extract i (i + 1) = x := ⟨_, rfl⟩
      rw [hxx] at hx
      have k1 : (i : Int) ≤ (i : Int) + 1 := by omega
      have k2 : (i : Int) + 1 ≤ 17 := by omega
      have k3 : ((i : Int) + 1).toNat = i + 1 := by omega
      by_cases hdc : d = c
      · have T5 : (x.toList == u.toList) = true := beq_yes (by rw [data_list x _ hx, data_list u _ HU.out, hdc])
        have hH := HH.out
        unfold oneT at hH
        rw [if_pos (by rw [← hdc]; exact List.mem_of_getElem? hd)] at hH
        subst hH
        clear hF hd hx hdc SC
        go_wp2_with fail
        exact RW.good (t := ⟨6, 1, 0, 0, [c]⟩) rfl ((HW.out.set 5 _).set 2 _) rfl rfl (by show (a : Int) + 1 = ((a + 1 : Nat) : Int); omega) rfl HU.out
      · have T5 : (x.toList == u.toList) = false := beq_no (by
          rw [data_list x _ hx, data_list u _ HU.out]
          intro h
          injection h with h _
          exact hdc h)
        have HN : Hid (∀ j, j < i + 1 → ¬ onesL[j]? = some c) := Lib.hid (fun j hj => by
          by_cases e : j = i
          · rw [e, hd]; intro h; injection h with h; exact hdc h
          · exact hF.out j (by omega))
        clear hF hd hx hdc
        go_wp2_with fail
        go_roundw
        case rel => exact ⟨i + 1, by omega, by go_num, HN, trivial⟩
        case measure => simp [intOf]; omega
    · have hH := HH.out
      unfold oneT at hH
      rw [if_neg (fun h => by
        obtain ⟨j, hj⟩ := List.mem_iff_getElem?.1 h
        have h17 : onesL.length = 17 := rfl
        have := (List.getElem?_eq_some_iff.1 hj).1
        exact hF.out j (by omega) hj)] at hH
      subst hH
      clear hF SC
      go_wp2_with fail
      exact RW.bad rfl HW.out rfl rfl
theorem ksign_any {s : ByteArray} {a : Nat} {c : UInt8} (hs : s.size ≤ 100000) (ha : a < s.size) (hc : s[a] = c) (w : World) :
    Calls Tryz.prog 174 #[.string s, .agg (tok0 a)] w fun e w' => HdEnds a (signT (left s a) c) w e w' := by
  unfold signT
  by_cases h : twoB ((left s a).take 2) = true
  · rw [if_pos h]
    have h' := h
    unfold twoB at h'
    simp only [Bool.or_eq_true, decide_eq_true_eq] at h'
    rcases h' with ((h2 | h2) | h2) | h2
    · rw [h2]; exact sign_two0 hs ha h2 w
    · rw [h2]; exact sign_two1 hs ha h2 w
    · rw [h2]; exact sign_two2 hs ha h2 w
    · rw [h2]; exact sign_two3 hs ha h2 w
  · rw [if_neg h]
    refine sign_one hs ha hc (fun j hj => ?_) w
    unfold twoB at h
    simp only [Bool.or_eq_true, decide_eq_true_eq, not_or] at h
    obtain ⟨⟨⟨h0, h1⟩, h2⟩, h3⟩ := h
    obtain rfl | rfl | rfl | rfl : j = 0 ∨ j = 1 ∨ j = 2 ∨ j = 3 := by omega
    · intro e; injection e with e; exact h0 e.symm
    · intro e; injection e with e; exact h1 e.symm
    · intro e; injection e with e; exact h2 e.symm
    · intro e; injection e with e; exact h3 e.symm
end Go.Proofs.YtcmohggnehkjeaaGreat
