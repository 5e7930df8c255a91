/-
  The document's number: ints.
-/
import Derived.Test.YtcmohggnehkjeaaGreatUc
namespace Go.Proofs.YtcmohggnehkjeaaGreat
open Go.RowKit

theorem dig_at {s : ByteArray} {a j : Nat} (h : j < (dig (left s a)).length) : ∃ (hh : a + j < s.size), (dig (left s a))[j]? = some s[a + j] ∧ isD s[a + j] = true := by
  have hl : (dig (left s a)).length ≤ (left s a).length := dig_le _
  have hl2 := left_len s a
  have hh : a + j < s.size := by omega
  have hp : (dig (left s a))[j]? = some s[a + j] := by
    obtain ⟨t, ht⟩ : ∃ t, dig (left s a) ++ t = left s a := List.takeWhile_prefix (l := left s a) isD
    have h1 : (left s a)[j]? = some s[a + j] := by
      have h2 := left_cons hh
      have h3 : left s (a + j) = (left s a).drop j := left_drop s a j
      rw [h3] at h2
      have h4 := congrArg (fun l => l[0]?) h2
      simpa using h4
    rw [← ht, List.getElem?_append_left h] at h1
    exact h1
  exact ⟨hh, hp, by
    have h3 := dig_all (left s a)
    rw [List.all_eq_true] at h3
    exact h3 _ (List.mem_of_getElem? hp)⟩
theorem num_step {s : ByteArray} {a j : Nat} (h : j < (dig (left s a)).length) (hj : j < 19) : ∃ (hh : a + j < s.size), numN ((dig (left s a)).take (j + 1)) = numN ((dig (left s a)).take j) * 10 + (s[a + j].toNat - 48) ∧ 48 ≤ s[a + j].toNat ∧ s[a + j].toNat ≤ 57 ∧ numN ((dig (left s a)).take j) < 1000000000000000000 := by
  obtain ⟨hh, h1, h2⟩ := dig_at h
  have h3 : (dig (left s a)).take (j + 1) = (dig (left s a)).take j ++ [s[a + j]] := by
    rw [List.take_add_one, h1]; rfl
  have h4 : ((dig (left s a)).take j).all isD = true := by
    have := dig_all (left s a)
    rw [List.all_eq_true] at this ⊢
    exact fun x hx => this x (List.mem_of_mem_take hx)
  have h5 := numN_lt _ h4
  rw [List.length_take] at h5
  have h6 : 10 ^ (min j (dig (left s a)).length) ≤ 10 ^ 18 := Nat.pow_le_pow_right (by decide) (by omega)
  unfold isD at h2
  rw [Bool.and_eq_true, decide_eq_true_eq, decide_eq_true_eq] at h2
  exact ⟨hh, by rw [h3, numN_snoc], h2.1, h2.2, Nat.lt_of_lt_of_le h5 h6⟩
set_option maxHeartbeats 1000000 in
theorem number_long_end {s : ByteArray} {a p : Nat} (hs : s.size ≤ 100000) (hd : a + (dig (left s a)).length = p) (hp : p = s.size) (hl : 19 < p - a) (w : World) :
    Calls Tryz.prog 170 #[.string s, .agg (tok0 a)] w fun e w' => HdEnds a (.err 3) w e w' := by
  have RN := run_any (s := s) (i := a) (by omega) hs
  rw [hd] at RN
  have hW := RW.start w (tok0 a)
  have SF := float_store
  have t1 : ¬ p < s.size := by omega
  have t2 : (19 : Int) < wrap64 ((p : Int) - (a : Int)) := by unfold wrap64; omega
  have HD := Lib.hid hd
  clear hd hp
  unfold tok0 ktokV at *
  go_enter Tryz.func170, Tryz.ntmps170
  go_wp2_with (first | (go_at_call 197; refine (RN _).mono ?_; rintro e w1 ⟨rfl, rfl⟩; refine Hid.out ?_))
  refine Lib.hid ?_
  generalize ((w.alloc (.cells #[.int .i64 1, .int .i64 a, .int .i64 a, .int .i64 0, .float .f64 0, .string ⟨#[]⟩] 174)).alloc (.cells #[.int .i64 0, .int .i64 0, .int .i64 0, .int .i64 0, .float .f64 0, .string ⟨#[]⟩] 174)) = w2 at hW ⊢
  obtain ⟨c0, c1, c2, c3, c4, c5, cf⟩ := hW.tok.cells
  obtain ⟨a0, a1, a2, a3, a4, a5, d0, d1, d2, d3, d4, d5⟩ := hW.out6
  have df := hW.free
  have HW := Lib.hid hW
  clear hW RN
  go_wp2_with fail
  exact RW.bad rfl ((HW.out.set 0 _).set 2 _) rfl rfl
set_option maxRecDepth 20000 in
set_option maxHeartbeats 2000000 in
theorem number_int_end {s : ByteArray} {a p : Nat} (hs : s.size ≤ 100000) (hd : a + (dig (left s a)).length = p) (hp : p = s.size) (hl : ¬ 19 < p - a) (w : World) :
    Calls Tryz.prog 170 #[.string s, .agg (tok0 a)] w fun e w' => HdEnds a (intT (dig (left s a))) w e w' := by
  have hps : p ≤ s.size := by
    have := dig_le (left s a)
    have := left_len s a
    omega
  have RN := run_any (s := s) (i := a) (by omega) hs
  rw [hd] at RN
  have hW := RW.start w (tok0 a)
  have SF := float_store
  have t1 : ¬ p < s.size := by omega
  have t2 : wrap64 ((p : Int) - (a : Int)) ≤ 19 := by unfold wrap64; omega
  have HD := Lib.hid hd
  obtain ⟨H, hH⟩ : ∃ H, intT (dig (left s a)) = H := ⟨_, rfl⟩
  rw [hH]
  have HH := Lib.hid hH
  clear hd hp hH
  unfold tok0 ktokV at *
  go_enter Tryz.func170, Tryz.ntmps170
  go_wp2_with (first | (go_at_call 197; refine (RN _).mono ?_; rintro e w1 ⟨rfl, rfl⟩; refine Hid.out ?_))
  refine Lib.hid ?_
  generalize ((w.alloc (.cells #[.int .i64 1, .int .i64 a, .int .i64 a, .int .i64 0, .float .f64 0, .string ⟨#[]⟩] 174)).alloc (.cells #[.int .i64 0, .int .i64 0, .int .i64 0, .int .i64 0, .float .f64 0, .string ⟨#[]⟩] 174)) = w2 at hW ⊢
  obtain ⟨c0, c1, c2, c3, c4, c5, cf⟩ := hW.tok.cells
  obtain ⟨a0, a1, a2, a3, a4, a5, d0, d1, d2, d3, d4, d5⟩ := hW.out6
  have df := hW.free
  have HW := Lib.hid hW
  clear hW RN
  go_wp2_with fail
  go_loopw [10, 11] (fun nv kv wr => ∃ (n k : Nat), a ≤ k ∧ k ≤ p ∧ nv = .int .u64 n ∧ kv = .int .i64 k ∧ Hid (n = numN ((dig (left s a)).take (k - a))) ∧ wr = (w2.setCell ⟨w.heap.size, 0, none⟩ (.int .i64 2)).setCell ⟨w.heap.size, 2, none⟩ (.int .i64 p)) (fun _ kv _ => p - (intOf kv).toNat)
  case atStart => exact ⟨0, a, Nat.le_refl _, by have := HD.out; omega, rfl, rfl, Lib.hid (by rw [Nat.sub_self]; rfl), rfl⟩
  case round =>
    obtain ⟨n, k, hak, hkp, rfl, rfl, hn, rfl⟩ := hrel
    by_cases hlt2 : k < p
    · obtain ⟨hh, e1, e2, e3, e4⟩ := num_step (s := s) (a := a) (j := k - a) (by have := HD.out; omega) (by omega)
      have hk : k < s.size := by omega
      have ek : a + (k - a) = k := by omega
      obtain ⟨c', hc'⟩ : ∃ c', s[k] = c' := ⟨_, rfl⟩
      have hcc : s[a + (k - a)] = c' := by rw [← hc']; simp only [ek]
      rw [hcc] at e1 e2 e3
      have hn' := hn.out
      rw [← hn'] at e1 e4
      have HN := Lib.hid (show n * 10 + (c'.toNat - 48) = numN ((dig (left s a)).take (k + 1 - a)) by rw [show k + 1 - a = k - a + 1 by omega, e1])
      clear hh hcc e1 hn hn' ek
      go_wp2_with fail
      go_roundw
      case rel =>
        refine ⟨n * 10 + (c'.toNat - 48), k + 1, by omega, by omega, ?_, by go_num, HN, trivial⟩
        rw [show ((n * 10 + (c'.toNat - 48) : Nat) : Int) = (n : Int) * 10 + ((c'.toNat : Int) - 48) by omega]
      case measure => simp [intOf]; omega
    · have ek : k = p := by omega
      have en : n = numN (dig (left s a)) := by
        rw [hn.out, List.take_of_length_le (by have := HD.out; omega)]
      have hh : (dig (left s a)).length = p - a := by have := HD.out; omega
      have hI := HH.out
      unfold intT at hI
      rw [if_neg (by rw [hh]; exact hl), ← en, hh] at hI
      clear hn en hh ek
      by_cases hb : 9223372036854775808 ≤ n
      · have t3 : decide ((9223372036854775808 : Int) ≤ (n : Int)) = true := decide_eq_true (by omega)
        rw [if_pos hb] at hI
        subst hI
        clear hb
        go_wp2_with fail
        exact RW.bad rfl ((HW.out.set 0 _).set 2 _) rfl rfl
      · have t3 : decide ((9223372036854775808 : Int) ≤ (n : Int)) = false := decide_eq_false (by omega)
        have t4 : wrap64 (n : Int) = n := by unfold wrap64; omega
        rw [if_neg hb] at hI
        subst hI
        clear hb
        go_wp2_with fail
        exact RW.good (t := ⟨2, p - a, n, 0, []⟩) rfl (((HW.out.set 0 _).set 2 _).set 3 _) rfl rfl (by have := HD.out; show (p : Int) = ((a + (p - a) : Nat) : Int); omega) rfl rfl
set_option maxHeartbeats 1000000 in
theorem number_long_not {s : ByteArray} {a p : Nat} (hs : s.size ≤ 100000) (hd : a + (dig (left s a)).length = p) (hlt : p < s.size) (hp : ¬ s[p] = 112) (hl : 19 < p - a) (w : World) :
    Calls Tryz.prog 170 #[.string s, .agg (tok0 a)] w fun e w' => HdEnds a (.err 3) w e w' := by
  have RN := run_any (s := s) (i := a) (by omega) hs
  rw [hd] at RN
  have hW := RW.start w (tok0 a)
  have SF := float_store
  obtain ⟨c, hc⟩ : ∃ c, s[p] = c := ⟨_, rfl⟩
  have t1 : ((c.toNat : Int) == 112) = false := by
    rw [beq_eq_false_iff_ne]
    intro h
    exact hp (by rw [hc, u8_eq]; have : (112 : UInt8).toNat = 112 := rfl; omega)
  have t2 : (19 : Int) < wrap64 ((p : Int) - (a : Int)) := by unfold wrap64; omega
  have HD := Lib.hid hd
  clear hd hp
  unfold tok0 ktokV at *
  go_enter Tryz.func170, Tryz.ntmps170
  go_wp2_with (first | (go_at_call 197; refine (RN _).mono ?_; rintro e w1 ⟨rfl, rfl⟩; refine Hid.out ?_))
  refine Lib.hid ?_
  generalize ((w.alloc (.cells #[.int .i64 1, .int .i64 a, .int .i64 a, .int .i64 0, .float .f64 0, .string ⟨#[]⟩] 174)).alloc (.cells #[.int .i64 0, .int .i64 0, .int .i64 0, .int .i64 0, .float .f64 0, .string ⟨#[]⟩] 174)) = w2 at hW ⊢
  obtain ⟨c0, c1, c2, c3, c4, c5, cf⟩ := hW.tok.cells
  obtain ⟨a0, a1, a2, a3, a4, a5, d0, d1, d2, d3, d4, d5⟩ := hW.out6
  have df := hW.free
  have HW := Lib.hid hW
  clear hW RN
  go_wp2_with fail
  exact RW.bad rfl ((HW.out.set 0 _).set 2 _) rfl rfl
set_option maxRecDepth 20000 in
set_option maxHeartbeats 2000000 in
theorem number_int_not {s : ByteArray} {a p : Nat} (hs : s.size ≤ 100000) (hd : a + (dig (left s a)).length = p) (hlt : p < s.size) (hp : ¬ s[p] = 112) (hl : ¬ 19 < p - a) (w : World) :
    Calls Tryz.prog 170 #[.string s, .agg (tok0 a)] w fun e w' => HdEnds a (intT (dig (left s a))) w e w' := by
  have hps : p ≤ s.size := by
    have := dig_le (left s a)
    have := left_len s a
    omega
  have RN := run_any (s := s) (i := a) (by omega) hs
  rw [hd] at RN
  have hW := RW.start w (tok0 a)
  have SF := float_store
  obtain ⟨c, hc⟩ : ∃ c, s[p] = c := ⟨_, rfl⟩
  have t1 : ((c.toNat : Int) == 112) = false := by
    rw [beq_eq_false_iff_ne]
    intro h
    exact hp (by rw [hc, u8_eq]; have : (112 : UInt8).toNat = 112 := rfl; omega)
  have t2 : wrap64 ((p : Int) - (a : Int)) ≤ 19 := by unfold wrap64; omega
  have HD := Lib.hid hd
  obtain ⟨H, hH⟩ : ∃ H, intT (dig (left s a)) = H := ⟨_, rfl⟩
  rw [hH]
  have HH := Lib.hid hH
  clear hd hp hH
  unfold tok0 ktokV at *
  go_enter Tryz.func170, Tryz.ntmps170
  go_wp2_with (first | (go_at_call 197; refine (RN _).mono ?_; rintro e w1 ⟨rfl, rfl⟩; refine Hid.out ?_))
  refine Lib.hid ?_
  generalize ((w.alloc (.cells #[.int .i64 1, .int .i64 a, .int .i64 a, .int .i64 0, .float .f64 0, .string ⟨#[]⟩] 174)).alloc (.cells #[.int .i64 0, .int .i64 0, .int .i64 0, .int .i64 0, .float .f64 0, .string ⟨#[]⟩] 174)) = w2 at hW ⊢
  obtain ⟨c0, c1, c2, c3, c4, c5, cf⟩ := hW.tok.cells
  obtain ⟨a0, a1, a2, a3, a4, a5, d0, d1, d2, d3, d4, d5⟩ := hW.out6
  have df := hW.free
  have HW := Lib.hid hW
  clear hW RN
  go_wp2_with fail
  go_loopw [10, 11] (fun nv kv wr => ∃ (n k : Nat), a ≤ k ∧ k ≤ p ∧ nv = .int .u64 n ∧ kv = .int .i64 k ∧ Hid (n = numN ((dig (left s a)).take (k - a))) ∧ wr = (w2.setCell ⟨w.heap.size, 0, none⟩ (.int .i64 2)).setCell ⟨w.heap.size, 2, none⟩ (.int .i64 p)) (fun _ kv _ => p - (intOf kv).toNat)
  case atStart => exact ⟨0, a, Nat.le_refl _, by have := HD.out; omega, rfl, rfl, Lib.hid (by rw [Nat.sub_self]; rfl), rfl⟩
  case round =>
    obtain ⟨n, k, hak, hkp, rfl, rfl, hn, rfl⟩ := hrel
    by_cases hlt2 : k < p
    · obtain ⟨hh, e1, e2, e3, e4⟩ := num_step (s := s) (a := a) (j := k - a) (by have := HD.out; omega) (by omega)
      have hk : k < s.size := by omega
      have ek : a + (k - a) = k := by omega
      obtain ⟨c', hc'⟩ : ∃ c', s[k] = c' := ⟨_, rfl⟩
      have hcc : s[a + (k - a)] = c' := by rw [← hc']; simp only [ek]
      rw [hcc] at e1 e2 e3
      have hn' := hn.out
      rw [← hn'] at e1 e4
      have HN := Lib.hid (show n * 10 + (c'.toNat - 48) = numN ((dig (left s a)).take (k + 1 - a)) by rw [show k + 1 - a = k - a + 1 by omega, e1])
      clear hh hcc e1 hn hn' ek
      go_wp2_with fail
      go_roundw
      case rel =>
        refine ⟨n * 10 + (c'.toNat - 48), k + 1, by omega, by omega, ?_, by go_num, HN, trivial⟩
        rw [show ((n * 10 + (c'.toNat - 48) : Nat) : Int) = (n : Int) * 10 + ((c'.toNat : Int) - 48) by omega]
      case measure => simp [intOf]; omega
    · have ek : k = p := by omega
      have en : n = numN (dig (left s a)) := by
        rw [hn.out, List.take_of_length_le (by have := HD.out; omega)]
      have hh : (dig (left s a)).length = p - a := by have := HD.out; omega
      have hI := HH.out
      unfold intT at hI
      rw [if_neg (by rw [hh]; exact hl), ← en, hh] at hI
      clear hn en hh ek
      by_cases hb : 9223372036854775808 ≤ n
      · have t3 : decide ((9223372036854775808 : Int) ≤ (n : Int)) = true := decide_eq_true (by omega)
        rw [if_pos hb] at hI
        subst hI
        clear hb
        go_wp2_with fail
        exact RW.bad rfl ((HW.out.set 0 _).set 2 _) rfl rfl
      · have t3 : decide ((9223372036854775808 : Int) ≤ (n : Int)) = false := decide_eq_false (by omega)
        have t4 : wrap64 (n : Int) = n := by unfold wrap64; omega
        rw [if_neg hb] at hI
        subst hI
        clear hb
        go_wp2_with fail
        exact RW.good (t := ⟨2, p - a, n, 0, []⟩) rfl (((HW.out.set 0 _).set 2 _).set 3 _) rfl rfl (by have := HD.out; show (p : Int) = ((a + (p - a) : Nat) : Int); omega) rfl rfl
end Go.Proofs.YtcmohggnehkjeaaGreat
