/-
  Contracts of strings.Cut at one byte, and of the program's parseSize and Parse.
-/
import Derived.Test.YtfkjehgbghckhaaDoorFp
import Derived.Lib.IndexLaws
namespace Go.Proofs.YtfkjehgbghckhaaDoor
open Go.RowKit Ieee

theorem cut_yes {s : ByteArray} {k : Nat} (hk : k < s.size) (hs : s.size ≤ 100000) (h : Lib.indexByte s.data.toList 112 = (k : Int)) (w : World) :
    Calls Tryd.prog 80 #[.string s, .string ⟨#[112]⟩] w fun e w' => e = .returned (.tuple #[.string (s.extract 0 k), .string (s.extract (k + 1) s.size), .bool true]) ∧ ∃ n, w' = w.drewN n := by
  have I := lib_stringslite_Index_one s 112 w
  rw [h] at I
  clear h
  go_enter Tryd.func80, Tryd.ntmps80
  go_wp2_with (go_at_call 86; refine I.mono ?_; rintro e w' ⟨rfl, rfl⟩)
  go_upto_region 3 with (fail)
  go_quiet (fail)
  go_wp2_with fail
  go_ret3
  exact ⟨rfl, _, rfl⟩
theorem cut_no {s : ByteArray} (h : Lib.indexByte s.data.toList 112 = -1) (w : World) :
    Calls Tryd.prog 80 #[.string s, .string ⟨#[112]⟩] w fun e w' => e = .returned (.tuple #[.string s, .string ⟨#[]⟩, .bool false]) ∧ ∃ n, w' = w.drewN n := by
  have I := lib_stringslite_Index_one s 112 w
  rw [h] at I
  clear h
  go_enter Tryd.func80, Tryd.ntmps80
  go_wp2_with (go_at_call 86; refine I.mono ?_; rintro e w' ⟨rfl, rfl⟩)
  go_ret3
  exact ⟨rfl, 0, rfl⟩

/-- What stands ahead of the first p, and behind it. -/
def leftL (l : List UInt8) : List UInt8 := l.takeWhile (fun c => c != 112)
def rightL (l : List UInt8) : List UInt8 := (l.dropWhile (fun c => c != 112)).drop 1
theorem left_right_at : ∀ {l : List UInt8} {k : Nat}, l[k]? = some 112 → (∀ (j : Nat), j < k → l[j]? ≠ some 112) → leftL l = l.take k ∧ rightL l = l.drop (k + 1)
  | [], k, h, _ => by simp at h
  | b :: l, 0, h, _ => by
    have hb : b = 112 := by simpa using h
    subst hb
    simp [leftL, rightL]
  | b :: l, k + 1, h, hn => by
    have hb : b ≠ 112 := fun e => hn 0 (by omega) (by simp [e])
    have ih := left_right_at (l := l) (k := k) (by simpa using h) (fun j hj e => hn (j + 1) (by omega) (by simpa using e))
    unfold leftL rightL at *
    simp only [List.takeWhile_cons, List.dropWhile_cons, bne_iff_ne, ne_eq, hb, not_false_eq_true, if_true, ih.1, ih.2]
    exact ⟨rfl, rfl⟩
theorem left_right_no : ∀ {l : List UInt8}, (∀ (j : Nat), l[j]? ≠ some 112) → leftL l = l ∧ rightL l = []
  | [], _ => by simp [leftL, rightL]
  | b :: l, hn => by
    have hb : b ≠ 112 := fun e => hn 0 (by simp [e])
    have ih := left_right_no (l := l) (fun (j : Nat) e => hn (j + 1) (by simpa using e))
    unfold leftL rightL at *
    simp only [List.takeWhile_cons, List.dropWhile_cons, bne_iff_ne, ne_eq, hb, not_false_eq_true, if_true, ih.1, ih.2]
    exact ⟨trivial, trivial⟩
theorem ext_take (l : List UInt8) (k : Nat) : (strL l).extract 0 k = strL (l.take k) := by
  rw [Lib.extract_eq]
  show (⟨((l.drop 0).take (k - 0)).toArray⟩ : ByteArray) = _
  rw [List.drop_zero, Nat.sub_zero]
  rfl
theorem ext_drop (l : List UInt8) (k : Nat) : (strL l).extract k (strL l).size = strL (l.drop k) := by
  rw [Lib.extract_eq]
  show (⟨((l.drop k).take (l.length - k)).toArray⟩ : ByteArray) = _
  rw [List.take_of_length_le (by simp)]
  rfl
theorem stringslite_cut {l : List UInt8} (hl : l.length ≤ 100000) (w : World) :
    ∃ f, Calls Tryd.prog 80 #[.string (strL l), .string ⟨#[112]⟩] w fun e w' => e = .returned (.tuple #[.string (strL (leftL l)), .string (strL (rightL l)), .bool f]) ∧ ∃ n, w' = w.drewN n := by
  have hge := Lib.indexByte_ge l 112
  by_cases h : Lib.indexByte l 112 = -1
  · obtain ⟨e1, e2⟩ := left_right_no (Lib.indexByte_none h)
    rw [e1, e2]
    exact ⟨false, cut_no h w⟩
  · obtain ⟨k, hk⟩ : ∃ k : Nat, Lib.indexByte l 112 = k := ⟨(Lib.indexByte l 112).toNat, by omega⟩
    obtain ⟨h1, h2⟩ := Lib.indexByte_some hk
    obtain ⟨e1, e2⟩ := left_right_at h1 h2
    have hlt : k < l.length := by
      rcases Nat.lt_or_ge k l.length with h' | h'
      · exact h'
      · rw [List.getElem?_eq_none h'] at h1; cases h1
    have c := cut_yes (s := strL l) (k := k) (show k < l.length from hlt) (show l.length ≤ 100000 from hl) hk w
    rw [ext_take, ext_drop, ← e1, ← e2] at c
    exact ⟨true, c⟩
theorem cut_any {l : List UInt8} (hl : l.length ≤ 100000) (w : World) :
    ∃ f, Calls Tryd.prog 71 #[.string (strL l), .string ⟨#[112]⟩] w fun e w' => e = .returned (.tuple #[.string (strL (leftL l)), .string (strL (rightL l)), .bool f]) ∧ ∃ n, w' = w.drewN n := by
  obtain ⟨f, C⟩ := stringslite_cut hl w
  refine ⟨f, ?_⟩
  generalize strL (leftL l) = A at *
  generalize strL (rightL l) = B at *
  generalize strL l = s at *
  clear hl
  go_enter Tryd.func71, Tryd.ntmps71
  go_wp2_with (go_at_call 80; refine C.mono ?_; rintro e w' ⟨rfl, n, rfl⟩)
  go_ret3
  exact ⟨rfl, n, rfl⟩

/-- What stands behind the p, without a minus. -/
def belowB (l : List UInt8) : Bool := Lib.hasPrefix (rightL l) [45]
def bodyL (l : List UInt8) : List UInt8 := Lib.trimPrefix (rightL l) [45]
def sgnI (b : Bool) (n : Nat) : Int := if b = true then -(n : Int) else (n : Int)
def bodyV (neg : Bool) (l : List UInt8) : Value := if okD (leftL l) 20 = true ∧ okD (bodyL l) 4 = true then madeT neg (capN (leftL l)) (sgnI (belowB l) (capN (bodyL l))) else .tuple #[.float .f64 0, .int .i64 5]
def sizeV (neg : Bool) (l : List UInt8) : Value := if l = [105, 110, 102] then .tuple #[.float .f64 (double.word neg 9218868437227405312), .int .i64 0] else bodyV neg l
def parseV (l : List UInt8) : Value := if l = [110, 97, 110] then .tuple #[.float .f64 9221120237041090560, .int .i64 0] else sizeV (Lib.hasPrefix l [45]) (Lib.trimPrefix l [45])

theorem size_inf (w : World) : Calls Tryd.prog 55 #[.string ⟨#[105, 110, 102]⟩] w fun x w' => x = .returned (.tuple #[.float .f64 9218868437227405312, .int .i64 0]) ∧ w = w' := by
  have I := inf_up w
  go_enter Tryd.func55, Tryd.ntmps55
  go_wp2_with (go_at_call 70; refine I.mono ?_; rintro e w' ⟨rfl, rfl⟩)
  go_ret2
  exact ⟨rfl, rfl⟩
theorem size_walk {s A B C : ByteArray} {f g o1 o2 : Bool} {n p x : Nat} {y : Int} {w : World} (T : (s.toList == [105, 110, 102]) = false) (ht : Tabs w)
    (hC : Calls Tryd.prog 71 #[.string s, .string ⟨#[112]⟩] w fun e w' => e = .returned (.tuple #[.string A, .string B, .bool f]) ∧ ∃ n, w' = w.drewN n)
    (hP : Says 54 #[.string B, .string ⟨#[45]⟩] (.tuple #[.string C, .bool g]))
    (h1 : Says 72 #[.string A, .int .i64 20] (.tuple #[.int .u64 n, .bool o1])) (h2 : Says 72 #[.string C, .int .i64 4] (.tuple #[.int .u64 p, .bool o2]))
    (hp : p ≤ 9999) (hS : o1 = true ∧ o2 = true → ∀ W, Tabs W → Calls Tryd.prog 73 #[.int .u64 n, .int .i64 (sgnI g p)] W fun e w' => e = .returned (.tuple #[.float .f64 x, .int .i64 y]) ∧ W = w')
    (hV : (o1 = true ∧ o2 = true) ∨ (x = 0 ∧ y = 5)) :
    Calls Tryd.prog 55 #[.string s] w fun e w' => e = .returned (.tuple #[.float .f64 x, .int .i64 y]) ∧ ∃ n, w' = w.drewN n := by
  cases o1 with
  | false =>
    have hV' := Lib.hid (show x = 0 ∧ y = 5 by rcases hV with h | h <;> simp_all)
    clear hV hS
    go_enter Tryd.func55, Tryd.ntmps55
    go_wp2_with (first | (go_at_call 71; refine hC.mono ?_; rintro e w' ⟨rfl, k, rfl⟩) | (go_at_call 54; (with_reducible refine Says.go hP ?_); rintro e w' ⟨rfl, rfl⟩) | (go_at_call 72; first | ((with_reducible refine Says.go h1 ?_); rintro e w' ⟨rfl, rfl⟩) | ((with_reducible refine Says.go h2 ?_); rintro e w' ⟨rfl, rfl⟩)))
    go_ret2
    rw [hV'.out.1, hV'.out.2]
    exact ⟨rfl, k, rfl⟩
  | true =>
    cases o2 with
    | false =>
      have hV' := Lib.hid (show x = 0 ∧ y = 5 by rcases hV with h | h <;> simp_all)
      clear hV hS
      go_enter Tryd.func55, Tryd.ntmps55
      go_wp2_with (first | (go_at_call 71; refine hC.mono ?_; rintro e w' ⟨rfl, k, rfl⟩) | (go_at_call 54; (with_reducible refine Says.go hP ?_); rintro e w' ⟨rfl, rfl⟩) | (go_at_call 72; first | ((with_reducible refine Says.go h1 ?_); rintro e w' ⟨rfl, rfl⟩) | ((with_reducible refine Says.go h2 ?_); rintro e w' ⟨rfl, rfl⟩)))
      go_ret2
      rw [hV'.out.1, hV'.out.2]
      exact ⟨rfl, k, rfl⟩
    | true =>
      clear hV
      replace hS := hS ⟨rfl, rfl⟩
      have Wp : wrap64 (p : Int) = p := by unfold wrap64; omega
      cases g with
      | false =>
        unfold sgnI at hS
        rw [if_neg (by simp)] at hS
        go_enter Tryd.func55, Tryd.ntmps55
        go_wp2_with (first | (go_at_call 71; refine hC.mono ?_; rintro e w' ⟨rfl, k, rfl⟩) | (go_at_call 54; (with_reducible refine Says.go hP ?_); rintro e w' ⟨rfl, rfl⟩) | (go_at_call 72; first | ((with_reducible refine Says.go h1 ?_); rintro e w' ⟨rfl, rfl⟩) | ((with_reducible refine Says.go h2 ?_); rintro e w' ⟨rfl, rfl⟩)) | (go_at_call 73; refine (hS _ (ht.drewN _)).mono ?_; rintro e w' ⟨rfl, rfl⟩))
        go_ret2
        exact ⟨rfl, k, rfl⟩
      | true =>
        unfold sgnI at hS
        rw [if_pos rfl] at hS
        go_enter Tryd.func55, Tryd.ntmps55
        go_wp2_with (first | (go_at_call 71; refine hC.mono ?_; rintro e w' ⟨rfl, k, rfl⟩) | (go_at_call 54; (with_reducible refine Says.go hP ?_); rintro e w' ⟨rfl, rfl⟩) | (go_at_call 72; first | ((with_reducible refine Says.go h1 ?_); rintro e w' ⟨rfl, rfl⟩) | ((with_reducible refine Says.go h2 ?_); rintro e w' ⟨rfl, rfl⟩)) | (go_at_call 73; refine (hS _ (ht.drewN _)).mono ?_; rintro e w' ⟨rfl, rfl⟩))
        go_ret2
        exact ⟨rfl, k, rfl⟩

/-- Sign aside, a number's nearest word is one. -/
theorem nearest_sign (m : Nat) (p : Int) : ∃ r, r < 9223372036854775808 ∧ ∀ neg, double.nearest neg m p = double.word neg r := by
  unfold Format.nearest
  by_cases h : m = 0
  · exact ⟨0, by omega, fun neg => by rw [if_pos h]⟩
  · simp only [if_neg h]
    exact ⟨min ((max (p + (m.log2 : Int) - (double.fractionBits : Int)) double.leastPlace - double.leastPlace).toNat * double.binade + Toward.even.cut false (m <<< (p - max (p + (m.log2 : Int) - (double.fractionBits : Int)) double.leastPlace).toNat) (max (p + (m.log2 : Int) - (double.fractionBits : Int)) double.leastPlace - p).toNat) double.infRung, by rw [D_inf]; omega, fun neg => rfl⟩
theorem word_neg {r : Nat} (h : r < 9223372036854775808) : double.word true r = negW (double.word false r) ∧ okW (double.word false r) := by
  have h1 := word_sgn false h
  refine ⟨?_, h1.2.2⟩
  rw [negW_eq h1.2.2, h1.1, h1.2.1]; rfl
/-- V is an answer without a minus, U the one with it. -/
def Turned (V U : Value) : Prop := ∃ (x : Nat) (y : Int), V = .tuple #[.float .f64 x, .int .i64 y] ∧ ((y = 0 ∧ okW x ∧ U = .tuple #[.float .f64 (negW x), .int .i64 0]) ∨ (y ≠ 0 ∧ x = 0 ∧ U = V))
theorem turned_word {r : Nat} (h : r < 9223372036854775808) : Turned (.tuple #[.float .f64 (double.word false r), .int .i64 0]) (.tuple #[.float .f64 (double.word true r), .int .i64 0]) :=
  ⟨_, 0, rfl, .inl ⟨rfl, (word_neg h).2, by rw [(word_neg h).1]⟩⟩
theorem turned_err {y : Int} (h : y ≠ 0) : Turned (.tuple #[.float .f64 0, .int .i64 y]) (.tuple #[.float .f64 0, .int .i64 y]) := ⟨0, y, rfl, .inr ⟨h, rfl, rfl⟩⟩
theorem turned_made (n : Nat) (e : Int) : Turned (madeT false n e) (madeT true n e) := by
  unfold madeT
  by_cases h1 : 9007199254740992 < n
  · rw [if_pos h1, if_pos h1]; exact turned_err (by decide)
  · rw [if_neg h1, if_neg h1]
    by_cases h2 : n = 0
    · rw [if_pos h2, if_pos h2]; exact turned_word (by omega)
    · rw [if_neg h2, if_neg h2]
      unfold madeV
      by_cases h3 : -1074 ≤ e + twos n ∧ e + twos n + ((oddOf n).log2 : Int) ≤ 1023
      · rw [if_pos h3, if_pos h3]
        obtain ⟨r, hr, hw⟩ := nearest_sign (oddOf n) (e + twos n)
        rw [hw, hw]; exact turned_word hr
      · rw [if_neg h3, if_neg h3]; exact turned_err (by decide)
theorem turned_size (l : List UInt8) : Turned (sizeV false l) (sizeV true l) := by
  unfold sizeV
  by_cases h : l = [105, 110, 102]
  · rw [if_pos h, if_pos h]; exact turned_word (by omega)
  · rw [if_neg h, if_neg h]
    unfold bodyV
    by_cases h2 : okD (leftL l) 20 = true ∧ okD (bodyL l) 4 = true
    · rw [if_pos h2, if_pos h2]; exact turned_made _ _
    · rw [if_neg h2, if_neg h2]; exact turned_err (by decide)

theorem pdV_is (l : List UInt8) (most : Nat) : ∃ n, pdV l most = .tuple #[.int .u64 (n : Nat), .bool (okD l most)] ∧ (okD l most = true → n = pdN l) ∧ (okD l most = false → n = 0) := by
  unfold pdV
  cases h : okD l most
  · exact ⟨0, by simp, by simp, fun _ => rfl⟩
  · exact ⟨pdN l, by simp, fun _ => rfl, by simp⟩
theorem okD_all {l : List UInt8} {most : Nat} (h : okD l most = true) : l.all isD = true ∧ l.length ≤ most ∧ 1 ≤ l.length := by
  unfold okD at h
  simp only [Bool.and_eq_true, decide_eq_true_eq] at h
  exact ⟨h.2, h.1.2, h.1.1⟩
theorem leftL_le (l : List UInt8) : (leftL l).length ≤ l.length := by
  unfold leftL
  exact (List.takeWhile_sublist _).length_le
theorem beq_list_false {l k : List UInt8} (h : l ≠ k) : (l == k) = false := by simpa using h

theorem size_f {l : List UInt8} (hl : l.length ≤ 100000) {w : World} (ht : Tabs w) : Calls Tryd.prog 55 #[.string (strL l)] w fun e w' => e = .returned (sizeV false l) ∧ ∃ n, w' = w.drewN n := by
  unfold sizeV
  by_cases h : l = [105, 110, 102]
  · rw [if_pos h, h]
    exact (size_inf w).mono fun e w' h => ⟨h.1, 0, h.2.symm⟩
  · rw [if_neg h]
    obtain ⟨f, hC⟩ := cut_any hl w
    obtain ⟨n, hn, hn1, hn0⟩ := pdV_is (leftL l) 20
    obtain ⟨p, hp, hp1, hp0⟩ := pdV_is (bodyL l) 4
    have hP : Says 54 #[.string (strL (rightL l)), .string ⟨#[45]⟩] (.tuple #[.string (strL (bodyL l)), .bool (belowB l)]) := fun W =>
      (lib_strings_CutPrefix (strL (rightL l)) ⟨#[45]⟩ W).mono fun e w' h => ⟨h.1, h.2.symm⟩
    have h1 : Says 72 #[.string (strL (leftL l)), .int .i64 (20 : Nat)] (pdV (leftL l) 20) := digits_any (s := strL (leftL l)) (by omega)
    have h2 : Says 72 #[.string (strL (bodyL l)), .int .i64 (4 : Nat)] (pdV (bodyL l) 4) := digits_any (s := strL (bodyL l)) (by omega)
    rw [hn] at h1
    rw [hp] at h2
    have hT : ((strL l).toList == [105, 110, 102]) = false := by
      rw [Lib.toList_data]; exact beq_list_false h
    unfold bodyV
    have hp9 : p ≤ 9999 := by
      cases ho : okD (bodyL l) 4
      · rw [hp0 ho]; omega
      · have hs := pd_short (okD_all ho).1 (okD_all ho).2.1
        rw [hp1 ho, hs.1]; exact hs.2
    by_cases hok : okD (leftL l) 20 = true ∧ okD (bodyL l) 4 = true
    · rw [if_pos hok]
      have hs := pd_short (okD_all hok.2).1 (okD_all hok.2).2.1
      obtain ⟨x, y, hV, _⟩ := turned_made (capN (leftL l)) (sgnI (belowB l) (capN (bodyL l)))
      rw [hV]
      refine size_walk hT ht hC hP h1 h2 hp9 (fun _ W hW => ?_) (.inl hok)
      have S := scale_any (n := n) (e := sgnI (belowB l) p) (by unfold sgnI; split <;> omega) hW
      rw [hn1 hok.1, hp1 hok.2, hs.1, madeT_pd, hV] at S
      rw [hn1 hok.1, hp1 hok.2, hs.1]
      exact S
    · rw [if_neg hok]
      exact size_walk hT ht hC hP h1 h2 hp9 (fun h => absurd h hok) (.inr ⟨rfl, rfl⟩)

theorem parse_nan (w : World) : Calls Tryd.prog 43 #[.string ⟨#[110, 97, 110]⟩] w fun x w' => x = .returned (.tuple #[.float .f64 9221120237041090560, .int .i64 0]) ∧ w = w' := by
  have I := nan_run w
  have C := Canon_f 9221120237041090561
  have e : canonW 9221120237041090561 = 9221120237041090560 := by decide
  rw [e] at C
  clear e
  go_enter Tryd.func43, Tryd.ntmps43
  go_wp2_with (first | (go_at_call 53; refine I.mono ?_; rintro e w' ⟨rfl, rfl⟩) | (go_at_call 52; (with_reducible refine Says.go C ?_); rintro e w' ⟨rfl, rfl⟩))
  go_ret2
  exact ⟨rfl, rfl⟩
theorem parse_walk {s A : ByteArray} {g : Bool} {x : Nat} {y : Int} {w : World} (T : (s.toList == [110, 97, 110]) = false)
    (hP : Says 54 #[.string s, .string ⟨#[45]⟩] (.tuple #[.string A, .bool g]))
    (hS : Calls Tryd.prog 55 #[.string A] w fun e w' => e = .returned (.tuple #[.float .f64 x, .int .i64 y]) ∧ ∃ n, w' = w.drewN n) (hy : y ≠ 0 → x = 0) :
    Calls Tryd.prog 43 #[.string s] w fun e w' => e = .returned (if y = 0 then .tuple #[.float .f64 (if g = true then negW x else x), .int .i64 0] else .tuple #[.float .f64 x, .int .i64 y]) ∧ ∃ n, w' = w.drewN n := by
  by_cases h0 : y = 0
  · rw [if_pos h0]
    subst h0
    clear hy
    have U := neg_run x
    cases g with
    | false =>
      go_enter Tryd.func43, Tryd.ntmps43
      go_wp2_with (first | (go_at_call 54; (with_reducible refine Says.go hP ?_); rintro e w' ⟨rfl, rfl⟩) | (go_at_call 55; refine hS.mono ?_; rintro e w' ⟨rfl, k, rfl⟩))
      go_ret2
      exact ⟨rfl, k, rfl⟩
    | true =>
      go_enter Tryd.func43, Tryd.ntmps43
      go_wp2_with (first | (go_at_call 54; (with_reducible refine Says.go hP ?_); rintro e w' ⟨rfl, rfl⟩) | (go_at_call 55; refine hS.mono ?_; rintro e w' ⟨rfl, k, rfl⟩))
      go_ret2
      exact ⟨rfl, k, rfl⟩
  · rw [if_neg h0]
    have hx := hy h0
    subst hx
    have T2 : (y != 0) = true := by simpa using h0
    clear hy h0
    go_enter Tryd.func43, Tryd.ntmps43
    go_wp2_with (first | (go_at_call 54; (with_reducible refine Says.go hP ?_); rintro e w' ⟨rfl, rfl⟩) | (go_at_call 55; refine hS.mono ?_; rintro e w' ⟨rfl, k, rfl⟩))
    go_ret2
    exact ⟨rfl, k, rfl⟩
theorem trim_le (l k : List UInt8) : (Lib.trimPrefix l k).length ≤ l.length := by
  unfold Lib.trimPrefix; split
  · simp
  · exact Nat.le_refl _
/-- What the program's Parse answers. -/
theorem Parse_f {l : List UInt8} (hl : l.length ≤ 100000) {w : World} (ht : Tabs w) : Calls Tryd.prog 43 #[.string (strL l)] w fun e w' => e = .returned (parseV l) ∧ ∃ n, w' = w.drewN n := by
  unfold parseV
  by_cases h : l = [110, 97, 110]
  · rw [if_pos h, h]
    exact (parse_nan w).mono fun e w' h => ⟨h.1, 0, h.2.symm⟩
  · rw [if_neg h]
    have hT : ((strL l).toList == [110, 97, 110]) = false := by rw [Lib.toList_data]; exact beq_list_false h
    have hP : Says 54 #[.string (strL l), .string ⟨#[45]⟩] (.tuple #[.string (strL (Lib.trimPrefix l [45])), .bool (Lib.hasPrefix l [45])]) := fun W =>
      (lib_strings_CutPrefix (strL l) ⟨#[45]⟩ W).mono fun e w' h => ⟨h.1, h.2.symm⟩
    have hS := size_f (l := Lib.trimPrefix l [45]) (by have := trim_le l [45]; omega) ht
    obtain ⟨x, y, hV, hU⟩ := turned_size (Lib.trimPrefix l [45])
    rw [hV] at hS
    have P := parse_walk hT hP hS (fun hy => by rcases hU with h | h; exact absurd h.1 hy; exact h.2.1)
    have e : (if y = 0 then Value.tuple #[.float .f64 (if Lib.hasPrefix l [45] = true then negW x else x), .int .i64 0] else .tuple #[.float .f64 x, .int .i64 y]) = sizeV (Lib.hasPrefix l [45]) (Lib.trimPrefix l [45]) := by
      cases hh : Lib.hasPrefix l [45]
      · rw [hV]
        by_cases h0 : y = 0
        · rw [if_pos h0, if_neg (by simp), h0]
        · rw [if_neg h0]
      · rcases hU with ⟨h0, _, hu⟩ | ⟨h0, _, hu⟩
        · rw [if_pos h0, if_pos rfl, hu]
        · rw [if_neg h0, hu, hV]
    rw [e] at P
    exact P
end Go.Proofs.YtfkjehgbghckhaaDoor
