/-
  The landed lex's number: an int by strconv.ParseInt, a float by float.Parse.
-/
import Derived.Test.YtfkjehgbghckhaaDoorZa
namespace Go.Proofs.YtfkjehgbghckhaaDoor
open Go.RowKit

theorem rest_list (s : ByteArray) (a : Nat) : (s.extract a s.size).data.toList = left s a := by
  rw [ext_cut, List.take_of_length_le (by rw [left_len]; exact Nat.le_refl _)]
theorem rest_0 (s : ByteArray) (a : Nat) : left (s.extract a s.size) 0 = left s a := by rw [left_0, rest_list]
theorem rest_size (s : ByteArray) (a : Nat) : (s.extract a s.size).size ≤ s.size := by simp
theorem pre_one (l : List UInt8) (c : UInt8) : Lib.hasPrefix l [c] = decide (l[0]? = some c) := by
  cases l with
  | nil => simp [Lib.hasPrefix]
  | cons x l =>
    simp only [Lib.hasPrefix, List.isPrefixOf, Bool.and_true, List.getElem?_cons_zero]
    by_cases h : x = c
    · subst h; simp
    · have h' : ¬ c = x := fun e => h e.symm
      simp [h, h']
/-- Digits, a p, and a minus or nothing behind it: no float. -/
theorem parse_torn {D r : List UInt8} (hD : D.all isD = true) (h0 : D ≠ []) (hr : r = [] ∨ r = [45]) : errW (parseV (D ++ 112 :: r)) = 5 := by
  obtain ⟨c, D', rfl⟩ : ∃ c D', D = c :: D' := by
    cases D with
    | nil => exact absurd rfl h0
    | cons c D' => exact ⟨c, D', rfl⟩
  have hc : isD c = true := by simp at hD; exact hD.1
  have hn : ∀ d : UInt8, isD d = false → ¬ c = d := fun d h e => by rw [e, h] at hc; cases hc
  obtain ⟨-, hR, -⟩ := left_of (r := r) hD
  unfold parseV
  rw [if_neg (fun h => by injection h with h _; exact hn 110 (by decide) h)]
  have hp : Lib.hasPrefix ((c :: D') ++ 112 :: r) [45] = false := by
    rw [pre_one]
    exact decide_eq_false (fun h => by injection h with h; exact hn 45 (by decide) h)
  have ht : Lib.trimPrefix ((c :: D') ++ 112 :: r) [45] = (c :: D') ++ 112 :: r := by unfold Lib.trimPrefix; rw [hp]; rfl
  rw [hp, ht]
  unfold sizeV
  rw [if_neg (fun h => by injection h with h _; exact hn 105 (by decide) h)]
  have hb : bodyL ((c :: D') ++ 112 :: r) = [] := by
    unfold bodyL
    rw [hR]
    rcases hr with rfl | rfl <;> rfl
  unfold bodyV
  rw [hb, if_neg (fun h => by have := h.2; simp [okD] at this)]
  rfl
theorem take_flo {R : List UInt8} (hp : R[(dig R).length]? = some 112) (h0 : (dig ((R.drop ((dig R).length + 1)).drop (expM (R.drop ((dig R).length + 1))))).length = 0) :
    ∃ r, (r = [] ∨ r = [45]) ∧ R.take (floL (dig R).length (R.drop ((dig R).length + 1))) = dig R ++ 112 :: r := by
  have hlt : (dig R).length < R.length := by
    rcases Nat.lt_or_ge (dig R).length R.length with h | h
    · exact h
    · rw [List.getElem?_eq_none h] at hp; cases hp
  have hsp := dig_split R
  have hdr : R.drop (dig R).length = 112 :: R.drop ((dig R).length + 1) := by
    rw [List.drop_eq_getElem_cons hlt]
    rw [List.getElem?_eq_getElem hlt] at hp
    injection hp with hp
    rw [hp]
  rw [hdr] at hsp
  generalize R.drop ((dig R).length + 1) = r at *
  unfold floL
  rw [h0, Nat.add_zero]
  clear hp hlt hdr
  generalize dig R = D at *
  rw [← hsp]
  refine ⟨r.take (expM r), ?_, ?_⟩
  · unfold expM
    split
    · rename_i h
      cases r with
      | nil => cases h
      | cons x r =>
        have hx : x = 45 := by simpa using h
        subst hx
        exact .inr rfl
    · exact .inl rfl
  · rw [List.take_append, List.take_of_length_le (by omega), show D.length + 1 + expM r - D.length = expM r + 1 by omega]
    rfl
def numF (acc : Nat) (l : List UInt8) : Nat := l.foldl (fun n c => n * 10 + (c.toNat - 48)) acc
theorem numF_le : ∀ (l : List UInt8) (acc : Nat), acc ≤ numF acc l
  | [], _ => Nat.le_refl _
  | c :: l, acc => by
    have := numF_le l (acc * 10 + (c.toNat - 48))
    show acc ≤ numF (acc * 10 + (c.toNat - 48)) l
    omega
theorem uint_dig : ∀ (l : List UInt8) (acc : Nat), l.all isD = true → Lib.parseUintM 18446744073709551615 acc l = if numF acc l < 18446744073709551616 ∨ l = [] then .ok (numF acc l) else .range
  | [], acc, _ => by rw [if_pos (.inr rfl)]; rfl
  | c :: l, acc, h => by
    have hc : isD c = true := by simp at h; exact h.1
    have hl : l.all isD = true := by simp at h; simpa using h.2
    have hc' : 48 ≤ c.toNat ∧ c.toNat ≤ 57 := by unfold isD at hc; simpa using hc
    have e : numF acc (c :: l) = numF (acc * 10 + (c.toNat - 48)) l := rfl
    have hle := numF_le l (acc * 10 + (c.toNat - 48))
    unfold Lib.parseUintM
    rw [if_pos hc', e]
    by_cases h1 : 1844674407370955162 ≤ acc
    · rw [if_pos h1, if_neg (by simp; omega)]
    · rw [if_neg h1]
      by_cases h2 : 18446744073709551615 < acc * 10 + (c.toNat - 48)
      · rw [if_pos h2, if_neg (by simp; omega)]
      · rw [if_neg h2, uint_dig l _ hl]
        by_cases h3 : numF (acc * 10 + (c.toNat - 48)) l < 18446744073709551616
        · rw [if_pos (.inl h3), if_pos (.inl h3)]
        · have h4 : ¬ l = [] := fun e => by subst e; exact h3 (by show acc * 10 + (c.toNat - 48) < _; omega)
          rw [if_neg (fun h => h.elim h3 h4), if_neg (fun h => h.elim h3 (by simp))]
theorem int_dig {l : List UInt8} (h : l.all isD = true) (h0 : l ≠ []) : Lib.parseIntB 64 l = if numN l < 9223372036854775808 then .ok (numN l : Int) else .range := by
  cases l with
  | nil => exact absurd rfl h0
  | cons c l =>
    have hc : isD c = true := by simp at h; exact h.1
    have hc' : 48 ≤ c.toNat ∧ c.toNat ≤ 57 := by unfold isD at hc; simpa using hc
    have e : numN (c :: l) = numF 0 (c :: l) := rfl
    unfold Lib.parseIntB
    simp only []
    rw [if_neg (by omega), show Lib.parseUintB 64 (c :: l) = Lib.parseUintM 18446744073709551615 0 (c :: l) from by unfold Lib.parseUintB; rw [if_neg (by simp)], uint_dig _ _ h, e]
    generalize numF 0 (c :: l) = n
    by_cases h1 : n < 18446744073709551616
    · rw [if_pos (.inl h1)]
      simp only []
      by_cases h2 : n < 9223372036854775808
      · rw [if_neg (by omega), if_neg (by omega), if_neg (by omega), if_pos h2]
      · rw [if_pos (by omega), if_neg h2]
    · rw [if_neg (fun h => h.elim h1 (by simp)), if_neg (by omega)]
theorem dig_cut (s : ByteArray) : s.extract 0 (dig (left s 0)).length = strL (dig (left s 0)) := by
  rw [ext_self, Nat.sub_zero]
  congr 1
  exact (List.prefix_iff_eq_take.1 (List.takeWhile_prefix isD)).symm
theorem below_bytes {w w' : World} (h : w' = w ∨ ∃ t, w' = Lib.bytesWorld w 5 t) : Below w.heap.size w w' := by
  rcases h with rfl | ⟨t, rfl⟩
  · exact Below.refl _ _
  · exact Lib.bytesWorld_below _ _ _
def floE (s : ByteArray) (k q : Nat) : Prop := q = k + expM (left s k) + (dig ((left s k).drop (expM (left s k)))).length
set_option maxRecDepth 20000 in
set_option maxHeartbeats 2000000 in
theorem lflo_any {s : ByteArray} {k q : Nat} (hs : s.size ≤ 100000) (hk : k ≤ s.size) (hq : floE s k q) {w : World} (ht : Tabs w) :
    Calls Tryd.prog 40 #[.string s, .int .i64 k] w fun e w' => e = .returned (.tuple #[.agg #[.int .i64 3, .int .i64 0, .int .i64 q, .int .i64 0, .float .f64 (floW (parseV ((left s 0).take q))), .string ⟨#[]⟩], .int .i64 (errW (parseV ((left s 0).take q)))]) ∧ Below w.heap.size w w' := by
  have SF := float_store
  have hll := left_len s k
  have hcut : ∀ j, (left s 0).take j = (s.extract 0 j).data.toList := fun j => by rw [ext_cut, Nat.sub_zero]
  have PF := fun W => lib_strings_HasPrefix (s.extract k s.size) ⟨#[45]⟩ W
  rw [rest_list, show (⟨#[45]⟩ : ByteArray).data.toList = [45] from rfl, pre_one] at PF
  have PR := fun (W : World) (hT : Tabs W) => Parse_f (l := (left s 0).take q) (by rw [List.length_take, left_len]; omega) hT
  rw [← show s.extract 0 q = strL ((left s 0).take q) from ext_self s 0 q, parse_pair] at PR
  generalize floW (parseV ((left s 0).take q)) = F at PR ⊢
  generalize errW (parseV ((left s 0).take q)) = E at PR ⊢
  obtain ⟨v1, hv1⟩ : ∃ v, s.extract k s.size = v := ⟨_, rfl⟩
  obtain ⟨v3, hv3⟩ : ∃ v, s.extract 0 q = v := ⟨_, rfl⟩
  rw [hv1] at PF
  rw [hv3] at PR
  by_cases hm : (left s k)[0]? = some 45
  · rw [decide_eq_true hm] at PF
    have hk1 : k < s.size := by
      rcases Nat.lt_or_ge k s.size with h | h
      · exact h
      · rw [left_nil h] at hm; cases hm
    unfold floE expM at hq
    rw [if_pos hm, ← left_drop] at hq
    have C := fun W => lcnt_any (s := s.extract (k + 1) s.size) (by have := rest_size s (k + 1); omega) W
    rw [rest_0] at C
    have hdl := dig_le (left s (k + 1))
    rw [left_len] at hdl
    obtain ⟨v2, hv2⟩ : ∃ v, s.extract (k + 1) s.size = v := ⟨_, rfl⟩
    obtain ⟨k2, hk2⟩ : ∃ k2, k + 1 = k2 := ⟨_, rfl⟩
    obtain ⟨n, hn⟩ : ∃ n, (dig (left s (k + 1))).length = n := ⟨_, rfl⟩
    rw [hv2, hn] at C
    rw [hn] at hq hdl
    rw [hk2] at hv2
    have e1 : (k : Int) + 1 = (k2 : Int) := by omega
    have e2 : (k2 : Int) + (n : Int) = (q : Int) := by omega
    have hk2s : k2 ≤ s.size := by omega
    have hqs : q ≤ s.size := by omega
    have HK := Lib.hid hk2
    clear hm hq hn hdl hk2 hll hcut
    go_enter Tryd.func40, Tryd.ntmps40
    go_wp2_with (first | (go_at_call 39; refine (PF _).mono ?_; rintro e w1 ⟨rfl, rfl⟩) | (go_at_call 38; refine (C _).mono ?_; rintro e w1 ⟨rfl, rfl⟩) | (go_at_call 43; refine (PR _ (ht.below ((Below.refl _ _).alloc (Nat.le_refl _) _))).mono ?_; rintro e w1 ⟨rfl, nq, rfl⟩; refine Hid.out ?_))
    refine Lib.hid ?_
    have hR := (RB.start w (.int .i64 0) (.int .i64 0) (.int .i64 0) (.int .i64 0) (.float .f64 0) (.string ⟨#[]⟩)).step (below_drewN (Below.refl _ _) nq)
    obtain ⟨a0, a1, a2, a3, a4, a5, d0, d1, d2, d3, d4, d5, df⟩ := hR.cells
    have HR := Lib.hid hR
    clear hR PF C PR
    go_wp2_with fail
    exact bodyPost_ret (results_tokq rfl _ _ w.heap.size _ _ _ _ _ _ _ rfl rfl (HR.out.done _ _ _ _ _ _).1) rfl ⟨rfl, (HR.out.done _ _ _ _ _ _).2⟩
  · rw [decide_eq_false hm] at PF
    unfold floE expM at hq
    rw [if_neg hm, Nat.add_zero, List.drop_zero] at hq
    have C := fun W => lcnt_any (s := s.extract k s.size) (by have := rest_size s k; omega) W
    rw [rest_0] at C
    have hdl := dig_le (left s k)
    rw [left_len] at hdl
    obtain ⟨n, hn⟩ : ∃ n, (dig (left s k)).length = n := ⟨_, rfl⟩
    rw [hv1, hn] at C
    rw [hn] at hq hdl
    have e2 : (k : Int) + (n : Int) = (q : Int) := by omega
    have hqs : q ≤ s.size := by omega
    clear hm hq hn hdl hll hcut
    go_enter Tryd.func40, Tryd.ntmps40
    go_wp2_with (first | (go_at_call 39; refine (PF _).mono ?_; rintro e w1 ⟨rfl, rfl⟩) | (go_at_call 38; refine (C _).mono ?_; rintro e w1 ⟨rfl, rfl⟩) | (go_at_call 43; refine (PR _ (ht.below ((Below.refl _ _).alloc (Nat.le_refl _) _))).mono ?_; rintro e w1 ⟨rfl, nq, rfl⟩; refine Hid.out ?_))
    refine Lib.hid ?_
    have hR := (RB.start w (.int .i64 0) (.int .i64 0) (.int .i64 0) (.int .i64 0) (.float .f64 0) (.string ⟨#[]⟩)).step (below_drewN (Below.refl _ _) nq)
    obtain ⟨a0, a1, a2, a3, a4, a5, d0, d1, d2, d3, d4, d5, df⟩ := hR.cells
    have HR := Lib.hid hR
    clear hR PF C PR
    go_wp2_with fail
    exact bodyPost_ret (results_tokq rfl _ _ w.heap.size _ _ _ _ _ _ _ rfl rfl (HR.out.done _ _ _ _ _ _).1) rfl ⟨rfl, (HR.out.done _ _ _ _ _ _).2⟩
end Go.Proofs.YtfkjehgbghckhaaDoor
