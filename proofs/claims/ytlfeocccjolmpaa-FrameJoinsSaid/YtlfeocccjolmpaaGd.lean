/-
  The document's Next.
-/
import Derived.Test.YtlfeocccjolmpaaGc
import Derived.Deep.RegionLaw
import Derived.BigQuiet
namespace Go.Proofs.Ytlfeocccjolmpaa
open Go.RowKit

/-- What Next answers. -/
def nextV (s : ByteArray) (a : Int) : Value :=
  if a < 0 ∨ (s.size : Int) < a then .tuple #[.string ⟨#[]⟩, .int .i64 0, .int .i64 3]
  else match nextL (left s a.toNat) with
    | none => .tuple #[.string ⟨#[]⟩, .int .i64 0, .int .i64 14]
    | some (p, k) => .tuple #[.string (strL p), .int .i64 (a + k), .int .i64 0]
theorem Next_range {s : ByteArray} {a : Int} (h : a < 0 ∨ (s.size : Int) < a) (w : World) : Calls Try.prog 15 #[.string s, .int .i64 a] w fun e w' => e = .returned (.tuple #[.string ⟨#[]⟩, .int .i64 0, .int .i64 3]) ∧ Below w.heap.size w w' := by
  by_cases h1 : a < 0
  · have t1 : decide (a < 0) = true := by simpa using h1
    clear h
    go_enter Try.func15, Try.ntmps15
    go_wp2_with fail
    go_ret3
    exact ⟨rfl, Below.refl _ _⟩
  · have t1 : decide (a < 0) = false := by simpa using h1
    have t2 : decide ((s.size : Int) < a) = true := by simp; omega
    clear h
    go_enter Try.func15, Try.ntmps15
    go_wp2_with fail
    go_ret3
    exact ⟨rfl, Below.refl _ _⟩
theorem ext_left (s : ByteArray) (a : Nat) : s.extract a s.size = strL (left s a) := by
  apply ByteArray.ext
  unfold strL left
  rw [ByteArray.data_extract]
  apply Array.ext'
  simp
  exact List.take_of_length_le (by simp)
theorem str_ne {a b : ByteArray} (h : ¬ a = b) : (a.toList == b.toList) = false := by
  rw [beq_eq_false_iff_ne, ByteArray.toList_eq, ByteArray.toList_eq]
  exact fun e => h (ByteArray.ext (Array.ext' e))
theorem ext_mid (t : ByteArray) (n : Nat) : (t.extract 2 (n + 2)).data.toList = (t.data.toList.drop 2).take n := by
  rw [ByteArray.data_extract]; simp
theorem ext_take (t : ByteArray) (n : Nat) : (t.extract 0 n).data.toList = t.data.toList.take n := by
  rw [ByteArray.data_extract]; simp
set_option maxRecDepth 20000 in
set_option maxHeartbeats 1000000 in
theorem Next_short {s : ByteArray} {a : Nat} (ha : a ≤ s.size) (h : (left s a).length < 2) (w : World) : Calls Try.prog 15 #[.string s, .int .i64 a] w fun e w' => e = .returned (.tuple #[.string ⟨#[]⟩, .int .i64 0, .int .i64 14]) ∧ Below w.heap.size w w' := by
  have t1 : decide ((s.size : Int) < (a : Int)) = false := by simp; omega
  have hl := left_len s a
  have t2 : decide ((a : Int) < 0) = false := decide_eq_false (by omega)
  have t3 : decide (((s.size - a : Nat) : Int) < 2) = true := by simp; omega
  clear h hl
  go_enter Try.func15, Try.ntmps15
  go_wp2_with fail
  go_ret3
  exact ⟨rfl, Below.refl _ _⟩
set_option maxRecDepth 20000 in
set_option maxHeartbeats 1000000 in
theorem Next_long {s : ByteArray} {a : Nat} (ha : a ≤ s.size) (hs : s.size ≤ 1000000000) (h : 2 ≤ (left s a).length) (w : World) : Calls Try.prog 15 #[.string s, .int .i64 a] w fun e w' => e = .returned (nextV s a) ∧ Below w.heap.size w w' := by
  have t1 : decide ((s.size : Int) < (a : Int)) = false := by simp; omega
  have t2 : decide ((a : Int) < 0) = false := decide_eq_false (by omega)
  obtain ⟨t, ht⟩ : ∃ t, s.extract a s.size = t := ⟨_, rfl⟩
  have hlt : left s a = t.data.toList := by rw [← ht, ext_left]; rfl
  have hts : t.size = (left s a).length := by rw [hlt]; rfl
  have t3 : decide ((t.size : Int) < 2) = false := by simp; omega
  have hl2 : 2 ≤ t.size := by omega
  clear hts
  obtain ⟨x, hx⟩ : ∃ x, t[0] = x := ⟨_, rfl⟩
  obtain ⟨y, hy⟩ : ∃ y, t[1] = y := ⟨_, rfl⟩
  obtain ⟨r, hr⟩ : ∃ r, r = nextV s a := ⟨_, rfl⟩
  rw [← hr]
  have HR := Lib.hid hr
  have HT := Lib.hid hlt
  clear hr hlt h
  go_enter Try.func15, Try.ntmps15
  go_wp2_with fail
  go_quiet (fail)
  have hd : Below w.heap.size w (w.drewN nq) := below_drewN (Below.refl _ _) _
  generalize w.drewN nq = w2 at hd ⊢
  have hx2 := u8_lt x
  have hy2 := u8_lt y
  have hw : wrap64 (wrap64 (wrap64 (x.toNat : Int) * 256) + wrap64 (y.toNat : Int)) = ((x.toNat * 256 + y.toNat : Nat) : Int) := by unfold wrap64; omega
  rw [hw]
  have hn : lenL t.data.toList = x.toNat * 256 + y.toNat := by
    have e1 : t.data.toList = x :: y :: t.data.toList.drop 2 := by
      have h0 := left_cons (s := t) (a := 0) (by omega)
      have h1 := left_cons (s := t) (a := 1) (by omega)
      rw [left_0] at h0
      rw [h0, h1, hx, hy]
      rfl
    rw [e1]; rfl
  have hlen : t.data.toList.length = t.size := rfl
  have HN := Lib.hid hn
  have HD := Lib.hid hd
  clear hw hx hy hn hd t1 t2 t3 ht
  generalize x.toNat * 256 + y.toNat = n at *
  clear hx2 hy2
  have bad : lenL t.data.toList < 1 ∨ 2000 < lenL t.data.toList ∨ t.data.toList.length < lenL t.data.toList + 6 → r = .tuple #[.string ⟨#[]⟩, .int .i64 0, .int .i64 14] := fun h => by
    rw [HR.out]
    unfold nextV
    rw [if_neg (by omega), show ((a : Int)).toNat = a by omega, HT.out]
    have e : nextL t.data.toList = none := by
      unfold nextL
      rw [if_neg (by omega), if_pos h]
    rw [e]
  have HBAD := Lib.hid bad
  clear bad
  by_cases b1 : n < 1
  · have t1 : decide ((n : Int) < 1) = true := decide_eq_true (by omega)
    have hr' := Lib.hid (HBAD.out (.inl (by rw [HN.out]; exact b1)))
    clear b1
    go_wp2_with fail
    go_ret3
    refine ⟨?_, HD.out⟩
    rw [hr'.out]; rfl
  have t1 : decide ((n : Int) < 1) = false := decide_eq_false (by omega)
  by_cases b2 : 2000 < n
  · have t2 : decide ((2000 : Int) < (n : Int)) = true := decide_eq_true (by omega)
    have hr' := Lib.hid (HBAD.out (.inr (.inl (by rw [HN.out]; exact b2))))
    clear b1 b2
    go_wp2_with fail
    go_ret3
    refine ⟨?_, HD.out⟩
    rw [hr'.out]; rfl
  have t2 : decide ((2000 : Int) < (n : Int)) = false := decide_eq_false (by omega)
  by_cases b3 : t.size < n + 6
  · have t3 : decide ((t.size : Int) < (n : Int) + 6) = true := decide_eq_true (by omega)
    have hr' := Lib.hid (HBAD.out (.inr (.inr (by rw [HN.out]; exact b3))))
    clear b1 b3
    go_wp2_with fail
    go_ret3
    refine ⟨?_, HD.out⟩
    rw [hr'.out]; rfl
  have t3 : decide ((t.size : Int) < (n : Int) + 6) = false := decide_eq_false (by omega)
  clear HBAD
  have i1 : (2 : Int) ≤ (n : Int) + 2 := by omega
  have i2 : (n : Int) + 2 ≤ (t.size : Int) := by omega
  have i3 : ((n : Int) + 2).toNat = n + 2 := by omega
  have i4 : (n : Int) + 6 ≤ (t.size : Int) := by omega
  have i5 : ((n : Int) + 6).toNat = n + 6 := by omega
  have i6 : (0 : Int) ≤ (n : Int) + 6 := by omega
  have i7 : IntKind.i64.wrap ((n : Int) + 6) = (n : Int) + 6 := by rw [IntKind.wrap_i64]; omega
  have i8 : wrap64 ((a : Int) + (n : Int)) = (a : Int) + (n : Int) := by unfold wrap64; omega
  obtain ⟨p, hp⟩ : ∃ p, t.extract 2 (n + 2) = p := ⟨_, rfl⟩
  obtain ⟨f, hf⟩ : ∃ f, t.extract 0 (n + 6) = f := ⟨_, rfl⟩
  have hps : p.size ≤ 1000000000 := by rw [← hp, ByteArray.size_extract]; omega
  have M := Make_any hps
  obtain ⟨q, hq⟩ : ∃ q, q = strL (frL p.data.toList) := ⟨_, rfl⟩
  rw [← hq] at M
  have HM := Lib.hid M
  have HQ := Lib.hid hq
  have HP := Lib.hid hp
  have HF := Lib.hid hf
  clear M hq
  have hgood : r = if q = f then .tuple #[.string p, .int .i64 ((a : Int) + n + 6), .int .i64 0] else .tuple #[.string ⟨#[]⟩, .int .i64 0, .int .i64 14] := by
    have e1 : p.data.toList = (t.data.toList.drop 2).take n := by rw [← HP.out, ext_mid]
    have e2 : f.data.toList = t.data.toList.take (n + 6) := by rw [← HF.out, ext_take]
    rw [HR.out, HQ.out]
    unfold nextV
    rw [if_neg (by omega), show ((a : Int)).toNat = a by omega, HT.out]
    unfold nextL
    rw [if_neg (by omega), HN.out, if_neg (by omega), ← e1, ← e2]
    by_cases he : frL p.data.toList = f.data.toList
    · rw [if_pos he, if_pos (by rw [he]; rfl)]
      have e3 : (a : Int) + ((n + 6 : Nat) : Int) = (a : Int) + n + 6 := by omega
      show Value.tuple #[.string (strL p.data.toList), .int .i64 ((a : Int) + ((n + 6 : Nat) : Int)), .int .i64 0] = _
      rw [e3, strL_self]
    · rw [if_neg he, if_neg (fun h => he (by rw [← h]; rfl))]
  have HG := Lib.hid hgood
  clear hgood
  by_cases he : q = f
  · have hr' := Lib.hid (HG.out.trans (if_pos he))
    subst he
    go_wp2_with fail
    go_region_law (go_simp; go_at_call 13; refine (HM.out _).mono ?_; rintro e w3 ⟨rfl, hb⟩; have HC := Lib.hid (HD.out.drew.trans (hb.mono HD.out.size)); clear hb)
    all_goals go_wp2_with fail
    all_goals go_ret3
    all_goals refine ⟨?_, HC.out⟩
    all_goals rw [hr'.out]; rfl
  · have hr' := Lib.hid (HG.out.trans (if_neg he))
    have tq : (q.toList == f.toList) = false := str_ne he
    go_wp2_with fail
    go_region_law (go_simp; go_at_call 13; refine (HM.out _).mono ?_; rintro e w3 ⟨rfl, hb⟩; have HC := Lib.hid (HD.out.drew.trans (hb.mono HD.out.size)); clear hb)
    all_goals go_wp2_with fail
    all_goals go_ret3
    all_goals refine ⟨?_, HC.out⟩
    all_goals rw [hr'.out]; rfl
theorem Next_any {s : ByteArray} {a : Int} (hs : s.size ≤ 1000000000) (w : World) : Calls Try.prog 15 #[.string s, .int .i64 a] w fun e w' => e = .returned (nextV s a) ∧ Below w.heap.size w w' := by
  by_cases h : a < 0 ∨ (s.size : Int) < a
  · have := Next_range h w
    unfold nextV
    rw [if_pos h]
    exact this
  · obtain ⟨i, rfl⟩ : ∃ i : Nat, a = i := ⟨a.toNat, by omega⟩
    by_cases h2 : (left s i).length < 2
    · have := Next_short (s := s) (a := i) (by omega) h2 w
      unfold nextV
      rw [if_neg h, show ((i : Int)).toNat = i by omega]
      unfold nextL
      rw [if_pos h2]
      exact this
    · exact Next_long (by omega) hs (by omega) w
end Go.Proofs.Ytlfeocccjolmpaa
