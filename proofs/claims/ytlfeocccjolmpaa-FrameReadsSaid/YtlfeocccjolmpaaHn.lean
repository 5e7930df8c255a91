/-
  The landed package's toldPayload and Next.
-/
import Derived.Test.YtlfeocccjolmpaaHm
namespace Go.Proofs.Ytlfeocccjolmpaa
open Go.RowKit

/-- As many bytes as the length ahead of them tells. -/
def toldL (l : List UInt8) : List UInt8 := if l.length < 2 then [] else if l.length - 2 < lenL l then [] else (l.drop 2).take (lenL l)
theorem toldL_len (l : List UInt8) : (toldL l).length ≤ l.length := by
  unfold toldL
  split
  · simp
  · split
    · simp
    · rw [List.length_take, List.length_drop]; omega
/-- The frame that stands first, by what is told. -/
theorem nextL_told (l : List UInt8) : nextL l = if 1 ≤ (toldL l).length ∧ (toldL l).length ≤ 2000 ∧ (toldL l).length + 6 ≤ l.length ∧ l.take ((toldL l).length + 6) = frL (toldL l) then some (toldL l, (toldL l).length + 6) else none := by
  unfold nextL
  by_cases h1 : l.length < 2
  · rw [if_pos h1, if_neg]
    unfold toldL
    rw [if_pos h1]
    simp
  · rw [if_neg h1]
    by_cases h2 : l.length - 2 < lenL l
    · rw [if_pos (by omega), if_neg]
      unfold toldL
      rw [if_neg h1, if_pos h2]
      simp
    · have e : toldL l = (l.drop 2).take (lenL l) := by unfold toldL; rw [if_neg h1, if_neg h2]
      have el : (toldL l).length = lenL l := by rw [e, List.length_take, List.length_drop]; omega
      rw [← e, el]
      by_cases h3 : lenL l < 1 ∨ 2000 < lenL l ∨ l.length < lenL l + 6
      · rw [if_pos h3, if_neg (by omega)]
      · rw [if_neg h3]
        by_cases h4 : frL (toldL l) = l.take (lenL l + 6)
        · rw [if_pos h4, if_pos ⟨by omega, by omega, by omega, h4.symm⟩]
        · rw [if_neg h4, if_neg (fun h => h4 h.2.2.2.symm)]
theorem i64_or_nat (a b : Nat) (ha : a < 65536) (hb : b < 65536) : bits .or .i64 (a : Int) (b : Int) = ((a ||| b : Nat) : Int) := by
  have hx : a ||| b < 2 ^ 16 := Nat.or_lt_two_pow (by omega) (by omega)
  show IntKind.i64.wrap ((BitVec.ofInt 64 (a : Int) ||| BitVec.ofInt 64 (b : Int)).toNat : Int) = _
  rw [BitVec.toNat_or, ofInt_u64 a (by omega), ofInt_u64 b (by omega), IntKind.wrap_i64]
  omega
theorem two_bytes {x y : Nat} (hx : x < 256) (hy : y < 256) : bits .or .i64 ((x : Int) * 256) (y : Int) = ((x * 256 + y : Nat) : Int) := by
  have h := i64_or_nat (x * 256) y (by omega) (by omega)
  have e : x * 256 ||| y = x * 256 + y := by
    have := Nat.two_pow_add_eq_or_of_lt (i := 8) (b := y) (by omega) x
    rw [Nat.mul_comm (2 ^ 8) x] at this
    exact this.symm
  rw [e] at h
  rw [show ((x : Int) * 256) = ((x * 256 : Nat) : Int) by omega, h]
set_option maxRecDepth 20000 in
set_option maxHeartbeats 1000000 in
theorem told_any {t : ByteArray} (hs : t.size ≤ 1000000000) (w : World) : Calls Try.prog 20 #[.string t] w fun e w' => e = .returned (.string (strL (toldL t.data.toList))) ∧ Below w.heap.size w w' := by
  obtain ⟨r, hr⟩ : ∃ r, r = strL (toldL t.data.toList) := ⟨_, rfl⟩
  rw [← hr]
  have HR := Lib.hid hr
  clear hr
  have HL : Hid (t.data.toList.length = t.size) := Lib.hid rfl
  by_cases h1 : t.size < 2
  · have t1 : decide ((t.size : Int) < 2) = true := decide_eq_true (by omega)
    have hr' : r = ⟨#[]⟩ := by
      rw [HR.out]; unfold toldL
      rw [if_pos (by rw [HL.out]; exact h1)]; rfl
    clear h1
    go_enter Try.func20, Try.ntmps20
    go_wp2_with fail
    go_ret
    exact ⟨by rw [hr']; rfl, Below.refl _ _⟩
  have t1 : decide ((t.size : Int) < 2) = false := decide_eq_false (by omega)
  have hl2 : 2 ≤ t.size := by omega
  obtain ⟨x, hx⟩ : ∃ x, t[0] = x := ⟨_, rfl⟩
  obtain ⟨y, hy⟩ : ∃ y, t[1] = y := ⟨_, rfl⟩
  have hx2 := u8_lt x
  have hy2 := u8_lt y
  have hn : lenL t.data.toList = x.toNat * 256 + y.toNat := by
    have e1 : t.data.toList = x :: y :: t.data.toList.drop 2 := by
      have h0 := left_cons (s := t) (a := 0) (by omega)
      have h1 := left_cons (s := t) (a := 1) (by omega)
      rw [left_0] at h0
      rw [h0, h1, hx, hy]
      rfl
    rw [e1]; rfl
  have HN := Lib.hid hn
  have hw := two_bytes hx2 hy2
  clear hn
  go_enter Try.func20, Try.ntmps20
  go_wp2_with fail
  go_quiet (fail)
  have hd : Below w.heap.size w (w.drewN nq) := below_drewN (Below.refl _ _) _
  generalize w.drewN nq = w2 at hd ⊢
  have hxy : (x.toNat : Int) * 256 + (y.toNat : Int) = ((x.toNat * 256 + y.toNat : Nat) : Int) := by omega
  rw [hxy]
  obtain ⟨u, hu⟩ : ∃ u, t.extract 2 t.size = u := ⟨_, rfl⟩
  have hus : u.size = t.size - 2 := by rw [← hu, ByteArray.size_extract]; omega
  have hul : u.data.toList = t.data.toList.drop 2 := by
    have := ext_left t 2
    rw [hu] at this
    rw [this]; rfl
  rw [hu]
  have HD := Lib.hid hd
  have HU := Lib.hid hul
  clear hxy hw hx hy hd t1 hu hul
  generalize x.toNat * 256 + y.toNat = n at *
  clear hx2 hy2
  by_cases h2 : u.size < n
  · have t2 : decide ((u.size : Int) < (n : Int)) = true := decide_eq_true (by omega)
    have hr' : r = ⟨#[]⟩ := by
      rw [HR.out]; unfold toldL
      rw [if_neg (by rw [HL.out]; exact h1), if_pos (by rw [HL.out, HN.out]; omega)]; rfl
    clear hus
    go_wp2_with fail
    go_ret
    exact ⟨by rw [hr']; rfl, HD.out⟩
  · have t2 : decide ((u.size : Int) < (n : Int)) = false := decide_eq_false (by omega)
    obtain ⟨v, hv⟩ : ∃ v, u.extract 0 n = v := ⟨_, rfl⟩
    have hr' : r = v := by
      rw [HR.out, ← hv]; unfold toldL
      rw [if_neg (by rw [HL.out]; exact h1), if_neg (by rw [HL.out, HN.out]; omega), HN.out, ← HU.out, ← ext_take]
      exact strL_self _
    have hnu : (n : Int) ≤ (u.size : Int) := by omega
    have HR' := Lib.hid hr'
    clear hus hr'
    go_wp2_with fail
    go_ret
    exact ⟨by rw [HR'.out]; rfl, HD.out⟩
/-- What Next answers, by what is told. -/
theorem nextV_told (s : ByteArray) {a : Nat} (ha : a ≤ s.size) (t : ByteArray) (ht : t.data.toList = toldL (left s a)) :
    nextV s a = if mayB t = true ∧ preB (strL (left s a)) (strL (frL t.data.toList)) = true then .tuple #[.string t, .int .i64 ((a : Int) + (t.size + 6 : Nat)), .int .i64 0] else .tuple #[.string ⟨#[]⟩, .int .i64 0, .int .i64 14] := by
  have hts : t.size = (toldL (left s a)).length := by rw [← ht]; rfl
  have hst : strL (toldL (left s a)) = t := by rw [← ht]; exact strL_self t
  unfold nextV
  rw [if_neg (by omega), show ((a : Int)).toNat = a by omega, nextL_told]
  have hp : preB (strL (left s a)) (strL (frL t.data.toList)) = true ↔ (t.size + 6 ≤ (left s a).length ∧ (left s a).take (t.size + 6) = frL t.data.toList) := by
    unfold preB
    rw [Bool.and_eq_true, decide_eq_true_eq, decide_eq_true_eq, strL_size, strL_size, frL_len]
    show (t.size + 6 ≤ (left s a).length ∧ _) ↔ _
    constructor
    · rintro ⟨h1, h2⟩
      refine ⟨h1, ?_⟩
      have := congrArg (fun z => z.data.toList) h2
      simp only [ext_take] at this
      exact this
    · rintro ⟨h1, h2⟩
      refine ⟨h1, ?_⟩
      apply ByteArray.ext
      apply Array.ext'
      rw [ext_take]
      exact h2
  have hm : mayB t = true ↔ (1 ≤ t.size ∧ t.size ≤ 2000) := by unfold mayB; simp
  rw [← hts, ← ht]
  by_cases h : mayB t = true ∧ preB (strL (left s a)) (strL (frL t.data.toList)) = true
  · have h' := h
    rw [hm, hp] at h'
    rw [if_pos h, if_pos ⟨h'.1.1, h'.1.2, h'.2.1, h'.2.2⟩]
    show Value.tuple #[.string (strL t.data.toList), _, _] = _
    rw [strL_self]
  · have h' := h
    rw [hm, hp] at h'
    rw [if_neg h, if_neg (fun k => h' ⟨⟨k.1, k.2.1⟩, k.2.2.1, k.2.2.2⟩)]
theorem LNext_range {s : ByteArray} {a : Int} (h : a < 0 ∨ (s.size : Int) < a) (w : World) : Calls Try.prog 14 #[.string s, .int .i64 a] w fun e w' => e = .returned (.tuple #[.string ⟨#[]⟩, .int .i64 0, .int .i64 3]) ∧ Below w.heap.size w w' := by
  by_cases h1 : a < 0
  · have t1 : decide (a < 0) = true := by simpa using h1
    clear h
    go_enter Try.func14, Try.ntmps14
    go_wp2_with fail
    go_ret3
    exact ⟨rfl, Below.refl _ _⟩
  · have t1 : decide (a < 0) = false := by simpa using h1
    have t2 : decide ((s.size : Int) < a) = true := by simp; omega
    clear h
    go_enter Try.func14, Try.ntmps14
    go_wp2_with fail
    go_ret3
    exact ⟨rfl, Below.refl _ _⟩
set_option maxRecDepth 20000 in
set_option maxHeartbeats 1000000 in
theorem LNext_at {s : ByteArray} {a : Nat} (ha : a ≤ s.size) (hs : s.size ≤ 1000000000) (w : World) : Calls Try.prog 14 #[.string s, .int .i64 a] w fun e w' => e = .returned (nextV s a) ∧ Below w.heap.size w w' := by
  have t1 : decide ((s.size : Int) < (a : Int)) = false := by simp; omega
  have t2 : decide ((a : Int) < 0) = false := decide_eq_false (by omega)
  obtain ⟨t, ht⟩ : ∃ t, s.extract a s.size = t := ⟨_, rfl⟩
  have hlt : t = strL (left s a) := by rw [← ht, ext_left]
  have htl : t.data.toList = left s a := by rw [hlt]; rfl
  have hts : t.size ≤ 1000000000 := by rw [← ht, ByteArray.size_extract]; omega
  have T := told_any hts
  obtain ⟨p, hp⟩ : ∃ p, p = strL (toldL t.data.toList) := ⟨_, rfl⟩
  rw [← hp] at T
  have hpl : p.data.toList = toldL (left s a) := by rw [hp, htl]; rfl
  have hps : p.size ≤ 1000000000 := by
    have h1 := toldL_len t.data.toList
    have h2 : p.size = (toldL t.data.toList).length := by rw [hp]; rfl
    have h3 : t.data.toList.length = t.size := rfl
    omega
  have hV := nextV_told s ha p hpl
  rw [← hlt] at hV
  have M := LMake_any (p := p)
  unfold makeV at M
  obtain ⟨r, hr⟩ : ∃ r, nextV s a = r := ⟨_, rfl⟩
  rw [hr] at hV ⊢
  clear hp hlt htl hpl hr
  cases hm : mayB p with
  | false =>
    rw [hm, if_neg Bool.false_ne_true] at M
    rw [hm, if_neg (fun h => Bool.false_ne_true h.1)] at hV
    subst hV
    clear hm
    go_enter Try.func14, Try.ntmps14
    go_wp2_with (first
      | (go_at_call 20; refine (T _).mono ?_; rintro e w1 ⟨rfl, hb1⟩)
      | (go_at_call 9; refine (M _).mono ?_; rintro e w2 ⟨rfl, hb2⟩))
    go_ret3
    exact ⟨rfl, hb1.trans (hb2.mono hb1.size)⟩
  | true =>
    rw [hm, if_pos rfl] at M
    rw [hm] at hV
    have P := HasPrefix_any t (strL (frL p.data.toList))
    obtain ⟨q, hq⟩ : ∃ q, q = strL (frL p.data.toList) := ⟨_, rfl⟩
    have hqs : q.size = p.size + 6 := by rw [hq, strL_size, frL_len]; rfl
    rw [← hq] at M P hV
    have HQ := Lib.hid hqs
    clear hm hq hqs
    cases hpre : preB t q with
    | false =>
      rw [hpre] at P hV
      rw [if_neg (fun h => Bool.false_ne_true h.2)] at hV
      subst hV
      clear hpre
      go_enter Try.func14, Try.ntmps14
      go_wp2_with (first
        | (go_at_call 20; refine (T _).mono ?_; rintro e w1 ⟨rfl, hb1⟩)
        | (go_at_call 9; refine (M _).mono ?_; rintro e w2 ⟨rfl, hb2⟩)
        | (go_at_call 21; refine (P _).mono ?_; rintro e w3 ⟨rfl, rfl⟩))
      go_ret3
      exact ⟨rfl, hb1.trans (hb2.mono hb1.size)⟩
    | true =>
      rw [hpre] at P hV
      rw [if_pos ⟨rfl, rfl⟩] at hV
      have C := Clone_any hps
      obtain ⟨k, hk⟩ : ∃ k : Int, (a : Int) + ((p.size + 6 : Nat) : Int) = k := ⟨_, rfl⟩
      have hw : wrap64 ((a : Int) + (q.size : Int)) = k := by rw [← hk, HQ.out]; unfold wrap64; omega
      rw [hk] at hV
      have HV := Lib.hid hV
      clear hpre hV hk
      go_enter Try.func14, Try.ntmps14
      go_wp2_with (first
        | (go_at_call 20; refine (T _).mono ?_; rintro e w1 ⟨rfl, hb1⟩)
        | (go_at_call 9; refine (M _).mono ?_; rintro e w2 ⟨rfl, hb2⟩)
        | (go_at_call 21; refine (P _).mono ?_; rintro e w3 ⟨rfl, rfl⟩)
        | (go_at_call 22; refine (C _).mono ?_; rintro e w4 ⟨rfl, hb4⟩))
      go_ret3
      refine ⟨?_, (hb1.trans (hb2.mono hb1.size)).trans (hb4.mono (Nat.le_trans hb1.size hb2.size))⟩
      rw [HV.out, ← hw]; rfl
theorem LNext_any {s : ByteArray} {a : Int} (hs : s.size ≤ 1000000000) (w : World) : Calls Try.prog 14 #[.string s, .int .i64 a] w fun e w' => e = .returned (nextV s a) ∧ Below w.heap.size w w' := by
  by_cases h : a < 0 ∨ (s.size : Int) < a
  · have := LNext_range h w
    unfold nextV
    rw [if_pos h]
    exact this
  · obtain ⟨i, rfl⟩ : ∃ i : Nat, a = i := ⟨a.toNat, by omega⟩
    exact LNext_at (by omega) hs w
end Go.Proofs.Ytlfeocccjolmpaa
