/-
  A float's text is read again as that float, plainly: no walk.
-/
import Derived.Test.YtfkjehgbghckhaaDoorFm
namespace Go.Proofs.YtfkjehgbghckhaaDoor
open Go.RowKit Ieee

def signL (b : Nat) : List UInt8 := if sgn b = true then [45] else []
def expL (e : Int) : List UInt8 := if e < 0 then 45 :: digL (-e).toNat else digL e.toNat
def sizeL (b : Nat) : List UInt8 := if rung b = 9218868437227405312 then [105, 110, 102] else digL (oddW b) ++ 112 :: expL (expW b)
def textL (b : Nat) : List UInt8 := if nanB b = true then [110, 97, 110] else signL b ++ sizeL b
theorem expS_list (e : Int) : expS e = strL (expL e) := by
  unfold expS expL
  split
  · exact strL_append [45] _
  · rfl
theorem textB_list (b : Nat) : textB b = strL (textL b) := by
  unfold textB textL sizeL signS signL
  by_cases h : nanB b = true
  · rw [if_pos h, if_pos h]; rfl
  · rw [if_neg h, if_neg h]
    have e1 : (if sgn b = true then (⟨#[45]⟩ : ByteArray) else ⟨#[]⟩) = strL (if sgn b = true then [45] else []) := by split <;> rfl
    rw [e1, expS_list]
    generalize (if sgn b = true then [45] else ([] : List UInt8)) = s
    by_cases hi : rung b = 9218868437227405312
    · rw [if_pos hi, if_pos hi]; exact strL_append s [105, 110, 102]
    · rw [if_neg hi, if_neg hi]
      rw [strL_append, show (⟨#[112]⟩ : ByteArray) = strL [112] from rfl, strL_append, strL_append]
      congr 1
      simp
theorem dc_digit (n : Nat) : isD (dc n) = true ∧ (dc n).toNat - 48 = n % 10 := by
  have h : (dc n).toNat = 48 + n % 10 := by unfold dc; simp; omega
  unfold isD
  rw [h]
  exact ⟨by simp; omega, by omega⟩
theorem digL_all : ∀ n, (digL n).all isD = true := by
  intro n
  induction n using Nat.strongRecOn with
  | ind n ih =>
    by_cases h : n / 10 = 0
    · rw [digL_last h]; simp [(dc_digit n).1]
    · rw [digL_more h, List.all_append, ih (n / 10) (by omega)]; simp [(dc_digit n).1]
theorem digL_num : ∀ n, numN (digL n) = n := by
  intro n
  induction n using Nat.strongRecOn with
  | ind n ih =>
    by_cases h : n / 10 = 0
    · rw [digL_last h]
      have := numN_snoc [] (dc n)
      rw [List.nil_append] at this
      rw [this, (dc_digit n).2]
      show 0 * 10 + n % 10 = n
      omega
    · rw [digL_more h, numN_snoc, ih (n / 10) (by omega), (dc_digit n).2]; omega
theorem digL_cap {n : Nat} (h : n < 576460752303423488) : capN (digL n) = n := by rw [capN_num, digL_num]; omega
theorem digL_ok {n : Nat} (k : Nat) (h : n < 10 ^ k) (hk : 1 ≤ k) : okD (digL n) k = true := by
  unfold okD
  rw [decide_eq_true (digL_pos n), decide_eq_true (digL_len k n h hk), digL_all]; rfl
theorem dc_minus (n : Nat) : (45 == dc n) = false := by
  rw [beq_eq_false_iff_ne]
  intro e
  have := (dc_digit n).1
  rw [← e] at this
  exact absurd this (by decide)
theorem digL_head : ∀ n, ∃ m t, digL n = dc m :: t := by
  intro n
  induction n using Nat.strongRecOn with
  | ind n ih =>
    by_cases h : n / 10 = 0
    · exact ⟨n, [], digL_last h⟩
    · obtain ⟨m, t, e⟩ := ih (n / 10) (by omega)
      exact ⟨m, t ++ [dc n], by rw [digL_more h, e]; rfl⟩
theorem digL_prefix (n : Nat) (r : List UInt8) : Lib.hasPrefix (digL n ++ r) [45] = false := by
  obtain ⟨m, t, e⟩ := digL_head n
  rw [e]
  show (45 == dc m && _) = false
  rw [dc_minus]; rfl
theorem exp_parts (e : Int) : Lib.hasPrefix (expL e) [45] = decide (e < 0) ∧ Lib.trimPrefix (expL e) [45] = digL e.natAbs := by
  unfold expL
  by_cases h : e < 0
  · rw [if_pos h, decide_eq_true h]
    refine ⟨rfl, ?_⟩
    show digL (-e).toNat = _
    rw [show (-e).toNat = e.natAbs by omega]
  · rw [if_neg h, decide_eq_false h]
    have hp : Lib.hasPrefix (digL e.toNat) [45] = false := by have := digL_prefix e.toNat []; rwa [List.append_nil] at this
    refine ⟨hp, ?_⟩
    unfold Lib.trimPrefix
    rw [hp, show e.toNat = e.natAbs by omega]; rfl
theorem expW_bounds (b : Nat) : -1074 ≤ expW b ∧ expW b ≤ 1036 := by
  unfold expW
  have h1 := place_in b
  have h2 := mant_lt b
  split
  · omega
  · have := (ctz_twos (n := mantW b) (by omega) (by omega)).2.2
    omega
/-- The body of a text of a finite float makes that float. -/
theorem body_text {b : Nat} (hb : okW b) (hf : rung b < 9218868437227405312) : bodyV (sgn b) (digL (oddW b) ++ 112 :: expL (expW b)) = .tuple #[.float .f64 b, .int .i64 0] := by
  obtain ⟨e1, e2, _⟩ := left_of (d := digL (oddW b)) (r := expL (expW b)) (digL_all _)
  obtain ⟨p1, p2⟩ := exp_parts (expW b)
  have hx := expW_bounds b
  have ho := oddW_lt b
  have hbo : bodyL (digL (oddW b) ++ 112 :: expL (expW b)) = digL (expW b).natAbs := by unfold bodyL; rw [e2, p2]
  have hbe : belowB (digL (oddW b) ++ 112 :: expL (expW b)) = decide (expW b < 0) := by unfold belowB; rw [e2, p1]
  unfold bodyV
  rw [e1, hbo, hbe, if_pos ⟨digL_ok 20 (by omega) (by omega), digL_ok 4 (by omega) (by omega)⟩, digL_cap (by omega), digL_cap (by omega)]
  have hs : sgnI (decide (expW b < 0)) (expW b).natAbs = expW b := by
    unfold sgnI
    by_cases h : expW b < 0
    · rw [decide_eq_true h, if_pos rfl]; omega
    · rw [decide_eq_false h, if_neg (by simp)]; omega
  rw [hs]
  have hwp := word_parts b hb
  unfold madeT
  rw [if_neg (by omega)]
  by_cases h0 : mantW b = 0
  · have ho0 : oddW b = 0 := by unfold oddW; rw [if_pos h0]
    rw [if_pos ho0]
    have hr0 : rung b = 0 := by unfold mantW at h0; split at h0 <;> omega
    have : double.word (sgn b) 0 = b := by
      rw [← hr0]; exact hwp
    rw [this]
  · have hom : oddW b = oddOf (mantW b) := by unfold oddW; rw [if_neg h0]
    have hem : expW b = placeW b + twos (mantW b) := by unfold expW; rw [if_neg h0]
    have hpos := oddOf_pos (show 0 < mantW b by omega)
    have hodd := oddOf_is (show 0 < mantW b by omega)
    rw [if_neg (by omega), hom, oddOf_odd (by omega), twos_odd (by omega)]
    have hpl := place_in b
    have hlog : (mantW b).log2 = (oddOf (mantW b)).log2 + twos (mantW b) := by
      have := log2_mul_pow hpos (twos (mantW b))
      rw [odd_twos _ (by omega)] at this
      exact this
    have hl52 : (mantW b).log2 ≤ 52 := by
      have := (Nat.log2_lt (n := mantW b) (k := 53) (by omega)).2 (by have := mant_lt b; omega)
      omega
    have hp971 : placeW b ≤ 971 := by unfold placeW; split <;> omega
    have hne : double.nearest (sgn b) (oddOf (mantW b)) (expW b + ((0 : Nat) : Int)) = b := by
      rw [hem, show placeW b + (twos (mantW b) : Int) + ((0 : Nat) : Int) = placeW b + twos (mantW b) by omega, ← nearest_odd (sgn b) (placeW b) (by omega)]
      have hwr := write_read_fin b hb hf
      rw [read_mant hf] at hwr
      exact hwr
    unfold madeV
    rw [if_pos ⟨by omega, by omega⟩, hne]
/-- A float's text is read as that float, but for NaN. -/
theorem text_back {b : Nat} (hb : okW b) : parseV (textL b) = .tuple #[.float .f64 (canonW b), .int .i64 0] := by
  unfold textL
  cases hn : nanB b
  · rw [if_neg (by simp), canon_num hn]
    have hnan : signL b ++ sizeL b ≠ [110, 97, 110] := by
      intro e
      unfold signL sizeL at e
      obtain ⟨m, t, hd⟩ := digL_head (oddW b)
      rw [hd] at e
      have hm := (dc_digit m).1
      split at e
      · simp at e
      · split at e
        · simp at e
        · simp only [List.nil_append, List.cons_append, List.cons.injEq] at e
          rw [e.1] at hm
          exact absurd hm (by decide)
    unfold parseV
    rw [if_neg hnan]
    have hpre : Lib.hasPrefix (signL b ++ sizeL b) [45] = sgn b ∧ Lib.trimPrefix (signL b ++ sizeL b) [45] = sizeL b := by
      unfold signL
      cases hs : sgn b
      · rw [if_neg (by simp), List.nil_append]
        have : Lib.hasPrefix (sizeL b) [45] = false := by
          unfold sizeL
          split
          · rfl
          · exact digL_prefix _ _
        exact ⟨this, by unfold Lib.trimPrefix; rw [this]; rfl⟩
      · rw [if_pos rfl]; exact ⟨rfl, rfl⟩
    rw [hpre.1, hpre.2]
    have hwp := word_parts b hb
    unfold sizeL
    by_cases hi : rung b = 9218868437227405312
    · rw [if_pos hi]
      have : double.word (sgn b) 9218868437227405312 = b := by rw [← hi]; exact hwp
      show Value.tuple #[.float .f64 (double.word (sgn b) 9218868437227405312), _] = _
      rw [this]
    · rw [if_neg hi]
      have hinf : digL (oddW b) ++ 112 :: expL (expW b) ≠ [105, 110, 102] := by
        intro e
        obtain ⟨m, t, hd⟩ := digL_head (oddW b)
        rw [hd] at e
        have hm := (dc_digit m).1
        simp only [List.cons_append, List.cons.injEq] at e
        rw [e.1] at hm
        exact absurd hm (by decide)
      unfold sizeV
      rw [if_neg hinf]
      exact body_text hb (by have := rung_num hn; omega)
  · rw [if_pos rfl, canon_nan hn]; rfl
theorem textL_len (b : Nat) : (textL b).length ≤ 1000 := by
  have h : (strL (textL b)).size = (textL b).length := rfl
  rw [← h, ← textB_list]
  have := sizeB_size b
  cases hn : nanB b
  · cases hs : sgn b
    · rw [textB_up hn hs]; omega
    · rw [textB_down hn hs, ByteArray.size_append]
      have : ByteArray.size ⟨#[45]⟩ = 1 := rfl
      omega
  · unfold textB; rw [if_pos hn]; decide
end Go.Proofs.YtfkjehgbghckhaaDoor
