/-
  CRC-32 and frames, plainly: no walk, no number of a seat.
-/
import Derived.Lib.Hide
namespace Go.Proofs.Ytlfeocccjolmpaa

/-! ### The sum, bit by bit -/
def cs (c : Nat) : Nat := if c % 2 = 1 then (c / 2) ^^^ 3988292384 else c / 2
theorem cs_lt {c : Nat} (h : c < 4294967296) : cs c < 4294967296 := by
  unfold cs
  split
  · exact Nat.xor_lt_two_pow (n := 32) (by omega) (by decide)
  · omega
theorem xor_back (x p : Nat) : (x ^^^ p) ^^^ p = x := by rw [Nat.xor_assoc, Nat.xor_self, Nat.xor_zero]
theorem cs_far {x y : Nat} (hx : x < 2147483648) (hy : y < 2147483648) : x ^^^ 3988292384 ≠ y := fun h => by
  have h1 : x ^^^ y < 2 ^ 31 := Nat.xor_lt_two_pow (n := 31) (by omega) (by omega)
  rw [← h, ← Nat.xor_assoc, Nat.xor_self, Nat.zero_xor] at h1
  exact absurd h1 (by decide)
theorem cs_inj {a b : Nat} (ha : a < 4294967296) (hb : b < 4294967296) (h : cs a = cs b) : a = b := by
  unfold cs at h
  by_cases h1 : a % 2 = 1
  · by_cases h2 : b % 2 = 1
    · rw [if_pos h1, if_pos h2] at h
      have := congrArg (fun x => x ^^^ 3988292384) h
      simp only [xor_back] at this
      omega
    · rw [if_pos h1, if_neg h2] at h
      exact absurd h (cs_far (by omega) (by omega))
  · by_cases h2 : b % 2 = 1
    · rw [if_neg h1, if_pos h2] at h
      exact absurd h.symm (cs_far (by omega) (by omega))
    · rw [if_neg h1, if_neg h2] at h
      omega
def csn : Nat → Nat → Nat
  | 0, c => c
  | k + 1, c => csn k (cs c)
theorem csn_lt : ∀ (k : Nat) {c : Nat}, c < 4294967296 → csn k c < 4294967296
  | 0, _, h => h
  | k + 1, _, h => csn_lt k (cs_lt h)
theorem csn_inj : ∀ (k : Nat) {a b : Nat}, a < 4294967296 → b < 4294967296 → csn k a = csn k b → a = b
  | 0, _, _, _, _, h => h
  | k + 1, _, _, ha, hb, h => cs_inj ha hb (csn_inj k (cs_lt ha) (cs_lt hb) h)
theorem csn_add : ∀ (j k c : Nat), csn (j + k) c = csn k (csn j c)
  | 0, k, c => by rw [Nat.zero_add]; rfl
  | j + 1, k, c => by rw [Nat.succ_add]; exact csn_add j k (cs c)
/-- One byte more. -/
def cb (c b : Nat) : Nat := csn 8 (c ^^^ b)
theorem u8_lt (b : UInt8) : b.toNat < 256 := b.toNat_lt
theorem mix_lt {c b : Nat} (h : c < 4294967296) (hb : b < 256) : c ^^^ b < 4294967296 := Nat.xor_lt_two_pow (n := 32) (by omega) (by omega)
theorem cb_lt {c b : Nat} (h : c < 4294967296) (hb : b < 256) : cb c b < 4294967296 := csn_lt 8 (mix_lt h hb)
def cl (c : Nat) : List UInt8 → Nat
  | [] => c
  | b :: l => cl (cb c b.toNat) l
theorem cl_lt : ∀ (l : List UInt8) {c : Nat}, c < 4294967296 → cl c l < 4294967296
  | [], _, h => h
  | b :: l, _, h => cl_lt l (cb_lt h (u8_lt b))
theorem cl_append : ∀ (a b : List UInt8) (c : Nat), cl c (a ++ b) = cl (cl c a) b
  | [], _, _ => rfl
  | _ :: a, b, _ => cl_append a b _
theorem cl_inj : ∀ (l : List UInt8) {a b : Nat}, a < 4294967296 → b < 4294967296 → cl a l = cl b l → a = b
  | [], _, _, _, _, h => h
  | x :: l, a, b, ha, hb, h => by
    have h1 := cl_inj l (cb_lt ha (u8_lt x)) (cb_lt hb (u8_lt x)) h
    have h2 := csn_inj 8 (mix_lt ha (u8_lt x)) (mix_lt hb (u8_lt x)) h1
    have := congrArg (fun z => z ^^^ x.toNat) h2
    simpa only [xor_back] using this
/-- Bytes that part in one alone have unlike sums. -/
theorem cl_turn {x y : List UInt8} {b b' : UInt8} {c : Nat} (hc : c < 4294967296) (h : b ≠ b') : cl c (x ++ b :: y) ≠ cl c (x ++ b' :: y) := fun e => by
  rw [cl_append, cl_append] at e
  have hx := cl_lt x hc
  have h1 := cl_inj y (cb_lt hx (u8_lt b)) (cb_lt hx (u8_lt b')) e
  have h2 := csn_inj 8 (mix_lt hx (u8_lt b)) (mix_lt hx (u8_lt b')) h1
  have h3 : b.toNat = b'.toNat := by
    have := congrArg (fun z => cl c x ^^^ z) h2
    simpa only [← Nat.xor_assoc, Nat.xor_self, Nat.zero_xor] using this
  exact h (UInt8.toNat_inj.1 h3)
def sumN (l : List UInt8) : Nat := 4294967295 - cl 4294967295 l
theorem sumN_lt (l : List UInt8) : sumN l < 4294967296 := by unfold sumN; omega
theorem sumN_turn {x y : List UInt8} {b b' : UInt8} (h : b ≠ b') : sumN (x ++ b :: y) ≠ sumN (x ++ b' :: y) := fun e => by
  have h1 := cl_lt (x ++ b :: y) (c := 4294967295) (by omega)
  have h2 := cl_lt (x ++ b' :: y) (c := 4294967295) (by omega)
  unfold sumN at e
  exact cl_turn (x := x) (y := y) (c := 4294967295) (by omega) h (by omega)

/-! ### Frames -/
def tail4 (c : Nat) : List UInt8 := [UInt8.ofNat (c % 256), UInt8.ofNat (c / 256 % 256), UInt8.ofNat (c / 65536 % 256), UInt8.ofNat (c / 16777216 % 256)]
theorem of_inj {a b : Nat} (ha : a < 256) (hb : b < 256) (h : UInt8.ofNat a = UInt8.ofNat b) : a = b := by
  have := congrArg UInt8.toNat h
  simp at this
  omega
theorem tail4_inj {a b : Nat} (ha : a < 4294967296) (hb : b < 4294967296) (h : tail4 a = tail4 b) : a = b := by
  unfold tail4 at h
  injection h with h0 h
  injection h with h1 h
  injection h with h2 h
  injection h with h3 h
  have e0 := of_inj (by omega) (by omega) h0
  have e1 := of_inj (by omega) (by omega) h1
  have e2 := of_inj (by omega) (by omega) h2
  have e3 := of_inj (by omega) (by omega) h3
  omega
/-- The length, and the payload. -/
def headL (p : List UInt8) : List UInt8 := UInt8.ofNat (p.length / 256) :: UInt8.ofNat (p.length % 256) :: p
def frL (p : List UInt8) : List UInt8 := headL p ++ tail4 (sumN (headL p))
theorem headL_len (p : List UInt8) : (headL p).length = p.length + 2 := rfl
theorem frL_len (p : List UInt8) : (frL p).length = p.length + 6 := by unfold frL; rw [List.length_append, headL_len]; rfl
/-- What the two first bytes say. -/
def lenL : List UInt8 → Nat
  | hi :: lo :: _ => hi.toNat * 256 + lo.toNat
  | _ => 0
theorem lenL_frL {p r : List UInt8} (h : p.length ≤ 2000) : lenL (frL p ++ r) = p.length := by
  show (UInt8.ofNat (p.length / 256)).toNat * 256 + (UInt8.ofNat (p.length % 256)).toNat = p.length
  simp
  omega
/-- The frame that stands first: its payload, and how many bytes it has. -/
def nextL (l : List UInt8) : Option (List UInt8 × Nat) :=
  if l.length < 2 then none
  else if lenL l < 1 ∨ 2000 < lenL l ∨ l.length < lenL l + 6 then none
  else if frL ((l.drop 2).take (lenL l)) = l.take (lenL l + 6) then some ((l.drop 2).take (lenL l), lenL l + 6)
  else none
theorem nextL_some {l p : List UInt8} {k : Nat} (h : nextL l = some (p, k)) : 1 ≤ p.length ∧ p.length ≤ 2000 ∧ k = p.length + 6 ∧ l.take k = frL p ∧ k ≤ l.length := by
  unfold nextL at h
  split at h
  · cases h
  · split at h
    · cases h
    · split at h
      · rename_i h1 h2 h3
        cases h
        have e : ((l.drop 2).take (lenL l)).length = lenL l := by rw [List.length_take, List.length_drop]; omega
        rw [e]
        exact ⟨by omega, by omega, rfl, h3.symm, by omega⟩
      · cases h
theorem frL_payload (p r : List UInt8) : ((frL p ++ r).drop 2).take p.length = p := by
  show (p ++ tail4 (sumN (headL p)) ++ r).take p.length = p
  rw [List.append_assoc, List.take_left]
theorem nextL_frame {p : List UInt8} (h1 : 1 ≤ p.length) (h2 : p.length ≤ 2000) (r : List UInt8) : nextL (frL p ++ r) = some (p, p.length + 6) := by
  have hl : (frL p ++ r).length = p.length + 6 + r.length := by rw [List.length_append, frL_len]
  unfold nextL
  rw [lenL_frL h2, frL_payload, if_neg (by omega), if_neg (by omega)]
  have e : (frL p ++ r).take (p.length + 6) = frL p := by rw [← frL_len p, List.take_left]
  rw [if_pos e.symm]
theorem nextL_take {l p : List UInt8} {k : Nat} (h : nextL l = some (p, k)) (r : List UInt8) : nextL (l.take k ++ r) = some (p, k) := by
  obtain ⟨h1, h2, h3, h4, _⟩ := nextL_some h
  rw [h4, h3]
  exact nextL_frame h1 h2 r
theorem lenL_take {l : List UInt8} {j : Nat} (h : 2 ≤ j) : lenL (l.take j) = lenL l := by
  match l, j, h with
  | [], j, _ => simp
  | [a], j + 2, _ => simp
  | a :: b :: l, j + 2, _ => simp [lenL]
/-- A frame that is cut off is none. -/
theorem nextL_cut {p : List UInt8} (h2 : p.length ≤ 2000) {j : Nat} (hj : j < p.length + 6) : nextL ((frL p).take j) = none := by
  have hl : ((frL p).take j).length = j := by rw [List.length_take, frL_len]; omega
  unfold nextL
  by_cases h : j < 2
  · rw [hl, if_pos h]
  · rw [hl, if_neg h]
    have := lenL_frL (p := p) (r := []) h2
    rw [List.append_nil] at this
    rw [lenL_take (by omega), this, if_pos (by omega)]

/-! ### All frames -/
inductive Fr : List UInt8 → List (List UInt8) → Nat → Prop
  | stop {l : List UInt8} (h : nextL l = none) : Fr l [] 0
  | next {l p : List UInt8} {k g : Nat} {ps : List (List UInt8)} (h : nextL l = some (p, k)) (r : Fr (l.drop k) ps g) : Fr l (p :: ps) (k + g)
theorem Fr.unique {l : List UInt8} {ps qs : List (List UInt8)} {g f : Nat} (h : Fr l ps g) (k : Fr l qs f) : ps = qs ∧ g = f := by
  induction h generalizing qs f with
  | stop h => cases k with
    | stop _ => exact ⟨rfl, rfl⟩
    | next h' _ => rw [h] at h'; cases h'
  | next h r ih => cases k with
    | stop h' => rw [h] at h'; cases h'
    | next h' r' =>
      rw [h] at h'
      cases h'
      obtain ⟨rfl, rfl⟩ := ih r'
      exact ⟨rfl, rfl⟩
theorem Fr.exist : ∀ (n : Nat) (l : List UInt8), l.length ≤ n → ∃ ps g, Fr l ps g
  | 0, l, h => by
    have : l = [] := List.length_eq_zero_iff.1 (by omega)
    subst this
    exact ⟨[], 0, .stop rfl⟩
  | n + 1, l, h => by
    cases hn : nextL l with
    | none => exact ⟨[], 0, .stop hn⟩
    | some z =>
      obtain ⟨p, k⟩ := z
      obtain ⟨h1, _, h3, _, h5⟩ := nextL_some hn
      obtain ⟨ps, g, hr⟩ := Fr.exist n (l.drop k) (by rw [List.length_drop]; omega)
      exact ⟨p :: ps, k + g, .next hn hr⟩
theorem Fr.le {l : List UInt8} {ps : List (List UInt8)} {g : Nat} (h : Fr l ps g) : g ≤ l.length := by
  induction h with
  | stop _ => exact Nat.zero_le _
  | next h r ih =>
    obtain ⟨_, _, _, _, h5⟩ := nextL_some h
    rw [List.length_drop] at ih
    omega
/-- Behind frames that go to their end others are read as by themselves. -/
theorem Fr.join {s t : List UInt8} {a b : List (List UInt8)} {g f : Nat} (h : Fr s a g) (k : Fr t b f) : Fr (s.take g ++ t) (a ++ b) (g + f) := by
  induction h with
  | stop _ => simpa using k
  | @next l p j g ps h r ih =>
    obtain ⟨_, _, _, _, h5⟩ := nextL_some h
    have e : l.take (j + g) ++ t = l.take j ++ ((l.drop j).take g ++ t) := by rw [List.take_add, List.append_assoc]
    rw [e, Nat.add_assoc]
    have hlen : (l.take j).length = j := by rw [List.length_take]; omega
    refine .next (nextL_take h _) ?_
    have : (l.take j ++ ((l.drop j).take g ++ t)).drop j = (l.drop j).take g ++ t := by
      generalize (l.drop j).take g ++ t = X at *
      generalize l.take j = Y at *
      subst hlen
      exact List.drop_left
    rw [this]
    exact ih

/-! ### Frames behind one another, cut off anywhere -/
def rowL : List (List UInt8) → List UInt8
  | [] => []
  | p :: ps => frL p ++ rowL ps
/-- How many stand whole ahead of the cut, and where they end. -/
def fitL : List (List UInt8) → Nat → Nat × Nat
  | [], _ => (0, 0)
  | p :: ps, c => if c < p.length + 6 then (0, 0) else ((fitL ps (c - (p.length + 6))).1 + 1, p.length + 6 + (fitL ps (c - (p.length + 6))).2)
theorem Fr.row : ∀ (ps : List (List UInt8)), (∀ p ∈ ps, 1 ≤ p.length ∧ p.length ≤ 2000) → ∀ c, Fr ((rowL ps).take c) (ps.take (fitL ps c).1) (fitL ps c).2
  | [], _, c => by
    have : (rowL []).take c = [] := by simp [rowL]
    rw [this]
    exact .stop rfl
  | p :: ps, h, c => by
    obtain ⟨h1, h2⟩ := h p (by simp)
    unfold fitL
    by_cases hc : c < p.length + 6
    · rw [if_pos hc]
      refine .stop ?_
      have : (rowL (p :: ps)).take c = (frL p).take c := by
        show (frL p ++ rowL ps).take c = _
        rw [List.take_append_of_le_length (by rw [frL_len]; omega)]
      rw [this]
      exact nextL_cut h2 hc
    · rw [if_neg hc]
      have e : (rowL (p :: ps)).take c = frL p ++ (rowL ps).take (c - (p.length + 6)) := by
        show (frL p ++ rowL ps).take c = _
        rw [List.take_append, List.take_of_length_le (by rw [frL_len]; omega), frL_len]
      rw [e, List.take_succ_cons]
      refine .next (nextL_frame h1 h2 _) ?_
      rw [← frL_len p, List.drop_left, frL_len]
      exact Fr.row ps (fun q hq => h q (by simp [hq])) _

/-! ### A bit that is turned -/
theorem nextL_turn {p : List UInt8} (h2 : p.length ≤ 2000) {j : Nat} {b : UInt8} (h0 : 2 ≤ j) (hj : j < (frL p).length) (hb : (frL p)[j]? ≠ some b) : nextL ((frL p).set j b) = none := by
  have hl := frL_len p
  cases hn : nextL ((frL p).set j b) with
  | none => rfl
  | some z =>
    exfalso
    obtain ⟨q, k⟩ := z
    obtain ⟨q1, q2, hk, ht, hle⟩ := nextL_some hn
    have hlen : lenL ((frL p).set j b) = p.length := by
      have := lenL_frL (p := p) (r := []) h2
      rw [List.append_nil] at this
      rw [← this]
      obtain ⟨i, rfl⟩ : ∃ i, j = i + 2 := ⟨j - 2, by omega⟩
      rfl
    have hq : lenL (frL q) = q.length := by
      have := lenL_frL (p := q) (r := []) q2
      rwa [List.append_nil] at this
    have hqp : q.length = p.length := by rw [← hq, ← ht, lenL_take (by omega), hlen]
    rw [hk, hqp, ← hl, ← List.length_set (as := frL p) (i := j) (a := b), List.take_length] at ht
    by_cases hj2 : j < p.length + 2
    · have hpl : j - 2 < p.length := by omega
      have hset : (frL p).set j b = headL (p.set (j - 2) b) ++ tail4 (sumN (headL p)) := by
        unfold frL
        rw [List.set_append_left _ _ (by rw [headL_len]; omega)]
        congr 1
        unfold headL
        obtain ⟨i, rfl⟩ : ∃ i, j = i + 2 := ⟨j - 2, by omega⟩
        simp
      rw [hset] at ht
      have hlh : (headL (p.set (j - 2) b)).length = (headL q).length := by rw [headL_len, headL_len, List.length_set]; omega
      obtain ⟨e1, e2⟩ := List.append_inj ht hlh
      have e3 := tail4_inj (sumN_lt _) (sumN_lt _) e2
      rw [← e1] at e3
      have hp : p = p.take (j - 2) ++ p[j - 2] :: p.drop (j - 1) := by
        conv => lhs; rw [← List.take_append_drop (j - 2) p]
        rw [List.drop_eq_getElem_cons hpl, show j - 2 + 1 = j - 1 by omega]
      have hp' : p.set (j - 2) b = p.take (j - 2) ++ b :: p.drop (j - 1) := by
        rw [List.set_eq_take_append_cons_drop, if_pos hpl, show j - 2 + 1 = j - 1 by omega]
      have hne : p[j - 2] ≠ b := by
        intro e
        apply hb
        unfold frL
        rw [List.getElem?_append_left (by rw [headL_len]; omega), ← e]
        unfold headL
        obtain ⟨i, rfl⟩ : ∃ i, j = i + 2 := ⟨j - 2, by omega⟩
        simp
      refine sumN_turn (x := UInt8.ofNat (p.length / 256) :: UInt8.ofNat (p.length % 256) :: p.take (j - 2)) (y := p.drop (j - 1)) hne ?_
      have a1 : headL p = (UInt8.ofNat (p.length / 256) :: UInt8.ofNat (p.length % 256) :: p.take (j - 2)) ++ p[j - 2] :: p.drop (j - 1) := by
        show _ :: _ :: p = _ :: _ :: (p.take (j - 2) ++ p[j - 2] :: p.drop (j - 1))
        rw [← hp]
      have a2 : headL (p.set (j - 2) b) = (UInt8.ofNat (p.length / 256) :: UInt8.ofNat (p.length % 256) :: p.take (j - 2)) ++ b :: p.drop (j - 1) := by
        unfold headL
        rw [List.length_set]
        show _ :: _ :: p.set (j - 2) b = _ :: _ :: (p.take (j - 2) ++ b :: p.drop (j - 1))
        rw [hp']
      rw [← a1, ← a2]
      exact e3
    · have hset : (frL p).set j b = headL p ++ (tail4 (sumN (headL p))).set (j - (p.length + 2)) b := by
        unfold frL
        rw [List.set_append_right _ _ (by rw [headL_len]; omega), headL_len]
      rw [hset] at ht
      have hlh : (headL p).length = (headL q).length := by rw [headL_len, headL_len]; omega
      obtain ⟨e1, e2⟩ := List.append_inj ht hlh
      rw [← e1] at e2
      have h4 : (tail4 (sumN (headL p))).length = 4 := rfl
      apply hb
      unfold frL
      rw [List.getElem?_append_right (by rw [headL_len]; omega), headL_len]
      have := congrArg (fun l => l[j - (p.length + 2)]?) e2
      simp only [List.getElem?_set_self (show j - (p.length + 2) < (tail4 (sumN (headL p))).length by omega)] at this
      exact this.symm
end Go.Proofs.Ytlfeocccjolmpaa
