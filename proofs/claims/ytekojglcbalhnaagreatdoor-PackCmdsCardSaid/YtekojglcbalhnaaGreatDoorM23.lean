/-
  Contracts of basculeref04's Order, Same, over trees.
  The order of trees is total, plainly: no walk.
  Plain facts on values as bytes: each has one way; what is read again is the same.
  Plain facts on values as bytes: what is read again is the same, and right as a whole.
-/
import Derived.Test.YtekojglcbalhnaaGreatDoorM22
import Derived.Test.YtekojglcbalhnaaGreatDoorM21
import Derived.Test.YtekojglcbalhnaaGreatDoorM06
namespace Go.Proofs.YtekojglcbalhnaaGreatDoor
open Go.RowKit

theorem order_any : ∀ (t : VT) (v v' : Array Value) (t' : VT) (w : World), Val w w.heap.size v t → Val w w.heap.size v' t' →
    Calls Tryz.prog 46 #[.agg v, .agg v'] w fun e w' => e = .returned (.int .i64 (ordV t t')) ∧ Below w.heap.size w w' := by
  intro t
  induction t with
  | bad => intro v v' t' w h; cases h
  | mk k n f s c ns m xs ih =>
    intro v v' t' w h h'
    cases h with
    | mk _ _ _ _ A _ ca B _ cb _ _ vs hk hn hf hs hc hm hns hB hxs =>
      cases h' with
      | mk k' n' f' s' A' c' ca' B' m' cb' ns' xs' vs' hk' hn' hf' hs' hc' hm' hns' hB' hxs' =>
        have hcx : c ≤ 9223372036854775807 := by have := hc; unfold maxLen at this; omega
        have hcx' : c' ≤ 9223372036854775807 := by have := hc'; unfold maxLen at this; omega
        have hmm : m ≤ maxLen := by omega
        have hmm' : m' ≤ maxLen := by omega
        have hG : Hid (∀ i, (fun i => ordV (xs i) (xs' i)) i = ordV (xs i) (xs' i)) := Lib.hid fun _ => rfl
        have ih' : ∀ (i : Nat) (v v' : Array Value) (t' : VT) (w : World), Val w w.heap.size v (xs i) → Val w w.heap.size v' t' → Calls Tryz.prog 46 #[.agg v, .agg v'] w fun e w' => e = .returned (.int .i64 (ordV (xs i) t')) ∧ Below w.heap.size w w' := fun i => ih i
        by_cases h1 : k ≠ k' ∨ (k = k' ∧ (k = 1 ∨ k = 2 ∨ k = 3 ∨ k = 4))
        · have e : ordV (.mk k n f s c ns m xs) (.mk k' n' f' s' c' ns' m' xs') = if k ≠ k' then signI k k' else if k = 1 ∨ k = 2 then signI n n' else if k = 3 then ordI (keyI f) (keyI f') else textI s s' := by
            unfold ordV
            by_cases h2 : k ≠ k'
            · rw [if_pos h2, if_pos h2]
            · rw [if_neg h2, if_neg h2]
              by_cases h3 : k = 1 ∨ k = 2
              · rw [if_pos h3, if_pos h3]
              · rw [if_neg h3, if_neg h3]
                by_cases h4 : k = 3
                · rw [if_pos h4, if_pos h4]
                · rw [if_neg h4, if_neg h4, if_pos (by omega)]
          rw [e]
          exact order_kinds h1 hf hf'
        · have hkk : k = k' := by omega
          subst hkk
          have e : ordV (.mk k n f s c ns m xs) (.mk k n' f' s' c' ns' m' xs') = if plainI k n s c ns n' s' c' ns' = 0 then firstGo (fun i => ordV (xs i) (xs' i)) (min m m' - 0) 0 (signI m m') else plainI k n s c ns n' s' c' ns' := by
            rw [ordV]
            rw [if_neg (by omega), if_neg (by omega), if_neg (by omega), if_neg (by omega)]
            by_cases h2 : plainI k n s c ns n' s' c' ns' = 0
            · rw [if_neg (by omega), if_pos h2]; rfl
            · rw [if_pos h2, if_neg h2]
          by_cases h5 : k = 5
          · have hP : plainI k n s c ns n' s' c' ns' = 0 := by unfold plainI; rw [if_pos h5]
            rw [hP] at e
            exact order_list h5 hmm hmm' hG (Lib.hid e) hB hxs hB' hxs' ih'
          · by_cases h6 : k = 6
            · have hP : plainI k n s c ns n' s' c' ns' = rowI c ns c' ns' := by unfold plainI; rw [if_neg h5, if_pos h6]
              rw [hP] at e
              exact order_rec h6 hmm hmm' hG (Lib.hid e) hns hns' hcx hcx' hB hxs hB' hxs' ih'
            · have hk7 : k ≠ 1 ∧ k ≠ 2 ∧ k ≠ 3 ∧ k ≠ 4 ∧ k ≠ 5 ∧ k ≠ 6 := by omega
              by_cases h7 : signI n n' = 0
              · by_cases h8 : textI s s' = 0
                · have hP : plainI k n s c ns n' s' c' ns' = rowI c ns c' ns' := by unfold plainI; rw [if_neg h5, if_neg h6, if_neg (by omega), if_neg (by omega)]
                  rw [hP] at e
                  exact order_other3 hk7 hmm hmm' hG (Lib.hid e) hns hns' hcx hcx' h7 h8 hB hxs hB' hxs' ih'
                · have hP : plainI k n s c ns n' s' c' ns' = textI s s' := by unfold plainI; rw [if_neg h5, if_neg h6, if_neg (by omega), if_pos h8]
                  rw [hP] at e
                  exact order_other2 hk7 hmm hmm' hG (Lib.hid e) h7 h8 hB hxs hB' hxs' ih'
              · have hP : plainI k n s c ns n' s' c' ns' = signI n n' := by unfold plainI; rw [if_neg h5, if_neg h6, if_pos h7]
                rw [hP] at e
                exact order_other1 hk7 hmm hmm' hG (Lib.hid e) h7 hB hxs hB' hxs' ih'
theorem same_any {t t' : VT} {v v' : Array Value} {w : World} (h : Val w w.heap.size v t) (h' : Val w w.heap.size v' t') :
    Calls Tryz.prog 21 #[.agg v, .agg v'] w fun e w' => e = .returned (.bool (ordV t t' == 0)) ∧ Below w.heap.size w w' := by
  have hb1 : Below w.heap.size w (w.alloc (.cells v 28)) := (Below.refl _ _).alloc (Nat.le_refl _) _
  have hb2 : Below w.heap.size w ((w.alloc (.cells v 28)).alloc (.cells v' 28)) := hb1.alloc (by simp) _
  have C := order_any t v v' t' _ ((h.stay hb2).mono hb2.size) ((h'.stay hb2).mono hb2.size)
  obtain ⟨a0, a1, a2, a3, a4, a5, rfl⟩ := h.six
  obtain ⟨d0, d1, d2, d3, d4, d5, rfl⟩ := h'.six
  clear h h' hb1
  go_enter Tryz.func21, Tryz.ntmps21
  go_wp2_with (go_at_call 46; refine C.mono ?_; rintro e w' ⟨rfl, hb'⟩)
  go_ret
  exact ⟨rfl, hb2.trans (hb'.mono hb2.size)⟩
end Go.Proofs.YtekojglcbalhnaaGreatDoor
namespace Go.Proofs.YtekojglcbalhnaaGreatDoor
open Go.RowKit

/-- Of three in a row: what one comparison of the first and the last must be. -/
structure Tri (p q r : Int) : Prop where
  le : p ≤ 0 → q ≤ 0 → r ≤ 0
  lt1 : p < 0 → q ≤ 0 → r < 0
  lt2 : p ≤ 0 → q < 0 → r < 0
def lexI (p q : Int) : Int := if p = 0 then q else p
theorem tri_lex {p1 p2 p3 q1 q2 q3 : Int} (hp : Tri p1 p2 p3) (hq : p1 = 0 → p2 = 0 → p3 = 0 → Tri q1 q2 q3) : Tri (lexI p1 q1) (lexI p2 q2) (lexI p3 q3) := by
  obtain ⟨a, b, c⟩ := hp
  by_cases h : p1 = 0 ∧ p2 = 0 ∧ p3 = 0
  · obtain ⟨rfl, rfl, rfl⟩ := h
    exact hq rfl rfl rfl
  · clear hq
    unfold lexI
    constructor <;> (split <;> split <;> split <;> omega)
theorem tri_sign (a b c : Int) : Tri (signI a b) (signI b c) (signI a c) := by
  unfold signI
  constructor <;> (split <;> split <;> split <;> (try split) <;> (try split) <;> (try split) <;> omega)
theorem tri_ord (a b c : Int) : Tri (ordI a b) (ordI b c) (ordI a c) := tri_sign a b c
theorem sign_swap (a b : Int) : signI b a = -signI a b := by unfold signI; split <;> split <;> (try split) <;> omega
theorem sign_self (a : Int) : signI a a = 0 := by unfold signI; rw [if_neg (by omega), if_neg (by omega)]
theorem lex_swap {p q p' q' : Int} (h1 : p' = -p) (h2 : q' = -q) : lexI p' q' = -lexI p q := by unfold lexI; split <;> split <;> omega

/-! ### Strings -/
def lcmp : List UInt8 → List UInt8 → Int
  | [], [] => 0
  | [], _ :: _ => -1
  | _ :: _, [] => 1
  | a :: x, b :: y => lexI (signI a.toNat b.toNat) (lcmp x y)
theorem tri_l : ∀ x y z, Tri (lcmp x y) (lcmp y z) (lcmp x z)
  | [], [], [] => by constructor <;> simp [lcmp]
  | [], [], _ :: _ => by constructor <;> simp [lcmp]
  | [], _ :: _, [] => by constructor <;> simp [lcmp]
  | _ :: _, [], [] => by constructor <;> simp [lcmp]
  | [], _ :: _, _ :: _ => by constructor <;> simp [lcmp]
  | _ :: _, [], _ :: _ => by constructor <;> simp [lcmp]
  | _ :: _, _ :: _, [] => by constructor <;> simp [lcmp]
  | a :: x, b :: y, c :: z => tri_lex (tri_sign _ _ _) fun _ _ _ => tri_l x y z
theorem l_swap : ∀ x y, lcmp y x = -lcmp x y
  | [], [] => rfl
  | [], _ :: _ => rfl
  | _ :: _, [] => rfl
  | _ :: x, _ :: y => lex_swap (sign_swap _ _) (l_swap x y)
theorem l_self : ∀ x, lcmp x x = 0
  | [] => rfl
  | a :: x => by unfold lcmp lexI; rw [sign_self, if_pos rfl]; exact l_self x
theorem sign_in (a b : Int) : -1 ≤ signI a b ∧ signI a b ≤ 1 := by unfold signI; split <;> (try split) <;> omega
theorem lex_in {p q : Int} (h1 : -1 ≤ p ∧ p ≤ 1) (h2 : -1 ≤ q ∧ q ≤ 1) : -1 ≤ lexI p q ∧ lexI p q ≤ 1 := by unfold lexI; split <;> omega
theorem l_in : ∀ x y, -1 ≤ lcmp x y ∧ lcmp x y ≤ 1
  | [], [] => by simp [lcmp]
  | [], _ :: _ => by simp [lcmp]
  | _ :: _, [] => by simp [lcmp]
  | _ :: x, _ :: y => lex_in (sign_in _ _) (l_in x y)
theorem l_less : ∀ x y, Op.bytesLess x y = decide (lcmp x y < 0) ∧ (x == y) = decide (lcmp x y = 0)
  | [], [] => ⟨rfl, rfl⟩
  | [], _ :: _ => ⟨rfl, rfl⟩
  | _ :: _, [] => ⟨rfl, rfl⟩
  | a :: x, b :: y => by
    obtain ⟨h1, h2⟩ := l_less x y
    have hab : (a == b) = decide (a.toNat = b.toNat) := by
      rw [Bool.eq_iff_iff, beq_iff_eq, decide_eq_true_eq]; exact UInt8.toNat_inj.symm
    have hlt : (a < b) ↔ a.toNat < b.toNat := Iff.rfl
    unfold Op.bytesLess lcmp
    rw [h1, List.cons_beq_cons, h2, hab]
    unfold lexI signI
    rcases Nat.lt_trichotomy a.toNat b.toNat with h | h | h
    · rw [if_pos (show ((a.toNat : Int) < b.toNat) by omega), if_neg (by omega), decide_eq_false (show ¬ a.toNat = b.toNat by omega), decide_eq_true (hlt.2 h)]; exact ⟨rfl, rfl⟩
    · rw [if_neg (show ¬ ((a.toNat : Int) < b.toNat) by omega), if_neg (show ¬ ((b.toNat : Int) < a.toNat) by omega), if_pos rfl, decide_eq_true h, decide_eq_false (show ¬ a < b by rw [hlt]; omega)]; exact ⟨rfl, rfl⟩
    · rw [if_neg (show ¬ ((a.toNat : Int) < b.toNat) by omega), if_pos (show ((b.toNat : Int) < a.toNat) by omega), if_neg (by omega), decide_eq_false (show ¬ a.toNat = b.toNat by omega), decide_eq_false (show ¬ a < b by rw [hlt]; omega)]; exact ⟨rfl, rfl⟩
theorem text_lcmp (a b : ByteArray) : textI a b = lcmp a.toList b.toList := by
  unfold textI lessS
  obtain ⟨h1, h2⟩ := l_less a.toList b.toList
  have h3 := l_in a.toList b.toList
  rw [h1, h2]
  simp only [decide_eq_true_eq]
  split
  · omega
  · split <;> omega
theorem tri_text (a b c : ByteArray) : Tri (textI a b) (textI b c) (textI a c) := by rw [text_lcmp, text_lcmp, text_lcmp]; exact tri_l _ _ _
theorem text_swap (a b : ByteArray) : textI b a = -textI a b := by rw [text_lcmp, text_lcmp]; exact l_swap _ _
theorem text_self (a : ByteArray) : textI a a = 0 := by rw [text_lcmp]; exact l_self _
theorem text_in (a b : ByteArray) : -1 ≤ textI a b ∧ textI a b ≤ 1 := by rw [text_lcmp]; exact l_in _ _

/-! ### Rows -/
def seqI (g : Nat → Int) (m m' : Nat) : Nat → Nat → Int
  | 0, _ => 0
  | r + 1, i => if m ≤ i then (if m' ≤ i then 0 else -1) else if m' ≤ i then 1 else lexI (g i) (seqI g m m' r (i + 1))
theorem first_seq (g : Nat → Int) (m m' : Nat) : ∀ r i, i ≤ min m m' → m - i < r → m' - i < r → firstGo g (min m m' - i) i (signI m m') = seqI g m m' r i := by
  intro r
  induction r with
  | zero => intro i _ h; omega
  | succ r ih =>
    intro i hi h1 h2
    unfold seqI
    by_cases h3 : m ≤ i
    · rw [if_pos h3, show min m m' - i = 0 by omega]
      show signI m m' = _
      unfold signI
      by_cases h4 : m' ≤ i
      · rw [if_pos h4, if_neg (by omega), if_neg (by omega)]
      · rw [if_neg h4, if_pos (by omega)]
    · rw [if_neg h3]
      by_cases h4 : m' ≤ i
      · rw [if_pos h4, show min m m' - i = 0 by omega]
        show signI m m' = _
        unfold signI
        rw [if_neg (by omega), if_pos (by omega)]
      · rw [if_neg h4, show min m m' - i = (min m m' - (i + 1)) + 1 by omega, ← ih (i + 1) (by omega) (by omega) (by omega)]
        rfl
theorem tri_seq {g1 g2 g3 : Nat → Int} (m1 m2 m3 : Nat) (h : ∀ i, i < m1 → i < m2 → i < m3 → Tri (g1 i) (g2 i) (g3 i)) : ∀ r i, Tri (seqI g1 m1 m2 r i) (seqI g2 m2 m3 r i) (seqI g3 m1 m3 r i) := by
  intro r
  induction r with
  | zero => intro i; constructor <;> simp [seqI]
  | succ r ih =>
    intro i
    unfold seqI
    by_cases h1 : m1 ≤ i
    · rw [if_pos h1, if_pos h1]
      by_cases h2 : m2 ≤ i
      · rw [if_pos h2, if_pos h2]
        by_cases h3 : m3 ≤ i
        · rw [if_pos h3]; constructor <;> simp
        · rw [if_neg h3]; constructor <;> simp
      · rw [if_neg h2, if_neg h2]
        by_cases h3 : m3 ≤ i
        · rw [if_pos h3, if_pos h3]; constructor <;> simp
        · rw [if_neg h3, if_neg h3]; constructor <;> simp
    · rw [if_neg h1, if_neg h1]
      by_cases h2 : m2 ≤ i
      · rw [if_pos h2, if_pos h2]
        constructor <;> (intro a; omega)
      · rw [if_neg h2, if_neg h2]
        by_cases h3 : m3 ≤ i
        · rw [if_pos h3, if_pos h3]
          constructor <;> (intro a b; omega)
        · rw [if_neg h3, if_neg h3]
          exact tri_lex (h i (by omega) (by omega) (by omega)) fun _ _ _ => ih (i + 1)
theorem seq_swap {g g' : Nat → Int} (m m' : Nat) (h : ∀ i, g' i = -g i) : ∀ r i, seqI g' m' m r i = -seqI g m m' r i := by
  intro r
  induction r with
  | zero => intro i; rfl
  | succ r ih =>
    intro i
    unfold seqI
    by_cases h1 : m ≤ i <;> by_cases h2 : m' ≤ i
    · rw [if_pos h2, if_pos h1, if_pos h1, if_pos h2]; rfl
    · rw [if_neg h2, if_pos h1, if_pos h1, if_neg h2]; rfl
    · rw [if_pos h2, if_neg h1, if_neg h1, if_pos h2]
    · rw [if_neg h2, if_neg h1, if_neg h1, if_neg h2]
      exact lex_swap (h i) (ih (i + 1))
theorem seq_self {g : Nat → Int} (m : Nat) (h : ∀ i, g i = 0) : ∀ r i, seqI g m m r i = 0 := by
  intro r
  induction r with
  | zero => intro i; rfl
  | succ r ih =>
    intro i
    unfold seqI
    by_cases h1 : m ≤ i
    · rw [if_pos h1, if_pos h1]
    · rw [if_neg h1, if_neg h1]
      unfold lexI
      rw [h i, if_pos rfl]
      exact ih (i + 1)
theorem seq_in {g : Nat → Int} (m m' : Nat) (h : ∀ i, -1 ≤ g i ∧ g i ≤ 1) : ∀ r i, -1 ≤ seqI g m m' r i ∧ seqI g m m' r i ≤ 1 := by
  intro r
  induction r with
  | zero => intro i; simp [seqI]
  | succ r ih =>
    intro i
    unfold seqI
    split
    · split <;> omega
    · split
      · omega
      · exact lex_in (h i) (ih (i + 1))
/-- Rows, with as many rounds as one likes. -/
theorem row_seq (g : Nat → Int) (m m' : Nat) (r : Nat) (h1 : m < r) (h2 : m' < r) : firstGo g (min m m') 0 (signI m m') = seqI g m m' r 0 := by
  have := first_seq g m m' r 0 (Nat.zero_le _) (by omega) (by omega)
  rw [Nat.sub_zero] at this
  exact this
theorem tri_first {g1 g2 g3 : Nat → Int} (m1 m2 m3 : Nat) (h : ∀ i, i < m1 → i < m2 → i < m3 → Tri (g1 i) (g2 i) (g3 i)) : Tri (firstGo g1 (min m1 m2) 0 (signI m1 m2)) (firstGo g2 (min m2 m3) 0 (signI m2 m3)) (firstGo g3 (min m1 m3) 0 (signI m1 m3)) := by
  rw [row_seq g1 m1 m2 (m1 + m2 + m3 + 1) (by omega) (by omega), row_seq g2 m2 m3 (m1 + m2 + m3 + 1) (by omega) (by omega), row_seq g3 m1 m3 (m1 + m2 + m3 + 1) (by omega) (by omega)]
  exact tri_seq m1 m2 m3 h _ _
theorem first_swap {g g' : Nat → Int} (m m' : Nat) (h : ∀ i, g' i = -g i) : firstGo g' (min m' m) 0 (signI m' m) = -firstGo g (min m m') 0 (signI m m') := by
  rw [row_seq g' m' m (m + m' + 1) (by omega) (by omega), row_seq g m m' (m + m' + 1) (by omega) (by omega)]
  exact seq_swap m m' h _ _
theorem first_self {g : Nat → Int} (m : Nat) (h : ∀ i, g i = 0) : firstGo g (min m m) 0 (signI m m) = 0 := by
  rw [row_seq g m m (m + 1) (by omega) (by omega)]
  exact seq_self m h _ _
theorem first_in {g : Nat → Int} (m m' : Nat) (h : ∀ i, -1 ≤ g i ∧ g i ≤ 1) : -1 ≤ firstGo g (min m m') 0 (signI m m') ∧ firstGo g (min m m') 0 (signI m m') ≤ 1 := by
  rw [row_seq g m m' (m + m' + 1) (by omega) (by omega)]
  exact seq_in m m' h _ _

/-! ### Trees -/
/-- Two values of one kind. -/
def kindI (k n : Int) (f : Nat) (s : ByteArray) (c : Nat) (ns : Nat → ByteArray) (n' : Int) (f' : Nat) (s' : ByteArray) (c' : Nat) (ns' : Nat → ByteArray) (z : Int) : Int :=
  if k = 1 ∨ k = 2 then signI n n' else if k = 3 then ordI (keyI f) (keyI f') else if k = 4 then textI s s' else if k = 5 then z else if k = 6 then lexI (rowI c ns c' ns') z else lexI (signI n n') (lexI (textI s s') (lexI (rowI c ns c' ns') z))
theorem ord_mk (k n : Int) (f : Nat) (s : ByteArray) (c : Nat) (ns : Nat → ByteArray) (m : Nat) (xs : Nat → VT) (k' n' : Int) (f' : Nat) (s' : ByteArray) (c' : Nat) (ns' : Nat → ByteArray) (m' : Nat) (xs' : Nat → VT) :
    ordV (.mk k n f s c ns m xs) (.mk k' n' f' s' c' ns' m' xs') = lexI (signI k k') (kindI k n f s c ns n' f' s' c' ns' (firstGo (fun i => ordV (xs i) (xs' i)) (min m m') 0 (signI m m'))) := by
  rw [ordV]
  by_cases h : k ≠ k'
  · rw [if_pos h]
    unfold lexI
    rw [if_neg]
    unfold signI
    split
    · omega
    · rw [if_pos (by omega)]; omega
  · have hk : k = k' := by omega
    rw [if_neg h, ← hk, sign_self]
    unfold lexI kindI plainI
    rw [if_pos rfl]
    by_cases h1 : k = 1 ∨ k = 2
    · rw [if_pos h1, if_pos h1]
    · rw [if_neg h1, if_neg h1]
      by_cases h3 : k = 3
      · rw [if_pos h3, if_pos h3]
      · rw [if_neg h3, if_neg h3]
        by_cases h4 : k = 4
        · rw [if_pos h4, if_pos h4]
        · rw [if_neg h4, if_neg h4]
          by_cases h5 : k = 5
          · simp [h5]
          · by_cases h6 : k = 6
            · subst h6
              simp [lexI]
            · simp only [if_neg h5, if_neg h6]
              unfold lexI
              by_cases a1 : signI n n' = 0 <;> by_cases a2 : textI s s' = 0 <;> by_cases a3 : rowI c ns c' ns' = 0 <;> simp [a1, a2, a3]
theorem tri_kind {k n1 n2 n3 : Int} {f1 f2 f3 : Nat} {s1 s2 s3 : ByteArray} {c1 c2 c3 : Nat} {ns1 ns2 ns3 : Nat → ByteArray} {z1 z2 z3 : Int} (hz : Tri z1 z2 z3) :
    Tri (kindI k n1 f1 s1 c1 ns1 n2 f2 s2 c2 ns2 z1) (kindI k n2 f2 s2 c2 ns2 n3 f3 s3 c3 ns3 z2) (kindI k n1 f1 s1 c1 ns1 n3 f3 s3 c3 ns3 z3) := by
  have hr : Tri (rowI c1 ns1 c2 ns2) (rowI c2 ns2 c3 ns3) (rowI c1 ns1 c3 ns3) := tri_first c1 c2 c3 fun _ _ _ _ => tri_text _ _ _
  unfold kindI
  split
  · exact tri_sign _ _ _
  · split
    · exact tri_ord _ _ _
    · split
      · exact tri_text _ _ _
      · split
        · exact hz
        · split
          · exact tri_lex hr fun _ _ _ => hz
          · exact tri_lex (tri_sign _ _ _) fun _ _ _ => tri_lex (tri_text _ _ _) fun _ _ _ => tri_lex hr fun _ _ _ => hz
theorem tri_val : ∀ a b c : VT, Tri (ordV a b) (ordV b c) (ordV a c) := by
  intro a
  induction a with
  | bad =>
    intro b c
    cases b <;> cases c <;> constructor <;> simp [ordV]
  | mk k n f s cn ns m xs ih =>
    intro b c
    cases b with
    | bad => constructor <;> (intro h; simp [ordV] at h)
    | mk k2 n2 f2 s2 cn2 ns2 m2 xs2 =>
      cases c with
      | bad => constructor <;> (intro _ h; simp [ordV] at h)
      | mk k3 n3 f3 s3 cn3 ns3 m3 xs3 =>
        rw [ord_mk, ord_mk, ord_mk]
        refine tri_lex (tri_sign _ _ _) fun h1 h2 _ => ?_
        have e1 : k = k2 := by unfold signI at h1; split at h1; omega; split at h1 <;> omega
        have e2 : k2 = k3 := by unfold signI at h2; split at h2; omega; split at h2 <;> omega
        subst e1 e2
        exact tri_kind (tri_first m m2 m3 fun i _ _ _ => ih i (xs2 i) (xs3 i))
theorem val_swap : ∀ a b : VT, ordV b a = -ordV a b := by
  intro a
  induction a with
  | bad => intro b; cases b <;> rfl
  | mk k n f s c ns m xs ih =>
    intro b
    cases b with
    | bad => rfl
    | mk k2 n2 f2 s2 c2 ns2 m2 xs2 =>
      rw [ord_mk, ord_mk]
      by_cases hk : k = k2
      · subst hk
        refine lex_swap (sign_swap _ _) ?_
        have hz := first_swap (g := fun i => ordV (xs i) (xs2 i)) (g' := fun i => ordV (xs2 i) (xs i)) m m2 fun i => ih i (xs2 i)
        have hr : rowI c2 ns2 c ns = -rowI c ns c2 ns2 := first_swap c c2 fun i => text_swap _ _
        unfold kindI
        split
        · exact sign_swap _ _
        · split
          · exact sign_swap _ _
          · split
            · exact text_swap _ _
            · split
              · exact hz
              · split
                · exact lex_swap hr hz
                · exact lex_swap (sign_swap _ _) (lex_swap (text_swap _ _) (lex_swap hr hz))
      · have h1 : signI k k2 ≠ 0 := by unfold signI; split; omega; split <;> omega
        have h2 : signI k2 k ≠ 0 := by rw [sign_swap]; omega
        unfold lexI
        rw [if_neg h1, if_neg h2, sign_swap]
theorem val_self : ∀ a : VT, ordV a a = 0 := by
  intro a
  have := val_swap a a
  omega
end Go.Proofs.YtekojglcbalhnaaGreatDoor
namespace Go.Proofs.YtekojglcbalhnaaGreatDoor
open Go.RowKit

theorem bind_ok {α β : Type} {e : Except Nat α} {f : α → Except Nat β} {z : β} (h : e.bind f = .ok z) : ∃ a, e = .ok a ∧ f a = .ok z := by
  cases e with
  | error c => cases h
  | ok a => exact ⟨a, rfl, h⟩
def catX (k : Nat) : List (ByteArray × VT) → List UInt8
  | [] => []
  | x :: xs => ((if k = 6 then strBL x.1 else []) ++ valL x.2) ++ catX k xs
theorem suf_shift (nm : Bool) (ns : Nat → ByteArray) (G : Nat → List UInt8) : ∀ r i, sufL nm ns G r (i + 1) = sufL nm (fun j => ns (j + 1)) (fun j => G (j + 1)) r i := by
  intro r
  induction r with
  | zero => intro i; rfl
  | succ r ih => intro i; rw [sufL, sufL, ih]
theorem suf_list (k : Nat) (d : ByteArray × VT) : ∀ xs : List (ByteArray × VT), sufL (decide (k = 6)) (fun i => (xs.getD i d).1) (fun i => valL (xs.getD i d).2) xs.length 0 = catX k xs := by
  intro xs
  induction xs with
  | nil => rfl
  | cons x xs ih =>
    rw [List.length_cons, sufL, suf_shift, catX, ← ih]
    congr 1
    by_cases h : k = 6
    · rw [if_pos (by simpa using h), if_pos h]; rfl
    · rw [if_neg (by simpa using h), if_neg h]; rfl
theorem suf_names {nm : Bool} {ns ns' : Nat → ByteArray} {G : Nat → List UInt8} (h : nm = true → ns = ns') : ∀ r i, sufL nm ns G r i = sufL nm ns' G r i := by
  cases nm with
  | true => intro r i; rw [h rfl]
  | false =>
    intro r
    induction r with
    | zero => intro i; rfl
    | succ r ih => intro i; rw [sufL, sufL, ih]; simp
theorem valL_tree {k : Nat} (hk : k = 5 ∨ k = 6) (xs : List (ByteArray × VT)) : valL (treeOf k xs) = ([UInt8.ofNat k] ++ uintL xs.length) ++ catX k xs := by
  unfold treeOf
  rw [valL_items (by omega), ← suf_all, ← suf_list k (⟨#[]⟩, .bad) xs]
  have e : ((k : Int)).toNat = k := by omega
  rw [e]
  have hd : decide ((k : Int) = 6) = decide (k = 6) := by rw [decide_eq_decide]; omega
  rw [hd]
  congr 1
  refine suf_names (fun h => ?_) _ _
  have h6 : k = 6 := of_decide_eq_true h
  subst h6
  exact nz_6 _
theorem items_one {F : Nat → List UInt8 → Except Nat (VT × Nat × List UInt8)} {k : Nat} (hF : ∀ p l t p' r, F p l = .ok (t, p', r) → l = valL t ++ r) :
    ∀ n p l xs p' r, itemsP F k n p l = .ok (xs, p', r) → xs.length = n ∧ l = catX k xs ++ r := by
  intro n
  induction n with
  | zero =>
    intro p l xs p' r h
    rw [itemsP] at h
    injection h with h
    injection h with h1 h2
    injection h2 with h2 h3
    subst h1 h3
    exact ⟨rfl, rfl⟩
  | succ n ih =>
    intro p l xs p' r h
    rw [itemsP_step] at h
    obtain ⟨⟨nm, l1⟩, e1, h⟩ := bind_ok h
    obtain ⟨⟨t, p1, l2⟩, e2, h⟩ := bind_ok h
    obtain ⟨⟨ys, p2, l3⟩, e3, h⟩ := bind_ok h
    injection h with h
    injection h with h1 h2
    injection h2 with h2 h3
    subst h1 h2 h3
    have g2 := hF _ _ _ _ _ e2
    obtain ⟨g3, g4⟩ := ih _ _ _ _ _ e3
    refine ⟨by rw [List.length_cons, g3], ?_⟩
    rw [catX]
    simp only at g2 g4 e1
    by_cases h6 : k = 6
    · rw [if_pos h6] at e1 ⊢
      obtain ⟨g1, _⟩ := S_one e1
      rw [g1, g2, g4]
      unfold strBL
      simp
    · rw [if_neg h6] at e1 ⊢
      injection e1 with e1
      injection e1 with _ e1
      rw [e1, g2, g4]
      simp
theorem v_one : ∀ (q p : Nat) (l : List UInt8) (t : VT) (p' : Nat) (r : List UInt8), vP q p l = .ok (t, p', r) → l = valL t ++ r := by
  intro q
  induction q with
  | zero => intro p l t p' r h; rw [vP] at h; cases h
  | succ q ih =>
    intro p l t p' r h
    by_cases hp : 200 < p + 1
    · cases l <;> (rw [vP, if_pos hp] at h; cases h)
    · cases l with
      | nil => rw [vP, if_neg hp] at h; cases h
      | cons b l =>
        by_cases hk : b.toNat < 1 ∨ 6 < b.toNat
        · rw [vP, if_neg hp] at h
          simp only [if_pos hk] at h
          cases h
        · obtain ⟨k, hb⟩ : ∃ k, k = b.toNat := ⟨_, rfl⟩
          have hb' : b = UInt8.ofNat k := by rw [hb]; simp
          rw [hb']  at h ⊢
          rw [← hb] at hk
          by_cases h4 : k ≤ 4
          · rw [vP_plain (by omega) h4 (by omega)] at h
            obtain ⟨⟨t1, r1⟩, e1, h⟩ := bind_ok h
            injection h with h
            injection h with h1 h2
            injection h2 with h2 h3
            subst h1 h3
            simp only at *
            unfold plainP at e1
            by_cases k1 : k = 1
            · subst k1
              rw [if_pos rfl] at e1
              cases l with
              | nil => cases e1
              | cons c l =>
                simp only at e1
                split at e1
                · cases e1
                · injection e1 with e1
                  injection e1 with e2 e3
                  subst e2 e3
                  unfold leaf
                  rw [valL_plain (by omega)]
                  unfold plainL tailL
                  rw [if_pos rfl]
                  have e : ((c.toNat : Nat) : Int).toNat = c.toNat := by omega
                  rw [e, ofNat_toNat8]; rfl
            rw [if_neg k1] at e1
            by_cases k2 : k = 2
            · subst k2
              rw [if_pos rfl] at e1
              split at e1
              · cases e1
              · rename_i n r' hi
                injection e1 with e1
                injection e1 with e2 e3
                subst e2 e3
                unfold leaf
                rw [valL_plain (by omega)]
                unfold plainL tailL
                rw [if_neg (by omega), if_pos rfl, (I_one hi).1]; rfl
            rw [if_neg k2] at e1
            by_cases k3 : k = 3
            · subst k3
              rw [if_pos rfl] at e1
              split at e1
              · cases e1
              · rename_i n r' hi
                split at e1
                · rename_i hc
                  injection e1 with e1
                  injection e1 with e2 e3
                  subst e2 e3
                  unfold leaf
                  rw [valL_plain (by omega)]
                  unfold plainL tailL
                  rw [if_neg (by omega), if_neg (by omega), if_pos rfl, hc, (W_one hi).1]; rfl
                · cases e1
            rw [if_neg k3] at e1
            obtain rfl : k = 4 := by omega
            split at e1
            · cases e1
            · rename_i n r' hi
              injection e1 with e1
              injection e1 with e2 e3
              subst e2 e3
              unfold leaf
              rw [valL_plain (by omega)]
              unfold plainL tailL strBL
              rw [if_neg (by omega), if_neg (by omega), if_neg (by omega), (S_one hi).1]; rfl
          · rw [vP_items (by omega) (by omega) (by omega)] at h
            obtain ⟨⟨n, r1⟩, e1, h⟩ := bind_ok h
            obtain ⟨⟨xs, p2, r2⟩, e2, h⟩ := bind_ok h
            injection h with h
            injection h with h1 h2
            injection h2 with h2 h3
            subst h1 h3
            obtain ⟨g1, g2⟩ := items_one (fun p l t p' r h => ih p l t p' r h) _ _ _ _ _ _ e2
            simp only at g1 g2
            rw [valL_tree (by omega), g1]
            unfold mP at e1
            split at e1
            · cases e1
            · rename_i n' r' hu
              split at e1
              · cases e1
              · injection e1 with e1
                injection e1 with e3 e4
                subst e3 e4
                rw [U_one hu, g2]; simp
end Go.Proofs.YtekojglcbalhnaaGreatDoor
namespace Go.Proofs.YtekojglcbalhnaaGreatDoor
open Go.RowKit

theorem first_zero {g : Nat → Int} : ∀ r i, (∀ j, i ≤ j → j < i + r → g j = 0) → firstGo g r i 0 = 0 := by
  intro r
  induction r with
  | zero => intro i _; rfl
  | succ r ih =>
    intro i h
    rw [firstGo, if_pos (h i (Nat.le_refl _) (by omega))]
    exact ih (i + 1) (fun j h1 h2 => h j (by omega) (by omega))
theorem sumN_eq {g h : Nat → Nat} : ∀ {m : Nat}, (∀ i, i < m → g i = h i) → sumN g m = sumN h m := by
  intro m
  induction m with
  | zero => intro _; rfl
  | succ m ih =>
    intro e
    show sumN g m + g m = sumN h m + h m
    rw [ih (fun i hi => e i (by omega)), e m (by omega)]
theorem norm_items {ns : Nat → ByteArray} {xs : Nat → VT} {m : Nat} {k : Nat} : treeOf k (itmL ns (fun i => norm (xs i)) m 0) = .mk k 0 0 ⟨#[]⟩ (if k = 6 then m else 0) (fun i => ((itmL ns (fun i => norm (xs i)) m 0).getD i (⟨#[]⟩, .bad)).1) m (fun i => ((itmL ns (fun i => norm (xs i)) m 0).getD i (⟨#[]⟩, .bad)).2) := by
  unfold treeOf
  rw [itm_len]
theorem itm_at {ns : Nat → ByteArray} {H : Nat → VT} {m i : Nat} (h : i < m) : (itmL ns H m 0).getD i (⟨#[]⟩, .bad) = (ns i, H i) := by
  have := itm_get ns H (⟨#[]⟩, .bad) m 0 i h
  simpa using this
theorem norm_same : ∀ (t : VT) (far : Int), rightV t far = true → floatsIn t → ordV (norm t) t = 0 := by
  intro t
  induction t with
  | bad => intro far h; rw [rightV] at h; exact absurd h (by decide)
  | mk k n f s c ns m xs ih =>
    intro far h hf
    obtain ⟨_, hh⟩ := right_head h
    have hs0 : ∀ a : Int, signI a a = 0 := sign_self
    rcases hh with ⟨rfl, _⟩ | ⟨rfl, _⟩ | ⟨rfl, _⟩ | ⟨rfl, _⟩ | ⟨rfl, hc, hx⟩ | ⟨rfl, hc, hnn, hx⟩
    · unfold norm
      rw [if_pos (by omega), if_pos (by omega), if_neg (by omega), if_neg (by omega)]
      unfold leaf
      rw [ordV, if_neg (by omega), if_pos (by omega), hs0]
    · unfold norm
      rw [if_pos (by omega), if_pos (by omega), if_neg (by omega), if_neg (by omega)]
      unfold leaf
      rw [ordV, if_neg (by omega), if_pos (by omega), hs0]
    · unfold norm
      rw [if_pos (by omega), if_neg (by omega), if_pos rfl, if_neg (by omega)]
      unfold leaf
      rw [ordV, if_neg (by omega), if_neg (by omega), if_pos rfl, (same_key (canon_in hf.1) hf.1).2 (canon_twice f)]
      exact (ord_zero _ _).2 rfl
    · unfold norm
      rw [if_pos (by omega), if_neg (by omega), if_neg (by omega), if_pos rfl]
      unfold leaf
      rw [ordV, if_neg (by omega), if_neg (by omega), if_neg (by omega), if_pos rfl, text_self]
    · unfold norm
      rw [if_neg (by omega), norm_items]
      rw [ordV, if_neg (by omega), if_neg (by omega), if_neg (by omega), if_neg (by omega)]
      have e : ∀ n s c ns n' s' c' ns', plainI (((5 : Int).toNat : Nat) : Int) n s c ns n' s' c' ns' = 0 := fun _ _ _ _ _ _ _ _ => rfl
      rw [e, if_neg (by omega), Nat.min_self, hs0]
      refine first_zero m 0 (fun j _ hj => ?_)
      rw [itm_at (by omega)]
      exact ih j (far - 1) (hx j (by omega)) (hf.2 j (by omega))
    · unfold norm
      rw [if_neg (by omega), norm_items]
      rw [ordV, if_neg (by omega), if_neg (by omega), if_neg (by omega), if_neg (by omega)]
      have e : ∀ n s c ns n' s' c' ns', plainI (((6 : Int).toNat : Nat) : Int) n s c ns n' s' c' ns' = rowI c ns c' ns' := fun _ _ _ _ _ _ _ _ => rfl
      subst hc
      have e0 : rowI (if (6 : Int).toNat = 6 then c else 0) (fun i => ((itmL (nz 6 ns) (fun i => norm (xs i)) c 0).getD i (⟨#[]⟩, .bad)).1) c ns = 0 := by
        show rowI c _ c ns = 0
        unfold rowI
        rw [Nat.min_self, hs0]
        refine first_zero c 0 (fun j _ hj => ?_)
        show textI ((itmL (nz 6 ns) (fun i => norm (xs i)) c 0).getD j (⟨#[]⟩, .bad)).1 (ns j) = 0
        rw [itm_at (by omega), nz_6]
        exact text_self _
      rw [e, e0, if_neg (by omega), Nat.min_self, hs0]
      refine first_zero c 0 (fun j _ hj => ?_)
      rw [itm_at (by omega)]
      exact ih j (far - 1) (hx j (by omega)) (hf.2 j (by omega))
theorem norm_tot : ∀ (t : VT) (far : Int), rightV t far = true → tot (norm t) = tot t := by
  intro t
  induction t with
  | bad => intro far h; rw [rightV] at h; exact absurd h (by decide)
  | mk k n f s c ns m xs ih =>
    intro far h
    obtain ⟨_, hh⟩ := right_head h
    have hl : ∀ k n f s, tot (leaf k n f s) = 1 := fun _ _ _ _ => rfl
    have items : ∀ k0 : Nat, (∀ i, i < m → rightV (xs i) (far - 1) = true) → tot (treeOf k0 (itmL (nz k ns) (fun i => norm (xs i)) m 0)) = 1 + sumN (fun i => tot (xs i)) m := by
      intro k0 hx
      rw [norm_items, tot]
      congr 1
      refine sumN_eq (fun i hi => ?_)
      rw [itm_at hi]
      exact ih i _ (hx i hi)
    unfold norm
    rw [tot]
    by_cases h4 : k = 1 ∨ k = 2 ∨ k = 3 ∨ k = 4
    · rw [if_pos h4, hl]
      have hm : m = 0 := by rcases hh with ⟨_, _, hm⟩ | ⟨_, hm⟩ | ⟨_, hm⟩ | ⟨_, _, hm⟩ | ⟨e, _⟩ | ⟨e, _⟩ <;> omega
      subst hm; rfl
    · rw [if_neg h4]
      refine items _ ?_
      rcases hh with ⟨e, _⟩ | ⟨e, _⟩ | ⟨e, _⟩ | ⟨e, _⟩ | ⟨_, _, hx⟩ | ⟨_, _, _, hx⟩
      · omega
      · omega
      · omega
      · omega
      · exact hx
      · exact hx
theorem cnt_pure : ∀ (t : VT) (far : Int), rightV t far = true → ∀ n, 0 ≤ n → n < 500 → cntV t n = min (n + tot t) 500 := by
  intro t
  induction t with
  | bad => intro far h; rw [rightV] at h; exact absurd h (by decide)
  | mk k n f s c ns m xs ih =>
    intro far h n h0 h5
    obtain ⟨_, hh⟩ := right_head h
    have hx : ∀ i, i < m → rightV (xs i) (far - 1) = true := by
      rcases hh with ⟨_, _, hm⟩ | ⟨_, hm⟩ | ⟨_, hm⟩ | ⟨_, _, hm⟩ | ⟨_, _, hx⟩ | ⟨_, _, _, hx⟩
      · intro i hi; omega
      · intro i hi; omega
      · intro i hi; omega
      · intro i hi; omega
      · exact hx
      · exact hx
    unfold cntV tot
    have key : ∀ r i q, i + r = m → 0 ≤ q → q ≤ 500 → cntGo (fun i n => cntV (xs i) n) r i q = min (q + (sumN (fun i => tot (xs i)) m - sumN (fun i => tot (xs i)) i : Int)) 500 ∧ sumN (fun i => tot (xs i)) i ≤ sumN (fun i => tot (xs i)) m := by
      intro r
      induction r with
      | zero =>
        intro i q hi hq0 hq5
        obtain rfl : i = m := by omega
        unfold cntGo
        exact ⟨by omega, Nat.le_refl _⟩
      | succ r ihr =>
        intro i q hi hq0 hq5
        have hs : sumN (fun i => tot (xs i)) (i + 1) = sumN (fun i => tot (xs i)) i + tot (xs i) := rfl
        unfold cntGo
        by_cases hq : q < 500
        · rw [if_pos hq]
          have e := ih i _ (hx i (by omega)) q hq0 hq
          rw [e]
          have := ihr (i + 1) (min (q + tot (xs i)) 500) (by omega) (by omega) (by omega)
          omega
        · rw [if_neg hq]
          have := (ihr (i + 1) q (by omega) hq0 hq5).2
          omega
    have e := (key m 0 (n + 1) (by omega) (by omega) (by omega)).1
    have hz : sumN (fun i => tot (xs i)) 0 = 0 := rfl
    rw [e]
    omega
theorem ok_pure {t : VT} (hr : rightV t 12 = true) (ht : tot t ≤ 200) : okV t = true := by
  unfold okV
  rw [cnt_pure t 12 hr 0 (by omega) (by omega), hr, Bool.and_true]
  simp; omega
theorem riseB_names {c : Nat} {ns ns' : Nat → ByteArray} (h : ∀ i, i < c → ns' i = ns i) (hr : riseB c ns = true) : riseB c ns' = true := by
  refine riseB_yes fun i hi => ?_
  have := List.all_eq_true.1 hr i (List.mem_range.2 hi)
  unfold riseAt at *
  rw [h i hi]
  by_cases h0 : i = 0
  · subst h0; simpa using this
  · rw [h (i - 1) (by omega)]; exact this
theorem zeroB_0 : zeroB 0 = true := by unfold zeroB; simp
theorem emptyB_0 : emptyB ⟨#[]⟩ = true := by decide +kernel
theorem norm_right : ∀ (t : VT) (far : Int), rightV t far = true → rightV (norm t) far = true := by
  intro t
  induction t with
  | bad => intro far h; rw [rightV] at h; exact absurd h (by decide)
  | mk k n f s c ns m xs ih =>
    intro far h
    obtain ⟨hfar, hh⟩ := right_head h
    have z0 := zeroB_0
    have e0 := emptyB_0
    rcases hh with ⟨rfl, hn, _⟩ | ⟨rfl, _⟩ | ⟨rfl, _⟩ | ⟨rfl, hs, _⟩ | ⟨rfl, hc, hx⟩ | ⟨rfl, hc, hnn, hx⟩
    · unfold norm
      rw [if_pos (by omega), if_pos (by omega), if_neg (by omega), if_neg (by omega)]
      unfold leaf
      rw [rightV, decide_eq_true hfar, if_neg (by omega)]
      unfold plainB
      rw [if_pos rfl, z0, e0]
      simp; omega
    · unfold norm
      rw [if_pos (by omega), if_pos (by omega), if_neg (by omega), if_neg (by omega)]
      unfold leaf
      rw [rightV, decide_eq_true hfar, if_neg (by omega)]
      unfold plainB
      rw [if_neg (by omega), if_pos rfl, z0, e0]; rfl
    · unfold norm
      rw [if_pos (by omega), if_neg (by omega), if_pos rfl, if_neg (by omega)]
      unfold leaf
      rw [rightV, decide_eq_true hfar, if_neg (by omega)]
      unfold plainB
      rw [if_neg (by omega), if_neg (by omega), if_pos rfl, e0]; rfl
    · unfold norm
      rw [if_pos (by omega), if_neg (by omega), if_neg (by omega), if_pos rfl]
      unfold leaf
      rw [rightV, decide_eq_true hfar, if_neg (by omega)]
      unfold plainB
      rw [if_neg (by omega), if_neg (by omega), if_neg (by omega), if_pos rfl, z0, decide_eq_true hs]; rfl
    · unfold norm
      rw [if_neg (by omega), norm_items, rightV, decide_eq_true hfar, Bool.true_and, if_pos (.inl rfl), Bool.and_eq_true]
      refine ⟨?_, ?_⟩
      · unfold headB
        rw [z0, e0]; rfl
      · rw [List.all_eq_true]
        intro i hi
        have hi := List.mem_range.1 hi
        rw [itm_at hi]
        exact ih i _ (hx i hi)
    · have hrise : riseB c ns = true := by
        rw [rightV, Bool.and_eq_true] at h
        have := h.2
        rw [if_pos (.inr rfl), Bool.and_eq_true] at this
        have := this.1
        unfold headB at this
        simp only [show ¬ ((6 : Int) = 5) by omega, if_false, Bool.and_eq_true] at this
        exact this.2.2.2.1
      subst hc
      unfold norm
      rw [if_neg (by omega), norm_items, rightV, decide_eq_true hfar, Bool.true_and, if_pos (.inr rfl), Bool.and_eq_true]
      refine ⟨?_, ?_⟩
      · unfold headB
        rw [z0, e0]
        have hr2 : riseB (if (6 : Int).toNat = 6 then c else 0) (fun i => ((itmL (nz 6 ns) (fun i => norm (xs i)) c 0).getD i (⟨#[]⟩, .bad)).1) = true := by
          show riseB c _ = true
          refine riseB_names (ns := ns) (fun i hi => ?_) hrise
          show ((itmL (nz 6 ns) (fun i => norm (xs i)) c 0).getD i (⟨#[]⟩, .bad)).1 = ns i
          rw [itm_at hi, nz_6]
        rw [hr2]
        simp
      · rw [List.all_eq_true]
        intro i hi
        have hi := List.mem_range.1 hi
        rw [itm_at hi]
        exact ih i _ (hx i hi)
/-- What is read again of a right value is right as a whole. -/
theorem norm_ok {t : VT} (hr : rightV t 12 = true) (ht : tot t ≤ 200) : okV (norm t) = true := ok_pure (norm_right t 12 hr) (by rw [norm_tot t 12 hr]; exact ht)
end Go.Proofs.YtekojglcbalhnaaGreatDoor
