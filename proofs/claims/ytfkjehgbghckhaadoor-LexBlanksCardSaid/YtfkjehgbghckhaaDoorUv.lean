/-
  A text with more blanks ahead of its tokens has the same tokens, plainly: no walk.
-/
import Derived.Test.YtfkjehgbghckhaaDoorUy
namespace Go.Proofs.YtfkjehgbghckhaaDoor
open Go.RowKit

theorem left_str (P Q : List UInt8) : left (strL (P ++ Q)) P.length = Q := by
  show (P ++ Q).drop P.length = Q
  exact List.drop_left
theorem blkN_app {B R : List UInt8} (hB : B.all blkB = true) (hR : R = [] ∨ ∃ c R', R = c :: R' ∧ blkB c = false) : blkN (B ++ R) = B.length := by
  unfold blkN
  rcases hR with rfl | ⟨c, R', rfl, hc⟩
  · rw [List.append_nil, tw_all hB]
  · rw [tw_app hB hc]
theorem nextN_at {P B R : List UInt8} (hl : (P ++ (B ++ R)).length ≤ 2000) (hB : B.all blkB = true) (hR : R = [] ∨ ∃ c R', R = c :: R' ∧ blkB c = false) : nextN (strL (P ++ (B ++ R))) (P.length : Nat) = nxOf (P.length + B.length) (headT R) := by
  have h1 := left_str P (B ++ R)
  have h2 : left (strL (P ++ (B ++ R))) (P.length + B.length) = R := by
    rw [← List.append_assoc, ← List.length_append]
    exact left_str (P ++ B) R
  have hs : (strL (P ++ (B ++ R))).size = (P ++ (B ++ R)).length := rfl
  have hs2 : P.length ≤ (P ++ (B ++ R)).length := by simp
  unfold nextN
  rw [if_neg (by omega), show (((P.length : Nat) : Int)).toNat = P.length by omega, h1, blkN_app hB hR, h2]
/-- The text that the law puts together: ahead of each token some blanks more. -/
def outK (s : ByteArray) (sep : Nat → List UInt8) : Nat → Nat → List (Nat × Tk) → List UInt8
  | _, _, [] => []
  | i, fr, (b, t) :: ts => (sep i ++ (left s fr).take (b + t.len - fr)) ++ outK s sep (i + 1) (b + t.len) ts
/-- Blanks, one at least, two at most. -/
def Sep (sep : Nat → List UInt8) : Prop := ∀ i, (sep i).all blkB = true ∧ sep i ≠ [] ∧ (sep i).length ≤ 2
theorem outK_len {s : ByteArray} {sep : Nat → List UInt8} (hsep : Sep sep) {i : Nat} {ts : List (Nat × Tk)} {o : Option (Nat × Int)} (h : Lx s i ts o) : ∀ k, (outK s sep k i ts).length ≤ 2 * ts.length + (s.size - i) := by
  induction h with
  | range _ => intro k; simp [outK]
  | stop _ _ => intro k; simp [outK]
  | bad _ => intro k; simp [outK]
  | @next i b t ts o h hk r ih =>
    intro k
    obtain ⟨h1, h2, h3, h4, h5, h6⟩ := nextN_tok h
    have hs := (hsep k).2.2
    have hi := ih (k + 1)
    unfold outK
    rw [List.length_append, List.length_append, List.length_take, left_len, List.length_cons]
    omega
theorem outK_head {s : ByteArray} {sep : Nat → List UInt8} (hsep : Sep sep) (k i : Nat) (ts : List (Nat × Tk)) : ∃ b r, outK s sep k i ts ++ [32] = b :: r ∧ blkB b = true := by
  cases ts with
  | nil => exact ⟨32, [], rfl, by decide⟩
  | cons p ts =>
    obtain ⟨b, t⟩ := p
    obtain ⟨h1, h2, _⟩ := hsep k
    unfold outK
    cases hs : sep k with
    | nil => exact absurd hs h2
    | cons c l =>
      rw [hs, List.all_cons, Bool.and_eq_true] at h1
      exact ⟨c, _, rfl, h1.1⟩
theorem blanks_main {s : ByteArray} {sep : Nat → List UInt8} (hsep : Sep sep) {i : Nat} {ts : List (Nat × Tk)} {o : Option (Nat × Int)} (h : Lx s i ts o) :
    o = none → ∀ (P : List UInt8) (k : Nat), (P ++ (outK s sep k i ts ++ [32])).length ≤ 2000 → ∃ us, Lx (strL (P ++ (outK s sep k i ts ++ [32]))) P.length us none ∧ us.map (·.2) = ts.map (·.2) := by
  induction h with
  | range _ => intro e; cases e
  | bad _ => intro e; cases e
  | @stop i b t h hk =>
    intro _ P k hl
    refine ⟨[], .stop (b := P.length + 1) (t := ⟨1, 0, 0, 0, []⟩) ?_ rfl, rfl⟩
    have := nextN_at (P := P) (B := [32]) (R := []) (by simpa [outK] using hl) (by decide) (.inl rfl)
    exact this
  | @next i b t ts o h hk r ih =>
    intro e P k hl
    obtain ⟨h1, h2, h3, h4, h5, h6⟩ := nextN_tok h
    obtain ⟨hs1, hs2, hs3⟩ := hsep k
    have h7 := (headT_len h4).2.2.1 hk
    obtain ⟨c, R', hc⟩ : ∃ c R', left s b = c :: R' := by
      cases hl : left s b with
      | nil => rw [hl] at h4; injection h4 with h4; subst h4; exact absurd rfl hk
      | cons c R' => exact ⟨c, R', rfl⟩
    have hnb : blkB c = false := by rw [hc] at h4; exact headT_nb h4
    obtain ⟨d, rr, hd, hdb⟩ := outK_head (s := s) hsep (k + 1) (b + t.len) ts
    have hmid : (left s i).take (b + t.len - i) = (left s i).takeWhile blkB ++ (left s b).take t.len := by
      have e1 : b + t.len - i = blkN (left s i) + t.len := by omega
      rw [e1, List.take_add, ← left_drop, ← h3]
      congr 1
      exact tw_take _
    have hB : (sep k ++ (left s i).takeWhile blkB).all blkB = true := by
      rw [List.all_append, hs1, List.all_takeWhile]; rfl
    have hout : outK s sep k i ((b, t) :: ts) ++ [32] = (sep k ++ (left s i).takeWhile blkB) ++ ((left s b).take t.len ++ d :: rr) := by
      have e1 : outK s sep k i ((b, t) :: ts) = (sep k ++ (left s i).take (b + t.len - i)) ++ outK s sep (k + 1) (b + t.len) ts := rfl
      rw [e1, hmid, ← hd]
      simp only [List.append_assoc]
    have hstay := headT_stay h4 hk hdb rr
    have hR : (left s b).take t.len ++ d :: rr = [] ∨ ∃ c R', (left s b).take t.len ++ d :: rr = c :: R' ∧ blkB c = false := by
      right
      obtain ⟨j, hj⟩ : ∃ j, t.len = j + 1 := ⟨t.len - 1, by omega⟩
      exact ⟨c, R'.take j ++ d :: rr, by rw [hc, hj]; rfl, hnb⟩
    rw [hout] at hl
    have hnx := nextN_at hl hB hR
    rw [hstay] at hnx
    have hP : P ++ ((sep k ++ (left s i).takeWhile blkB) ++ ((left s b).take t.len ++ d :: rr)) = (P ++ (sep k ++ (left s i).take (b + t.len - i))) ++ (outK s sep (k + 1) (b + t.len) ts ++ [32]) := by
      rw [hmid, hd]
      simp only [List.append_assoc]
    have hPl : (P ++ (sep k ++ (left s i).take (b + t.len - i))).length = P.length + (sep k ++ (left s i).takeWhile blkB).length + t.len := by
      rw [hmid]
      simp only [List.length_append, List.length_take, left_len]
      omega
    obtain ⟨us, hus, hmap⟩ := ih e (P ++ (sep k ++ (left s i).take (b + t.len - i))) (k + 1) (by rw [← hP]; exact hl)
    rw [← hP, hPl] at hus
    rw [hout]
    exact ⟨(P.length + (sep k ++ (left s i).takeWhile blkB).length, t) :: us, .next hnx hk hus, by rw [List.map_cons, List.map_cons, hmap]⟩
end Go.Proofs.YtfkjehgbghckhaaDoor
