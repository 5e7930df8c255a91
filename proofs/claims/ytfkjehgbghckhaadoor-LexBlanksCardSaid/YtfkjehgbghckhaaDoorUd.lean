/-
  The document's number: ints.
-/
import Derived.Test.YtfkjehgbghckhaaDoorUc
namespace Go.Proofs.YtfkjehgbghckhaaDoor
open Go.RowKit

theorem dig_at {s : ByteArray} {a j : Nat} (h : j < (dig (left s a)).length) : ∃ (hh : a + j < s.size), (dig (left s a))[j]? = some s[a + j] ∧ isD s[a + j] = true := by
  have hl : (dig (left s a)).length ≤ (left s a).length := dig_le _
  have hl2 := left_len s a
  have hh : a + j < s.size := by omega
  have hp : (dig (left s a))[j]? = some s[a + j] := by
    obtain ⟨t, ht⟩ : ∃ t, dig (left s a) ++ t = left s a := List.takeWhile_prefix (l := left s a) isD
    have h1 : (left s a)[j]? = some s[a + j] := by
      have h2 := left_cons hh
      have h3 : left s (a + j) = (left s a).drop j := left_drop s a j
      rw [h3] at h2
      have h4 := congrArg (fun l => l[0]?) h2
      simpa using h4
    rw [← ht, List.getElem?_append_left h] at h1
    exact h1
  exact ⟨hh, hp, by
    have h3 := dig_all (left s a)
    rw [List.all_eq_true] at h3
    exact h3 _ (List.mem_of_getElem? hp)⟩
theorem num_step {s : ByteArray} {a j : Nat} (h : j < (dig (left s a)).length) (hj : j < 19) : ∃ (hh : a + j < s.size), numN ((dig (left s a)).take (j + 1)) = numN ((dig (left s a)).take j) * 10 + (s[a + j].toNat - 48) ∧ 48 ≤ s[a + j].toNat ∧ s[a + j].toNat ≤ 57 ∧ numN ((dig (left s a)).take j) < 1000000000000000000 := by
  obtain ⟨hh, h1, h2⟩ := dig_at h
  have h3 : (dig (left s a)).take (j + 1) = (dig (left s a)).take j ++ [s[a + j]] := by
    rw [List.take_add_one, h1]; rfl
  have h4 : ((dig (left s a)).take j).all isD = true := by
    have := dig_all (left s a)
    rw [List.all_eq_true] at this ⊢
    exact fun x hx => this x (List.mem_of_mem_take hx)
  have h5 := numN_lt _ h4
  rw [List.length_take] at h5
  have h6 : 10 ^ (min j (dig (left s a)).length) ≤ 10 ^ 18 := Nat.pow_le_pow_right (by decide) (by omega)
  unfold isD at h2
  rw [Bool.and_eq_true, decide_eq_true_eq, decide_eq_true_eq] at h2
  exact ⟨hh, by rw [h3, numN_snoc], h2.1, h2.2, Nat.lt_of_lt_of_le h5 h6⟩
end Go.Proofs.YtfkjehgbghckhaaDoor
