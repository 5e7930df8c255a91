/-
  append(xs, ys...) of strings, where both are lists of the call's own; also under a guard that says yes.
-/
import Derived.Test.YtlfeocccjolmpaaGw
import Derived.Laws.AppendOwnNone
import Derived.BigFrame
namespace Go.Proofs.Ytlfeocccjolmpaa
open Go.RowKit

theorem strs_len (N : List (List UInt8)) : (strs N).length = N.length := by simp [strs]
theorem strs_append (N M : List (List UInt8)) : strs N ++ strs M = strs (N ++ M) := by simp [strs]
theorem strs_one (N : List (List UInt8)) : ∀ u ∈ strs N, u.oneCell' = true := by
  intro u hu
  simp [strs] at hu
  obtain ⟨p, _, rfl⟩ := hu
  rfl
theorem owns_low {w w' : World} {base B : Nat} {e : TypeId} {size : Nat} {v : Value} {n : Nat} {xs : List Value} (h : w.ownsRow base e size v n xs) (hB : ∀ k, v.ownBlock = some k → k < B) (hb : Below B w w') : w'.ownsRow base e size v n xs := by
  obtain ⟨h1, h2⟩ := h
  refine ⟨h1, ?_⟩
  rcases h2 with h2 | ⟨k, cap, cur, hv, hbk, hh, r⟩
  · exact .inl h2
  · exact .inr ⟨k, cap, cur, hv, hbk, by rw [hb.block k (hB k (by subst hv; rfl))]; exact hh, r⟩
theorem Fr.len {l : List UInt8} {ps : List (List UInt8)} {g : Nat} (h : Fr l ps g) : ps.length ≤ g := by
  induction h with
  | stop _ => exact Nat.le_refl _
  | next h r ih =>
    obtain ⟨_, _, h3, _, _⟩ := nextL_some h
    rw [List.length_cons]
    omega
theorem owns_empty (w : World) : (w.alloc (.cells #[] 9)).ownsRow w.heap.size 9 1 (.slice (some ⟨w.heap.size, 0, none⟩) 0 0) ([] : List (List UInt8)).length (strs []) := World.ownsRow_lit w #[] 0 (Nat.le_refl _) (by unfold maxLen; omega) rfl
theorem app_list {ops : Array Oper} {rest : List Oper} {o : Oper} {a : Act} {w : World} {Q : Exit → Act → World → Prop} (hw : Region.wanted o (yielded ops a.tmps) = true) (s x : Operand)
    (ho : o.op = .call { callee := .builtin .append, args := #[s, x], argTypes := #[34, 34] }) {base b2 : Nat} {v y : Value} {N M : List (List UInt8)}
    (hs : a.eval s = v) (hown : w.ownsRow base 9 1 v N.length (strs N)) (hx : a.eval x = y) (hy : w.ownsRow b2 9 1 y M.length (strs M)) (hlen : N.length + M.length ≤ 1000000) (hbase : base ≤ w.heap.size)
    (h : ∀ v' w', w'.ownsRow base 9 1 v' (N ++ M).length (strs (N ++ M)) → Below base w w' → wpList Try.prog ops Q rest (a.put o.dst v') w') : wpList Try.prog ops Q (o :: rest) a w := by
  obtain ⟨i9, hi9, hy0, hy1, hy2⟩ := info_parts info9z
  have h0 := hy
  rcases hy.2 with ⟨rfl, hn⟩ | ⟨g, cap, cur, rfl, hg, hh, hn, hm, hc, ht⟩
  · have hM : M = [] := List.length_eq_zero_iff.1 hn
    subst hM
    refine BigFrame.wpList_want hw fun K hK => ?_
    have hrun := run_append_owned_none (P := Try.prog) (w := w) base 34 o.type 9 i9 1 Try.underlying34 hi9 v N.length (strs N) hown
    unfold Oper.wp
    simp [execOp, ho, resolve, invoke, builtin, hs, hx, hrun, Result.andThen]
    exact hK _ _ (h v w (by rw [List.append_nil]; exact hown) (Below.refl _ _))
  · refine BigFrame.wpList_want hw fun K hK => ?_
    refine wp_append_own w s x 34 ho base 9 i9 (.string ⟨#[]⟩) 1 16 Try.underlying34 hi9 hy0 hy1 hy2 rfl (by decide) v N.length (strs N) hs hown ⟨g, 0, none⟩ M.length cap (strs M) hx (by rw [strs_len, Nat.mul_one]) (fun j u hu => ?_) (strs_one M) (by unfold maxLen; omega) (by omega) hbase fun v' w' h1 h2 _ => hK _ _ (h v' w' ?_ ((Below.refl _ _).grown h2 hbase (fun k e => (hown.lt k e).1)))
    · exact h0.cells (g := g) rfl j u hu
    · rw [strs_append] at h1
      rw [List.length_append]
      exact h1
end Go.Proofs.Ytlfeocccjolmpaa
