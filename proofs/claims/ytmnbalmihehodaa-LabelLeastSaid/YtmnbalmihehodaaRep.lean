/-
  The contract of slices.Repeat, of one int.
-/
import Derived.Test.YtmnbalmihehodaaFan
import Derived.Deep.LoopGhost
namespace Go.Proofs.Ytmnbalmihehodaa
open Go.RowKit

theorem mul_one (n : Nat) (hn : n ≤ 1000) (w : World) : Calls Try.prog 57 #[.int .u64 1, .int .u64 (n : Int)] w fun e w' => e = .returned (.tuple #[.int .u64 0, .int .u64 (n : Int)]) ∧ w = w' :=
  (mul_any 1 n (by omega) (by omega) w).mono fun e w' h => by
    obtain ⟨rfl, rfl⟩ := h
    rw [show 1 * n / 18446744073709551616 = 0 by omega, show 1 * n % 18446744073709551616 = n by omega]
    exact ⟨rfl, rfl⟩

theorem cells_toList {w : World} {g : Nat} {cs : Array Value} {t : TypeId} (h : w.heap[g]? = some (.cells cs t (0, 0))) : w.heap[g]? = some (.cells cs.toList.toArray t (0, 0)) := by simpa using h

/-- Block g has n cells, or more, of which the first k are this int. -/
def Fill (w : World) (g n k : Nat) (z : Int) : Prop := ∃ L : List Value, w.heap[g]? = some (.cells L.toArray 3 (0, 0)) ∧ n ≤ L.length ∧ ∀ i, i < k → L[i]? = some (.int .i64 z)
theorem Fill.ib {w : World} {g n : Nat} {z : Int} (h : Fill w g n n z) : IB w g n fun _ => z := by
  obtain ⟨L, h1, h2, h3⟩ := h
  exact ⟨_, h1, by simpa using h2, fun i hi => by simpa using h3 i hi⟩
theorem Fill.drew {w : World} {g n k : Nat} {z : Int} (h : Fill w g n k z) : Fill w.drew g n k z := h
theorem splice_fill {L : List Value} {k m : Nat} {z : Int} (h3 : ∀ i, i < k → L[i]? = some (.int .i64 z)) (hk : k + m ≤ L.length) :
    ∀ i, i < k + m → (splice L k (List.replicate m (.int .i64 z)))[i]? = some (.int .i64 z) := by
  intro i hi
  unfold splice
  by_cases h : i < k
  · rw [List.getElem?_append_left (by simp; omega), List.getElem?_take, if_pos h]
    exact h3 i h
  · rw [List.getElem?_append_right (by simp; omega), List.getElem?_append_left (by simp; omega), List.getElem?_replicate, if_pos (by simp; omega)]
theorem ones (m : Nat) (z : Int) : ∀ v ∈ List.replicate m (Value.int .i64 z), v.oneCell' = true := by
  intro v hv
  rw [List.mem_replicate] at hv
  rw [hv.2]
  rfl

/-- The first copy: of one int. -/
theorem wp_cp1 {ops : Array Oper} {rest : List Oper} {o : Oper} {a : Act} {w : World} {Q : Exit → Act → World → Prop} (hgd : o.guard = none) (d s : Operand)
    (ho : o.op = .call { callee := .builtin .copy, args := #[d, s], argTypes := #[23, 23] }) (g gx n : Nat) (f : Nat → Int) (z : Int) (hn : 1 ≤ n) (hd : a.eval d = .slice (some ⟨g, 0, none⟩) n n) (hs : a.eval s = .slice (some ⟨gx, 0, none⟩) 1 1)
    (hI : IB w g n f) (hx : w.cell? ⟨gx, 0, none⟩ = some (.int .i64 z)) (B : Nat) (w0 : World) (hb : Below B w0 w) (hB : B ≤ g)
    (h : ∀ w', Fill w' g n 1 z → Below B w0 w' → wpList Try.prog ops Q rest (a.put o.dst (.int .i64 1)) w') : wpList Try.prog ops Q (o :: rest) a w := by
  obtain ⟨cs, c1, c2, c3⟩ := hI
  refine wpList_copy_splice hgd d s 23 23 ho 3 Try.underlying23 (by kernel_rfl) _ _ n n 1 1 hd hs g 0 cs.toList 3 (cells_toList c1) (List.replicate 1 (.int .i64 z)) ?_ ?_ ?_ (ones 1 z) B w0 hb hB ?_
  · show 1 = min 1 n
    omega
  · intro _
    refine ⟨rfl, _, rfl, fun j v hj => ?_⟩
    match j, hj with
    | 0, hj =>
      cases hj
      exact hx
  · simp; omega
  · intro w' h1 h2
    exact h w' ⟨_, h1.out, by rw [length_splice _ _ _ (by simp; omega)]; simpa using c2, by have := splice_fill (L := cs.toList) (k := 0) (m := 1) (z := z) (fun i hi => absurd hi (by omega)) (by simp; omega); simpa using this⟩ h2

/-- A further one: of what stands there already. -/
theorem step_cp {ops : Array Oper} {o : Oper} {a : Act} {w : World} {K : Act → World → Prop} {Q : Exit → Act → World → Prop} {E : Prop} (hgd : o.guard = none) (d s : Operand)
    (ho : o.op = .call { callee := .builtin .copy, args := #[d, s], argTypes := #[23, 23] }) (g n k : Nat) (z : Int) (hk : k < n) (dp sp : Option Addr) (dl sl c1 c2 : Nat) (hd : a.eval d = .slice dp dl c1) (hs : a.eval s = .slice sp sl c2) (hdp : dp = some ⟨g, k, none⟩) (hdl : dl = n - k) (hsp : sp = some ⟨g, 0, none⟩) (hsl : sl = k)
    (hI : Fill w g n k z) (B : Nat) (w0 : World) (hb : Below B w0 w) (hB : B ≤ g)
    (hk1 : 1 ≤ k) (h : ∀ w' (m : Nat), 1 ≤ m → k + m ≤ n → Fill w' g n (k + m) z → Below B w0 w' → K (a.put o.dst (.int .i64 (m : Int))) w') :
    if Region.wanted o (yielded ops a.tmps) = true then Oper.wp Try.prog o a w K Q else E := by
  obtain ⟨L, c1', c2', c3⟩ := hI
  rw [hdp, hdl] at hd
  rw [hsp, hsl] at hs
  have hm1 : min k (n - k) ≤ k := Nat.min_le_left _ _
  have hm2 : min k (n - k) ≤ n - k := Nat.min_le_right _ _
  generalize hm : min k (n - k) = m at *
  refine step_copy_splice hgd d s 23 23 ho 3 Try.underlying23 (by kernel_rfl) _ _ _ c1 k c2 hd hs g k L 3 c1' (List.replicate m (.int .i64 z)) ?_ ?_ ?_ (ones m z) B w0 hb hB ?_
  · rw [List.length_replicate]
    exact hm.symm
  · intro _
    refine ⟨rfl, _, rfl, fun j v hj => ?_⟩
    have hjm : j < m := by
      have := (List.getElem?_eq_some_iff.1 hj).1
      simpa using this
    rw [List.getElem?_replicate, if_pos hjm] at hj
    rw [WideShapes.add_plain, Nat.zero_add, cell_of_heap c1' j]
    simpa [← hj] using c3 j (by omega)
  · simp; omega
  · intro w' h1 h2
    rw [List.length_replicate]
    exact h w' m (by omega) (by omega) ⟨_, h1.out, by rw [length_splice _ _ _ (by simp; omega)]; exact c2', splice_fill c3 (by omega)⟩ h2

set_option maxHeartbeats 1000000 in
theorem rep_zero (gx : Nat) (w : World) (_ : w.heap[gx]? = some (.cells #[.int .i64 (-1)] 3 (0, 0))) :
    Calls Try.prog 56 #[.slice (some ⟨gx, 0, none⟩) 1 1, .int .i64 0] w fun e w' => ∃ g, e = .returned (.slice (some ⟨g, 0, none⟩) 0 0) ∧ w.heap.size ≤ g ∧ IB w' g 0 (fun _ => -1) ∧ Below w.heap.size w w' := by
  go_enter Try.func56, Try.ntmps56
  go_wp2_with fail
  refine (mul_one 0 (by omega) _).mono ?_
  rintro e w' ⟨rfl, rfl⟩
  go_wp2_with (first | (at_make; refine wp_mkI rfl _ _ rfl 0 rfl rfl (by omega) ?_; intro w1 hI hb1) | (with_reducible refine wpList_copy_nothing rfl (.tmp 31) (.tmp 32) 23 23 rfl 3 Try.underlying23 rfl _ _ _ _ _ _ rfl rfl rfl ?_) | fail)
  go_loopw [8] (fun v wr => v = .int .i64 0 ∧ wr = w1) (fun _ _ => 0)
  case atStart => exact ⟨rfl, rfl⟩
  case round =>
    obtain ⟨rfl, rfl⟩ := hrel
    go_wp2_with fail
    go_ret
    exact ⟨_, rfl, Nat.le_refl _, hI.congr (fun i hi => absurd hi (Nat.not_lt_zero _)), hb1⟩

set_option maxHeartbeats 1000000 in
theorem rep_pos (gx n : Nat) (hn1 : 1 ≤ n) (hn : n ≤ 1000) (w : World) (hx : w.heap[gx]? = some (.cells #[.int .i64 (-1)] 3 (0, 0))) :
    Calls Try.prog 56 #[.slice (some ⟨gx, 0, none⟩) 1 1, .int .i64 (n : Int)] w fun e w' => ∃ g, e = .returned (.slice (some ⟨g, 0, none⟩) n n) ∧ w.heap.size ≤ g ∧ IB w' g n (fun _ => -1) ∧ Below w.heap.size w w' := by
  have h0 : (0 : Int) ≤ n := by omega
  have h1 : (n : Int) ≤ 1000 := by omega
  have hlt := (Array.getElem?_eq_some_iff.1 hx).1
  go_enter Try.func56, Try.ntmps56
  go_wp2_with fail
  refine (mul_one n hn _).mono ?_
  rintro e w' ⟨rfl, rfl⟩
  go_wp2_with (first | (at_make; refine wp_mkI rfl _ _ rfl n rfl rfl hn ?_; intro w1 hI hb1) | (with_reducible refine wp_cp1 rfl (.tmp 31) (.tmp 32) rfl w.heap.size gx n _ (-1) hn1 rfl rfl hI ((cell_of_heap ((hb1.block gx hlt).trans hx) 0).trans rfl) w.heap.size w hb1 (Nat.le_refl _) ?_; intro w2 hF hb2; clear hI) | fail)
  go_loopg [8] n (fun j v wr => ∃ k : Nat, j + k = n + 1 ∧ 1 ≤ k ∧ k ≤ n ∧ v = .int .i64 k ∧ Fill wr w.heap.size n k (-1) ∧ Below w.heap.size w wr)
  case atStart => exact ⟨1, rfl, Nat.le_refl _, hn1, rfl, hF, hb2⟩
  case round =>
    obtain ⟨k, hj, hk1, hk, rfl, hF, hb⟩ := hrel
    have HJ := Lib.hid hj
    clear hj
    by_cases hlt : k < n
    · have hk0 : (0 : Int) ≤ k := by omega
      have hk2 : (k : Int) < n := by omega
      go_wp2_with fail
      have hkn : ¬ n = k := by omega
      go_region_law (refine step_cp rfl (.tmp 41) (.tmp 44) rfl w.heap.size n k (-1) hlt (some ⟨w.heap.size, k, none⟩) (some ⟨w.heap.size, 0, none⟩) (n - k) k (n - k) n (by kernel_rfl) (by kernel_rfl) rfl rfl rfl rfl hF.drew w.heap.size w hb.drew (Nat.le_refl _) hk1 ?_; intro w3 m hm1 hm2 hF3 hb3; have hws : IntKind.i64.wrap ((k : Int) + (m : Int)) = (k : Int) + (m : Int) := IntWalk.i64_in _ (by omega))
      clear hws
      go_wp2_with fail
      have hj := HJ.out
      go_roundg (n + 1 - (k + m))
      case rel => exact ⟨k + m, by omega, by omega, by omega, by go_num, hF3, hb3⟩
      case measure => omega
    · obtain rfl : k = n := by omega
      go_wp2_with fail
      go_ret
      exact ⟨_, rfl, Nat.le_refl _, hF.ib, hb⟩

theorem rep_any (gx n : Nat) (hn : n ≤ 1000) (w : World) (hx : w.heap[gx]? = some (.cells #[.int .i64 (-1)] 3 (0, 0))) :
    Calls Try.prog 56 #[.slice (some ⟨gx, 0, none⟩) 1 1, .int .i64 (n : Int)] w fun e w' => ∃ g, e = .returned (.slice (some ⟨g, 0, none⟩) n n) ∧ w.heap.size ≤ g ∧ IB w' g n (fun _ => -1) ∧ Below w.heap.size w w' := by
  rcases Nat.eq_zero_or_pos n with rfl | h
  · exact rep_zero gx w hx
  · exact rep_pos gx n h hn w hx
end Go.Proofs.Ytmnbalmihehodaa
