/-
  Contracts of Bottom, Top, members, Below, Above.
-/
import Derived.Test.YtmnbalmihehodaaJoin
namespace Go.Proofs.Ytmnbalmihehodaa
open Go.RowKit

/-- The label that Bottom has behind k rounds. -/
def botK (n : Nat) (A : Nat → Nat) : Nat → Nat
  | 0 => 0
  | k + 1 => if leqB n A k (botK n A k) then k else botK n A k
def topK (n : Nat) (A : Nat → Nat) : Nat → Nat
  | 0 => 0
  | k + 1 => if leqB n A (topK n A k) k then k else topK n A k

theorem Bottom_nil (w : World) : Calls Try.prog 27 #[.pointer none] w fun e w' => e = .returned (.int .i64 0) ∧ w = w' := by
  go_enter Try.func27, Try.ntmps27
  go_wp2_with fail
  refine (size_nil _).mono ?_
  rintro e w' ⟨rfl, rfl⟩
  go_wp2_with fail
  go_loop [3, 7] (fun m i => i = .int .i64 0 ∧ m = .int .i64 0) (fun _ _ => 0)
  case atStart => exact ⟨rfl, rfl⟩
  case round =>
    obtain ⟨rfl, rfl⟩ := hrel
    go_wp2_with fail
    go_ret
    exact ⟨rfl, rfl⟩
theorem Top_nil (w : World) : Calls Try.prog 29 #[.pointer none] w fun e w' => e = .returned (.int .i64 0) ∧ w = w' := by
  go_enter Try.func29, Try.ntmps29
  go_wp2_with fail
  refine (size_nil _).mono ?_
  rintro e w' ⟨rfl, rfl⟩
  go_wp2_with fail
  go_loop [3, 7] (fun m i => i = .int .i64 0 ∧ m = .int .i64 0) (fun _ _ => 0)
  case atStart => exact ⟨rfl, rfl⟩
  case round =>
    obtain ⟨rfl, rfl⟩ := hrel
    go_wp2_with fail
    go_ret
    exact ⟨rfl, rfl⟩

theorem Bottom_any {g n : Nat} {A B : Nat → Nat} (w : World) (h : Lat w g n A B) :
    Calls Try.prog 27 #[.pointer (some ⟨g, 0, none⟩)] w fun e w' => e = .returned (.int .i64 (botK n A n)) ∧ w = w' := by
  have n8 := h.n8
  go_enter Try.func27, Try.ntmps27
  go_wp2_with fail
  refine (size_any _ h).mono ?_
  rintro e w' ⟨rfl, rfl⟩
  go_wp2_with fail
  go_loop [3, 7] (fun m i => ∃ k : Nat, k ≤ n ∧ i = .int .i64 k ∧ m = .int .i64 (botK n A k)) (fun _ i => n - (intOf i).toNat)
  case atStart => exact ⟨0, Nat.zero_le _, rfl, rfl⟩
  case round =>
    obtain ⟨k, hk, rfl, rfl⟩ := hrel
    by_cases hlt : k < n
    · cases hc : leqB n A k (botK n A k)
      · have Hn : Hid (botK n A (k + 1) = botK n A k) := Lib.hid (by rw [botK, hc]; rfl)
        have Hc := Lib.hid hc
        clear hc
        go_wp2_with fail
        refine (leq_any _ _ _ h).mono ?_
        rintro e w' ⟨rfl, rfl⟩
        rw [Hc.out]
        go_wp2_with fail
        go_round
        case rel => exact ⟨k + 1, by omega, by go_num, by rw [Hn.out]⟩
        case measure => simp [intOf]; omega
      · have Hn : Hid (botK n A (k + 1) = k) := Lib.hid (by rw [botK, hc]; rfl)
        have Hc := Lib.hid hc
        clear hc
        go_wp2_with fail
        refine (leq_any _ _ _ h).mono ?_
        rintro e w' ⟨rfl, rfl⟩
        rw [Hc.out]
        go_wp2_with fail
        go_round
        case rel => exact ⟨k + 1, by omega, by go_num, by rw [Hn.out]⟩
        case measure => simp [intOf]; omega
    · obtain rfl : k = n := by omega
      go_wp2_with fail
      go_ret
      exact ⟨rfl, rfl⟩

theorem Top_any {g n : Nat} {A B : Nat → Nat} (w : World) (h : Lat w g n A B) :
    Calls Try.prog 29 #[.pointer (some ⟨g, 0, none⟩)] w fun e w' => e = .returned (.int .i64 (topK n A n)) ∧ w = w' := by
  have n8 := h.n8
  go_enter Try.func29, Try.ntmps29
  go_wp2_with fail
  refine (size_any _ h).mono ?_
  rintro e w' ⟨rfl, rfl⟩
  go_wp2_with fail
  go_loop [3, 7] (fun m i => ∃ k : Nat, k ≤ n ∧ i = .int .i64 k ∧ m = .int .i64 (topK n A k)) (fun _ i => n - (intOf i).toNat)
  case atStart => exact ⟨0, Nat.zero_le _, rfl, rfl⟩
  case round =>
    obtain ⟨k, hk, rfl, rfl⟩ := hrel
    by_cases hlt : k < n
    · cases hc : leqB n A (topK n A k) k
      · have Hn : Hid (topK n A (k + 1) = topK n A k) := Lib.hid (by rw [topK, hc]; rfl)
        have Hc := Lib.hid hc
        clear hc
        go_wp2_with fail
        refine (leq_any _ _ _ h).mono ?_
        rintro e w' ⟨rfl, rfl⟩
        rw [Hc.out]
        go_wp2_with fail
        go_round
        case rel => exact ⟨k + 1, by omega, by go_num, by rw [Hn.out]⟩
        case measure => simp [intOf]; omega
      · have Hn : Hid (topK n A (k + 1) = k) := Lib.hid (by rw [topK, hc]; rfl)
        have Hc := Lib.hid hc
        clear hc
        go_wp2_with fail
        refine (leq_any _ _ _ h).mono ?_
        rintro e w' ⟨rfl, rfl⟩
        rw [Hc.out]
        go_wp2_with fail
        go_round
        case rel => exact ⟨k + 1, by omega, by go_num, by rw [Hn.out]⟩
        case measure => simp [intOf]; omega
    · obtain rfl : k = n := by omega
      go_wp2_with fail
      go_ret
      exact ⟨rfl, rfl⟩

/-- The labels of a set that are below k. -/
def mem (S k : Nat) : List Nat := (List.range k).filter fun i => S.testBit i
theorem mem_hit {S k : Nat} (h : S.testBit k = true) : mem S (k + 1) = mem S k ++ [k] := by simp [mem, List.range_succ, List.filter_append, h]
theorem mem_miss {S k : Nat} (h : S.testBit k = false) : mem S (k + 1) = mem S k := by simp [mem, List.range_succ, List.filter_append, h]
theorem mem_le (S k : Nat) : (mem S k).length ≤ k := Nat.le_trans (List.length_filter_le _ _) (by simp)

/-- A list of ints as the cells hold them. -/
def intsOf (l : List Nat) : List Value := l.map fun (i : Nat) => Value.int .i64 (i : Int)

/-- What is returned is a row of the call's own that holds these. -/
def GivesRow (L : List Nat) (w : World) (e : Ending) (w' : World) : Prop :=
  ∃ v, e = .returned v ∧ w'.ownsRow w.heap.size 3 1 v L.length (intsOf L) ∧ Below w.heap.size w w'

theorem Try.info3 : (Try.prog.info? 3).map (fun i => (i.zero, i.size, i.bytes)) = some (some (.int .i64 0), 1, 8) := by kernel_rfl

theorem rel_hit {S k : Nat} {w wr w1 : World} {u v' : Value} {o : Obj} (hs : S.testBit k = true) (hB : w.heap.size ≤ wr.heap.size)
    (hown : wr.ownsRow w.heap.size 3 1 u (mem S k).length (intsOf (mem S k))) (hnx : Below w.heap.size w wr)
    (hown' : w1.ownsRow w.heap.size 3 1 v' ((mem S k).length + 1) (intsOf (mem S k) ++ [.int .i64 (k : Int)])) (hgrow : (wr.alloc o).grownBy w1 u.ownBlock) :
    w1.ownsRow w.heap.size 3 1 v' (mem S (k + 1)).length (intsOf (mem S (k + 1))) ∧ Below w.heap.size w w1 := by
  rw [mem_hit hs]
  exact ⟨by simpa [intsOf] using hown', (hnx.alloc hB o).grown hgrow (by simp; omega) (fun j hj => (hown.lt j hj).1)⟩

set_option maxHeartbeats 400000 in
theorem members_any (S : Nat) (hS : S < 256) (w : World) : Calls Try.prog 39 #[.int .u8 S] w (GivesRow (mem S 8) w) := by
  obtain ⟨i0, hi, hz0, hz1, hz2⟩ := info_parts Try.info3
  go_enter Try.func39, Try.ntmps39
  go_wp2_with fail
  go_loopw [3, 5] (fun v i wr => ∃ k : Nat, k ≤ 8 ∧ i = .int .i64 k ∧ wr.ownsRow w.heap.size 3 1 v (mem S k).length (intsOf (mem S k)) ∧ Below w.heap.size w wr) (fun _ i _ => 8 - (intOf i).toNat)
  case atStart => exact ⟨0, Nat.zero_le _, rfl, ⟨rfl, .inl ⟨rfl, rfl⟩⟩, Below.refl _ _⟩
  case round =>
    obtain ⟨k, hk, rfl, hown, hnx⟩ := hrel
    by_cases hlt : k < 8
    · have hl := mem_le S k
      have hsz := hnx.size
      cases hc : S.testBit k
      · have Hn := Lib.hid (mem_miss hc)
        have Hc := Lib.hid hc
        clear hc
        go_wp2_with fail
        refine (contains_any S _ hS (by omega) (by omega) _).mono ?_
        rintro e w' ⟨rfl, rfl⟩
        rw [Int.toNat_natCast, Hc.out]
        go_wp2_with fail
        go_roundw
        case rel => exact ⟨k + 1, by omega, by go_num, by rw [Hn.out]; exact hown, hnx⟩
        case measure => simp [intOf]; omega
      · have Hc := Lib.hid hc
        clear hc
        go_wp2_with fail
        refine (contains_any S _ hS (by omega) (by omega) _).mono ?_
        rintro e w' ⟨rfl, rfl⟩
        rw [Int.toNat_natCast, Hc.out]
        go_wp2_with (at_builtin; refine wpList_append_own _ rfl _ _ 23 rfl w.heap.size 3 i0 (.int .i64 0) 1 8 Try.underlying23 hi hz0 hz1 hz2 rfl (by decide) _ _ _ rfl (hown.alloc _) ⟨_, 0, none⟩ 1 1 [.int .i64 (k : Int)] rfl rfl ?c1 ?c2 ?c3 ?c4 ?c5 ?_)
        case c1 => intro j u hu; match j, hu with | 0, hu => (cases hu; show (wr.alloc _).cell? ⟨wr.heap.size, 0, none⟩ = _; rw [World.cell?_alloc_at _ _ _ _ rfl]; rfl)
        case c2 => simp [Value.oneCell']
        case c3 => unfold maxLen; omega
        case c4 => omega
        case c5 => simp; omega
        intro v' w1 hown1 hgrow _
        obtain ⟨g1, g2⟩ := rel_hit Hc.out hsz hown hnx hown1 hgrow
        clear hown1 hgrow hown hnx
        go_wp2_with fail
        go_roundw
        case rel => exact ⟨k + 1, by omega, by go_num, g1, g2⟩
        case measure => simp [intOf]; omega
    · obtain rfl : k = 8 := by omega
      go_wp2_with fail
      go_ret
      exact ⟨_, rfl, hown, hnx⟩

theorem Below_nil (a : Int) (w : World) : Calls Try.prog 20 #[.pointer none, .int .i64 a] w fun e w' => e = .returned (.slice none 0 0) ∧ w = w' := by
  go_enter Try.func20, Try.ntmps20
  go_wp2_with fail
  refine (has_nil _ _).mono ?_
  rintro e w' ⟨rfl, rfl⟩
  go_wp2_with fail
  go_ret
  exact ⟨rfl, rfl⟩
theorem Below_no {g n : Nat} {A B : Nat → Nat} (a : Int) (w : World) (h : Lat w g n A B) (ha : isL n a = false) :
    Calls Try.prog 20 #[.pointer (some ⟨g, 0, none⟩), .int .i64 a] w fun e w' => e = .returned (.slice none 0 0) ∧ w = w' := by
  have Ha := Lib.hid ha
  clear ha
  go_enter Try.func20, Try.ntmps20
  go_wp2_with fail
  refine (has_any _ _ h).mono ?_
  rintro e w' ⟨rfl, rfl⟩
  rw [Ha.out]
  go_wp2_with fail
  go_ret
  exact ⟨rfl, rfl⟩
theorem Below_yes {g n : Nat} {A B : Nat → Nat} (a : Int) (w : World) (h : Lat w g n A B) (ha : isL n a = true) :
    Calls Try.prog 20 #[.pointer (some ⟨g, 0, none⟩), .int .i64 a] w (GivesRow (mem (B a.toNat) 8) w) := by
  have n8 := h.n8
  obtain ⟨ha0, ha1⟩ := isL_iff.1 ha
  have hc := h.below a.toNat (by omega)
  have ha8 : a < 8 := by omega
  have Ha := Lib.hid ha
  clear ha
  go_enter Try.func20, Try.ntmps20
  go_wp2_with fail
  refine (has_any _ _ h).mono ?_
  rintro e w' ⟨rfl, rfl⟩
  rw [Ha.out]
  go_wp2_with fail
  refine (members_any _ (h.b8 _) _).mono ?_
  rintro e w' ⟨v, rfl, hown, hb⟩
  go_wp2_with fail
  go_ret
  exact ⟨_, rfl, hown, hb⟩
end Go.Proofs.Ytmnbalmihehodaa
