/-
  Contracts of JoinAll, MeetAll, Visible, High.
-/
import Derived.Test.YtmnbalmihehodaaFold
import Derived.Test.YtmnbalmihehodaaAlg
namespace Go.Proofs.Ytmnbalmihehodaa
open Go.RowKit

theorem JoinAll_nil (v : Value) (w : World) : Calls Try.prog 11 #[.pointer none, v] w fun e w' => e = .returned (.tuple #[.int .i64 0, .int .i64 1]) ∧ w = w' := by
  have hmf : ∀ (fn : Fn) (first cap : Array Value) (w : World), (Instr.makeFunc fn first cap).run Try.prog w = .ok (.func fn first cap) w := fun _ _ _ _ => rfl
  go_enter Try.func11, Try.ntmps11
  go_wp2_with fail
  refine (Bottom_nil _).mono ?_
  rintro e w' ⟨rfl, rfl⟩
  go_wp2_with fail
  refine (fold_nil _ _ _ _).mono ?_
  rintro e w' ⟨rfl, rfl⟩
  go_wp2_with fail
  go_ret2
  exact ⟨rfl, rfl⟩
theorem MeetAll_nil (v : Value) (w : World) : Calls Try.prog 12 #[.pointer none, v] w fun e w' => e = .returned (.tuple #[.int .i64 0, .int .i64 1]) ∧ w = w' := by
  have hmf : ∀ (fn : Fn) (first cap : Array Value) (w : World), (Instr.makeFunc fn first cap).run Try.prog w = .ok (.func fn first cap) w := fun _ _ _ _ => rfl
  go_enter Try.func12, Try.ntmps12
  go_wp2_with fail
  refine (Top_nil _).mono ?_
  rintro e w' ⟨rfl, rfl⟩
  go_wp2_with fail
  refine (fold_nil _ _ _ _).mono ?_
  rintro e w' ⟨rfl, rfl⟩
  go_wp2_with fail
  go_ret2
  exact ⟨rfl, rfl⟩

theorem foldV_cases (n : Nat) (op : Nat → Nat → Nat) (s : Nat) (f : Nat → Int) (len : Nat) : ∃ a b : Int, foldV n op s f len = .tuple #[.int .i64 a, .int .i64 b] := by
  unfold foldV
  split
  · exact ⟨_, _, rfl⟩
  · exact ⟨_, _, rfl⟩

theorem JoinAll_any {g n : Nat} {A B : Nat → Nat} {L : Nat → Nat → Bool} (hG : GLat n A B L) (C : Option Addr) (len cap : Nat) (f : Nat → Int) (w : World) (hl : len ≤ 1000) (h : Lat w g n A B) (hR : Rd w w.heap.size C len f) :
    Calls Try.prog 11 #[.pointer (some ⟨g, 0, none⟩), .slice C len cap] w fun e w' => e = .returned (foldV n (jn n A) (botK n A n) f len) ∧ Below w.heap.size w w' := by
  have hmf : ∀ (fn : Fn) (first cap : Array Value) (w : World), (Instr.makeFunc fn first cap).run Try.prog w = .ok (.func fn first cap) w := fun _ _ _ _ => rfl
  obtain ⟨a, b, hv⟩ := foldV_cases n (jn n A) (botK n A n) f len
  have HV := Lib.hid hv
  clear hv
  go_enter Try.func11, Try.ntmps11
  go_wp2_with fail
  refine (Bottom_any _ h).mono ?_
  rintro e w' ⟨rfl, rfl⟩
  go_wp2_with fail
  refine (fold_any (pairs_join hG.jn_lt) _ hG.bot_lt C len cap f _ hl h hR).mono ?_
  rintro e w' ⟨rfl, hb⟩
  rw [HV.out]
  go_wp2_with fail
  go_ret2
  exact ⟨by rw [HV.out]; rfl, hb⟩
theorem MeetAll_any {g n : Nat} {A B : Nat → Nat} {L : Nat → Nat → Bool} (hG : GLat n A B L) (C : Option Addr) (len cap : Nat) (f : Nat → Int) (w : World) (hl : len ≤ 1000) (h : Lat w g n A B) (hR : Rd w w.heap.size C len f) :
    Calls Try.prog 12 #[.pointer (some ⟨g, 0, none⟩), .slice C len cap] w fun e w' => e = .returned (foldV n (jn n B) (topK n A n) f len) ∧ Below w.heap.size w w' := by
  have hmf : ∀ (fn : Fn) (first cap : Array Value) (w : World), (Instr.makeFunc fn first cap).run Try.prog w = .ok (.func fn first cap) w := fun _ _ _ _ => rfl
  obtain ⟨a, b, hv⟩ := foldV_cases n (jn n B) (topK n A n) f len
  have HV := Lib.hid hv
  clear hv
  go_enter Try.func12, Try.ntmps12
  go_wp2_with fail
  refine (Top_any _ h).mono ?_
  rintro e w' ⟨rfl, rfl⟩
  go_wp2_with fail
  refine (fold_any (pairs_meet hG.mt_lt) _ hG.top_lt C len cap f _ hl h hR).mono ?_
  rintro e w' ⟨rfl, hb⟩
  rw [HV.out]
  go_wp2_with fail
  go_ret2
  exact ⟨by rw [HV.out]; rfl, hb⟩

/-- The numbers below k for which it holds. -/
def pick (P : Nat → Bool) (k : Nat) : List Nat := (List.range k).filter P
theorem pick_hit {P : Nat → Bool} {k : Nat} (h : P k = true) : pick P (k + 1) = pick P k ++ [k] := by simp [pick, List.range_succ, List.filter_append, h]
theorem pick_miss {P : Nat → Bool} {k : Nat} (h : P k = false) : pick P (k + 1) = pick P k := by simp [pick, List.range_succ, List.filter_append, h]
theorem pick_le (P : Nat → Bool) (k : Nat) : (pick P k).length ≤ k := Nat.le_trans (List.length_filter_le _ _) (by simp)

theorem app_hit {K K' : List Nat} {k : Nat} {w wr w1 : World} {u v' : Value} {o : Obj} (hK : K' = K ++ [k]) (hB : w.heap.size ≤ wr.heap.size)
    (hown : wr.ownsRow w.heap.size 3 1 u K.length (intsOf K)) (hnx : Below w.heap.size w wr)
    (hown' : w1.ownsRow w.heap.size 3 1 v' (K.length + 1) (intsOf K ++ [.int .i64 (k : Int)])) (hgrow : (wr.alloc o).grownBy w1 u.ownBlock) :
    w1.ownsRow w.heap.size 3 1 v' K'.length (intsOf K') ∧ Below w.heap.size w w1 := by
  rw [hK]
  exact ⟨by simpa [intsOf] using hown', (hnx.alloc hB o).grown hgrow (by simp; omega) (fun j hj => (hown.lt j hj).1)⟩

set_option maxHeartbeats 400000 in
theorem High_any {g n : Nat} {A B : Nat → Nat} (lev : Int) (w : World) (h : Lat w g n A B) :
    Calls Try.prog 17 #[.pointer (some ⟨g, 0, none⟩), .int .i64 lev] w (GivesRow (pick (fun a => !leqB n A a lev) n) w) := by
  obtain ⟨i0, hi, hz0, hz1, hz2⟩ := info_parts Try.info3
  have n8 := h.n8
  go_enter Try.func17, Try.ntmps17
  go_wp2_with fail
  refine (size_any _ h).mono ?_
  rintro e w' ⟨rfl, rfl⟩
  go_wp2_with fail
  go_loopw [5, 9] (fun v i wr => ∃ k : Nat, k ≤ n ∧ i = .int .i64 k ∧ wr.ownsRow w.heap.size 3 1 v (pick (fun a => !leqB n A a lev) k).length (intsOf (pick (fun a => !leqB n A a lev) k)) ∧ Lat wr g n A B ∧ Below w.heap.size w wr) (fun _ i _ => n - (intOf i).toNat)
  case atStart => exact ⟨0, Nat.zero_le _, rfl, ⟨rfl, .inl ⟨rfl, rfl⟩⟩, h, Below.refl _ _⟩
  case round =>
    obtain ⟨k, hk, rfl, hown, hL, hnx⟩ := hrel
    by_cases hlt : k < n
    · have hl := pick_le (fun a => !leqB n A a lev) k
      have hsz := hnx.size
      have hb0 : w.heap.size ≤ w.heap.size := Nat.le_refl _
      cases hc : leqB n A k lev
      · have Hn := Lib.hid (pick_hit (P := fun a => !leqB n A a lev) (k := k) (by simp [hc]))
        have Hc := Lib.hid hc
        clear hc
        generalize pick (fun a => !leqB n A a lev) k = K at *
        go_wp2_with fail
        refine (leq_any _ _ _ hL).mono ?_
        rintro e w' ⟨rfl, rfl⟩
        rw [Hc.out]
        go_wp2_with (at_builtin; refine wpList_append_own _ rfl _ _ 23 rfl w.heap.size 3 i0 (.int .i64 0) 1 8 Try.underlying23 hi hz0 hz1 hz2 rfl (by decide) _ _ _ rfl (hown.alloc _) ⟨_, 0, none⟩ 1 1 [.int .i64 (k : Int)] rfl rfl ?c1 ?c2 ?c3 ?c4 ?c5 ?_)
        case c1 => intro j u hu; match j, hu with | 0, hu => (cases hu; show (wr.alloc _).cell? ⟨wr.heap.size, 0, none⟩ = _; rw [World.cell?_alloc_at _ _ _ _ rfl]; rfl)
        case c2 => simp [Value.oneCell']
        case c3 => unfold maxLen; omega
        case c4 => omega
        case c5 => simp; omega
        intro v' w1 hown1 hgrow _
        obtain ⟨g1, g2⟩ := app_hit Hn.out hsz hown hnx hown1 hgrow
        have hL1 : Lat w1 g n A B := h.keep g2
        clear hown1 hgrow hown hnx hL
        go_wp2_with fail
        go_roundw
        case rel => exact ⟨k + 1, by omega, by go_num, g1, hL1, g2⟩
        case measure => simp [intOf]; omega
      · have Hn := Lib.hid (pick_miss (P := fun a => !leqB n A a lev) (k := k) (by simp [hc]))
        have Hc := Lib.hid hc
        clear hc
        go_wp2_with fail
        refine (leq_any _ _ _ hL).mono ?_
        rintro e w' ⟨rfl, rfl⟩
        rw [Hc.out]
        go_wp2_with fail
        go_roundw
        case rel => exact ⟨k + 1, by omega, by go_num, by rw [Hn.out]; exact hown, hL, hnx⟩
        case measure => simp [intOf]; omega
    · obtain rfl : k = n := by omega
      go_wp2_with fail
      go_ret
      exact ⟨_, rfl, hown, hnx⟩

theorem High_nil (lev : Int) (w : World) : Calls Try.prog 17 #[.pointer none, .int .i64 lev] w fun e w' => e = .returned (.slice none 0 0) ∧ w = w' := by
  go_enter Try.func17, Try.ntmps17
  go_wp2_with fail
  refine (size_nil _).mono ?_
  rintro e w' ⟨rfl, rfl⟩
  go_wp2_with fail
  go_loop [5, 9] (fun v i => i = .int .i64 0 ∧ v = .slice none 0 0) (fun _ _ => 0)
  case atStart => exact ⟨rfl, rfl⟩
  case round =>
    obtain ⟨rfl, rfl⟩ := hrel
    go_wp2_with fail
    go_ret
    exact ⟨rfl, rfl⟩

set_option maxHeartbeats 400000 in
theorem Visible_any {g n : Nat} {A B : Nat → Nat} (lev : Int) (C : Option Addr) (len cap : Nat) (f : Nat → Int) (w : World) (hlen : len ≤ 1000) (h : Lat w g n A B) (hR : Rd w w.heap.size C len f) :
    Calls Try.prog 15 #[.pointer (some ⟨g, 0, none⟩), .int .i64 lev, .slice C len cap] w (GivesRow (pick (fun i => leqB n A (f i) lev) len) w) := by
  obtain ⟨i0, hi, hz0, hz1, hz2⟩ := info_parts Try.info3
  go_enter Try.func15, Try.ntmps15
  go_wp2_with fail
  go_loopw [7, 12] (fun v i wr => ∃ k : Nat, k ≤ len ∧ i = .int .i64 k ∧ wr.ownsRow w.heap.size 3 1 v (pick (fun i => leqB n A (f i) lev) k).length (intsOf (pick (fun i => leqB n A (f i) lev) k)) ∧ Lat wr g n A B ∧ Below w.heap.size w wr) (fun _ i _ => len - (intOf i).toNat)
  case atStart => exact ⟨0, Nat.zero_le _, rfl, ⟨rfl, .inl ⟨rfl, rfl⟩⟩, h, Below.refl _ _⟩
  case round =>
    obtain ⟨k, hk, rfl, hown, hL, hnx⟩ := hrel
    by_cases hlt : k < len
    · have hl := pick_le (fun i => leqB n A (f i) lev) k
      have hsz := hnx.size
      obtain ⟨g1, o1, rfl, hg1, hc1⟩ := hR (by omega)
      have d1 := (hnx.cell (p := ⟨g1, o1 + k, none⟩) hg1).trans (hc1 k hlt)
      clear hR hc1
      cases hc : leqB n A (f k) lev
      · have Hn := Lib.hid (pick_miss (P := fun i => leqB n A (f i) lev) (k := k) (by simp [hc]))
        have Hc := Lib.hid hc
        clear hc
        go_wp2_with fail
        refine (leq_any _ _ _ hL).mono ?_
        rintro e w' ⟨rfl, rfl⟩
        rw [Hc.out]
        go_wp2_with fail
        go_roundw
        case rel => exact ⟨k + 1, by omega, by go_num, by rw [Hn.out]; exact hown, hL, hnx⟩
        case measure => simp [intOf]; omega
      · have Hn := Lib.hid (pick_hit (P := fun i => leqB n A (f i) lev) (k := k) (by simp [hc]))
        have Hc := Lib.hid hc
        clear hc
        generalize pick (fun i => leqB n A (f i) lev) k = K at *
        go_wp2_with fail
        refine (leq_any _ _ _ hL).mono ?_
        rintro e w' ⟨rfl, rfl⟩
        rw [Hc.out]
        go_wp2_with (at_builtin; refine wpList_append_own _ rfl _ _ 23 rfl w.heap.size 3 i0 (.int .i64 0) 1 8 Try.underlying23 hi hz0 hz1 hz2 rfl (by decide) _ _ _ rfl (hown.alloc _) ⟨_, 0, none⟩ 1 1 [.int .i64 (k : Int)] rfl rfl ?c1 ?c2 ?c3 ?c4 ?c5 ?_)
        case c1 => intro j u hu; match j, hu with | 0, hu => (cases hu; show (wr.alloc _).cell? ⟨wr.heap.size, 0, none⟩ = _; rw [World.cell?_alloc_at _ _ _ _ rfl]; rfl)
        case c2 => simp [Value.oneCell']
        case c3 => unfold maxLen; omega
        case c4 => omega
        case c5 => simp; omega
        intro v' w1 hown1 hgrow _
        obtain ⟨g1, g2⟩ := app_hit Hn.out hsz hown hnx hown1 hgrow
        have hL1 : Lat w1 g n A B := h.keep g2
        clear hown1 hgrow hown hnx hL
        go_wp2_with fail
        go_roundw
        case rel => exact ⟨k + 1, by omega, by go_num, g1, hL1, g2⟩
        case measure => simp [intOf]; omega
    · obtain rfl : k = len := by omega
      go_wp2_with fail
      go_ret
      exact ⟨_, rfl, hown, hnx⟩

theorem Visible_nil (lev : Int) (C : Option Addr) (len cap : Nat) (f : Nat → Int) (w : World) (hlen : len ≤ maxLen) (hR : Rd w w.heap.size C len f) :
    Calls Try.prog 15 #[.pointer none, .int .i64 lev, .slice C len cap] w fun e w' => e = .returned (.slice none 0 0) ∧ w = w' := by
  unfold maxLen at hlen
  go_enter Try.func15, Try.ntmps15
  go_wp2_with fail
  go_loop [7, 12] (fun v i => ∃ k : Nat, k ≤ len ∧ i = .int .i64 k ∧ v = .slice none 0 0) (fun _ i => len - (intOf i).toNat)
  case atStart => exact ⟨0, Nat.zero_le _, rfl, rfl⟩
  case round =>
    obtain ⟨k, hk, rfl, rfl⟩ := hrel
    by_cases hlt : k < len
    · obtain ⟨g1, o1, rfl, hg1, hc1⟩ := hR (by omega)
      have d1 := hc1 k hlt
      clear hR hc1
      go_wp2_with fail
      refine (leq_nil _ _ _).mono ?_
      rintro e w' ⟨rfl, rfl⟩
      go_wp2_with fail
      go_round
      case rel => exact ⟨k + 1, by omega, by go_num, rfl⟩
      case measure => simp [intOf]; omega
    · obtain rfl : k = len := by omega
      go_wp2_with fail
      go_ret
      exact ⟨rfl, rfl⟩
end Go.Proofs.Ytmnbalmihehodaa
