/-
  Contracts of basculeref01: Join, Meet.
-/
import Derived.Test.YtmnbalmihehodaaRef
namespace Go.Proofs.Ytmnbalmihehodaa
open Go.RowKit

/-- Is c below whatever is above both? (the first k) -/
def lstK (L : Nat → Nat → Bool) (a b c k : Nat) : Bool := (List.range k).all fun d => !(L a d && L b d && !L c d)
theorem lstK_succ (L : Nat → Nat → Bool) (a b c k : Nat) : lstK L a b c (k + 1) = (lstK L a b c k && !(L a k && L b k && !L c k)) := by simp [lstK, List.range_succ]
/-- Is c the join of a and b? -/
def isJ (n : Nat) (L : Nat → Nat → Bool) (a b c : Nat) : Bool := L a c && (L b c && lstK L a b c n)
/-- The document's join, if there is one. -/
def rJ (n : Nat) (L : Nat → Nat → Bool) (a b : Nat) : Option Nat := (List.range n).find? (isJ n L a b)
def NoJ (n : Nat) (L : Nat → Nat → Bool) (a b k : Nat) : Prop := ∀ d, d < k → isJ n L a b d = false
theorem rJ_some {n k : Nat} {L : Nat → Nat → Bool} {a b : Nat} (hk : k < n) (h : isJ n L a b k = true) (hno : NoJ n L a b k) : rJ n L a b = some k := by
  unfold rJ
  rw [List.find?_range_eq_some]
  exact ⟨h, by simpa using hk, fun j hj => by simpa using hno j hj⟩
theorem rJ_none {n : Nat} {L : Nat → Nat → Bool} {a b : Nat} (hno : NoJ n L a b n) : rJ n L a b = none := by
  unfold rJ
  rw [List.find?_eq_none]
  intro d hd
  simpa using hno d (by simpa using hd)
theorem NoJ.step {n k : Nat} {L : Nat → Nat → Bool} {a b : Nat} (h : NoJ n L a b k) (hk : isJ n L a b k = false) : NoJ n L a b (k + 1) := fun d hd => by
  by_cases e : d = k
  · subst e; exact hk
  · exact h d (by omega)
/-- What the call answers: -1 where there is none. -/
def rV : Option Nat → Int
  | some c => c
  | none => -1
/-- The table turned round. -/
def flip (L : Nat → Nat → Bool) : Nat → Nat → Bool := fun x y => L y x

set_option maxHeartbeats 1000000 in
theorem rJoin_any {cs : Array Value} {n : Nat} {L : Nat → Nat → Bool} (a b : Nat) (w : World) (h : RLat cs n L) (ha : a < n) (hb : b < n) :
    Calls Try.prog 35 #[.agg cs, .int .i64 a, .int .i64 b] w fun e w' => e = .returned (.int .i64 (rV (rJ n L a b))) ∧ Below w.heap.size w w' := by
  have hg : (w.alloc (.cells cs 28)).heap[w.heap.size]? = some (.cells cs 28 (0, 0)) := heap_alloc_new w _
  have hbw : Below w.heap.size w (w.alloc (.cells cs 28)) := (Below.refl _ _).alloc (Nat.le_refl _) _
  have n8 := h.n8
  have hn := (cell_of_heap hg 0).trans h.num
  have ht : ∀ x y, x < 8 → y < 8 → (w.alloc (.cells cs 28)).cell? ⟨w.heap.size, 1 + x * 8 + y, none⟩ = some (.bool (L x y)) := fun x y hx hy => (cell_of_heap hg _).trans (h.tab x y hx hy)
  have Ht := Lib.hid ht
  clear ht hg
  go_enter Try.func35, Try.ntmps35
  go_wp2_with fail
  go_loop [7] (fun i => ∃ c : Nat, c ≤ n ∧ i = .int .i64 c ∧ Hid (NoJ n L a b c)) (fun i => n - (intOf i).toNat)
  case atStart => exact ⟨0, Nat.zero_le _, rfl, fun d hd => absurd hd (Nat.not_lt_zero _)⟩
  case round =>
    obtain ⟨c, hc, rfl, hno⟩ := hrel
    by_cases hlt : c < n
    · have t1 := Ht.out a c (by omega) (by omega)
      have t2 := Ht.out b c (by omega) (by omega)
      cases hac : L a c
      · have Hn := Lib.hid (hno.out.step (show isJ n L a b c = false by simp [isJ, hac]))
        rw [hac] at t1
        clear hac
        go_wp2_with fail
        go_round
        case rel => exact ⟨c + 1, by omega, by go_num, Hn⟩
        case measure => simp [intOf]; omega
      cases hbc : L b c
      · have Hn := Lib.hid (hno.out.step (show isJ n L a b c = false by simp [isJ, hbc]))
        rw [hac] at t1
        rw [hbc] at t2
        clear hac hbc
        go_wp2_with fail
        go_round
        case rel => exact ⟨c + 1, by omega, by go_num, Hn⟩
        case measure => simp [intOf]; omega
      · have Hj : Hid (isJ n L a b c = lstK L a b c n) := Lib.hid (by simp [isJ, hac, hbc])
        rw [hac] at t1
        rw [hbc] at t2
        clear hac hbc
        go_wp2_with fail
        clear t1 t2
        go_loop [8, 9] (fun s i => ∃ d : Nat, d ≤ n ∧ i = .int .i64 d ∧ s = .bool (lstK L a b c d)) (fun _ i => n - (intOf i).toNat)
        case atStart => exact ⟨0, Nat.zero_le _, rfl, rfl⟩
        case round =>
          obtain ⟨d, hd, rfl, rfl⟩ := hrel
          by_cases hld : d < n
          · have t1 := Ht.out a d (by omega) (by omega)
            have t2 := Ht.out b d (by omega) (by omega)
            have t3 := Ht.out c d (by omega) (by omega)
            cases h1 : L a d
            · have Hs : Hid (lstK L a b c (d + 1) = lstK L a b c d) := Lib.hid (by rw [lstK_succ]; simp [h1])
              rw [h1] at t1
              clear h1 t2 t3
              go_wp2_with fail
              go_round
              case rel => exact ⟨d + 1, by omega, by go_num, by rw [Hs.out]⟩
              case measure => simp [intOf]; omega
            cases h2 : L b d
            · have Hs : Hid (lstK L a b c (d + 1) = lstK L a b c d) := Lib.hid (by rw [lstK_succ]; simp [h2])
              rw [h1] at t1
              rw [h2] at t2
              clear h1 h2 t3
              go_wp2_with fail
              go_round
              case rel => exact ⟨d + 1, by omega, by go_num, by rw [Hs.out]⟩
              case measure => simp [intOf]; omega
            cases h3 : L c d
            · have Hs : Hid (lstK L a b c (d + 1) = false) := Lib.hid (by rw [lstK_succ]; simp [h1, h2, h3])
              rw [h1] at t1
              rw [h2] at t2
              rw [h3] at t3
              clear h1 h2 h3
              go_wp2_with fail
              go_round
              case rel => exact ⟨d + 1, by omega, by go_num, by rw [Hs.out]⟩
              case measure => simp [intOf]; omega
            · have Hs : Hid (lstK L a b c (d + 1) = lstK L a b c d) := Lib.hid (by rw [lstK_succ]; simp [h3])
              rw [h1] at t1
              rw [h2] at t2
              rw [h3] at t3
              clear h1 h2 h3
              go_wp2_with fail
              go_round
              case rel => exact ⟨d + 1, by omega, by go_num, by rw [Hs.out]⟩
              case measure => simp [intOf]; omega
          · obtain rfl : d = n := by omega
            clear hld hd
            cases hl : lstK L a b c d
            · have Hn := Lib.hid (hno.out.step (show isJ d L a b c = false by rw [Hj.out, hl]))
              clear hl
              go_wp2_with fail
              go_round
              case rel => exact ⟨c + 1, by omega, by go_num, Hn⟩
              case measure => simp [intOf]; omega
            · have Hf := Lib.hid (rJ_some hlt (show isJ d L a b c = true by rw [Hj.out, hl]) hno.out)
              clear hl
              go_wp2_with fail
              go_ret
              exact ⟨by rw [Hf.out]; rfl, hbw⟩
    · obtain rfl : c = n := by omega
      have Hf := Lib.hid (rJ_none hno.out)
      go_wp2_with fail
      go_ret
      exact ⟨by rw [Hf.out]; rfl, hbw⟩

set_option maxHeartbeats 1000000 in
theorem rMeet_any {cs : Array Value} {n : Nat} {L : Nat → Nat → Bool} (a b : Nat) (w : World) (h : RLat cs n L) (ha : a < n) (hb : b < n) :
    Calls Try.prog 34 #[.agg cs, .int .i64 a, .int .i64 b] w fun e w' => e = .returned (.int .i64 (rV (rJ n (flip L) a b))) ∧ Below w.heap.size w w' := by
  have hg : (w.alloc (.cells cs 28)).heap[w.heap.size]? = some (.cells cs 28 (0, 0)) := heap_alloc_new w _
  have hbw : Below w.heap.size w (w.alloc (.cells cs 28)) := (Below.refl _ _).alloc (Nat.le_refl _) _
  have n8 := h.n8
  have hn := (cell_of_heap hg 0).trans h.num
  have ht : ∀ x y, x < 8 → y < 8 → (w.alloc (.cells cs 28)).cell? ⟨w.heap.size, 1 + x * 8 + y, none⟩ = some (.bool (L x y)) := fun x y hx hy => (cell_of_heap hg _).trans (h.tab x y hx hy)
  have Ht := Lib.hid ht
  clear ht hg
  go_enter Try.func34, Try.ntmps34
  go_wp2_with fail
  go_loop [7] (fun i => ∃ c : Nat, c ≤ n ∧ i = .int .i64 c ∧ Hid (NoJ n (flip L) a b c)) (fun i => n - (intOf i).toNat)
  case atStart => exact ⟨0, Nat.zero_le _, rfl, fun d hd => absurd hd (Nat.not_lt_zero _)⟩
  case round =>
    obtain ⟨c, hc, rfl, hno⟩ := hrel
    by_cases hlt : c < n
    · have t1 := Ht.out c a (by omega) (by omega)
      have t2 := Ht.out c b (by omega) (by omega)
      cases hac : L c a
      · have Hn := Lib.hid (hno.out.step (show isJ n (flip L) a b c = false by simp [isJ, flip, hac]))
        rw [hac] at t1
        clear hac
        go_wp2_with fail
        go_round
        case rel => exact ⟨c + 1, by omega, by go_num, Hn⟩
        case measure => simp [intOf]; omega
      cases hbc : L c b
      · have Hn := Lib.hid (hno.out.step (show isJ n (flip L) a b c = false by simp [isJ, flip, hbc]))
        rw [hac] at t1
        rw [hbc] at t2
        clear hac hbc
        go_wp2_with fail
        go_round
        case rel => exact ⟨c + 1, by omega, by go_num, Hn⟩
        case measure => simp [intOf]; omega
      · have Hj : Hid (isJ n (flip L) a b c = lstK (flip L) a b c n) := Lib.hid (by simp [isJ, flip, hac, hbc])
        rw [hac] at t1
        rw [hbc] at t2
        clear hac hbc
        go_wp2_with fail
        clear t1 t2
        go_loop [8, 9] (fun s i => ∃ d : Nat, d ≤ n ∧ i = .int .i64 d ∧ s = .bool (lstK (flip L) a b c d)) (fun _ i => n - (intOf i).toNat)
        case atStart => exact ⟨0, Nat.zero_le _, rfl, rfl⟩
        case round =>
          obtain ⟨d, hd, rfl, rfl⟩ := hrel
          by_cases hld : d < n
          · have t1 := Ht.out d a (by omega) (by omega)
            have t2 := Ht.out d b (by omega) (by omega)
            have t3 := Ht.out d c (by omega) (by omega)
            cases h1 : L d a
            · have Hs : Hid (lstK (flip L) a b c (d + 1) = lstK (flip L) a b c d) := Lib.hid (by rw [lstK_succ]; simp [flip, h1])
              rw [h1] at t1
              clear h1 t2 t3
              go_wp2_with fail
              go_round
              case rel => exact ⟨d + 1, by omega, by go_num, by rw [Hs.out]⟩
              case measure => simp [intOf]; omega
            cases h2 : L d b
            · have Hs : Hid (lstK (flip L) a b c (d + 1) = lstK (flip L) a b c d) := Lib.hid (by rw [lstK_succ]; simp [flip, h2])
              rw [h1] at t1
              rw [h2] at t2
              clear h1 h2 t3
              go_wp2_with fail
              go_round
              case rel => exact ⟨d + 1, by omega, by go_num, by rw [Hs.out]⟩
              case measure => simp [intOf]; omega
            cases h3 : L d c
            · have Hs : Hid (lstK (flip L) a b c (d + 1) = false) := Lib.hid (by rw [lstK_succ]; simp [flip, h1, h2, h3])
              rw [h1] at t1
              rw [h2] at t2
              rw [h3] at t3
              clear h1 h2 h3
              go_wp2_with fail
              go_round
              case rel => exact ⟨d + 1, by omega, by go_num, by rw [Hs.out]⟩
              case measure => simp [intOf]; omega
            · have Hs : Hid (lstK (flip L) a b c (d + 1) = lstK (flip L) a b c d) := Lib.hid (by rw [lstK_succ]; simp [flip, h3])
              rw [h1] at t1
              rw [h2] at t2
              rw [h3] at t3
              clear h1 h2 h3
              go_wp2_with fail
              go_round
              case rel => exact ⟨d + 1, by omega, by go_num, by rw [Hs.out]⟩
              case measure => simp [intOf]; omega
          · obtain rfl : d = n := by omega
            clear hld hd
            cases hl : lstK (flip L) a b c d
            · have Hn := Lib.hid (hno.out.step (show isJ d (flip L) a b c = false by rw [Hj.out, hl]))
              clear hl
              go_wp2_with fail
              go_round
              case rel => exact ⟨c + 1, by omega, by go_num, Hn⟩
              case measure => simp [intOf]; omega
            · have Hf := Lib.hid (rJ_some hlt (show isJ d (flip L) a b c = true by rw [Hj.out, hl]) hno.out)
              clear hl
              go_wp2_with fail
              go_ret
              exact ⟨by rw [Hf.out]; rfl, hbw⟩
    · obtain rfl : c = n := by omega
      have Hf := Lib.hid (rJ_none hno.out)
      go_wp2_with fail
      go_ret
      exact ⟨by rw [Hf.out]; rfl, hbw⟩
end Go.Proofs.Ytmnbalmihehodaa
