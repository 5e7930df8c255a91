/-
  The contract of closeOrder.
-/
import Derived.Test.YtmnbalmihehodaaTurn
import Derived.StillTailTactics
namespace Go.Proofs.Ytmnbalmihehodaa
open Go.RowKit

def iniK : Nat → (Nat → Nat)
  | 0 => fun _ => 0
  | k + 1 => upd (iniK k) k (bt k)
def prsK (p q : Nat → Int) (R : Nat → Nat) : Nat → (Nat → Nat)
  | 0 => R
  | k + 1 => upd (prsK p q R k) (p k).toNat (prsK p q R k (p k).toNat ||| bt (q k).toNat)
def warIn (m : Nat) (R : Nat → Nat) : Nat → (Nat → Nat)
  | 0 => R
  | a + 1 => if (warIn m R a a).testBit m then upd (warIn m R a) a (warIn m R a a ||| warIn m R a m) else warIn m R a
def warK (n : Nat) (R : Nat → Nat) : Nat → (Nat → Nat)
  | 0 => R
  | m + 1 => warIn m (warK n R m) n
/-- The sets of the closed order. -/
def closed (n len : Nat) (p q : Nat → Int) : Nat → Nat := warK n (prsK p q (iniK n) len) n

theorem iniK_lt : ∀ k, k ≤ 8 → ∀ i, iniK k i < 256 := by
  intro k
  induction k with
  | zero => intro _ i; exact Nat.zero_lt_of_lt (show 0 < 256 by omega)
  | succ k ih => intro hk; exact upd_lt (ih (by omega)) (bt_lt (by omega))
theorem prsK_lt {p q : Nat → Int} {R : Nat → Nat} (hR : ∀ i, R i < 256) : ∀ k, (∀ i, i < k → (q i).toNat < 8) → ∀ i, prsK p q R k i < 256 := by
  intro k
  induction k with
  | zero => intro _; exact hR
  | succ k ih => intro h; exact upd_lt (ih fun i hi => h i (by omega)) (or_lt (ih (fun i hi => h i (by omega)) _) (bt_lt (h k (by omega))))
theorem warIn_lt {m : Nat} {R : Nat → Nat} (hR : ∀ i, R i < 256) : ∀ a i, warIn m R a i < 256 := by
  intro a
  induction a with
  | zero => exact hR
  | succ a ih =>
    unfold warIn
    split
    · exact upd_lt ih (or_lt (ih _) (ih _))
    · exact ih
theorem warK_lt {n : Nat} {R : Nat → Nat} (hR : ∀ i, R i < 256) : ∀ m i, warK n R m i < 256 := by
  intro m
  induction m with
  | zero => exact hR
  | succ m ih => exact warIn_lt ih n

theorem lcells_up (n : Nat) (A B : Nat → Nat) (v : Nat) : ∀ i, i < 8 → (lcells n A B).setIfInBounds (1 + i) (.int .u8 v) = lcells n (upd A i v) B :=
  nat_cases8 rfl rfl rfl rfl rfl rfl rfl rfl

/-- The world amid closeOrder. -/
structure CloseW (w wr : World) (n : Nat) (R : Nat → Nat) : Prop where
  below : Below w.heap.size w wr
  size : w.heap.size + 1 ≤ wr.heap.size
  acc : wr.heap[w.heap.size]? = some (.cells (lcells n R fun _ => 0) 69 (0, 0))

theorem CloseW.start (w : World) (n : Nat) : CloseW w (w.alloc (.cells (lcells n (fun _ => 0) fun _ => 0) 69)) n (iniK 0) :=
  ⟨(Below.refl _ _).alloc (Nat.le_refl _) _, by simp, heap_alloc_new _ _⟩
theorem CloseW.set {w wr : World} {n : Nat} {R : Nat → Nat} (h : CloseW w wr n R) {i : Nat} (hi : i < 8) (v : Nat) :
    CloseW w (wr.setCell ⟨w.heap.size, 1 + i, none⟩ (.int .u8 v)) n (upd R i v) :=
  ⟨h.below.setCell (Nat.le_refl _) _, by simpa [World.setCell] using h.size, by rw [heap_set h.acc, lcells_up _ _ _ _ _ hi]⟩
theorem CloseW.drew {w wr : World} {n : Nat} {R : Nat → Nat} (h : CloseW w wr n R) : CloseW w wr.drew n R := ⟨h.below.drew, h.size, h.acc⟩
theorem CloseW.alloc {w wr : World} {n : Nat} {R : Nat → Nat} (h : CloseW w wr n R) (o : Obj) : CloseW w (wr.alloc o) n R :=
  ⟨h.below.alloc (by have := h.size; omega) o, by have := h.size; simp; omega, by rw [Below.heap_alloc _ _ _ (by have := h.size; omega)]; exact h.acc⟩
theorem lcells_at (n : Nat) (A B : Nat → Nat) : ∀ i, i < 8 → (lcells n A B)[1 + i]? = some (.int .u8 (A i)) := nat_cases8 rfl rfl rfl rfl rfl rfl rfl rfl
theorem CloseW.cell {w wr : World} {n : Nat} {R : Nat → Nat} (h : CloseW w wr n R) {i : Nat} (hi : i < 8) : wr.cell? ⟨w.heap.size, 1 + i, none⟩ = some (.int .u8 (R i)) :=
  (cell_of_heap h.acc _).trans (lcells_at _ _ _ i hi)
theorem CloseW.free {w wr : World} {n : Nat} {R : Nat → Nat} (h : CloseW w wr n R) (i : Nat) : wr.frozen? ⟨w.heap.size, i, none⟩ = false := frozen_of_heap h.acc i

theorem bit_still (a : Int) (h0 : 0 ≤ a) (h1 : a < 8) (w : World) : Calls Try.prog 50 #[.int .i64 a] w fun e w' => e = .returned (.int .u8 (bt a.toNat)) ∧ w' = w :=
  (bit_any a h0 h1 w).mono fun _ _ h => ⟨h.1, h.2.symm⟩

theorem lat_cells {w : World} {g n : Nat} {t : TypeId} {A B : Nat → Nat} (h : w.heap[g]? = some (.cells (lcells n A B) t (0, 0))) :
    w.cell? ⟨g, 0, none⟩ = some (.int .i64 n) ∧ w.cell? ⟨g, 1, none⟩ = some (.int .u8 (A 0)) ∧ w.cell? ⟨g, 2, none⟩ = some (.int .u8 (A 1)) ∧ w.cell? ⟨g, 3, none⟩ = some (.int .u8 (A 2)) ∧
    w.cell? ⟨g, 4, none⟩ = some (.int .u8 (A 3)) ∧ w.cell? ⟨g, 5, none⟩ = some (.int .u8 (A 4)) ∧ w.cell? ⟨g, 6, none⟩ = some (.int .u8 (A 5)) ∧ w.cell? ⟨g, 7, none⟩ = some (.int .u8 (A 6)) ∧ w.cell? ⟨g, 8, none⟩ = some (.int .u8 (A 7)) :=
  ⟨cell_of_heap h 0, cell_of_heap h 1, cell_of_heap h 2, cell_of_heap h 3, cell_of_heap h 4, cell_of_heap h 5, cell_of_heap h 6, cell_of_heap h 7, cell_of_heap h 8⟩

theorem lat_low {w : World} {g n : Nat} {t : TypeId} {A B : Nat → Nat} (h : w.heap[g]? = some (.cells (lcells n A B) t (0, 0))) :
    w.cell? ⟨g, 9, none⟩ = some (.int .u8 (B 0)) ∧ w.cell? ⟨g, 10, none⟩ = some (.int .u8 (B 1)) ∧ w.cell? ⟨g, 11, none⟩ = some (.int .u8 (B 2)) ∧
    w.cell? ⟨g, 12, none⟩ = some (.int .u8 (B 3)) ∧ w.cell? ⟨g, 13, none⟩ = some (.int .u8 (B 4)) ∧ w.cell? ⟨g, 14, none⟩ = some (.int .u8 (B 5)) ∧ w.cell? ⟨g, 15, none⟩ = some (.int .u8 (B 6)) ∧ w.cell? ⟨g, 16, none⟩ = some (.int .u8 (B 7)) :=
  ⟨cell_of_heap h 9, cell_of_heap h 10, cell_of_heap h 11, cell_of_heap h 12, cell_of_heap h 13, cell_of_heap h 14, cell_of_heap h 15, cell_of_heap h 16⟩
theorem lat_free {w : World} {g : Nat} {t : TypeId} {cs : Array Value} (h : w.heap[g]? = some (.cells cs t (0, 0))) :
    w.frozen? ⟨g, 9, none⟩ = false ∧ w.frozen? ⟨g, 10, none⟩ = false ∧ w.frozen? ⟨g, 11, none⟩ = false ∧ w.frozen? ⟨g, 12, none⟩ = false ∧
    w.frozen? ⟨g, 13, none⟩ = false ∧ w.frozen? ⟨g, 14, none⟩ = false ∧ w.frozen? ⟨g, 15, none⟩ = false ∧ w.frozen? ⟨g, 16, none⟩ = false :=
  ⟨frozen_of_heap h 9, frozen_of_heap h 10, frozen_of_heap h 11, frozen_of_heap h 12, frozen_of_heap h 13, frozen_of_heap h 14, frozen_of_heap h 15, frozen_of_heap h 16⟩
/-- The eight cells of 'below' stored. -/
def low8 (w : World) (g : Nat) (A : Nat → Nat) : World :=
  ((((((((w.setCell ⟨g, 9, none⟩ (.int .u8 (A 0))).setCell ⟨g, 10, none⟩ (.int .u8 (A 1))).setCell ⟨g, 11, none⟩ (.int .u8 (A 2))).setCell ⟨g, 12, none⟩ (.int .u8 (A 3))).setCell ⟨g, 13, none⟩ (.int .u8 (A 4))).setCell
    ⟨g, 14, none⟩ (.int .u8 (A 5))).setCell ⟨g, 15, none⟩ (.int .u8 (A 6))).setCell ⟨g, 16, none⟩ (.int .u8 (A 7)))
theorem low8_res {w : World} {g n : Nat} {t : TypeId} {R B : Nat → Nat} (h : w.heap[g]? = some (.cells (lcells n R B) t (0, 0))) (A : Nat → Nat) :
    (low8 w g A).heap[g]? = some (.cells (lcells n R A) t (0, 0)) := by
  unfold low8
  rw [heap_set (heap_set (heap_set (heap_set (heap_set (heap_set (heap_set (heap_set h 9 _) 10 _) 11 _) 12 _) 13 _) 14 _) 15 _) 16 _]
  simp [lcells]
theorem low8_below {B g : Nat} {w wr : World} (h : Below B w wr) (hg : B ≤ g) (A : Nat → Nat) : Below B w (low8 wr g A) :=
  (((((((h.setCell hg _).setCell hg _).setCell hg _).setCell hg _).setCell hg _).setCell hg _).setCell hg _).setCell hg _

theorem okK_at {n : Int} {p q : Nat → Int} {len j : Nat} (h : okK n p q len = true) (hj : j < len) : 0 ≤ p j ∧ p j < n ∧ 0 ≤ q j ∧ q j < n := by
  simp only [okK, List.all_eq_true, List.mem_range, Bool.and_eq_true, decide_eq_true_eq] at h
  obtain ⟨⟨a, b⟩, c, d⟩ := h j hj
  exact ⟨a, b, c, d⟩

set_option maxRecDepth 100000 in
set_option maxHeartbeats 2000000 in
theorem close_any (n : Nat) (A : Option Addr) (len cap : Nat) (p q : Nat → Int) (w : World) (h1 : 1 ≤ n) (h2 : n ≤ 8) (hlen : len ≤ 64) (hp : Prs w w.heap.size A len p q) (hok : okK n p q len = true) :
    Calls Try.prog 44 #[.int .i64 n, .slice A len cap] w fun e w' => e = .returned (.pointer (some ⟨w.heap.size, 0, none⟩)) ∧ Below w.heap.size w w' ∧ Lat w' w.heap.size n (closed n len p q) (turnK n (closed n len p q) n) := by
  have Hok := Lib.hid hok
  clear hok
  go_enter Try.func44, Try.ntmps44
  go_wp2_with fail
  go_loopw [15] (fun i wr => ∃ k : Nat, k ≤ n ∧ i = .int .i64 k ∧ CloseW w wr n (iniK k)) (fun i _ => n - (intOf i).toNat)
  case atStart => exact ⟨0, Nat.zero_le _, rfl, CloseW.start w n⟩
  case round =>
    obtain ⟨k, hk, rfl, hI⟩ := hrel
    by_cases hlt : k < n
    · have hc := hI.cell (i := k) (by omega)
      have hf := hI.free (1 + k)
      have hk8 : (k : Int) < 8 := by omega
      have hk0 : (0 : Int) ≤ k := by omega
      go_wp2_with fail
      refine wp_region_still_tail 7 (by kernel_rfl) (by kernel_rfl) ?_
      simp only [List.take_succ_cons, List.take_zero, List.drop_succ_cons, List.drop_zero]
      repeat still_step
      still_call (bit_still _ (by omega) (by omega) _)
      repeat still_step
      refine wpStill_nil ?_
      change wpList _ _ _ _ _ wr.drew
      go_wp2_with fail
      go_roundw
      case rel => exact ⟨k + 1, by omega, by go_num, by first | exact (hI.set (by omega) _).drew | exact hI.drew.set (by omega) _⟩
      case measure => simp [intOf]; omega
    · obtain rfl : k = n := by omega
      clear hlt hk
      go_wp2_with fail
      have hini := iniK_lt k h2
      go_loopw [28] (fun i wr => ∃ j : Nat, j ≤ len ∧ i = .int .i64 j ∧ CloseW w wr k (prsK p q (iniK k) j)) (fun i _ => len - (intOf i).toNat)
      case atStart => exact ⟨0, Nat.zero_le _, rfl, hI⟩
      case round =>
        obtain ⟨j, hj, rfl, hP⟩ := hrel
        clear hI
        by_cases hlt : j < len
        · obtain ⟨g, off, rfl, hg, hc⟩ := hp (by omega)
          obtain ⟨c0, c1⟩ := hc j hlt
          have d0 := (hP.below.cell (p := ⟨g, off + j * 2, none⟩) hg).trans c0
          have d1 := (hP.below.cell (p := ⟨g, off + j * 2 + 1, none⟩) hg).trans c1
          obtain ⟨b0, b1, b2, b3⟩ := okK_at Hok.out hlt
          have b1' : p j < 8 := by omega
          have b3' : q j < 8 := by omega
          have hpl := prsK_lt (p := p) (q := q) hini j (fun i hi => by have := okK_at Hok.out (show i < len by omega); omega) (p j).toNat
          have hor := u8_or_nat (prsK p q (iniK k) j (p j).toNat) (bt (q j).toNat) hpl (bt_lt (by omega))
          have hA := hP.alloc (.cells #[.int .i64 (p j), .int .i64 (q j)] 51)
          have e0 : (wr.alloc (.cells #[.int .i64 (p j), .int .i64 (q j)] 51)).cell? ⟨wr.heap.size, 0, none⟩ = some (.int .i64 (p j)) := cell_of_heap (heap_alloc_new _ _) 0
          have e1 : (wr.alloc (.cells #[.int .i64 (p j), .int .i64 (q j)] 51)).cell? ⟨wr.heap.size, 1, none⟩ = some (.int .i64 (q j)) := cell_of_heap (heap_alloc_new _ _) 1
          clear hc c0 c1 hp
          go_wp2_with fail
          clear d0 d1 hP hpl
          generalize wr.alloc (.cells #[.int .i64 (p j), .int .i64 (q j)] 51) = w2 at *
          generalize wr.heap.size = s2 at *
          have hcc := hA.cell (i := (p j).toNat) (by omega)
          have hff := hA.free (1 + (p j).toNat)
          refine wp_region_still_tail 14 (by kernel_rfl) (by kernel_rfl) ?_
          simp only [List.take_succ_cons, List.take_zero, List.drop_succ_cons, List.drop_zero]
          repeat still_step
          still_call (bit_still _ b2 b3' _)
          repeat still_step
          refine wpStill_nil ?_
          change wpList _ _ _ _ _ w2.drew
          go_wp2_with fail
          go_roundw
          case rel => exact ⟨j + 1, by omega, by go_num, by first | exact (hA.set (by omega) _).drew | exact hA.drew.set (by omega) _⟩
          case measure => simp [intOf]; omega
        · obtain rfl : j = len := by omega
          clear hlt hj
          have hpl := prsK_lt (p := p) (q := q) hini j (fun i hi => by have := okK_at Hok.out hi; omega)
          go_wp2_with fail
          go_loopw [48] (fun i wr => ∃ m : Nat, m ≤ k ∧ i = .int .i64 m ∧ CloseW w wr k (warK k (prsK p q (iniK k) j) m)) (fun i _ => k - (intOf i).toNat)
          case atStart => exact ⟨0, Nat.zero_le _, rfl, hP⟩
          case round =>
            obtain ⟨m, hm, rfl, hQ⟩ := hrel
            clear hP
            by_cases hlt : m < k
            · obtain ⟨wo, rfl⟩ : ∃ wo : World, wo = wr := ⟨_, rfl⟩
              have hwl := warK_lt (n := k) hpl m
              go_wp2_with fail
              go_loopw [52] (fun i wr => ∃ a : Nat, a ≤ k ∧ i = .int .i64 a ∧ CloseW w wr k (warIn m (warK k (prsK p q (iniK k) j) m) a)) (fun i _ => k - (intOf i).toNat)
              case atStart => exact ⟨0, Nat.zero_le _, rfl, hQ⟩
              case round =>
                obtain ⟨a, ha, rfl, hI⟩ := hrel
                clear hQ
                by_cases hlb : a < k
                · have hil := warIn_lt (m := m) hwl a
                  have hca := hI.cell (i := a) (by omega)
                  have hcm := hI.cell (i := m) (by omega)
                  have hff := hI.free (1 + a)
                  have ha8 : (a : Int) < 8 := by omega
                  have ha0 : (0 : Int) ≤ a := by omega
                  have hm8 : (m : Int) < 8 := by omega
                  have hm0 : (0 : Int) ≤ m := by omega
                  generalize hR : warIn m (warK k (prsK p q (iniK k) j) m) a = R at *
                  have hn1 : warIn m (warK k (prsK p q (iniK k) j) m) (a + 1) = if (R a).testBit m then upd R a (R a ||| R m) else R := by rw [warIn, hR]
                  have Hn1 := Lib.hid hn1
                  clear hn1 hR
                  have hor := u8_or_nat (R a) (R m) (hil a) (hil m)
                  cases hc : (R a).testBit m
                  · have Hn := Lib.hid (show warIn m (warK k (prsK p q (iniK k) j) m) (a + 1) = R by rw [Hn1.out, hc]; rfl)
                    have Hc := Lib.hid hc
                    clear hc hor
                    go_wp2_with fail
                    refine (contains_any _ _ (hil a) (by omega) (by omega) _).mono ?_
                    rintro e w' ⟨rfl, rfl⟩
                    rw [Int.toNat_natCast, Hc.out]
                    go_wp2_with fail
                    go_roundw
                    case rel => exact ⟨a + 1, by omega, by go_num, by rw [Hn.out]; exact hI⟩
                    case measure => simp [intOf]; omega
                  · have Hn := Lib.hid (show warIn m (warK k (prsK p q (iniK k) j) m) (a + 1) = upd R a (R a ||| R m) by rw [Hn1.out, hc]; rfl)
                    have Hc := Lib.hid hc
                    clear hc
                    go_wp2_with fail
                    refine (contains_any _ _ (hil a) (by omega) (by omega) _).mono ?_
                    rintro e w' ⟨rfl, rfl⟩
                    rw [Int.toNat_natCast, Hc.out]
                    go_wp2_with fail
                    refine wp_region_still_tail 16 (by kernel_rfl) (by kernel_rfl) ?_
                    simp only [List.take_succ_cons, List.take_zero, List.drop_succ_cons, List.drop_zero]
                    repeat still_step
                    refine wpStill_nil ?_
                    change wpList _ _ _ _ _ wr.drew
                    go_wp2_with fail
                    go_roundw
                    case rel => exact ⟨a + 1, by omega, by go_num, by rw [Hn.out]; first | exact (hI.set (by omega) _).drew | exact hI.drew.set (by omega) _⟩
                    case measure => simp [intOf]; omega
                · obtain rfl : a = k := by omega
                  go_wp2_with fail
                  go_roundw
                  case rel => exact ⟨m + 1, by omega, by go_num, hI⟩
                  case measure => simp [intOf]; omega
            · obtain rfl : m = k := by omega
              clear hlt hm
              have hwl := warK_lt (n := m) hpl m
              generalize hR : warK m (prsK p q (iniK m) j) m = R at *
              have HR := Lib.hid hR
              clear hR
              have hz := lat_cells hQ.acc
              obtain ⟨s0, s1, s2, s3, s4, s5, s6, s7, s8⟩ := hz
              go_wp2_with fail
              refine (turn_any m R _ h2 hwl).mono ?_
              rintro e w5 ⟨rfl, hb5⟩
              have hblk : w5.heap[w.heap.size]? = _ := (hb5.block _ (by have := hQ.size; omega)).trans hQ.acc
              have hbel := hQ.below.trans (hb5.mono hQ.below.size)
              clear s0 s1 s2 s3 s4 s5 s6 s7 s8
              obtain ⟨s0, s1, s2, s3, s4, s5, s6, s7⟩ := lat_low hblk
              obtain ⟨f0, f1, f2, f3, f4, f5, f6, f7⟩ := lat_free hblk
              unfold arr8
              have hfin := low8_res hblk (turnK m R m)
              have hfb := low8_below hbel (Nat.le_refl _) (turnK m R m)
              have htl := turnK_lt (n := m) (A := R) m h2
              generalize hT : turnK m R m = T at *
              have HT := Lib.hid hT
              clear hT
              go_wp2_with fail
              go_ret
              have hcl : closed m j p q = R := HR.out
              rw [hcl, HT.out]
              exact ⟨rfl, hfb, ⟨hfin, h2, hwl, htl⟩⟩
end Go.Proofs.Ytmnbalmihehodaa
