/-
  The walk of DiskPlays: the calls that are played.
-/
import Derived.Test.YtbjapcikmpoehaaLPlaysB
namespace Go.Proofs.Ytbjapcikmpoehaa.lawDiskPlays
open Go.RowKit

set_option maxRecDepth 100000 in
set_option maxHeartbeats 4000000 in
theorem walk_ok (n : Nat) {A : Option Addr} {len cap : Nat} {f : Nat → OpV} (w : World) (h1 : 1 ≤ n) (h8 : n ≤ 8) (hp : OpsAt w w.heap.size A len f) (hl : len ≤ maxLen) (hlong : longB f len = false) :
    Calls Try.prog 3 #[.int .i64 n, .slice A len cap] w (Yes w) := by
  have t1 : decide ((1 : Int) ≤ n) = true := decide_eq_true (by omega)
  have t2 : decide ((n : Int) ≤ 8) = true := decide_eq_true (by omega)
  have HP := Lib.hid hp
  have HL := Lib.hid hl
  have HG := Lib.hid hlong
  clear hp hl hlong
  go_enter Try.func3, Try.ntmps3
  go_wp2_with fail
  refine (New_ok n _ h1 h8).mono ?_
  rintro e w1 ⟨rfl, rfl⟩
  have hd1 := Lib.hid (DAt.new w emptyL h8 emptyL_size)
  have hb1 := Lib.hid ((Below.refl w.heap.size w).alloc (Nat.le_refl _) (.cells (dcells n emptyL) 52))
  have hlo := Lib.hid (Nat.le_refl w.heap.size)
  obtain ⟨B, hB⟩ : ∃ B, B = w.heap.size := ⟨_, rfl⟩
  rw [← hB] at hd1 ⊢
  have HB := Lib.hid hB
  generalize w.alloc (.cells (dcells n emptyL) 52) = w1 at *
  clear hB
  go_wp2_with fail
  refine (awake_any _).mono ?_
  rintro e w2 ⟨rfl, hb⟩
  have hd2 := Lib.hid (DAt.of_block hd1.out (hb.block _ (row_lt hd1.out.blk)))
  have hb2 := Lib.hid (hb1.out.trans (hb.mono hb1.out.size))
  clear hb hd1
  go_wp2_with fail
  refine (long_any _ ((HP.out.below hb2.out).more hb2.out.size) HL.out).mono ?_
  rintro e w3 ⟨rfl, hb⟩
  have hd3 := Lib.hid (DAt.of_block hd2.out (hb.block _ (row_lt hd2.out.blk)))
  have hb3 := Lib.hid (hb2.out.trans (hb.mono hb2.out.size))
  clear hb hd2
  rw [HG.out]
  go_wp2_with (at_make; refine wp_mkS rfl _ _ rfl n rfl rfl (by omega) ?_; intro w4 hrow hgrow; refine Hid.out ?_)
  refine Lib.hid ?_
  have hst := Lib.hid (St.start hb3.out hd3.out (by rw [HB.out]; exact Nat.le_refl _) hrow (Nat.le_refl _) hgrow)
  obtain ⟨r, hr⟩ : ∃ r, r = w3.heap.size := ⟨_, rfl⟩
  rw [← hr] at hst ⊢
  clear hr hrow hgrow hd3
  go_wp2_with fail
  generalize w4.heap.size = gw at *
  generalize w4.alloc (.cells #[.slice (some ⟨r, 0, none⟩) n n] 32) = w5 at *
  go_loopw [5, 57] (fun dv iv wr => ∃ (k gd : Nat) (L : Nat → ByteArray), k ≤ len ∧ iv = .int .i64 k ∧ dv = .pointer (some ⟨gd, 0, none⟩) ∧ Hid (St w wr n gw r gd L)) (fun _ iv _ => len - (intOf iv).toNat)
  case atStart => exact ⟨0, B, emptyL, Nat.zero_le _, rfl, rfl, hst⟩
  case round =>
    obtain ⟨k, gd, L, hk, rfl, rfl, hst⟩ := hrel
    by_cases hlt : k < len
    · obtain ⟨g, o, rfl, hg, hc⟩ := (HP.out.below hst.out.below) (by omega)
      obtain ⟨c0, c1, c2, c3, _⟩ := hc k hlt
      have hsz : Hid ((f k).s.size ≤ 1000000) := Lib.hid (by have := longB_no HG.out hlt; omega)
      have hlen : len ≤ 6553 := longB_len HG.out
      have hbx : Hid (Sb w (wr.alloc (.cells #[.int .i64 (f k).k, .int .i64 (f k).i, .int .i64 (f k).n, .string (f k).s] 34)) n gw r gd L L wr.heap.size (f k)) := Lib.hid (hst.out.boxed (f k))
      clear hc
      by_cases k1 : (f k).k = 1
      · have tk1 : ((f k).k == 1) = true := by simpa using k1
        clear k1
        go_wp2_with fail
        generalize wr.heap.size = b at *
        generalize wr.alloc (.cells #[.int .i64 (f k).k, .int .i64 (f k).i, .int .i64 (f k).n, .string (f k).s] 34) = wb at *
        clear tk1
        obtain ⟨z0, z1, z2, z3⟩ := hbx.out.drew.cells
        clear c0 c1 c2 c3
        go_region_held3 (fun W => W.cell? ⟨b, 1, none⟩ = some (.int .i64 (f k).i) ∧ W.cell? ⟨b, 3, none⟩ = some (.string (f k).s))
          (first
            | go_keep
            | exact ⟨hx2.out.cells.2.1, hx2.out.cells.2.2.2⟩
            | exact ⟨hx1.out.cells.2.1, hx1.out.cells.2.2.2⟩)
          (first
            | (go_simp; go_at_call 10; (with_reducible refine (hbx.out.drew.append _ _).mono ?_); rintro e w6 ⟨rfl, hx⟩; have hx1 := Lib.hid hx; clear hx)
            | (go_simp; go_at_call 11; (with_reducible refine (hx1.out.rappend _ _ hsz.out).mono ?_); rintro e w7 ⟨rfl, hx⟩; have hx2 := Lib.hid hx; clear hx))
        all_goals
          have hfin : ∃ L', Hid (St w w7 n gw r gd L') := ⟨_, Lib.hid hx2.out.st⟩
          clear z0 z1 z2 z3 hx1 hx2 hbx
          obtain ⟨L', hst7⟩ := hfin
          generalize w.heap.size = B0 at *
          go_wp2_with fail
          go_loopw [11] (fun iv wr => ∃ i : Int, -1 ≤ i ∧ i ≤ n + 1 ∧ iv = .int .i64 i ∧ Hid (St w wr n gw r gd L')) (fun iv _ => (n + 1 - intOf iv).toNat)
          case atStart => exact ⟨-1, by omega, by omega, rfl, hst7⟩
          case round =>
            clear hst7
            obtain ⟨i, hi0, hi1, rfl, hst7⟩ := hrel
            by_cases hin : i ≤ n
            · by_cases his : isS n i = true
              · obtain ⟨q, rfl, hq⟩ := isS_nat his
                have hz := hst7.out.d.sz q
                have tq : (q : Int) < n := by omega
                have tq0 : (0 : Int) ≤ q := by omega
                clear his
                go_wp2_with (first
                  | (go_at_call 17; (with_reducible refine (Read_ok q _ hst7.out.d hq).mono ?_); rintro e w' ⟨rfl, hb'⟩; replace hst7 := Lib.hid (hst7.out.read hb'); clear hb')
                  | (go_at_call 18; (with_reducible refine (RRead_ok q _ hst7.out.r hq).mono ?_); rintro e w' ⟨rfl, rfl⟩)
                  | (go_at_call 19; (with_reducible refine (Room_ok q _ hst7.out.d hq).mono ?_); rintro e w' ⟨rfl, rfl⟩))
                go_roundw
                case rel => exact ⟨(q : Int) + 1, by omega, by omega, rfl, hst7⟩
                case measure => simp [intOf]; omega
              · have hq := Lib.hid (Read_any i _ hst7.out.d)
                have hr := Lib.hid (fun W (h : Hid (St w W n gw r gd L')) => RRead_any i W h.out.r)
                have hcase : i < 0 ∨ (0 ≤ i ∧ n ≤ i) := by
                  simp [isS] at his
                  omega
                generalize readL n L' i = T at hq hr
                clear his
                rcases hcase with hneg | ⟨hpos, hup⟩
                · have tn : decide ((0 : Int) ≤ i) = false := decide_eq_false (by omega)
                  go_wp2_with (first
                    | (go_at_call 17; (with_reducible refine (hq.out).mono ?_); rintro e w' ⟨rfl, hb'⟩; replace hst7 := Lib.hid (hst7.out.read hb'); replace hr := Lib.hid (hr.out _ hst7); clear hb')
                    | (go_at_call 18; (with_reducible refine (hr.out).mono ?_); rintro e w' ⟨rfl, rfl⟩))
                  go_roundw
                  case rel => exact ⟨i + 1, by omega, by omega, rfl, hst7⟩
                  case measure => simp [intOf]; omega
                · have tn : decide (i < (n : Int)) = false := decide_eq_false (by omega)
                  go_wp2_with (first
                    | (go_at_call 17; (with_reducible refine (hq.out).mono ?_); rintro e w' ⟨rfl, hb'⟩; replace hst7 := Lib.hid (hst7.out.read hb'); replace hr := Lib.hid (hr.out _ hst7); clear hb')
                    | (go_at_call 18; (with_reducible refine (hr.out).mono ?_); rintro e w' ⟨rfl, rfl⟩))
                  go_roundw
                  case rel => exact ⟨i + 1, by omega, by omega, rfl, hst7⟩
                  case measure => simp [intOf]; omega
            · have tout : decide (i ≤ (n : Int)) = false := decide_eq_false hin
              clear hin
              go_wp2_with fail
              go_roundw
              case rel => exact ⟨k + 1, gd, L', by omega, by go_num, rfl, hst7⟩
              case measure => simp [intOf]; omega
      have tk1 : ((f k).k == 1) = false := by simpa using k1
      clear k1
      by_cases k2 : (f k).k = 2
      · have tk2 : ((f k).k == 2) = true := by simpa using k2
        clear k2
        go_wp2_with fail
        generalize wr.heap.size = b at *
        generalize wr.alloc (.cells #[.int .i64 (f k).k, .int .i64 (f k).i, .int .i64 (f k).n, .string (f k).s] 34) = wb at *
        clear tk1 tk2
        obtain ⟨z0, z1, z2, z3⟩ := hbx.out.drew.cells
        clear c0 c1 c2 c3
        go_region_held3 (fun W => W.cell? ⟨b, 1, none⟩ = some (.int .i64 (f k).i) ∧ W.cell? ⟨b, 2, none⟩ = some (.int .i64 (f k).n) ∧ W.cell? ⟨b, 3, none⟩ = some (.string (f k).s))
          (first
            | go_keep
            | exact ⟨hx2.out.cells.2.1, hx2.out.cells.2.2.1, hx2.out.cells.2.2.2⟩
            | exact ⟨hx1.out.cells.2.1, hx1.out.cells.2.2.1, hx1.out.cells.2.2.2⟩)
          (first
            | (go_simp; go_at_call 12; (with_reducible refine (hbx.out.drew.tear _ _ _).mono ?_); rintro e w6 ⟨rfl, hx⟩; have hx1 := Lib.hid hx; clear hx)
            | (go_simp; go_at_call 13; (with_reducible refine (hx1.out.rtear _ _ _ hsz.out).mono ?_); rintro e w7 ⟨rfl, hx⟩; have hx2 := Lib.hid hx; clear hx))
        all_goals
          have hfin : ∃ L', Hid (St w w7 n gw r gd L') := ⟨_, Lib.hid hx2.out.st⟩
          clear z0 z1 z2 z3 hx1 hx2 hbx
          obtain ⟨L', hst7⟩ := hfin
          generalize w.heap.size = B0 at *
          go_wp2_with fail
          go_loopw [11] (fun iv wr => ∃ i : Int, -1 ≤ i ∧ i ≤ n + 1 ∧ iv = .int .i64 i ∧ Hid (St w wr n gw r gd L')) (fun iv _ => (n + 1 - intOf iv).toNat)
          case atStart => exact ⟨-1, by omega, by omega, rfl, hst7⟩
          case round =>
            clear hst7
            obtain ⟨i, hi0, hi1, rfl, hst7⟩ := hrel
            by_cases hin : i ≤ n
            · by_cases his : isS n i = true
              · obtain ⟨q, rfl, hq⟩ := isS_nat his
                have hz := hst7.out.d.sz q
                have tq : (q : Int) < n := by omega
                have tq0 : (0 : Int) ≤ q := by omega
                clear his
                go_wp2_with (first
                  | (go_at_call 17; (with_reducible refine (Read_ok q _ hst7.out.d hq).mono ?_); rintro e w' ⟨rfl, hb'⟩; replace hst7 := Lib.hid (hst7.out.read hb'); clear hb')
                  | (go_at_call 18; (with_reducible refine (RRead_ok q _ hst7.out.r hq).mono ?_); rintro e w' ⟨rfl, rfl⟩)
                  | (go_at_call 19; (with_reducible refine (Room_ok q _ hst7.out.d hq).mono ?_); rintro e w' ⟨rfl, rfl⟩))
                go_roundw
                case rel => exact ⟨(q : Int) + 1, by omega, by omega, rfl, hst7⟩
                case measure => simp [intOf]; omega
              · have hq := Lib.hid (Read_any i _ hst7.out.d)
                have hr := Lib.hid (fun W (h : Hid (St w W n gw r gd L')) => RRead_any i W h.out.r)
                have hcase : i < 0 ∨ (0 ≤ i ∧ n ≤ i) := by
                  simp [isS] at his
                  omega
                generalize readL n L' i = T at hq hr
                clear his
                rcases hcase with hneg | ⟨hpos, hup⟩
                · have tn : decide ((0 : Int) ≤ i) = false := decide_eq_false (by omega)
                  go_wp2_with (first
                    | (go_at_call 17; (with_reducible refine (hq.out).mono ?_); rintro e w' ⟨rfl, hb'⟩; replace hst7 := Lib.hid (hst7.out.read hb'); replace hr := Lib.hid (hr.out _ hst7); clear hb')
                    | (go_at_call 18; (with_reducible refine (hr.out).mono ?_); rintro e w' ⟨rfl, rfl⟩))
                  go_roundw
                  case rel => exact ⟨i + 1, by omega, by omega, rfl, hst7⟩
                  case measure => simp [intOf]; omega
                · have tn : decide (i < (n : Int)) = false := decide_eq_false (by omega)
                  go_wp2_with (first
                    | (go_at_call 17; (with_reducible refine (hq.out).mono ?_); rintro e w' ⟨rfl, hb'⟩; replace hst7 := Lib.hid (hst7.out.read hb'); replace hr := Lib.hid (hr.out _ hst7); clear hb')
                    | (go_at_call 18; (with_reducible refine (hr.out).mono ?_); rintro e w' ⟨rfl, rfl⟩))
                  go_roundw
                  case rel => exact ⟨i + 1, by omega, by omega, rfl, hst7⟩
                  case measure => simp [intOf]; omega
            · have tout : decide (i ≤ (n : Int)) = false := decide_eq_false hin
              clear hin
              go_wp2_with fail
              go_roundw
              case rel => exact ⟨k + 1, gd, L', by omega, by go_num, rfl, hst7⟩
              case measure => simp [intOf]; omega
      have tk2 : ((f k).k == 2) = false := by simpa using k2
      clear k2
      by_cases k3 : (f k).k = 3
      · have tk3 : ((f k).k == 3) = true := by simpa using k3
        clear k3
        go_wp2_with fail
        generalize wr.heap.size = b at *
        generalize wr.alloc (.cells #[.int .i64 (f k).k, .int .i64 (f k).i, .int .i64 (f k).n, .string (f k).s] 34) = wb at *
        clear tk1 tk2 tk3
        obtain ⟨z0, z1, z2, z3⟩ := hbx.out.drew.cells
        clear c0 c1 c2 c3
        go_region_held3 (fun W => W.cell? ⟨b, 1, none⟩ = some (.int .i64 (f k).i) ∧ W.cell? ⟨b, 2, none⟩ = some (.int .i64 (f k).n))
          (first
            | go_keep
            | exact ⟨hx2.out.cells.2.1, hx2.out.cells.2.2.1⟩
            | exact ⟨hx1.out.cells.2.1, hx1.out.cells.2.2.1⟩)
          (first
            | (go_simp; go_at_call 14; (with_reducible refine (hbx.out.drew.cut _ _).mono ?_); rintro e w6 ⟨rfl, hx⟩; have hx1 := Lib.hid hx; clear hx)
            | (go_simp; go_at_call 15; (with_reducible refine (hx1.out.rcut _ _).mono ?_); rintro e w7 ⟨rfl, hx⟩; have hx2 := Lib.hid hx; clear hx))
        all_goals
          have hfin : ∃ L', Hid (St w w7 n gw r gd L') := ⟨_, Lib.hid hx2.out.st⟩
          clear z0 z1 z2 z3 hx1 hx2 hbx
          obtain ⟨L', hst7⟩ := hfin
          generalize w.heap.size = B0 at *
          go_wp2_with fail
          go_loopw [11] (fun iv wr => ∃ i : Int, -1 ≤ i ∧ i ≤ n + 1 ∧ iv = .int .i64 i ∧ Hid (St w wr n gw r gd L')) (fun iv _ => (n + 1 - intOf iv).toNat)
          case atStart => exact ⟨-1, by omega, by omega, rfl, hst7⟩
          case round =>
            clear hst7
            obtain ⟨i, hi0, hi1, rfl, hst7⟩ := hrel
            by_cases hin : i ≤ n
            · by_cases his : isS n i = true
              · obtain ⟨q, rfl, hq⟩ := isS_nat his
                have hz := hst7.out.d.sz q
                have tq : (q : Int) < n := by omega
                have tq0 : (0 : Int) ≤ q := by omega
                clear his
                go_wp2_with (first
                  | (go_at_call 17; (with_reducible refine (Read_ok q _ hst7.out.d hq).mono ?_); rintro e w' ⟨rfl, hb'⟩; replace hst7 := Lib.hid (hst7.out.read hb'); clear hb')
                  | (go_at_call 18; (with_reducible refine (RRead_ok q _ hst7.out.r hq).mono ?_); rintro e w' ⟨rfl, rfl⟩)
                  | (go_at_call 19; (with_reducible refine (Room_ok q _ hst7.out.d hq).mono ?_); rintro e w' ⟨rfl, rfl⟩))
                go_roundw
                case rel => exact ⟨(q : Int) + 1, by omega, by omega, rfl, hst7⟩
                case measure => simp [intOf]; omega
              · have hq := Lib.hid (Read_any i _ hst7.out.d)
                have hr := Lib.hid (fun W (h : Hid (St w W n gw r gd L')) => RRead_any i W h.out.r)
                have hcase : i < 0 ∨ (0 ≤ i ∧ n ≤ i) := by
                  simp [isS] at his
                  omega
                generalize readL n L' i = T at hq hr
                clear his
                rcases hcase with hneg | ⟨hpos, hup⟩
                · have tn : decide ((0 : Int) ≤ i) = false := decide_eq_false (by omega)
                  go_wp2_with (first
                    | (go_at_call 17; (with_reducible refine (hq.out).mono ?_); rintro e w' ⟨rfl, hb'⟩; replace hst7 := Lib.hid (hst7.out.read hb'); replace hr := Lib.hid (hr.out _ hst7); clear hb')
                    | (go_at_call 18; (with_reducible refine (hr.out).mono ?_); rintro e w' ⟨rfl, rfl⟩))
                  go_roundw
                  case rel => exact ⟨i + 1, by omega, by omega, rfl, hst7⟩
                  case measure => simp [intOf]; omega
                · have tn : decide (i < (n : Int)) = false := decide_eq_false (by omega)
                  go_wp2_with (first
                    | (go_at_call 17; (with_reducible refine (hq.out).mono ?_); rintro e w' ⟨rfl, hb'⟩; replace hst7 := Lib.hid (hst7.out.read hb'); replace hr := Lib.hid (hr.out _ hst7); clear hb')
                    | (go_at_call 18; (with_reducible refine (hr.out).mono ?_); rintro e w' ⟨rfl, rfl⟩))
                  go_roundw
                  case rel => exact ⟨i + 1, by omega, by omega, rfl, hst7⟩
                  case measure => simp [intOf]; omega
            · have tout : decide (i ≤ (n : Int)) = false := decide_eq_false hin
              clear hin
              go_wp2_with fail
              go_roundw
              case rel => exact ⟨k + 1, gd, L', by omega, by go_num, rfl, hst7⟩
              case measure => simp [intOf]; omega
      · have tk3 : ((f k).k == 3) = false := by simpa using k3
        clear k3
        go_wp2_with fail
        generalize wr.heap.size = b at *
        generalize wr.alloc (.cells #[.int .i64 (f k).k, .int .i64 (f k).i, .int .i64 (f k).n, .string (f k).s] 34) = wb at *
        clear tk1 tk2 tk3 c0 c1 c2 c3
        refine hbx.out.copy.mono ?_
        rintro e w6 ⟨gc, rfl, hx, hlo6, hd6, hne⟩
        have hx6 := Lib.hid hx
        have hd6 := Lib.hid hd6
        have hn6 := Lib.hid hne
        have hl6 := Lib.hid hlo6
        clear hx hne hlo6
        go_wp2_with fail
        refine (hx6.out.appendk hd6.out hn6.out 0 ⟨#[120]⟩).mono ?_
        rintro e w7 ⟨c, L2, rfl, hx, hd⟩
        have hx7 := Lib.hid hx
        have hd7 := Lib.hid hd
        clear hx hd
        go_wp2_with fail
        refine (hx7.out.cutk hd7.out hn6.out 0 0).mono ?_
        rintro e w8 ⟨c', L3, rfl, hx, hd⟩
        have hfin : ∃ L', Hid (St w w8 n gw r gc L') := ⟨_, Lib.hid (hx.swap hl6.out hd)⟩
        clear hx hd hx7 hd7 hx6 hd6 hbx
        obtain ⟨L', hst7⟩ := hfin
        generalize w.heap.size = B0 at *
        go_wp2_with fail
        go_loopw [11] (fun iv wr => ∃ i : Int, -1 ≤ i ∧ i ≤ n + 1 ∧ iv = .int .i64 i ∧ Hid (St w wr n gw r gc L')) (fun iv _ => (n + 1 - intOf iv).toNat)
        case atStart => exact ⟨-1, by omega, by omega, rfl, hst7⟩
        case round =>
          clear hst7
          obtain ⟨i, hi0, hi1, rfl, hst7⟩ := hrel
          by_cases hin : i ≤ n
          · by_cases his : isS n i = true
            · obtain ⟨q, rfl, hq⟩ := isS_nat his
              have hz := hst7.out.d.sz q
              have tq : (q : Int) < n := by omega
              have tq0 : (0 : Int) ≤ q := by omega
              clear his
              go_wp2_with (first
                | (go_at_call 17; (with_reducible refine (Read_ok q _ hst7.out.d hq).mono ?_); rintro e w' ⟨rfl, hb'⟩; replace hst7 := Lib.hid (hst7.out.read hb'); clear hb')
                | (go_at_call 18; (with_reducible refine (RRead_ok q _ hst7.out.r hq).mono ?_); rintro e w' ⟨rfl, rfl⟩)
                | (go_at_call 19; (with_reducible refine (Room_ok q _ hst7.out.d hq).mono ?_); rintro e w' ⟨rfl, rfl⟩))
              go_roundw
              case rel => exact ⟨(q : Int) + 1, by omega, by omega, rfl, hst7⟩
              case measure => simp [intOf]; omega
            · have hq := Lib.hid (Read_any i _ hst7.out.d)
              have hr := Lib.hid (fun W (h : Hid (St w W n gw r gc L')) => RRead_any i W h.out.r)
              have hcase : i < 0 ∨ (0 ≤ i ∧ n ≤ i) := by
                simp [isS] at his
                omega
              generalize readL n L' i = T at hq hr
              clear his
              rcases hcase with hneg | ⟨hpos, hup⟩
              · have tn : decide ((0 : Int) ≤ i) = false := decide_eq_false (by omega)
                go_wp2_with (first
                  | (go_at_call 17; (with_reducible refine (hq.out).mono ?_); rintro e w' ⟨rfl, hb'⟩; replace hst7 := Lib.hid (hst7.out.read hb'); replace hr := Lib.hid (hr.out _ hst7); clear hb')
                  | (go_at_call 18; (with_reducible refine (hr.out).mono ?_); rintro e w' ⟨rfl, rfl⟩))
                go_roundw
                case rel => exact ⟨i + 1, by omega, by omega, rfl, hst7⟩
                case measure => simp [intOf]; omega
              · have tn : decide (i < (n : Int)) = false := decide_eq_false (by omega)
                go_wp2_with (first
                  | (go_at_call 17; (with_reducible refine (hq.out).mono ?_); rintro e w' ⟨rfl, hb'⟩; replace hst7 := Lib.hid (hst7.out.read hb'); replace hr := Lib.hid (hr.out _ hst7); clear hb')
                  | (go_at_call 18; (with_reducible refine (hr.out).mono ?_); rintro e w' ⟨rfl, rfl⟩))
                go_roundw
                case rel => exact ⟨i + 1, by omega, by omega, rfl, hst7⟩
                case measure => simp [intOf]; omega
          · have tout : decide (i ≤ (n : Int)) = false := decide_eq_false hin
            clear hin
            go_wp2_with fail
            go_roundw
            case rel => exact ⟨k + 1, gc, L', by omega, by go_num, rfl, hst7⟩
            case measure => simp [intOf]; omega
    · have : k = len := by omega
      subst this
      go_wp2_with fail
      go_ret
      exact ⟨rfl, hst.out.below⟩

theorem walk (a0 : Int) (A : Option Addr) (len cap : Nat) (f : Nat → OpV) (w : World) (hp : OpsAt w w.heap.size A len f) (hl : len ≤ maxLen) : Calls Try.prog 3 #[.int .i64 a0, .slice A len cap] w (Yes w) := by
  by_cases h : 1 ≤ a0 ∧ a0 ≤ 8
  · obtain ⟨n, rfl⟩ : ∃ n : Nat, a0 = n := ⟨a0.toNat, by omega⟩
    cases hg : longB f len
    · exact walk_ok n w (by omega) (by omega) hp hl hg
    · exact walk_long n w (by omega) (by omega) hp hl hg
  · exact walk_bad a0 w h
end Go.Proofs.Ytbjapcikmpoehaa.lawDiskPlays
