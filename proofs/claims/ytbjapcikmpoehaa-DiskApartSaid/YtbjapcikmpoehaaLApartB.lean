/-
  The walk of DiskApart.
-/
import Derived.Test.YtbjapcikmpoehaaLApartA
namespace Go.Proofs.Ytbjapcikmpoehaa.lawDiskApart
open Go.RowKit

set_option maxRecDepth 100000 in
set_option maxHeartbeats 1000000 in
theorem walk_long (A : Option Addr) (len cap : Nat) (f : Nat → OpV) (a1 a2 : Int) (w : World) (hp : OpsAt w w.heap.size A len f) (hl : len ≤ maxLen) (hlong : longB f len = true) :
    Calls Try.prog 4 #[.slice A len cap, .int .i64 a1, .int .i64 a2] w (Yes w) := by
  obtain ⟨i, hi3, ei⟩ := third a1
  obtain ⟨j, hj3, ej⟩ := third a2
  have HP := Lib.hid hp
  have HL := Lib.hid hl
  have HG := Lib.hid hlong
  clear hp hl hlong
  go_enter Try.func4, Try.ntmps4
  go_wp2_with fail
  refine (awake_any _).mono ?_
  rintro e w1 ⟨rfl, hb⟩
  have hb1 := Lib.hid hb
  clear hb
  go_wp2_with fail
  refine (long_any _ ((HP.out.below hb1.out).more hb1.out.size) HL.out).mono ?_
  rintro e w2 ⟨rfl, hb⟩
  have hb2 := Lib.hid (hb1.out.trans (hb.mono hb1.out.size))
  clear hb hb1
  rw [HG.out]
  go_wp2_with fail
  refine (awake_any _).mono ?_
  rintro e w3 ⟨rfl, hb⟩
  have hb3 := Lib.hid (hb2.out.trans (hb.mono hb2.out.size))
  clear hb
  go_wp2_with fail
  go_ret
  exact ⟨rfl, hb3.out⟩

set_option maxRecDepth 100000 in
set_option maxHeartbeats 4000000 in
theorem walk_ok (A : Option Addr) (len cap : Nat) (f : Nat → OpV) (a1 a2 : Int) (w : World) (hp : OpsAt w w.heap.size A len f) (hl : len ≤ maxLen) (hlong : longB f len = false) :
    Calls Try.prog 4 #[.slice A len cap, .int .i64 a1, .int .i64 a2] w (Yes w) := by
  obtain ⟨i, hi3, ei⟩ := third a1
  obtain ⟨j, hj3, ej⟩ := third a2
  have HP := Lib.hid hp
  have HL := Lib.hid hl
  have HG := Lib.hid hlong
  clear hp hl hlong
  by_cases hij : i = j
  · have tij : ((i : Int) == (j : Int)) = true := by simp; omega
    clear hij
    go_enter Try.func4, Try.ntmps4
    go_wp2_with fail
    refine (awake_any _).mono ?_
    rintro e w1 ⟨rfl, hb⟩
    have hb1 := Lib.hid hb
    clear hb
    go_wp2_with fail
    refine (long_any _ ((HP.out.below hb1.out).more hb1.out.size) HL.out).mono ?_
    rintro e w2 ⟨rfl, hb⟩
    have hb2 := Lib.hid (hb1.out.trans (hb.mono hb1.out.size))
    clear hb hb1
    rw [HG.out]
    go_wp2_with fail
    refine (awake_any _).mono ?_
    rintro e w3 ⟨rfl, hb⟩
    have hb3 := Lib.hid (hb2.out.trans (hb.mono hb2.out.size))
    clear hb
    go_wp2_with fail
    go_ret
    exact ⟨rfl, hb3.out⟩
  have tij : ((i : Int) == (j : Int)) = false := by simp; omega
  have HIJ := Lib.hid hij
  clear hij
  go_enter Try.func4, Try.ntmps4
  go_wp2_with fail
  refine (awake_any _).mono ?_
  rintro e w1 ⟨rfl, hb⟩
  have hb1 := Lib.hid hb
  clear hb
  go_wp2_with fail
  refine (long_any _ ((HP.out.below hb1.out).more hb1.out.size) HL.out).mono ?_
  rintro e w2 ⟨rfl, hb⟩
  have hb2 := Lib.hid (hb1.out.trans (hb.mono hb1.out.size))
  clear hb hb1
  rw [HG.out]
  clear ei ej
  go_wp2_with fail
  refine (New_ok 3 _ (by omega) (by omega)).mono ?_
  rintro e w3 ⟨rfl, rfl⟩
  have ha3 := Lib.hid (DAt.new w2 emptyL (n := 3) (by omega) emptyL_size)
  have hb3 := Lib.hid (hb2.out.alloc hb2.out.size (.cells (dcells 3 emptyL) 52))
  have hl3 := Lib.hid hb2.out.size
  clear hb2
  generalize w2.heap.size = ga at *
  generalize w2.alloc (.cells (dcells 3 emptyL) 52) = w3 at *
  go_wp2_with fail
  refine (New_ok 3 _ (by omega) (by omega)).mono ?_
  rintro e w4 ⟨rfl, rfl⟩
  have htwo : Hid (Two w (w3.alloc (.cells (dcells 3 emptyL) 52)) j ga w3.heap.size emptyL emptyL) := Lib.hid
    ⟨hb3.out.alloc hb3.out.size _, ha3.out.alloc _, DAt.new w3 emptyL (by omega) emptyL_size, hl3.out, hb3.out.size, Nat.ne_of_lt (row_lt ha3.out.blk), fun _ _ => rfl, rfl⟩
  clear ha3 hb3 hl3 tij
  generalize w3.heap.size = gb at *
  generalize w3.alloc (.cells (dcells 3 emptyL) 52) = w4 at *
  go_wp2_with fail
  go_loopw [50] (fun iv wr => ∃ (k : Nat) (La Lb : Nat → ByteArray), k ≤ len ∧ iv = .int .i64 k ∧ Hid (Two w wr j ga gb La Lb)) (fun iv _ => len - (intOf iv).toNat)
  case atStart => exact ⟨0, emptyL, emptyL, Nat.zero_le _, rfl, htwo⟩
  case round =>
    clear htwo
    obtain ⟨k, La, Lb, hk, rfl, htwo⟩ := hrel
    by_cases hlt : k < len
    · obtain ⟨g, o, rfl, hg, hc⟩ := (HP.out.below htwo.out.below) (by omega)
      obtain ⟨c0, c1, c2, c3, _⟩ := hc k hlt
      have hlen : len ≤ 6553 := longB_len HG.out
      obtain ⟨q, hq3, eq⟩ := third (f k).i
      obtain ⟨v, hv⟩ : ∃ v : OpV, v = ⟨(f k).k, q, (f k).n, (f k).s⟩ := ⟨_, rfl⟩
      have hbox : Hid ((wr.alloc (.cells #[.int .i64 (f k).k, .int .i64 q, .int .i64 (f k).n, .string (f k).s] 34)).heap[wr.heap.size]? = some (.cells (ocells v) 34 (0, 0))) := Lib.hid (by rw [heap_alloc_new, hv]; rfl)
      have hvi : Hid (v.i = (q : Int)) := Lib.hid (by rw [hv])
      have htwo' : Hid (Two w (wr.alloc (.cells #[.int .i64 (f k).k, .int .i64 q, .int .i64 (f k).n, .string (f k).s] 34)) j ga gb La Lb) := Lib.hid
        ⟨htwo.out.below.alloc htwo.out.below.size _, htwo.out.a.alloc _, htwo.out.b.alloc _, htwo.out.loa, htwo.out.lob, htwo.out.ne, htwo.out.same, htwo.out.none_⟩
      clear hc htwo hv
      go_wp2_with fail
      generalize wr.heap.size = b at *
      generalize wr.alloc (.cells #[.int .i64 (f k).k, .int .i64 q, .int .i64 (f k).n, .string (f k).s] 34) = wb at *
      clear c0 c1 c2 c3
      refine (play_any v htwo'.out.a hbox.out).mono ?_
      rintro e w6 ⟨rfl, hg6, hd6⟩
      have hba := row_ne hbox.out htwo'.out.a.blk (by decide)
      have hbb := row_ne hbox.out htwo'.out.b.blk (by decide)
      have hbox6 : Hid (w6.heap[b]? = some (.cells (ocells v) 34 (0, 0))) := Lib.hid (by rw [hg6.block _ (row_lt hbox.out) (by simpa using hba)]; exact hbox.out)
      have hb6 : Hid (DAt w6 gb 3 Lb) := Lib.hid (DAt.grown htwo'.out.b hg6 (Ne.symm htwo'.out.ne))
      have hbel6 : Hid (Below w.heap.size w w6) := Lib.hid (htwo'.out.below.grown hg6 htwo'.out.below.size (by intro k e; cases e; exact htwo'.out.loa))
      have hd6' := Lib.hid hd6
      have ci : w6.cell? ⟨b, 1, none⟩ = some (.int .i64 q) := by rw [cell_of_heap hbox6.out 1, ← hvi.out]; rfl
      have hqn : Hid (v.i.toNat = q) := Lib.hid (by rw [hvi.out]; omega)
      clear hg6 hd6 hba hbb
      by_cases hqj : q = j
      · have tq : ((q : Int) == (j : Int)) = true := by simp; omega
        have tq' : ((q : Int) != (j : Int)) = false := by simp; omega
        have hfin : Hid (Two w w6 j ga gb (opL v La) Lb) := Lib.hid ⟨hbel6.out, hd6'.out, hb6.out, htwo'.out.loa, htwo'.out.lob, htwo'.out.ne, fun x hx => by
          rw [opL_other v La (by rw [hqn.out, hqj]; exact hx)]; exact htwo'.out.same x hx, htwo'.out.none_⟩
        clear hqj htwo' hd6' hb6 hbel6
        go_wp2_with fail
        go_roundw
        case rel => exact ⟨k + 1, _, _, by omega, by go_num, hfin⟩
        case measure => simp [intOf]; omega
      · have tq : ((q : Int) == (j : Int)) = false := by simp; omega
        have tq' : ((q : Int) != (j : Int)) = true := by simp; omega
        have HQJ := Lib.hid hqj
        clear hqj
        go_wp2_with fail
        refine (play_any v hb6.out hbox6.out).mono ?_
        rintro e w7 ⟨rfl, hg7, hd7⟩
        have hfin : Hid (Two w w7 j ga gb (opL v La) (opL v Lb)) := Lib.hid ⟨hbel6.out.grown hg7 hbel6.out.size (by intro k e; cases e; exact htwo'.out.lob), DAt.grown hd6'.out hg7 htwo'.out.ne, hd7, htwo'.out.loa, htwo'.out.lob, htwo'.out.ne, fun x hx => by
          by_cases hxq : x = q
          · subst hxq
            have := opL_same v La Lb (by rw [hqn.out]; exact htwo'.out.same _ hx)
            rwa [hqn.out] at this
          · rw [opL_other v La (by rw [hqn.out]; exact hxq), opL_other v Lb (by rw [hqn.out]; exact hxq)]; exact htwo'.out.same x hx, by
          rw [opL_other v Lb (by rw [hqn.out]; exact Ne.symm HQJ.out)]; exact htwo'.out.none_⟩
        clear hg7 hd7 htwo' hd6' hb6 hbel6
        go_wp2_with fail
        go_roundw
        case rel => exact ⟨k + 1, _, _, by omega, by go_num, hfin⟩
        case measure => simp [intOf]; omega
    · have : k = len := by omega
      subst this
      have hsame := Lib.hid (htwo.out.same i HIJ.out)
      have hnone := Lib.hid htwo.out.none_
      go_wp2_with fail
      refine (Read_ok i _ htwo.out.a hi3).mono ?_
      rintro e w1' ⟨rfl, hb'⟩
      replace htwo := Lib.hid (htwo.out.read hb')
      clear hb'
      rw [hsame.out]
      go_wp2_with fail
      refine (Read_ok i _ htwo.out.b hi3).mono ?_
      rintro e w2' ⟨rfl, hb'⟩
      replace htwo := Lib.hid (htwo.out.read hb')
      clear hb'
      go_wp2_with fail
      refine (Room_ok i _ htwo.out.a hi3).mono ?_
      rintro e w' ⟨rfl, rfl⟩
      rw [hsame.out]
      go_wp2_with fail
      refine (Room_ok i _ htwo.out.b hi3).mono ?_
      rintro e w' ⟨rfl, rfl⟩
      go_wp2_with fail
      refine (Read_ok j _ htwo.out.b hj3).mono ?_
      rintro e w3' ⟨rfl, hb'⟩
      replace htwo := Lib.hid (htwo.out.read hb')
      clear hb'
      rw [hnone.out]
      go_wp2_with fail
      go_ret
      exact ⟨rfl, htwo.out.below⟩

theorem walk (A : Option Addr) (len cap : Nat) (f : Nat → OpV) (a1 a2 : Int) (w : World) (hp : OpsAt w w.heap.size A len f) (hl : len ≤ maxLen) : Calls Try.prog 4 #[.slice A len cap, .int .i64 a1, .int .i64 a2] w (Yes w) := by
  cases hg : longB f len
  · exact walk_ok A len cap f a1 a2 w hp hl hg
  · exact walk_long A len cap f a1 a2 w hp hl hg
end Go.Proofs.Ytbjapcikmpoehaa.lawDiskApart
