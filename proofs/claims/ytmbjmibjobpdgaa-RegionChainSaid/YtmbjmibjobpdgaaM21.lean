/-
  The landed model's edges: what they are.
  The library's slices.Sorted(maps.Keys(m)) at a map from ints to nothing: its contracts, laid at this translation.
-/
import Derived.Test.YtmbjmibjobpdgaaM07
import Derived.Test.YtmbjmibjobpdgaaM20
import Derived.Shelf.SlGeneric
import Derived.Shelf.SlIterI.Nil
import Derived.Shelf.SortM.Plain
import Derived.Shelf.SortM.SortNone
import Derived.Ground.GgzProg
import Derived.Ground.SlgmProg
import Derived.Test.YtmbjmibjobpdgaaProg
namespace Go.Proofs.Ytmbjmibjobpdgaa
open Go.RowKit

/-- The first j edges out of a node. -/
def outP (x : NT) (i j : Nat) : List Edge := (List.range j).map fun (k : Nat) => ((i : Int), (k : Int), targetN x k)
theorem outP_succ (x : NT) (i j : Nat) : outP x i (j + 1) = outP x i j ++ [((i : Int), (j : Int), targetN x j)] := by simp [outP, List.range_succ]
theorem outP_len (x : NT) (i j : Nat) : (outP x i j).length = j := by simp [outP]
theorem outP_all (x : NT) (i : Nat) : outP x i (portsN x) = outE x i := by
  have h0 : outP x i x.c = (List.range x.c).map (fun (k : Nat) => ((i : Int), (k : Int), x.f k)) := by
    unfold outP
    refine List.map_congr_left fun k hk => ?_
    have : k < x.c := by simpa using hk
    unfold targetN
    rw [if_neg (by omega)]
  unfold portsN outE
  by_cases hk : 0 ≤ x.k
  · rw [if_pos hk, if_pos hk, outP_succ, h0]
    unfold targetN
    rw [if_pos rfl]
  · rw [if_neg hk, if_neg hk, List.append_nil]
    exact h0
theorem portsN_le {x : NT} (h : x.c + (if 0 ≤ x.k then 1 else 0) ≤ 41) : portsN x ≤ 41 := h
theorem range_of_row {w : World} {b : Nat} {L : List Value} (h : w.heap[b]? = some (.cells L.toArray 58 (0, 0))) : w.rangeAt b 0 L := fun j v hj => by
  rw [Nat.zero_add, cell_of_row w b j _ 58 (0, 0) h]
  simpa using hj
theorem row_alloc {w : World} {b : Nat} {o : Obj} (h : w.heap[b]? = some o) (x : Obj) : (w.alloc x).heap[b]? = some o := by
  have hlt : b < w.heap.size := (Array.getElem?_eq_some_iff.1 h).1
  rw [((Below.refl w.heap.size w).alloc (Nat.le_refl _) x).block b hlt]
  exact h
set_option maxRecDepth 20000 in
set_option maxHeartbeats 4000000 in
theorem LEdges_own {mv : Array Value} {G : GT} (w : World) (h : ModelAt w w.heap.size mv G) (hfew : fewB G) :
    Calls Try.prog 22 #[.agg mv] w fun e w' => ∃ v, e = .returned v ∧ OwnE w' w.heap.size v (edgesL G G.n) ∧ Below w.heap.size w w' := by
  have hM := Lib.hid h
  have hF := Lib.hid hfew
  clear hfew
  have h0 := h
  cases h with
  | mk lb A a aa B b bb V p pp S q qq N n nn vs ms ns d ha hb hp hq hn hV hvs hS hms hN hns =>
    clear ha hb hp hq hV hvs hS hms
    have hn1 := hF.out.1
    simp only at hn1
    have hNN := Lib.hid hN
    have hns1 := Lib.hid hns
    clear hN hns hn
    obtain ⟨mv, hmv⟩ : ∃ mv, mv = modelV lb A a aa B b bb V p pp S q qq N n nn := ⟨_, rfl⟩
    rw [← hmv] at h0 hM
    have hm5 : Hid (mv[5]? = some (.slice N n nn)) := Lib.hid (by rw [hmv]; rfl)
    have hAm : Hid (AmidE w (w.alloc (.cells mv 27)) mv (.slice none 0 0) (edgesL ⟨n, d⟩ 0)) := Lib.hid ⟨(Below.refl _ _).alloc (Nat.le_refl _) _, heap_alloc_new w _, OwnE.nil _ _⟩
    rw [show modelV lb A a aa B b bb V p pp S q qq N n nn = #[.int .i64 lb, .slice A a aa, .slice B b bb, .slice V p pp, .slice S q qq, .slice N n nn] from rfl]
    have hm2 : mv = #[.int .i64 lb, .slice A a aa, .slice B b bb, .slice V p pp, .slice S q qq, .slice N n nn] := hmv
    have HM2 := Lib.hid hm2
    clear hmv hm2 h0
    go_enter Try.func22, Try.ntmps22
    go_wp2_with fail
    rw [← HM2.out]
    generalize w.alloc (.cells mv 27) = W1 at *
    obtain ⟨bx, hbx⟩ : ∃ bx, bx = w.heap.size := ⟨_, rfl⟩
    have HBX := Lib.hid hbx
    rw [← hbx]
    clear hbx
    go_loopw [3, 10] (fun v iv wr => ∃ i : Nat, i ≤ n ∧ iv = .int .i64 i ∧ Hid (AmidE w wr mv v (edgesL ⟨n, d⟩ i))) (fun _ iv _ => n - (intOf iv).toNat)
    case atStart => exact ⟨0, Nat.zero_le _, rfl, hAm⟩
    case round =>
      clear hAm
      obtain ⟨i, hi, rfl, hk⟩ := hrel
      by_cases hlt : i < n
      · have hNw := hNN.out.keep (w' := wr) fun g o hg => hk.out.below.cell (p := ⟨g, o, none⟩) hg
        obtain ⟨g, o, rfl, hg, hx⟩ := hNw (by omega)
        obtain ⟨L, E, F, A1, ca, B1, m1, cb, vs1, xs1, x1, y1, ev, hL, ho1, hc_2, _, hc_26, _, _, _, _, _, _, _, hca, hA1, hnum, _, _, _, hct, _⟩ := (hns1.out i hlt).list
        have hra := Lib.hid (RowAt.range hx hlt ev hL)
        have hLL := Lib.hid hL
        have ho := Lib.hid ho1
        have hNx := Lib.hid hA1
        have h41 : (d i).c + (if 0 ≤ (d i).k then 1 else 0) ≤ 41 := hF.out.2 i (by show i < n; exact hlt)
        have h40 : (d i).c ≤ 41 := Nat.le_trans (Nat.le_add_right _ _) h41
        have hE2 : Hid (edgesL ⟨n, d⟩ (i + 1) = edgesL ⟨n, d⟩ i ++ outE (d i) i) := Lib.hid (edgesL_succ ⟨n, d⟩ i)
        have hlen : Hid ((edgesL ⟨n, d⟩ i).length ≤ 4100) := Lib.hid (by have := edgesL_len hF.out (k := i) (by show i ≤ n; omega); omega)
        have hp41 := portsN_le h41
        clear h41
        obtain ⟨x, hxd⟩ : ∃ x, x = d i := ⟨_, rfl⟩
        rw [← hxd] at hc_2 hc_26 hNx h40 hE2 hp41
        have h2 := Lib.hid hc_2
        have h26 := Lib.hid hc_26
        obtain ⟨bn, hbn⟩ : ∃ bn, bn = wr.heap.size := ⟨_, rfl⟩
        have HBN := Lib.hid hbn
        have hK1 := Lib.hid (hk.out.alloc (.cells L.toArray 58))
        have hnb : Hid ((wr.alloc (.cells L.toArray 58)).heap[bn]? = some (.cells L.toArray 58 (0, 0))) := Lib.hid (by rw [hbn]; exact heap_alloc_new wr _)
        clear hL ho1 hc_2 hc_26 hA1 hx hNw ev hnum hct hca hxd hbn hk
        generalize edgesL ⟨n, d⟩ i = Ei at *
        go_wp2_with (first | (refine ldm rfl 58 _ rfl g (o + i * 29) rfl L _ hra.out Try.underlying58 rfl 29 info58 hLL.out ?_) | (refine stm rfl 58 _ _ rfl _ L rfl rfl 29 info58 hLL.out rfl ho.out ?_; refine Hid.out ?_) | fail)
        refine Lib.hid ?_
        rw [← HBN.out]
        clear ho hra
        generalize wr.alloc (.cells L.toArray 58) = wA at *
        have hrb := Lib.hid (range_of_row hnb.out)
        have hK2 := Lib.hid (hK1.out.alloc (.cells L.toArray 58))
        have hnb2 := Lib.hid (row_alloc hnb.out (.cells L.toArray 58))
        clear hK1 hnb
        obtain ⟨pn, hpn⟩ : ∃ pn, pn = portsN x := ⟨_, rfl⟩
        have HPN := Lib.hid hpn
        rw [← hpn] at hp41
        clear hpn
        go_wp2_with (first | (refine ldm rfl 58 _ rfl bn 0 rfl L _ hrb.out Try.underlying58 rfl 29 info58 hLL.out ?_) | (go_at_call 48; refine (ports_any x hLL.out h2.out h26.out h40).mono ?_; rintro e w6 ⟨rfl, rfl⟩; rw [← HPN.out]) | fail)
        clear hrb
        generalize wA.alloc (.cells L.toArray 58) = wB at *
        go_loopw [3, 17] (fun v jv wj => ∃ j : Nat, j ≤ pn ∧ jv = .int .i64 j ∧ Hid (AmidE w wj mv v (Ei ++ outP x i j)) ∧ Hid (wj.heap[bn]? = some (.cells L.toArray 58 (0, 0)))) (fun _ jv _ => pn - (intOf jv).toNat)
        case atStart => exact ⟨0, Nat.zero_le _, rfl, Lib.hid (by simpa [outP] using hK2.out), hnb2⟩
        case round =>
          clear hK2 hnb2
          obtain ⟨j, hj, rfl, hK, hnb⟩ := hrel
          by_cases hjl : j < pn
          · have hjc : j ≤ x.c := by
              have := HPN.out
              unfold portsN at this
              split at this <;> omega
            have hrb := Lib.hid (range_of_row hnb.out)
            have hAx : 0 < x.c → ∃ g o, A1 = some ⟨g, o, none⟩ ∧ g < wr.heap.size ∧ ∀ j, j < x.c → wr.cell? ⟨g, o + j, none⟩ = some (.int .i64 (x.f j)) := fun h0 => by
              obtain ⟨g1, o1, e1, hg1, hx1⟩ := hNx.out h0
              exact ⟨g1, o1, e1, Nat.lt_of_lt_of_le hg1 hK.out.below.size, fun k hkc => (hK.out.below.cell (p := ⟨g1, o1 + k, none⟩) hg1).trans (hx1 k hkc)⟩
            have hAx := Lib.hid hAx
            have hK3 := Lib.hid (hK.out.alloc (.cells L.toArray 58))
            have hnb3 := Lib.hid (row_alloc hnb.out (.cells L.toArray 58))
            obtain ⟨tg, htg⟩ : ∃ tg, tg = targetN x j := ⟨_, rfl⟩
            have HTG := Lib.hid htg
            clear htg
            go_wp2_with (first | (refine ldm rfl 58 _ rfl bn 0 rfl L _ hrb.out Try.underlying58 rfl 29 info58 hLL.out ?_) | (go_at_call 49; refine (target_any x hLL.out h2.out h26.out h40 hAx.out j hjc).mono ?_; rintro e w6 ⟨rfl, rfl⟩; rw [← HTG.out]; refine Hid.out ?_) | (at_builtin; refine Hid.out ?_) | fail)
            refine Lib.hid ?_
            clear hrb hAx hnb hK
            generalize wr.alloc (.cells L.toArray 58) = wC at *
            have hO1 := Lib.hid (hK3.out.alloc (.cells #[.int .i64 (i : Int), .int .i64 (j : Int), .int .i64 tg] 44))
            have hnb1 := Lib.hid (row_alloc hnb3.out (.cells #[.int .i64 (i : Int), .int .i64 (j : Int), .int .i64 tg] 44))
            have w0 : (wC.alloc (.cells #[.int .i64 (i : Int), .int .i64 (j : Int), .int .i64 tg] 44)).cell? ⟨wC.heap.size, 0, none⟩ = some (.int .i64 (i : Int)) := by rw [World.cell?_alloc_new]; rfl
            have w1 : (wC.alloc (.cells #[.int .i64 (i : Int), .int .i64 (j : Int), .int .i64 tg] 44)).cell? ⟨wC.heap.size, 1, none⟩ = some (.int .i64 (j : Int)) := by rw [World.cell?_alloc_new]; rfl
            have w2 : (wC.alloc (.cells #[.int .i64 (i : Int), .int .i64 (j : Int), .int .i64 tg] 44)).cell? ⟨wC.heap.size, 2, none⟩ = some (.int .i64 tg) := by rw [World.cell?_alloc_new]; rfl
            have hs1 : Hid (w.heap.size ≤ (wC.alloc (.cells #[.int .i64 (i : Int), .int .i64 (j : Int), .int .i64 tg] 44)).heap.size) := Lib.hid hO1.out.below.size
            clear hK3 hnb3
            go_wp2_with (at_builtin; refine Hid.out ?_)
            refine Lib.hid ?_
            go_loud (refine wpl_edge rfl (.tmp 20) (.tmp 27) rfl w.heap.size _ _ rfl hO1.out.own wC.heap.size ((i : Int), (j : Int), tg) rfl w0 w1 w2 (by have := hlen.out; rw [List.length_append, outP_len]; omega) hs1.out ?_)
            intro v' w5 ho5 hg5
            have hK5 := Lib.hid (hO1.out.more ho5 hg5)
            have hnb5 : Hid (w5.heap[bn]? = some (.cells L.toArray 58 (0, 0))) := Lib.hid (by
              rw [hg5.block bn (row_lt hnb1.out) (hO1.out.own.ne hnb1.out (by decide))]; exact hnb1.out)
            have hK6 : Hid (AmidE w w5 mv v' (Ei ++ outP x i (j + 1))) := Lib.hid (by
              have := hK5.out
              rw [HTG.out] at this
              rw [outP_succ, ← List.append_assoc]
              exact this)
            clear ho5 hg5 hO1 hnb1 hK5 w0 w1 w2 hs1
            go_wp2_with fail
            go_roundw
            case rel => exact ⟨j + 1, by omega, by go_num, hK6, hnb5⟩
            case measure => simp [intOf]; omega
          · have hK5 : Hid (AmidE w wr mv u3 (edgesL ⟨n, d⟩ (i + 1))) := Lib.hid (by
              have e : pn = j := by omega
              rw [hE2.out, ← outP_all, ← HPN.out, e]
              exact hK.out)
            clear hK hnb hE2
            go_wp2_with fail
            go_roundw
            case rel => exact ⟨i + 1, by omega, by go_num, hK5⟩
            case measure => simp [intOf]; omega
      · obtain rfl : n = i := by omega
        have hfin := Lib.hid hk.out
        clear hk
        go_wp2_with fail
        go_ret
        exact ⟨_, rfl, hfin.out.own, hfin.out.below⟩
theorem LEdges {mv : Array Value} {G : GT} (w : World) (h : ModelAt w w.heap.size mv G) (hf : fewB G) : Calls Try.prog 22 #[.agg mv] w (SaysE w (edgesL G G.n)) :=
  (LEdges_own w h hf).mono fun _ _ ⟨_, he, ho, hb⟩ => by
    obtain ⟨A, c, e, hl⟩ := ho.lie
    rw [he]
    exact ⟨A, c, by rw [e], hl, hb⟩
end Go.Proofs.Ytmbjmibjobpdgaa
namespace Go.Proofs.Ytmbjmibjobpdgaa
open Go.RowKit Go.Maps Go.Sort Go.Shelf
def lay_keys_ren : Go.Shelf.Ren := ⟨fun | 7 => 52 | 10 => 75 | n => n, fun | 23 => 91 | 26 => 3 | 3 => 92 | 28 => 96 | 0 => 0 | 27 => 95 | 33 => 119 | 4 => 4 | n => n, fun | n => n⟩
theorem lay_keys : Go.Proofs.SlLaysZI.n7 Try.prog lay_keys_ren := {
  mixed := by kernel_rfl
  f7 := ⟨Try.f52.name, by decide, Try.func52.trans (congrArg some (by kernel_rfl))⟩
  f10 := ⟨Try.f75.name, by decide, Try.func75.trans (congrArg some (by kernel_rfl))⟩
  t0 := Try.underlying0
  a0 := Try.isAgg0
  z0 := Try.sizeOf0
  v0 := Try.zeroValue0
  t4 := Try.underlying4
  a4 := Try.isAgg4
  z4 := Try.sizeOf4
  v4 := Try.zeroValue4
  t23 := Try.underlying91
  a23 := Try.isAgg91
  z23 := Try.sizeOf91
  v23 := Try.zeroValue91
  t26 := Try.underlying3
  a26 := Try.isAgg3
  z26 := Try.sizeOf3
  v26 := Try.zeroValue3
  t27 := Try.underlying95
  a27 := Try.isAgg95
  z27 := Try.sizeOf95
  v27 := Try.zeroValue95
  t28 := Try.underlying96
  a28 := Try.isAgg96
  z28 := Try.sizeOf96
  v28 := Try.zeroValue96
  t33 := Try.underlying119
  a33 := Try.isAgg119
  z33 := Try.sizeOf119
  v33 := Try.zeroValue119 }
def lay_sorted_ren : Go.Shelf.Ren := ⟨fun | 6 => 51 | 8 => 74 | 9 => 35 | 11 => 93 | 13 => 66 | 12 => 65 | 23 => 89 | 24 => 90 | 14 => 81 | 15 => 82 | 16 => 83 | 17 => 84 | 18 => 85 | 19 => 86 | 20 => 71 | 21 => 87 | 22 => 88 | 25 => 94 | 26 => 95 | 27 => 96 | 28 => 97 | 29 => 98 | 30 => 92 | 31 => 101 | n => n, fun | 26 => 3 | 28 => 96 | 24 => 30 | 0 => 0 | 3 => 3 | 37 => 45 | 48 => 135 | 50 => 137 | 4 => 4 | 40 => 129 | 39 => 128 | 45 => 33 | 5 => 5 | 9 => 9 | 51 => 141 | 55 => 145 | 57 => 151 | 58 => 152 | 33 => 119 | n => n, fun | n => n⟩
theorem lay_sorted : Go.Proofs.SlLaysZI.n6 Try.prog lay_sorted_ren := {
  mixed := by kernel_rfl
  f6 := ⟨Try.f51.name, by decide, Try.func51.trans (congrArg some (by kernel_rfl))⟩
  f8 := ⟨Try.f74.name, by decide, Try.func74.trans (congrArg some (by kernel_rfl))⟩
  f11 := ⟨Try.f93.name, by decide, Try.func93.trans (congrArg some (by kernel_rfl))⟩
  t0 := Try.underlying0
  a0 := Try.isAgg0
  z0 := Try.sizeOf0
  v0 := Try.zeroValue0
  t24 := Try.underlying30
  a24 := Try.isAgg30
  z24 := Try.sizeOf30
  v24 := Try.zeroValue30
  t26 := Try.underlying3
  a26 := Try.isAgg3
  z26 := Try.sizeOf3
  v26 := Try.zeroValue3
  t28 := Try.underlying96
  a28 := Try.isAgg96
  z28 := Try.sizeOf96
  v28 := Try.zeroValue96
  i26 := by kernel_rfl }
def lay_sort_ren : Go.Shelf.Ren := ⟨fun | 5 => 35 | 8 => 66 | 7 => 65 | 19 => 89 | 20 => 90 | 10 => 81 | 11 => 82 | 12 => 83 | 13 => 84 | 14 => 85 | 15 => 86 | 16 => 71 | 17 => 87 | 18 => 88 | 30 => 94 | 31 => 95 | 32 => 96 | 33 => 97 | 34 => 98 | 35 => 92 | 40 => 101 | n => n, fun | 23 => 30 | 25 => 3 | 3 => 3 | 32 => 45 | 22 => 30 | 0 => 0 | 44 => 135 | 46 => 137 | 4 => 4 | 36 => 129 | 35 => 128 | 41 => 33 | 5 => 5 | 9 => 9 | 53 => 141 | 57 => 145 | 63 => 151 | 64 => 152 | n => n, fun | n => n⟩
theorem lay_sort : Go.Proofs.SlLaysM.n5 Try.prog lay_sort_ren := {
  mixed := by kernel_rfl
  f5 := ⟨Try.f35.name, by decide, Try.func35.trans (congrArg some (by kernel_rfl))⟩
  f7 := ⟨Try.f65.name, by decide, Try.func65.trans (congrArg some (by kernel_rfl))⟩
  f8 := Try.func66.trans (congrArg some (by kernel_rfl))
  f10 := ⟨Try.f81.name, by decide, Try.func81.trans (congrArg some (by kernel_rfl))⟩
  f11 := ⟨Try.f82.name, by decide, Try.func82.trans (congrArg some (by kernel_rfl))⟩
  f12 := ⟨Try.f83.name, by decide, Try.func83.trans (congrArg some (by kernel_rfl))⟩
  f13 := ⟨Try.f84.name, by decide, Try.func84.trans (congrArg some (by kernel_rfl))⟩
  f14 := ⟨Try.f85.name, by decide, Try.func85.trans (congrArg some (by kernel_rfl))⟩
  f15 := ⟨Try.f86.name, by decide, Try.func86.trans (congrArg some (by kernel_rfl))⟩
  f16 := ⟨Try.f71.name, by decide, Try.func71.trans (congrArg some (by kernel_rfl))⟩
  f17 := ⟨Try.f87.name, by decide, Try.func87.trans (congrArg some (by kernel_rfl))⟩
  f18 := ⟨Try.f88.name, by decide, Try.func88.trans (congrArg some (by kernel_rfl))⟩
  f19 := Try.func89.trans (congrArg some (by kernel_rfl))
  f20 := Try.func90.trans (congrArg some (by kernel_rfl))
  f30 := ⟨Try.f94.name, by decide, Try.func94.trans (congrArg some (by kernel_rfl))⟩
  f31 := Try.func95.trans (congrArg some (by kernel_rfl))
  f32 := Try.func96.trans (congrArg some (by kernel_rfl))
  f33 := ⟨Try.f97.name, by decide, Try.func97.trans (congrArg some (by kernel_rfl))⟩
  f34 := ⟨Try.f98.name, by decide, Try.func98.trans (congrArg some (by kernel_rfl))⟩
  f35 := ⟨Try.f92.name, by decide, Try.func92.trans (congrArg some (by kernel_rfl))⟩
  f40 := ⟨Try.f101.name, by decide, Try.func101.trans (congrArg some (by kernel_rfl))⟩
  t0 := Try.underlying0
  a0 := Try.isAgg0
  z0 := Try.sizeOf0
  v0 := Try.zeroValue0
  t3 := Try.underlying3
  a3 := Try.isAgg3
  z3 := Try.sizeOf3
  v3 := Try.zeroValue3
  t4 := Try.underlying4
  a4 := Try.isAgg4
  z4 := Try.sizeOf4
  v4 := Try.zeroValue4
  t5 := Try.underlying5
  a5 := Try.isAgg5
  z5 := Try.sizeOf5
  v5 := Try.zeroValue5
  t9 := Try.underlying9
  a9 := Try.isAgg9
  z9 := Try.sizeOf9
  v9 := Try.zeroValue9
  t22 := Try.underlying30
  a22 := Try.isAgg30
  z22 := Try.sizeOf30
  v22 := Try.zeroValue30
  t23 := Try.underlying30
  a23 := Try.isAgg30
  z23 := Try.sizeOf30
  v23 := Try.zeroValue30
  t25 := Try.underlying3
  a25 := Try.isAgg3
  z25 := Try.sizeOf3
  v25 := Try.zeroValue3
  t32 := Try.underlying45
  a32 := Try.isAgg45
  z32 := Try.sizeOf45
  v32 := Try.zeroValue45
  t35 := Try.underlying128
  a35 := Try.isAgg128
  z35 := Try.sizeOf128
  v35 := Try.zeroValue128
  t36 := Try.underlying129
  a36 := Try.isAgg129
  z36 := Try.sizeOf129
  v36 := Try.zeroValue129
  t41 := Try.underlying33
  a41 := Try.isAgg33
  z41 := Try.sizeOf33
  v41 := Try.zeroValue33
  t44 := Try.underlying135
  a44 := Try.isAgg135
  z44 := Try.sizeOf135
  v44 := Try.zeroValue135
  t46 := Try.underlying137
  a46 := Try.isAgg137
  z46 := Try.sizeOf137
  v46 := Try.zeroValue137
  t53 := Try.underlying141
  a53 := Try.isAgg141
  z53 := Try.sizeOf141
  v53 := Try.zeroValue141
  t57 := Try.underlying145
  a57 := Try.isAgg145
  z57 := Try.sizeOf145
  v57 := Try.zeroValue145
  t63 := Try.underlying151
  a63 := Try.isAgg151
  z63 := Try.sizeOf151
  v63 := Try.zeroValue151
  t64 := Try.underlying152
  a64 := Try.isAgg152
  z64 := Try.sizeOf152
  v64 := Try.zeroValue152 }
theorem sorts_lay (m : Nat) : AnyZI.SortsIn Try.prog lay_sorted_ren Fence.wide m :=
  ⟨fun blk off cap ss W hH hblk hsz => callsIn_wide.2 (AnyM.slices_Sort_int lay_sort blk off cap ss W hH hblk hsz),
   fun p cap W => callsIn_wide.2 (AnyM.slices_Sort_int_none lay_sort p cap W)⟩
theorem keys_call (mb : Option Nat) (W : World) : Calls Try.prog 52 #[.map mb] W fun e w' => e = .returned (.func (.func 75) #[] #[.pointer (some ⟨W.heap.size, 0, none⟩)]) ∧ w' = W.alloc (.cells #[.map mb] 91) :=
  (callsIn_wide (n := 5)).1 (AnyZI.keys_in lay_keys Fence.wide 5 trivial rfl mb W)
set_option maxHeartbeats 1000000 in
theorem sorted_call {H : Type} (b nn : Nat) (D0 : DataW H) (R : Value → Option (DataW H × List MemPlace)) (w : World) (hown : w.ownsMap Try.prog 3 R b nn D0) (hmax : Maps.size D0 ≤ maxLen) (hbytes : Maps.size D0 * 8 ≤ 140737488355328) :
    Calls Try.prog 51 #[.func (.func 75) #[] #[.pointer (some ⟨w.heap.size, 0, none⟩)]] (w.alloc (.cells #[.map (some b)] 91)) fun e w' => ∃ (v : Value) (ss : List Int), e = .returned v ∧ ss.Perm (intKeys D0) ∧
      w'.ownsRow (w.alloc (.cells #[.map (some b)] 91)).heap.size 3 1 v ss.length ((ss.mergeSort (fun x y => decide (x ≤ y))).map encZ) ∧ (v = .slice none 0 0 ↔ ss = []) ∧ Below (w.alloc (.cells #[.map (some b)] 91)).heap.size (w.alloc (.cells #[.map (some b)] 91)) w' := by
  have hbl := hown.lt
  have hseq : SeqGives Fence.wide 2 Try.prog 75 #[.pointer (some ⟨w.heap.size, 0, none⟩)] encZ (fun ss => ss.Perm (intKeys D0)) (Maps.size D0) (w.alloc (.cells #[.map (some b)] 91)) :=
    AnyZI.keys_gives (ρ := lay_keys_ren) { lay_keys with } Fence.wide _ trivial rfl (by omega) w.heap.size b nn D0 _ (by simp) (by simp) (by
      obtain ⟨es, clock, hb, Ft, hs, hD⟩ := hown
      exact ⟨es, clock, (Below.heap_alloc _ _ b hbl).trans hb, Ft, hs, hD⟩)
  have cS := AnyZI.sorted_in lay_sorted Fence.wide 5 trivial trivial trivial trivial rfl (by omega) (sorts_lay _) (enters_of Try.func35 (by kernel_rfl) rfl) 75 #[.pointer (some ⟨w.heap.size, 0, none⟩)] trivial (enters_of Try.func75 (by kernel_rfl) rfl) _ _ hmax hbytes _ hseq
  exact (callsIn_wide (n := 5)).1 cS
end Go.Proofs.Ytmbjmibjobpdgaa
