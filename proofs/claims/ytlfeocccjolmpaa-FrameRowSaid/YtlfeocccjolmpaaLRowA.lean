/-
  The walk of FrameRow.
-/
import Derived.Test.YtlfeocccjolmpaaGh
namespace Go.Proofs.Ytlfeocccjolmpaa.frameRow
open Go.RowKit

def Yes (w : World) (e : Ending) (w' : World) : Prop := e = .returned (.bool true) ∧ Below w.heap.size w w'
set_option maxRecDepth 20000 in
set_option maxHeartbeats 1000000 in
theorem walk_big {v : Value} {c : Int} {N : List (List UInt8)} {w : World} (h : SAt w v N) (h1 : 20 < N.length) : Calls Try.prog 5 #[v, .int .i64 c] w (Yes w) := by
  have HAW := Lib.hid awake_any
  obtain ⟨A, cap, rfl, _, _, _⟩ := h
  have t0 : decide ((20 : Int) < (N.length : Int)) = true := decide_eq_true (by omega)
  clear h1
  go_enter Try.func5, Try.ntmps5
  go_wp2_with (first
    | (go_at_call 8; refine (HAW.out w).mono ?_; rintro e w1 ⟨rfl, hb⟩; have HC := Lib.hid hb; clear hb)
    | (go_at_call 8; refine (HAW.out _).mono ?_; rintro e w2 ⟨rfl, hb⟩; replace HC := Lib.hid (HC.out.trans (hb.mono HC.out.size)); clear hb))
  go_ret
  exact ⟨rfl, HC.out⟩
theorem SAt.take {w : World} {A : Option Addr} {len cap : Nat} {N : List (List UInt8)} (h : SAt w (.slice A len cap) N) {n : Nat} (hn : n ≤ N.length) : SAt w (.slice A n cap) (N.take n) := by
  obtain ⟨A', cap', e, h1, h2, h3⟩ := h
  cases e
  have hl : (N.take n).length = n := by rw [List.length_take]; omega
  refine ⟨A, cap, by rw [hl], by rw [hl]; omega, h2, fun h0 => ?_⟩
  rw [hl] at h0
  obtain ⟨g, o, e, hg, hx⟩ := h3 (by omega)
  refine ⟨g, o, e, hg, fun i hi => ?_⟩
  rw [hl] at hi
  rw [hx i (by omega)]
  simp
theorem cut_here {c : Int} {n : Nat} (hm : n ≤ 1000000) : ∃ j : Nat, j ≤ n ∧ wrap64 ((IntKind.u64.wrap c).tmod ((n : Int) + 1)) = (j : Int) := by
  have hw : 0 ≤ IntKind.u64.wrap c := by rw [IntKind.wrap_u64]; omega
  generalize IntKind.u64.wrap c = z at *
  rw [Int.tmod_eq_emod_of_nonneg hw]
  have h1 := Int.emod_lt_of_pos z (show (0 : Int) < (n : Int) + 1 by omega)
  have h0 := Int.emod_nonneg z (show ((n : Int) + 1) ≠ 0 by omega)
  generalize z % ((n : Int) + 1) = y at *
  exact ⟨y.toNat, by omega, by unfold wrap64; omega⟩
set_option maxRecDepth 20000 in
set_option maxHeartbeats 1000000 in
theorem walk_few {v : Value} {c : Int} {N : List (List UInt8)} {w : World} (h : SAt w v N) (h1 : N.length ≤ 20) : Calls Try.prog 5 #[v, .int .i64 c] w (Yes w) := by
  have HAW := Lib.hid awake_any
  have HSA := Lib.hid h
  obtain ⟨A, cap, rfl, hcap, hmx, hx⟩ := h
  have t0 : decide ((20 : Int) < (N.length : Int)) = false := decide_eq_false (by omega)
  obtain ⟨i3, hi3, hy0, hy1, hy2⟩ := info_parts info3z
  have HX := Lib.hid hx
  clear hx
  go_enter Try.func5, Try.ntmps5
  go_wp2_with (first
    | (go_at_call 8; refine (HAW.out w).mono ?_; rintro e w1 ⟨rfl, hb⟩; have HC := Lib.hid hb; clear hb))
  go_loopw [5, 6, 25] (fun sv ev iv wr => ∃ i : Nat, i ≤ N.length ∧ iv = .int .i64 i ∧ sv = .string (strL (rowL (N.take i))) ∧ wr.ownsRow w1.heap.size 3 1 ev i (ints (endsL N i)) ∧ Below w1.heap.size w1 wr ∧ zL N i ≤ 206 * i ∧ Hid (∀ p ∈ N.take i, 1 ≤ p.length ∧ p.length ≤ 2000)) (fun _ _ iv _ => N.length - (intOf iv).toNat)
  case atStart => exact ⟨0, Nat.zero_le _, rfl, rfl, World.ownsRow_nil _ _ _ _, Below.refl _ _, Nat.zero_le _, Lib.hid (fun p hp => by simp at hp)⟩
  case round =>
    obtain ⟨i, hi, rfl, rfl, hO, hb, hz, hN⟩ := hrel
    by_cases hlt : i < N.length
    · obtain ⟨g, o, rfl, hg, hx⟩ := HX.out (by omega)
      have hbw := HC.out.trans (hb.mono HC.out.size)
      have c0 := (hbw.cell (p := ⟨g, o + i, none⟩) hg).trans (hx i hlt)
      obtain ⟨q, hq⟩ : ∃ q, q = strL N[i] := ⟨_, rfl⟩
      rw [← hq] at c0
      have hqs : q.size = N[i].length := by rw [hq]; rfl
      have HO := Lib.hid hO
      have HB := Lib.hid hb
      have HBW := Lib.hid hbw
      have HN := Lib.hid hN.out
      have hqd : q.data.toList = N[i] := by rw [hq]; rfl
      obtain ⟨s0, hs0⟩ : ∃ s0, s0 = strL (rowL (N.take i)) := ⟨_, rfl⟩
      have hs0z : s0.size = zL N i := by rw [hs0]; rfl
      rw [← hs0]
      have hl' := hb.size
      by_cases h2 : 200 < q.size
      · have t2 : decide ((200 : Int) < (q.size : Int)) = true := decide_eq_true (by omega)
        clear hq hqs hN hO hb hbw hx hs0 hs0z hqd h2
        go_wp2_with fail
        go_ret
        exact ⟨rfl, HBW.out⟩
      have t2 : decide ((200 : Int) < (q.size : Int)) = false := decide_eq_false (by omega)
      have K := Lib.hid (LMake_any (p := q))
      unfold makeV at K
      cases hm : mayB q with
      | false =>
        rw [hm, if_neg Bool.false_ne_true] at K
        clear hq hqs hN hO hb hbw hx hs0 hs0z hqd h2 hm
        go_wp2_with (go_at_call 9; refine (K.out _).mono ?_; rintro e w2 ⟨rfl, hb2⟩)
        go_ret
        exact ⟨rfl, HBW.out.trans (hb2.mono HBW.out.size)⟩
      | true =>
        rw [hm, if_pos rfl, hqd] at K
        have hmay : 1 ≤ q.size ∧ q.size ≤ 2000 := by unfold mayB at hm; simpa using hm
        obtain ⟨f, hf⟩ : ∃ f, f = strL (frL N[i]) := ⟨_, rfl⟩
        rw [← hf] at K
        have hfz : f.size = N[i].length + 6 := by rw [hf, strL_size, frL_len]
        have z1 : ¬ 9223372036854775807 < s0.size + f.size := by rw [hs0z, hfz]; omega
        have hs1 : s0 ++ f = strL (rowL (N.take (i + 1))) := by rw [hs0, hf, strL_append, rowL_more hlt]
        obtain ⟨s1, hs1e⟩ : ∃ s1, s0 ++ f = s1 := ⟨_, rfl⟩
        have hs1z : s1.size = zL N (i + 1) := by rw [← hs1e, hs1]; rfl
        have hzm := zL_more hlt
        have hz1 : zL N (i + 1) ≤ 206 * (i + 1) := by omega
        have HS1 := Lib.hid (hs1e.symm.trans hs1)
        have HNN := Lib.hid (show ∀ p ∈ N.take (i + 1), 1 ≤ p.length ∧ p.length ≤ 2000 by
          intro p hp
          rw [List.take_succ_eq_append_getElem hlt] at hp
          rcases List.mem_append.1 hp with hp | hp
          · exact HN.out p hp
          · obtain rfl : p = N[i] := by simpa using hp
            omega)
        generalize hze : zL N (i + 1) = z1' at *
        have HZE := Lib.hid hze
        clear hq hqs hN hO hb hbw hx hs0 hs0z hqd h2 hm hmay hf hfz hs1 hzm hze hz
        go_wp2_with (first
          | (go_at_call 9; refine (K.out _).mono ?_; rintro e w2 ⟨rfl, hb2⟩; have hO2 := owns_below HO.out hb2; have hl2 := hb2.size)
          | (at_builtin; refine wpList_append_own _ rfl _ _ 39 rfl w1.heap.size 3 i3 (.int .i64 0) 1 8 Try.underlying39 hi3 hy0 hy1 hy2 rfl (by decide) _ i _ rfl (hO2.alloc _) ⟨w2.heap.size, 0, none⟩ 1 1 [.int .i64 (z1' : Int)] rfl rfl (new1i w2 _) (by simp [Value.oneCell']) (by unfold maxLen; omega) (by omega) (by simp; omega) ?_; intro v3 w3 hown3 hgrow3 _))
        go_roundw
        case rel =>
          refine ⟨i + 1, by omega, by go_num, by rw [HS1.out], ?_, (((HB.out.trans (hb2.mono hl')).alloc (by omega) _).grown hgrow3 (by simp; omega) (fun k e => (HO.out.lt k e).1)), by rw [HZE.out]; exact hz1, HNN⟩
          have := endsL_more N i
          rw [HZE.out] at this
          rw [← this]
          exact hown3
        case measure => simp [intOf]; omega
    · obtain rfl : i = N.length := by omega
      rw [List.take_length] at *
      obtain ⟨S, hS⟩ : ∃ S, S = strL (rowL N) := ⟨_, rfl⟩
      have hSz : S.size = zL N N.length := by rw [hS, zL_all]; rfl
      rw [← hS]
      obtain ⟨k, hk, ek⟩ := cut_here (c := c) (n := S.size) (by omega)
      have hkz : k ≤ S.size := hk
      have HSZ := Lib.hid hSz
      have HS := Lib.hid hS
      have hbw := HC.out.trans (hb.mono HC.out.size)
      have HBW := Lib.hid hbw
      obtain ⟨EA, ec, rfl, hec, hem, hex⟩ := IAt.of_own hO
      have HEX := Lib.hid hex
      have HN := Lib.hid hN.out
      have hS2 : S.size ≤ 4120 := by omega
      clear hO hb hN hS hSz hz hk hbw hex
      go_wp2_with fail
      rw [ek]
      clear ek
      go_loopw [11, 12] (fun nv av wq => ∃ n : Nat, n ≤ N.length ∧ nv = .int .i64 n ∧ av = .int .i64 (zL N n : Nat) ∧ zL N n ≤ k ∧ wq = wr) (fun nv _ _ => N.length - (intOf nv).toNat)
      case atStart => exact ⟨0, Nat.zero_le _, rfl, rfl, Nat.zero_le _, rfl⟩
      case round =>
        obtain ⟨n, hn, rfl, rfl, hnk, rfl⟩ := hrel
        by_cases hlt2 : n < N.length
        · obtain ⟨ge, rfl, hge, hxe⟩ := HEX.out (by omega)
          have c1 := hxe n hlt2
          by_cases hle : zL N (n + 1) ≤ k
          · have t3 : decide (((zL N (n + 1) : Nat) : Int) ≤ (k : Int)) = true := decide_eq_true (by omega)
            generalize hze : zL N (n + 1) = z1 at *
            have HZE := Lib.hid hze
            clear hze hxe
            go_wp2_with fail
            go_roundw
            case rel => exact ⟨n + 1, by omega, by go_num, by rw [HZE.out], by rw [HZE.out]; exact hle, trivial⟩
            case measure => simp [intOf]; omega
          · have t3 : decide (((zL N (n + 1) : Nat) : Int) ≤ (k : Int)) = false := decide_eq_false (by omega)
            have hfit := fit_at N k n hn hnk (.inr (by omega))
            obtain ⟨s2, hs2⟩ : ∃ s2, S.extract 0 k = s2 := ⟨_, rfl⟩
            have hs2z : s2.size ≤ 1000000000 := by rw [← hs2, ByteArray.size_extract]; omega
            have hFr : Fr s2.data.toList (N.take n) (zL N n) := by
              have e : s2.data.toList = (rowL N).take k := by rw [← hs2, ext_take, HS.out]; rfl
              have := Fr.row N HN.out k
              rw [hfit] at this
              rw [e]
              exact this
            have HF := Lib.hid hFr
            have AL := Lib.hid (LAll_any hs2z)
            have j1 : (k : Int) ≤ (S.size : Int) := by omega
            have j2 : ((k : Int)).toNat = k := by omega
            have j3 : (n : Int) ≤ (cap : Int) := by omega
            have j4 : ((n : Int)).toNat = n := by omega
            have hnl : (N.take n).length = n := by rw [List.length_take]; omega
            have HNL := Lib.hid hnl
            clear hFr hs2z hfit hnl hxe
            go_wp2_with (first
              | (go_at_call 16; refine (AL.out _).mono ?_; rintro e w4 ⟨P, z, v2, hF, rfl, hO, hb⟩; obtain ⟨rfl, rfl⟩ := hF.unique HF.out; have HU := Lib.hid (SAt.of_own hO); have HBX := Lib.hid (HBW.out.trans (hb.mono HBW.out.size)); have HV := Lib.hid ((SAt.take HSA.out hn).stay HBX.out); clear hF hO hb)
              | (go_at_call 18; refine (Same_any HU.out (by exact HV.out)).mono ?_; rintro e w5 ⟨rfl, hb⟩))
            go_ret
            exact ⟨rfl, HBX.out.trans (hb.mono HBX.out.size)⟩
        · have en : n = N.length := by omega
          have hfit := fit_at N k n hn hnk (.inl en)
          obtain ⟨s2, hs2⟩ : ∃ s2, S.extract 0 k = s2 := ⟨_, rfl⟩
          have hs2z : s2.size ≤ 1000000000 := by rw [← hs2, ByteArray.size_extract]; omega
          have hFr : Fr s2.data.toList (N.take n) (zL N n) := by
            have e : s2.data.toList = (rowL N).take k := by rw [← hs2, ext_take, HS.out]; rfl
            have := Fr.row N HN.out k
            rw [hfit] at this
            rw [e]
            exact this
          have HF := Lib.hid hFr
          have AL := Lib.hid (LAll_any hs2z)
          have j1 : (k : Int) ≤ (S.size : Int) := by omega
          have j2 : ((k : Int)).toNat = k := by omega
          have j3 : (n : Int) ≤ (cap : Int) := by omega
          have j4 : ((n : Int)).toNat = n := by omega
          have hnl : (N.take n).length = n := by rw [List.length_take]; omega
          have HNL := Lib.hid hnl
          clear hFr hs2z hfit hnl en
          go_wp2_with (first
            | (go_at_call 16; refine (AL.out _).mono ?_; rintro e w4 ⟨P, z, v2, hF, rfl, hO, hb⟩; obtain ⟨rfl, rfl⟩ := hF.unique HF.out; have HU := Lib.hid (SAt.of_own hO); have HBX := Lib.hid (HBW.out.trans (hb.mono HBW.out.size)); have HV := Lib.hid ((SAt.take HSA.out hn).stay HBX.out); clear hF hO hb)
            | (go_at_call 18; refine (Same_any HU.out (by exact HV.out)).mono ?_; rintro e w5 ⟨rfl, hb⟩))
          go_ret
          exact ⟨rfl, HBX.out.trans (hb.mono HBX.out.size)⟩
end Go.Proofs.Ytlfeocccjolmpaa.frameRow
