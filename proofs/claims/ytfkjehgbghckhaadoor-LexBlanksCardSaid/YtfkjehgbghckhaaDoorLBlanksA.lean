/-
  The law LexBlanks' walk.
-/
import Derived.Test.YtfkjehgbghckhaaDoorLPlacesA
import Derived.Test.YtfkjehgbghckhaaDoorUv
import Derived.BigQuiet
import Derived.Deep.RegionLaw
import Derived.Deep.Cut
import Derived.Deep.CutRange
namespace Go.Proofs.YtfkjehgbghckhaaDoor
open Go.RowKit

/-- Bytes that came in. -/
def PAt (w : World) (A : Option Addr) (n : Nat) (pk : Nat → Nat) : Prop :=
  0 < n → ∃ g o, A = some ⟨g, o, none⟩ ∧ g < w.heap.size ∧ ∀ j, j < n → w.cell? ⟨g, o + j, none⟩ = some (.int .u8 (pk j)) ∧ pk j < 256
theorem PAt.stay {w w' : World} {A : Option Addr} {n : Nat} {pk : Nat → Nat} (h : PAt w A n pk) (hb : Below w.heap.size w w') : PAt w' A n pk := fun h0 => by
  obtain ⟨g, o, e, hg, hx⟩ := h h0
  exact ⟨g, o, e, Nat.lt_of_lt_of_le hg hb.size, fun j hj => ⟨(hb.cell (p := ⟨g, o + j, none⟩) hg).trans (hx j hj).1, (hx j hj).2⟩⟩
def sepL : Nat → List UInt8
  | 0 => [32]
  | 1 => [10]
  | 2 => [9, 32]
  | _ => [13, 10]
def sepP (pk : Nat → Nat) (n : Nat) : Nat → List UInt8 := fun i => sepL (pk (i % n) % 4)
theorem sepP_ok (pk : Nat → Nat) (n : Nat) : Sep (sepP pk n) := fun i => by
  unfold sepP
  have h : pk (i % n) % 4 < 4 := Nat.mod_lt _ (by decide)
  generalize pk (i % n) % 4 = k at h
  obtain rfl | rfl | rfl | rfl : k = 0 ∨ k = 1 ∨ k = 2 ∨ k = 3 := by omega
  all_goals exact ⟨by decide, by decide, by decide⟩
namespace lexBlanks
theorem walk_big {s : ByteArray} {A : Option Addr} {n cap : Nat} (h : 400 < s.size ∨ (s.size ≤ 400 ∧ (n = 0 ∨ (n ≠ 0 ∧ 50 < n)))) {w : World} (ht : Tabs w) : Calls Tryd.prog 3 #[.string s, .slice A n cap] w (Yes w) := by
  have K := awake_any ht
  have A2 := fun (W : World) (hT : Tabs W) => awake_any hT
  rcases h with h | ⟨h1, h2 | ⟨h2, h3⟩⟩
  · have t1 : (400 : Int) < (s.size : Int) := by omega
    clear h
    go_enter Tryd.func3, Tryd.ntmps3
    go_wp2_with (go_at_call 6; refine K.mono ?_; rintro e w1 ⟨rfl, hb1⟩; refine Hid.out ?_)
    refine Lib.hid ?_
    have ht1 := ht.below hb1
    go_wp2_with (go_at_call 6; refine (A2 _ ht1).mono ?_; rintro e w2 ⟨rfl, hb2⟩)
    go_ret
    exact ⟨rfl, hb1.trans (hb2.mono hb1.size)⟩
  · have t1 : ¬ (400 : Int) < (s.size : Int) := by omega
    subst h2
    clear h1
    go_enter Tryd.func3, Tryd.ntmps3
    go_wp2_with (go_at_call 6; refine K.mono ?_; rintro e w1 ⟨rfl, hb1⟩; refine Hid.out ?_)
    refine Lib.hid ?_
    have ht1 := ht.below hb1
    go_wp2_with (go_at_call 6; refine (A2 _ ht1).mono ?_; rintro e w2 ⟨rfl, hb2⟩)
    go_ret
    exact ⟨rfl, hb1.trans (hb2.mono hb1.size)⟩
  · have t1 : ¬ (400 : Int) < (s.size : Int) := by omega
    have t2 : ((n : Int) == 0) = false := by rw [beq_eq_false_iff_ne]; omega
    have t3 : (50 : Int) < (n : Int) := by omega
    clear h1 h2 h3
    go_enter Tryd.func3, Tryd.ntmps3
    go_wp2_with (go_at_call 6; refine K.mono ?_; rintro e w1 ⟨rfl, hb1⟩; refine Hid.out ?_)
    refine Lib.hid ?_
    have ht1 := ht.below hb1
    go_wp2_with (go_at_call 6; refine (A2 _ ht1).mono ?_; rintro e w2 ⟨rfl, hb2⟩)
    go_ret
    exact ⟨rfl, hb1.trans (hb2.mono hb1.size)⟩
set_option maxRecDepth 20000 in
set_option maxHeartbeats 4000000 in
theorem walk_all {s : ByteArray} {A : Option Addr} {n cap : Nat} {pk : Nat → Nat} (h1 : s.size ≤ 400) (h2 : n ≠ 0) (h3 : n ≤ 50) {w : World} (hp : PAt w A n pk) (ht : Tabs w) : Calls Tryd.prog 3 #[.string s, .slice A n cap] w (Yes w) := by
  have K := awake_any ht
  have L := fun (W : World) (hT : Tabs W) => LAll_any (s := s) (by omega) hT
  have t1 : ¬ (400 : Int) < (s.size : Int) := by omega
  have t2 : ((n : Int) == 0) = false := by rw [beq_eq_false_iff_ne]; omega
  have t3 : ¬ (50 : Int) < (n : Int) := by omega
  have SF := float_store
  go_enter Tryd.func3, Tryd.ntmps3
  go_wp2_with (go_at_call 6; refine K.mono ?_; rintro e w1 ⟨rfl, hb1⟩; refine Hid.out ?_)
  refine Lib.hid ?_
  have ht1 := ht.below hb1
  go_wp2_with (go_at_call 7; refine (L _ ht1).mono ?_; rintro e w2 ⟨ts, o, v, hL, hb2, rfl, hO⟩; refine Hid.out ?_)
  refine Lib.hid ?_
  have hB2 := hb1.trans (hb2.mono hb1.size)
  have ht2 := ht1.below hb2
  have hp2 := (hp.stay hb1).stay hb2
  cases o with
  | some p =>
    obtain ⟨b, y⟩ := p
    have hy := hL.err_ne b y rfl
    have ty : (y == 0) = false := by rw [beq_eq_false_iff_ne]; exact hy
    have ty2 : (y != 0) = true := by rw [bne, ty]; rfl
    have HB := Lib.hid hB2
    have e3 : errO (some (b, y)) = y := rfl
    rw [e3]
    clear hO hL hy hb1 hb2 hB2 L K e3
    go_wp2_with fail
    go_ret
    exact ⟨rfl, HB.out⟩
  | none =>
    have hT := TAt.of_own hO
    have hT' : TAt w2 v ts := hT
    have e3 : errO none = 0 := rfl
    rw [e3]
    have hlen : ts.length ≤ 400 := by have := hL.len; omega
    have HL := Lib.hid hL
    have HB2 := Lib.hid hB2
    have HP2 := Lib.hid hp2
    have HT2 := Lib.hid ht2
    clear hO hT e3 hL hb1 hb2 hB2 ht1 hp2 ht2 hp ht K
    obtain ⟨Aa, ca, rfl, hc1, hc2, hx⟩ := hT'
    have HX := Lib.hid hx
    have hmx : ts.length ≤ 9223372036854775807 := by omega
    clear hx hc1 hc2
    go_wp2_with fail
    go_loopw [8, 9, 46] (fun ov fv jv wr => ∃ (j fr : Nat) (O : ByteArray), j ≤ ts.length ∧ ov = .string O ∧ fv = .int .i64 fr ∧ jv = .int .i64 j ∧ fr ≤ s.size ∧ O.size ≤ 2 * j + fr ∧ Hid (O.data.toList ++ outK s (sepP pk n) j fr (ts.drop j) = outK s (sepP pk n) 0 0 ts) ∧ Hid (Lx s fr (ts.drop j) none) ∧ Below w2.heap.size w2 wr) (fun _ _ jv _ => ts.length - (intOf jv).toNat)
    case atStart => exact ⟨0, 0, ⟨#[]⟩, Nat.zero_le _, rfl, rfl, rfl, Nat.zero_le _, Nat.zero_le _, Lib.hid rfl, HL, Below.refl _ _⟩
    case round =>
      obtain ⟨j, fr, O, hj, rfl, rfl, rfl, hfr, hOs, hF, hLx, hb⟩ := hrel
      by_cases hlt : j < ts.length
      · obtain ⟨g, rfl, hg, hx⟩ := HX.out (by omega)
        obtain ⟨c0, c1, c2, c3, c4, c5⟩ := (hx j hlt).keep hb hg
        obtain ⟨gp, op, rfl, hgp, hpx⟩ := HP2.out (by omega)
        obtain ⟨m, hm⟩ : ∃ m, j % n = m := ⟨_, rfl⟩
        have hmn : m < n := by rw [← hm]; exact Nat.mod_lt _ (by omega)
        have tm : ((j : Int)).tmod (n : Int) = (m : Int) := by rw [Int.tmod_eq_emod_of_nonneg (by omega), ← hm]; omega
        obtain ⟨cp, hx256⟩ := hpx m hmn
        have cp' := (hb.cell (p := ⟨gp, op + m, none⟩) hgp).trans cp
        have hsep : sepP pk n j = sepL (pk m % 4) := by unfold sepP; rw [hm]
        generalize pk m = x at cp cp' hx256 hsep
        obtain ⟨y, hy⟩ : ∃ y, x % 4 = y := ⟨_, rfl⟩
        have ty : ((x : Int)).tmod 4 = (y : Int) := by rw [Int.tmod_eq_emod_of_nonneg (by omega), ← hy]; omega
        have hy4 : y < 4 := by omega
        rw [hy] at hsep
        have hLx' := hLx.out
        have hF' := hF.out
        obtain ⟨q, hq⟩ : ∃ q, ts[j] = q := ⟨_, rfl⟩
        rw [List.drop_eq_getElem_cons hlt, hq] at hLx' hF'
        rw [hq] at c0 c1 c2 c3 c4 c5
        obtain ⟨b, t⟩ := q
        obtain ⟨nx, hnx⟩ : ∃ nx, b + t.len = nx := ⟨_, rfl⟩
        have hF2 : O.data.toList ++ ((sepL y ++ (left s fr).take (nx - fr)) ++ outK s (sepP pk n) (j + 1) nx (ts.drop (j + 1))) = outK s (sepP pk n) 0 0 ts := by
          rw [← hnx, ← hsep]; exact hF'
        cases hLx' with
        | next h hk r =>
          obtain ⟨i1, i2, i3, i4, i5, i6⟩ := nextN_tok h
          have i7 := (headT_len i4).2.2.1 hk
          rw [hnx] at r i6
          have hfn : fr ≤ nx := by omega
          dsimp only at c0 c1 c2 c3 c4 c5
          rw [hnx] at c2
          generalize (t.k : Int) = kk at *
          generalize (t.n : Int) = nn at *
          generalize t.f = ff at *
          generalize strL t.s = ss at *
          have HF2 := Lib.hid hF2
          have HR := Lib.hid r
          have HB := Lib.hid hb
          have hexs : (s.extract fr nx).size = nx - fr := by rw [ByteArray.size_extract]; omega
          clear h hk r i1 i2 i3 i4 i5 i7 hF hF' hF2 hLx hx hpx cp hm hy hnx hsep hb
          go_upto_region 11 with fail
          have hX3 := Bx.new wr #[.int .i64 kk, .int .i64 b, .int .i64 nx, .int .i64 nn, .float .f64 ff, .string ss]
          obtain ⟨_, _, e2, _, _, _, _⟩ := hX3.cells
          have hA3 : Below wr.heap.size wr (wr.alloc (.cells #[.int .i64 kk, .int .i64 b, .int .i64 nx, .int .i64 nn, .float .f64 ff, .string ss] 30)) := (Below.refl _ _).alloc (Nat.le_refl _) _
          have cp3 := (hA3.cell (p := ⟨gp, op + m, none⟩) (show gp < wr.heap.size by have := HB.out.size; omega)).trans cp'
          have HA3 := Lib.hid (HB.out.trans (hA3.mono HB.out.size))
          clear hX3 c0 c1 c2 c3 c4 c5 cp' hA3
          generalize hbp : wr.heap.size = bp at e2 ⊢
          generalize (wr.alloc (.cells #[.int .i64 kk, .int .i64 b, .int .i64 nx, .int .i64 nn, .float .f64 ff, .string ss] 30)) = w3 at *
          obtain ⟨u, hu⟩ : ∃ u, s.extract fr nx = u := ⟨_, rfl⟩
          rw [hu] at hexs
          obtain rfl | rfl | rfl | rfl : y = 0 ∨ y = 1 ∨ y = 2 ∨ y = 3 := by omega
          · have z0 : (⟨#[32]⟩ : ByteArray).size = 1 := rfl
            have z1 : ¬ 9223372036854775807 < (⟨#[32]⟩ : ByteArray).size + u.size := by rw [hexs, z0]; omega
            have z2 : ¬ 9223372036854775807 < O.size + ((⟨#[32]⟩ : ByteArray) ++ u).size := by rw [ByteArray.size_append, hexs, z0]; omega
            have ty0 : ((x : Int)).tmod 4 = 0 := ty
            have ix : ∀ W, (Instr.index 31 (.agg #[.string ⟨#[32]⟩, .string ⟨#[10]⟩, .string ⟨#[9, 32]⟩, .string ⟨#[13, 10]⟩]) (.int .u8 0)).run Tryd.prog W = .ok (.string ⟨#[32]⟩) W := fun W => by kernel_rfl
            have HF3 : Hid ((O ++ ((⟨#[32]⟩ : ByteArray) ++ u)).data.toList ++ outK s (sepP pk n) (j + 1) nx (ts.drop (j + 1)) = outK s (sepP pk n) 0 0 ts) := Lib.hid (by
              rw [← HF2.out, ← hu, ext_self]
              simp only [ByteArray.data_append, Array.toList_append, List.append_assoc]
              rfl)
            have hsz : Hid ((O ++ ((⟨#[32]⟩ : ByteArray) ++ u)).size ≤ 2 * (j + 1) + nx) := Lib.hid (by rw [ByteArray.size_append, ByteArray.size_append, hexs, z0]; omega)
            have HU := Lib.hid hu
            clear ty z0 hu
            go_quiet (fail)
            have hd4 : Below w3.heap.size w3 (w3.drewN nq) := below_drewN (Below.refl _ _) _
            have e24 : (w3.drewN nq).cell? ⟨bp, 2, none⟩ = some (.int .i64 nx) := by rw [World.cell?_drewN]; exact e2
            generalize w3.drewN nq = w4 at hd4 e24 ⊢
            have HD4 := Lib.hid (HA3.out.trans (hd4.mono HA3.out.size))
            clear hd4 e2 cp3
            go_wp2_with fail
            go_roundw
            case rel => exact ⟨j + 1, nx, O ++ ((⟨#[32]⟩ : ByteArray) ++ u), by omega, by rw [HU.out], rfl, by go_num, i6, hsz.out, HF3, HR, HD4.out⟩
            case measure => simp [intOf]; omega
          · have z0 : (⟨#[10]⟩ : ByteArray).size = 1 := rfl
            have z1 : ¬ 9223372036854775807 < (⟨#[10]⟩ : ByteArray).size + u.size := by rw [hexs, z0]; omega
            have z2 : ¬ 9223372036854775807 < O.size + ((⟨#[10]⟩ : ByteArray) ++ u).size := by rw [ByteArray.size_append, hexs, z0]; omega
            have ty0 : ((x : Int)).tmod 4 = 1 := ty
            have ix : ∀ W, (Instr.index 31 (.agg #[.string ⟨#[32]⟩, .string ⟨#[10]⟩, .string ⟨#[9, 32]⟩, .string ⟨#[13, 10]⟩]) (.int .u8 1)).run Tryd.prog W = .ok (.string ⟨#[10]⟩) W := fun W => by kernel_rfl
            have HF3 : Hid ((O ++ ((⟨#[10]⟩ : ByteArray) ++ u)).data.toList ++ outK s (sepP pk n) (j + 1) nx (ts.drop (j + 1)) = outK s (sepP pk n) 0 0 ts) := Lib.hid (by
              rw [← HF2.out, ← hu, ext_self]
              simp only [ByteArray.data_append, Array.toList_append, List.append_assoc]
              rfl)
            have hsz : Hid ((O ++ ((⟨#[10]⟩ : ByteArray) ++ u)).size ≤ 2 * (j + 1) + nx) := Lib.hid (by rw [ByteArray.size_append, ByteArray.size_append, hexs, z0]; omega)
            have HU := Lib.hid hu
            clear ty z0 hu
            go_quiet (fail)
            have hd4 : Below w3.heap.size w3 (w3.drewN nq) := below_drewN (Below.refl _ _) _
            have e24 : (w3.drewN nq).cell? ⟨bp, 2, none⟩ = some (.int .i64 nx) := by rw [World.cell?_drewN]; exact e2
            generalize w3.drewN nq = w4 at hd4 e24 ⊢
            have HD4 := Lib.hid (HA3.out.trans (hd4.mono HA3.out.size))
            clear hd4 e2 cp3
            go_wp2_with fail
            go_roundw
            case rel => exact ⟨j + 1, nx, O ++ ((⟨#[10]⟩ : ByteArray) ++ u), by omega, by rw [HU.out], rfl, by go_num, i6, hsz.out, HF3, HR, HD4.out⟩
            case measure => simp [intOf]; omega
          · have z0 : (⟨#[9, 32]⟩ : ByteArray).size = 2 := rfl
            have z1 : ¬ 9223372036854775807 < (⟨#[9, 32]⟩ : ByteArray).size + u.size := by rw [hexs, z0]; omega
            have z2 : ¬ 9223372036854775807 < O.size + ((⟨#[9, 32]⟩ : ByteArray) ++ u).size := by rw [ByteArray.size_append, hexs, z0]; omega
            have ty0 : ((x : Int)).tmod 4 = 2 := ty
            have ix : ∀ W, (Instr.index 31 (.agg #[.string ⟨#[32]⟩, .string ⟨#[10]⟩, .string ⟨#[9, 32]⟩, .string ⟨#[13, 10]⟩]) (.int .u8 2)).run Tryd.prog W = .ok (.string ⟨#[9, 32]⟩) W := fun W => by kernel_rfl
            have HF3 : Hid ((O ++ ((⟨#[9, 32]⟩ : ByteArray) ++ u)).data.toList ++ outK s (sepP pk n) (j + 1) nx (ts.drop (j + 1)) = outK s (sepP pk n) 0 0 ts) := Lib.hid (by
              rw [← HF2.out, ← hu, ext_self]
              simp only [ByteArray.data_append, Array.toList_append, List.append_assoc]
              rfl)
            have hsz : Hid ((O ++ ((⟨#[9, 32]⟩ : ByteArray) ++ u)).size ≤ 2 * (j + 1) + nx) := Lib.hid (by rw [ByteArray.size_append, ByteArray.size_append, hexs, z0]; omega)
            have HU := Lib.hid hu
            clear ty z0 hu
            go_quiet (fail)
            have hd4 : Below w3.heap.size w3 (w3.drewN nq) := below_drewN (Below.refl _ _) _
            have e24 : (w3.drewN nq).cell? ⟨bp, 2, none⟩ = some (.int .i64 nx) := by rw [World.cell?_drewN]; exact e2
            generalize w3.drewN nq = w4 at hd4 e24 ⊢
            have HD4 := Lib.hid (HA3.out.trans (hd4.mono HA3.out.size))
            clear hd4 e2 cp3
            go_wp2_with fail
            go_roundw
            case rel => exact ⟨j + 1, nx, O ++ ((⟨#[9, 32]⟩ : ByteArray) ++ u), by omega, by rw [HU.out], rfl, by go_num, i6, hsz.out, HF3, HR, HD4.out⟩
            case measure => simp [intOf]; omega
          · have z0 : (⟨#[13, 10]⟩ : ByteArray).size = 2 := rfl
            have z1 : ¬ 9223372036854775807 < (⟨#[13, 10]⟩ : ByteArray).size + u.size := by rw [hexs, z0]; omega
            have z2 : ¬ 9223372036854775807 < O.size + ((⟨#[13, 10]⟩ : ByteArray) ++ u).size := by rw [ByteArray.size_append, hexs, z0]; omega
            have ty0 : ((x : Int)).tmod 4 = 3 := ty
            have ix : ∀ W, (Instr.index 31 (.agg #[.string ⟨#[32]⟩, .string ⟨#[10]⟩, .string ⟨#[9, 32]⟩, .string ⟨#[13, 10]⟩]) (.int .u8 3)).run Tryd.prog W = .ok (.string ⟨#[13, 10]⟩) W := fun W => by kernel_rfl
            have HF3 : Hid ((O ++ ((⟨#[13, 10]⟩ : ByteArray) ++ u)).data.toList ++ outK s (sepP pk n) (j + 1) nx (ts.drop (j + 1)) = outK s (sepP pk n) 0 0 ts) := Lib.hid (by
              rw [← HF2.out, ← hu, ext_self]
              simp only [ByteArray.data_append, Array.toList_append, List.append_assoc]
              rfl)
            have hsz : Hid ((O ++ ((⟨#[13, 10]⟩ : ByteArray) ++ u)).size ≤ 2 * (j + 1) + nx) := Lib.hid (by rw [ByteArray.size_append, ByteArray.size_append, hexs, z0]; omega)
            have HU := Lib.hid hu
            clear ty z0 hu
            go_quiet (fail)
            have hd4 : Below w3.heap.size w3 (w3.drewN nq) := below_drewN (Below.refl _ _) _
            have e24 : (w3.drewN nq).cell? ⟨bp, 2, none⟩ = some (.int .i64 nx) := by rw [World.cell?_drewN]; exact e2
            generalize w3.drewN nq = w4 at hd4 e24 ⊢
            have HD4 := Lib.hid (HA3.out.trans (hd4.mono HA3.out.size))
            clear hd4 e2 cp3
            go_wp2_with fail
            go_roundw
            case rel => exact ⟨j + 1, nx, O ++ ((⟨#[13, 10]⟩ : ByteArray) ++ u), by omega, by rw [HU.out], rfl, by go_num, i6, hsz.out, HF3, HR, HD4.out⟩
            case measure => simp [intOf]; omega
      · have hjl : j = ts.length := by omega
        have hO1 : O.data.toList = outK s (sepP pk n) 0 0 ts := by
          have := hF.out
          rw [hjl, List.drop_length] at this
          simpa [outK] using this
        obtain ⟨X, hX⟩ : ∃ X, O ++ (⟨#[32]⟩ : ByteArray) = X := ⟨_, rfl⟩
        have hXs : X = strL ([] ++ (outK s (sepP pk n) 0 0 ts ++ [32])) := by
          apply ByteArray.ext
          apply Array.ext'
          rw [← hX, ByteArray.data_append, Array.toList_append, hO1]
          rfl
        have hXl : ([] ++ (outK s (sepP pk n) 0 0 ts ++ [32])).length ≤ 2000 := by
          have := outK_len (sepP_ok pk n) HL.out 0
          simp only [List.nil_append, List.length_append, List.length_cons, List.length_nil]
          omega
        obtain ⟨us, hus, hmap⟩ := blanks_main (sepP_ok pk n) HL.out rfl [] 0 hXl
        have hul : us.length = ts.length := by
          have := congrArg List.length hmap
          simpa using this
        have hXz : X.size ≤ 2000 := by rw [hXs]; exact hXl
        rw [← hXs] at hus
        have L2 := fun (W : World) (hT : Tabs W) => LAll_at (s := X) (by omega) hus hT
        have hOs2 : ¬ 9223372036854775807 < O.size + (⟨#[32]⟩ : ByteArray).size := by rw [show (⟨#[32]⟩ : ByteArray).size = 1 from rfl]; omega
        have htw := HT2.out.below hb
        have HB := Lib.hid hb
        have HMAP := Lib.hid hmap
        have HX2 := Lib.hid hX
        have HUL := Lib.hid hul
        clear hF hLx hb hjl hO1 hXs hXl hus hmap hXz hul
        go_wp2_with (go_at_call 7; refine (L2 _ htw).mono ?_; rintro e w5 ⟨v5, rfl, hb5, hT5⟩; refine Hid.out ?_)
        refine Lib.hid ?_
        have hT5' : TAt w5 v5 us := hT5
        have hHX5 : 0 < ts.length → ∃ g, Aa = some ⟨g, 0, none⟩ ∧ g < w5.heap.size ∧ ∀ i (h : i < ts.length), Six w5 g (i * 6) ts[i].1 ts[i].2 := fun h0 => by
          obtain ⟨g, e, hg, hx⟩ := HX.out h0
          exact ⟨g, e, Nat.lt_of_lt_of_le hg (Nat.le_trans HB.out.size hb5.size), fun i hi => ((hx i hi).keep HB.out hg).keep hb5 (Nat.lt_of_lt_of_le hg HB.out.size)⟩
        have HX5 := Lib.hid hHX5
        have e3 : errO none = 0 := rfl
        rw [e3]
        have HB5 := Lib.hid (HB2.out.trans ((HB.out.trans (hb5.mono HB.out.size)).mono HB2.out.size))
        clear hT5 hHX5 hb5 htw L2 L e3
        obtain ⟨A5, c5a, rfl, hc1, hc2, hx5⟩ := hT5'
        have HXu := Lib.hid hx5
        rw [HUL.out]
        clear hx5 hc1 hc2
        go_wp2_with fail
        go_loopw [90] (fun jv wr => ∃ j : Nat, j ≤ ts.length ∧ jv = .int .i64 j ∧ Below w5.heap.size w5 wr) (fun jv _ => ts.length - (intOf jv).toNat)
        case atStart => exact ⟨0, Nat.zero_le _, rfl, Below.refl _ _⟩
        case round =>
          obtain ⟨i, hi, rfl, hb⟩ := hrel
          by_cases hlt : i < ts.length
          · obtain ⟨g, rfl, hg, hx⟩ := HX5.out (by omega)
            have hi2 : i < us.length := by rw [HUL.out]; exact hlt
            obtain ⟨g', rfl, hg', hx'⟩ := HXu.out (by omega)
            obtain ⟨c0, c1, c2, c3, c4, c5⟩ := (hx i hlt).keep hb hg
            obtain ⟨d0, d1, d2, d3, d4, d5⟩ := (hx' i hi2).keep hb hg'
            have hsame : us[i].2 = ts[i].2 := by
              have := congrArg (fun l => l[i]?) HMAP.out
              simpa [hlt, hi2] using this
            rw [hsame] at d0 d2 d3 d4 d5
            obtain ⟨p, hp⟩ : ∃ p, ts[i] = p := ⟨_, rfl⟩
            obtain ⟨p', hp'⟩ : ∃ p', us[i] = p' := ⟨_, rfl⟩
            rw [hp] at c0 c1 c2 c3 c4 c5 d0 d2 d3 d4 d5
            rw [hp'] at d1 d2
            obtain ⟨b, t⟩ := p
            obtain ⟨b', t'⟩ := p'
            dsimp only at c0 c1 c2 c3 c4 c5 d0 d1 d2 d3 d4 d5
            generalize ((b + t.len : Nat) : Int) = n1 at c2
            generalize ((b' + t.len : Nat) : Int) = n2 at d2
            generalize (t.k : Int) = kk at *
            generalize (t.n : Int) = nn at *
            generalize t.f = ff at *
            generalize strL t.s = ss at *
            have hgw : g < wr.heap.size := Nat.lt_of_lt_of_le hg hb.size
            have hgw' : g' < wr.heap.size := Nat.lt_of_lt_of_le hg' hb.size
            have A1 : Below wr.heap.size wr (wr.alloc (.cells #[.int .i64 0, .int .i64 0, .int .i64 0, .int .i64 0, .float .f64 0, .string ⟨#[]⟩] 30)) := (Below.refl _ _).alloc (Nat.le_refl _) _
            have A2 : Below wr.heap.size wr ((wr.alloc (.cells #[.int .i64 0, .int .i64 0, .int .i64 0, .int .i64 0, .float .f64 0, .string ⟨#[]⟩] 30)).alloc (.cells #[.int .i64 0, .int .i64 0, .int .i64 0, .int .i64 0, .float .f64 0, .string ⟨#[]⟩] 30)) := A1.alloc A1.size _
            have c0p := (A1.cell (p := ⟨g, i * 6, none⟩) hgw).trans c0
            have c0q := (A2.cell (p := ⟨g, i * 6, none⟩) hgw).trans c0
            have c1p := (A1.cell (p := ⟨g, i * 6 + 1, none⟩) hgw).trans c1
            have c1q := (A2.cell (p := ⟨g, i * 6 + 1, none⟩) hgw).trans c1
            have c2p := (A1.cell (p := ⟨g, i * 6 + 2, none⟩) hgw).trans c2
            have c2q := (A2.cell (p := ⟨g, i * 6 + 2, none⟩) hgw).trans c2
            have c3p := (A1.cell (p := ⟨g, i * 6 + 3, none⟩) hgw).trans c3
            have c3q := (A2.cell (p := ⟨g, i * 6 + 3, none⟩) hgw).trans c3
            have c4p := (A1.cell (p := ⟨g, i * 6 + 4, none⟩) hgw).trans c4
            have c4q := (A2.cell (p := ⟨g, i * 6 + 4, none⟩) hgw).trans c4
            have c5p := (A1.cell (p := ⟨g, i * 6 + 5, none⟩) hgw).trans c5
            have c5q := (A2.cell (p := ⟨g, i * 6 + 5, none⟩) hgw).trans c5
            have d0p := (A1.cell (p := ⟨g', i * 6, none⟩) hgw').trans d0
            have d0q := (A2.cell (p := ⟨g', i * 6, none⟩) hgw').trans d0
            have d1p := (A1.cell (p := ⟨g', i * 6 + 1, none⟩) hgw').trans d1
            have d1q := (A2.cell (p := ⟨g', i * 6 + 1, none⟩) hgw').trans d1
            have d2p := (A1.cell (p := ⟨g', i * 6 + 2, none⟩) hgw').trans d2
            have d2q := (A2.cell (p := ⟨g', i * 6 + 2, none⟩) hgw').trans d2
            have d3p := (A1.cell (p := ⟨g', i * 6 + 3, none⟩) hgw').trans d3
            have d3q := (A2.cell (p := ⟨g', i * 6 + 3, none⟩) hgw').trans d3
            have d4p := (A1.cell (p := ⟨g', i * 6 + 4, none⟩) hgw').trans d4
            have d4q := (A2.cell (p := ⟨g', i * 6 + 4, none⟩) hgw').trans d4
            have d5p := (A1.cell (p := ⟨g', i * 6 + 5, none⟩) hgw').trans d5
            have d5q := (A2.cell (p := ⟨g', i * 6 + 5, none⟩) hgw').trans d5
            clear A1 A2
            have HB := Lib.hid hb
            clear hx hx' hb hsame hp hp'
            go_upto_region 20 with fail
            go_cut [16, 17] from 93 to 100 (fun p16 p17 wx => ∃ B16 B17 : Nat, p16 = .pointer (some ⟨B16, 0, none⟩) ∧ p17 = .pointer (some ⟨B17, 0, none⟩) ∧ Bx wx B16 #[.int .i64 kk, .int .i64 b, .int .i64 n1, .int .i64 nn, .float .f64 ff, .string ss] ∧ Bx wx B17 #[.int .i64 kk, .int .i64 b', .int .i64 n2, .int .i64 nn, .float .f64 ff, .string ss] ∧ Below wr.heap.size wr wx)
            case first =>
              go_region
              all_goals go_wp2_with fail
              all_goals go_meet
              · exact ⟨wr.heap.size, wr.heap.size + 1, rfl, rfl, (Bx.new wr _).alloc _, (boxes wr _ _ _ _ _ _ _).1, (boxes wr _ _ _ _ _ _ _).2.drew⟩
              · exact ⟨wr.heap.size + 1, wr.heap.size, rfl, rfl, (boxes wr _ _ _ _ _ _ _).1, (Bx.new wr _).alloc _, (boxes wr _ _ _ _ _ _ _).2.drew⟩
            case rest =>
              obtain ⟨B16, B17, rfl, rfl, hb16, hb17, hbw⟩ := hcut
              have S := Same_any ff ff
              rw [decide_eq_true rfl] at S
              obtain ⟨f0, f1, f2, f3, f4, f5, fz⟩ := hb16.cells
              obtain ⟨h0, h1', h2', h3', h4, h5, hz⟩ := hb17.cells
              have u1 : (kk == kk) = true := beq_self_eq_true _
              have u2 : (kk != kk) = false := by rw [bne, u1]; rfl
              have u3 : (nn == nn) = true := beq_self_eq_true _
              have u4 : (nn != nn) = false := by rw [bne, u3]; rfl
              have u5 : (ss.toList == ss.toList) = true := beq_self_eq_true _
              have u6 : (ss.toList != ss.toList) = false := by rw [bne, u5]; rfl
              have HBW := Lib.hid hbw
              clear hbw hb16 hb17 c0 c1 c2 c3 c4 c5 d0 d1 d2 d3 d4 d5 c0p c1p c2p c3p c4p c5p d0p d1p d2p d3p d4p d5p c0q c1q c2q c3q c4q c5q d0q d1q d2q d3q d4q d5q
              go_wp2_with (go_at_call 8; refine (S _).mono ?_; rintro e w6 ⟨rfl, rfl⟩)
              go_roundw
              case rel => exact ⟨i + 1, by omega, by go_num, HB.out.trans (HBW.out.mono HB.out.size)⟩
              case measure => simp [intOf]; omega
          · have HB := Lib.hid hb
            clear hb
            go_wp2_with fail
            go_ret
            exact ⟨rfl, HB5.out.trans (HB.out.mono HB5.out.size)⟩
theorem walk {s : ByteArray} {A : Option Addr} {n cap : Nat} {pk : Nat → Nat} {w : World} (hp : PAt w A n pk) (ht : Tabs w) : Calls Tryd.prog 3 #[.string s, .slice A n cap] w (Yes w) := by
  by_cases h1 : 400 < s.size
  · exact walk_big (.inl h1) ht
  · by_cases h2 : n = 0
    · exact walk_big (.inr ⟨by omega, .inl h2⟩) ht
    · by_cases h3 : 50 < n
      · exact walk_big (.inr ⟨by omega, .inr ⟨h2, h3⟩⟩) ht
      · exact walk_all (by omega) h2 (by omega) hp ht
end lexBlanks
end Go.Proofs.YtfkjehgbghckhaaDoor
