/-
  The document's number: floats.
-/
import Derived.Test.YtcmohggnehkjeaaGreatUd
namespace Go.Proofs.YtcmohggnehkjeaaGreat
open Go.RowKit

set_option maxRecDepth 20000 in
set_option maxHeartbeats 2000000 in
theorem number_flo_no_none {s : ByteArray} {a p k q : Nat} (hs : s.size ≤ 100000) (hd : a + (dig (left s a)).length = p) (hlt : p < s.size) (hp : s[p] = 112) (hk : k = p + 1) (hm : p + 1 = s.size) (hq : k + (dig (left s k)).length = q) (hqk : q = k) (w : World) :
    Calls Tryz.prog 170 #[.string s, .agg (tok0 a)] w fun e w' => HdEnds a (.err 5) w e w' := by
  have hqs : q ≤ s.size := by
    have := dig_le (left s k)
    have := left_len s k
    omega
  have haq : a ≤ q := by omega
  have RN2 := run_any (s := s) (i := k) (by omega) hs
  rw [hq] at RN2
  have RN := run_any (s := s) (i := a) (by omega) hs
  rw [hd] at RN
  have hW := RW.start w (tok0 a)
  have SF := float_store
  have t1 : ((s[p].toNat : Int) == 112) = true := by rw [hp]; rfl
  have t2 : ¬ p + 1 < s.size := by omega
  have hkq : k ≤ q := by omega
  have HD := Lib.hid hd
  have HP := Lib.hid hp
  clear hd hp hq
  subst hk
  subst hqk
  have t5 : wrap64 ((p + 1 : Nat) : Int) = ((p + 1 : Nat) : Int) := by unfold wrap64; omega
  unfold tok0 ktokV at *
  go_enter Tryz.func170, Tryz.ntmps170
  go_wp2_with (first | (go_at_call 197; refine (RN _).mono ?_; rintro e w1 ⟨rfl, rfl⟩; refine Hid.out ?_))
  refine Lib.hid ?_
  generalize ((w.alloc (.cells #[.int .i64 1, .int .i64 a, .int .i64 a, .int .i64 0, .float .f64 0, .string ⟨#[]⟩] 174)).alloc (.cells #[.int .i64 0, .int .i64 0, .int .i64 0, .int .i64 0, .float .f64 0, .string ⟨#[]⟩] 174)) = w2 at hW ⊢
  obtain ⟨c0, c1, c2, c3, c4, c5, cf⟩ := hW.tok.cells
  obtain ⟨a0, a1, a2, a3, a4, a5, d0, d1, d2, d3, d4, d5⟩ := hW.out6
  have df := hW.free
  have HW := Lib.hid hW
  clear hW RN
  go_wp2_with (first | (go_at_call 197; refine (RN2 _).mono ?_; rintro e w1 ⟨rfl, rfl⟩))
  exact RW.bad rfl (HW.out.set 2 _) rfl rfl
set_option maxRecDepth 20000 in
set_option maxHeartbeats 2000000 in
theorem number_flo_not_none {s : ByteArray} {a p k q : Nat} (hs : s.size ≤ 100000) (hd : a + (dig (left s a)).length = p) (hlt : p < s.size) (hp : s[p] = 112) (hk : k = p + 1) (hm : p + 1 < s.size) (hm2 : ¬ s[p + 1] = 45) (hq : k + (dig (left s k)).length = q) (hqk : q = k) (w : World) :
    Calls Tryz.prog 170 #[.string s, .agg (tok0 a)] w fun e w' => HdEnds a (.err 5) w e w' := by
  have hqs : q ≤ s.size := by
    have := dig_le (left s k)
    have := left_len s k
    omega
  have haq : a ≤ q := by omega
  have RN2 := run_any (s := s) (i := k) (by omega) hs
  rw [hq] at RN2
  have RN := run_any (s := s) (i := a) (by omega) hs
  rw [hd] at RN
  have hW := RW.start w (tok0 a)
  have SF := float_store
  have t1 : ((s[p].toNat : Int) == 112) = true := by rw [hp]; rfl
  obtain ⟨c, hc⟩ : ∃ c, s[p + 1] = c := ⟨_, rfl⟩
  have t2 : ((c.toNat : Int) == 45) = false := by
    rw [beq_eq_false_iff_ne]
    intro h
    exact hm2 (by rw [hc, u8_eq]; have : (45 : UInt8).toNat = 45 := rfl; omega)
  have hkq : k ≤ q := by omega
  have HD := Lib.hid hd
  have HP := Lib.hid hp
  clear hd hp hq
  subst hk
  subst hqk
  have t5 : wrap64 ((p + 1 : Nat) : Int) = ((p + 1 : Nat) : Int) := by unfold wrap64; omega
  unfold tok0 ktokV at *
  go_enter Tryz.func170, Tryz.ntmps170
  go_wp2_with (first | (go_at_call 197; refine (RN _).mono ?_; rintro e w1 ⟨rfl, rfl⟩; refine Hid.out ?_))
  refine Lib.hid ?_
  generalize ((w.alloc (.cells #[.int .i64 1, .int .i64 a, .int .i64 a, .int .i64 0, .float .f64 0, .string ⟨#[]⟩] 174)).alloc (.cells #[.int .i64 0, .int .i64 0, .int .i64 0, .int .i64 0, .float .f64 0, .string ⟨#[]⟩] 174)) = w2 at hW ⊢
  obtain ⟨c0, c1, c2, c3, c4, c5, cf⟩ := hW.tok.cells
  obtain ⟨a0, a1, a2, a3, a4, a5, d0, d1, d2, d3, d4, d5⟩ := hW.out6
  have df := hW.free
  have HW := Lib.hid hW
  clear hW RN
  go_wp2_with (first | (go_at_call 197; refine (RN2 _).mono ?_; rintro e w1 ⟨rfl, rfl⟩))
  exact RW.bad rfl (HW.out.set 2 _) rfl rfl
set_option maxRecDepth 20000 in
set_option maxHeartbeats 2000000 in
theorem number_flo_not_ok {s : ByteArray} {a p k q : Nat} (hs : s.size ≤ 100000) (hd : a + (dig (left s a)).length = p) (hlt : p < s.size) (hp : s[p] = 112) (hk : k = p + 1) (hm : p + 1 < s.size) (hm2 : ¬ s[p + 1] = 45) (hq : k + (dig (left s k)).length = q) (hqk : ¬ q = k) (hE : errW (parseV ((left s a).take (q - a))) = 0) (w : World) :
    Calls Tryz.prog 170 #[.string s, .agg (tok0 a)] w fun e w' => HdEnds a (.ok ⟨3, q - a, 0, floW (parseV ((left s a).take (q - a))), []⟩) w e w' := by
  have hqs : q ≤ s.size := by
    have := dig_le (left s k)
    have := left_len s k
    omega
  have haq : a ≤ q := by omega
  have RN2 := run_any (s := s) (i := k) (by omega) hs
  rw [hq] at RN2
  have RN := run_any (s := s) (i := a) (by omega) hs
  rw [hd] at RN
  have hW := RW.start w (tok0 a)
  have SF := float_store
  have t1 : ((s[p].toNat : Int) == 112) = true := by rw [hp]; rfl
  obtain ⟨c, hc⟩ : ∃ c, s[p + 1] = c := ⟨_, rfl⟩
  have t2 : ((c.toNat : Int) == 45) = false := by
    rw [beq_eq_false_iff_ne]
    intro h
    exact hm2 (by rw [hc, u8_eq]; have : (45 : UInt8).toNat = 45 := rfl; omega)
  obtain ⟨L, hL⟩ : ∃ L, (left s a).take (q - a) = L := ⟨_, rfl⟩
  have hx : s.extract a q = strL L := by rw [ext_self s a q, hL]
  have hLl : L.length ≤ 100000 := by rw [← hL, List.length_take, left_len]; omega
  have PR := fun W => Parse_ref hLl W
  rw [hL] at hE ⊢
  rw [← hx, parse_pair L] at PR
  generalize floW (parseV L) = F at PR ⊢
  generalize errW (parseV L) = E at PR hE
  clear hL hx hLl
  subst hE
  have hkq : k ≤ q := by omega
  have HD := Lib.hid hd
  have HP := Lib.hid hp
  clear hd hp hq
  subst hk
  have t5 : ((q : Int) == (p : Int) + 1) = false := by rw [beq_eq_false_iff_ne]; omega
  unfold tok0 ktokV at *
  go_enter Tryz.func170, Tryz.ntmps170
  go_wp2_with (first | (go_at_call 197; refine (RN _).mono ?_; rintro e w1 ⟨rfl, rfl⟩; refine Hid.out ?_))
  refine Lib.hid ?_
  generalize ((w.alloc (.cells #[.int .i64 1, .int .i64 a, .int .i64 a, .int .i64 0, .float .f64 0, .string ⟨#[]⟩] 174)).alloc (.cells #[.int .i64 0, .int .i64 0, .int .i64 0, .int .i64 0, .float .f64 0, .string ⟨#[]⟩] 174)) = w2 at hW ⊢
  obtain ⟨c0, c1, c2, c3, c4, c5, cf⟩ := hW.tok.cells
  obtain ⟨a0, a1, a2, a3, a4, a5, d0, d1, d2, d3, d4, d5⟩ := hW.out6
  have df := hW.free
  have HW := Lib.hid hW
  clear hW RN
  go_wp2_with (first | (go_at_call 197; refine (RN2 _).mono ?_; rintro e w1 ⟨rfl, rfl⟩) | (go_at_call 198; refine (PR _).mono ?_; rintro e w4 ⟨rfl, hb4⟩; refine Hid.out ?_))
  refine Lib.hid ?_
  have hW4 : RW w w4 #[.int .i64 1, .int .i64 a, .int .i64 q, .int .i64 0, .float .f64 0, .string ⟨#[]⟩] := (HW.out.set 2 (.int .i64 q)).step hb4
  clear c0 c1 c2 c3 c4 c5 cf d0 d1 d2 d3 d4 d5 df hb4
  obtain ⟨c0, c1, c2, c3, c4, c5, cf⟩ := hW4.tok.cells
  obtain ⟨b0, b1, b2, b3, b4, b5, d0, d1, d2, d3, d4, d5⟩ := hW4.out6
  have df := hW4.free
  have HW4 := Lib.hid hW4
  clear hW4 HW
  go_wp2_with fail
  exact RW.good (t := ⟨3, q - a, 0, F, []⟩) rfl ((HW4.out.set 0 _).set 4 _) rfl rfl (by show (q : Int) = ((a + (q - a) : Nat) : Int); omega) rfl rfl
set_option maxRecDepth 20000 in
set_option maxHeartbeats 2000000 in
theorem number_flo_not_err {s : ByteArray} {a p k q : Nat} (hs : s.size ≤ 100000) (hd : a + (dig (left s a)).length = p) (hlt : p < s.size) (hp : s[p] = 112) (hk : k = p + 1) (hm : p + 1 < s.size) (hm2 : ¬ s[p + 1] = 45) (hq : k + (dig (left s k)).length = q) (hqk : ¬ q = k) (w : World) :
    Calls Tryz.prog 170 #[.string s, .agg (tok0 a)] w fun e w' => HdEnds a (.err (errW (parseV ((left s a).take (q - a))))) w e w' := by
  have hqs : q ≤ s.size := by
    have := dig_le (left s k)
    have := left_len s k
    omega
  have haq : a ≤ q := by omega
  have RN2 := run_any (s := s) (i := k) (by omega) hs
  rw [hq] at RN2
  have RN := run_any (s := s) (i := a) (by omega) hs
  rw [hd] at RN
  have hW := RW.start w (tok0 a)
  have SF := float_store
  have t1 : ((s[p].toNat : Int) == 112) = true := by rw [hp]; rfl
  obtain ⟨c, hc⟩ : ∃ c, s[p + 1] = c := ⟨_, rfl⟩
  have t2 : ((c.toNat : Int) == 45) = false := by
    rw [beq_eq_false_iff_ne]
    intro h
    exact hm2 (by rw [hc, u8_eq]; have : (45 : UInt8).toNat = 45 := rfl; omega)
  obtain ⟨L, hL⟩ : ∃ L, (left s a).take (q - a) = L := ⟨_, rfl⟩
  have hx : s.extract a q = strL L := by rw [ext_self s a q, hL]
  have hLl : L.length ≤ 100000 := by rw [← hL, List.length_take, left_len]; omega
  have PR := fun W => Parse_ref hLl W
  rw [hL]
  rw [← hx, parse_pair L] at PR
  generalize floW (parseV L) = F at PR
  generalize errW (parseV L) = E at PR ⊢
  clear hL hx hLl
  have hkq : k ≤ q := by omega
  have HD := Lib.hid hd
  have HP := Lib.hid hp
  clear hd hp hq
  subst hk
  have t5 : ((q : Int) == (p : Int) + 1) = false := by rw [beq_eq_false_iff_ne]; omega
  unfold tok0 ktokV at *
  go_enter Tryz.func170, Tryz.ntmps170
  go_wp2_with (first | (go_at_call 197; refine (RN _).mono ?_; rintro e w1 ⟨rfl, rfl⟩; refine Hid.out ?_))
  refine Lib.hid ?_
  generalize ((w.alloc (.cells #[.int .i64 1, .int .i64 a, .int .i64 a, .int .i64 0, .float .f64 0, .string ⟨#[]⟩] 174)).alloc (.cells #[.int .i64 0, .int .i64 0, .int .i64 0, .int .i64 0, .float .f64 0, .string ⟨#[]⟩] 174)) = w2 at hW ⊢
  obtain ⟨c0, c1, c2, c3, c4, c5, cf⟩ := hW.tok.cells
  obtain ⟨a0, a1, a2, a3, a4, a5, d0, d1, d2, d3, d4, d5⟩ := hW.out6
  have df := hW.free
  have HW := Lib.hid hW
  clear hW RN
  go_wp2_with (first | (go_at_call 197; refine (RN2 _).mono ?_; rintro e w1 ⟨rfl, rfl⟩) | (go_at_call 198; refine (PR _).mono ?_; rintro e w4 ⟨rfl, hb4⟩; refine Hid.out ?_))
  refine Lib.hid ?_
  have hW4 : RW w w4 #[.int .i64 1, .int .i64 a, .int .i64 q, .int .i64 0, .float .f64 0, .string ⟨#[]⟩] := (HW.out.set 2 (.int .i64 q)).step hb4
  clear c0 c1 c2 c3 c4 c5 cf d0 d1 d2 d3 d4 d5 df hb4
  obtain ⟨c0, c1, c2, c3, c4, c5, cf⟩ := hW4.tok.cells
  obtain ⟨b0, b1, b2, b3, b4, b5, d0, d1, d2, d3, d4, d5⟩ := hW4.out6
  have df := hW4.free
  have HW4 := Lib.hid hW4
  clear hW4 HW
  go_wp2_with fail
  exact RW.bad rfl ((HW4.out.set 0 _).set 4 _) rfl rfl
set_option maxRecDepth 20000 in
set_option maxHeartbeats 2000000 in
theorem number_flo_min_none {s : ByteArray} {a p k q : Nat} (hs : s.size ≤ 100000) (hd : a + (dig (left s a)).length = p) (hlt : p < s.size) (hp : s[p] = 112) (hk : k = p + 2) (hm : p + 1 < s.size) (hm2 : s[p + 1] = 45) (hq : k + (dig (left s k)).length = q) (hqk : q = k) (w : World) :
    Calls Tryz.prog 170 #[.string s, .agg (tok0 a)] w fun e w' => HdEnds a (.err 5) w e w' := by
  have hqs : q ≤ s.size := by
    have := dig_le (left s k)
    have := left_len s k
    omega
  have haq : a ≤ q := by omega
  have RN2 := run_any (s := s) (i := k) (by omega) hs
  rw [hq] at RN2
  have RN := run_any (s := s) (i := a) (by omega) hs
  rw [hd] at RN
  have hW := RW.start w (tok0 a)
  have SF := float_store
  have t1 : ((s[p].toNat : Int) == 112) = true := by rw [hp]; rfl
  have t2 : ((s[p + 1].toNat : Int) == 45) = true := by rw [hm2]; rfl
  have hkq : k ≤ q := by omega
  have HD := Lib.hid hd
  have HP := Lib.hid hp
  clear hd hp hq
  subst hk
  subst hqk
  have t5 : wrap64 ((p + 2 : Nat) : Int) = ((p + 2 : Nat) : Int) := by unfold wrap64; omega
  unfold tok0 ktokV at *
  go_enter Tryz.func170, Tryz.ntmps170
  go_wp2_with (first | (go_at_call 197; refine (RN _).mono ?_; rintro e w1 ⟨rfl, rfl⟩; refine Hid.out ?_))
  refine Lib.hid ?_
  generalize ((w.alloc (.cells #[.int .i64 1, .int .i64 a, .int .i64 a, .int .i64 0, .float .f64 0, .string ⟨#[]⟩] 174)).alloc (.cells #[.int .i64 0, .int .i64 0, .int .i64 0, .int .i64 0, .float .f64 0, .string ⟨#[]⟩] 174)) = w2 at hW ⊢
  obtain ⟨c0, c1, c2, c3, c4, c5, cf⟩ := hW.tok.cells
  obtain ⟨a0, a1, a2, a3, a4, a5, d0, d1, d2, d3, d4, d5⟩ := hW.out6
  have df := hW.free
  have HW := Lib.hid hW
  clear hW RN
  go_wp2_with (first | (go_at_call 197; refine (RN2 _).mono ?_; rintro e w1 ⟨rfl, rfl⟩))
  exact RW.bad rfl (HW.out.set 2 _) rfl rfl
set_option maxRecDepth 20000 in
set_option maxHeartbeats 2000000 in
theorem number_flo_min_ok {s : ByteArray} {a p k q : Nat} (hs : s.size ≤ 100000) (hd : a + (dig (left s a)).length = p) (hlt : p < s.size) (hp : s[p] = 112) (hk : k = p + 2) (hm : p + 1 < s.size) (hm2 : s[p + 1] = 45) (hq : k + (dig (left s k)).length = q) (hqk : ¬ q = k) (hE : errW (parseV ((left s a).take (q - a))) = 0) (w : World) :
    Calls Tryz.prog 170 #[.string s, .agg (tok0 a)] w fun e w' => HdEnds a (.ok ⟨3, q - a, 0, floW (parseV ((left s a).take (q - a))), []⟩) w e w' := by
  have hqs : q ≤ s.size := by
    have := dig_le (left s k)
    have := left_len s k
    omega
  have haq : a ≤ q := by omega
  have RN2 := run_any (s := s) (i := k) (by omega) hs
  rw [hq] at RN2
  have RN := run_any (s := s) (i := a) (by omega) hs
  rw [hd] at RN
  have hW := RW.start w (tok0 a)
  have SF := float_store
  have t1 : ((s[p].toNat : Int) == 112) = true := by rw [hp]; rfl
  have t2 : ((s[p + 1].toNat : Int) == 45) = true := by rw [hm2]; rfl
  obtain ⟨L, hL⟩ : ∃ L, (left s a).take (q - a) = L := ⟨_, rfl⟩
  have hx : s.extract a q = strL L := by rw [ext_self s a q, hL]
  have hLl : L.length ≤ 100000 := by rw [← hL, List.length_take, left_len]; omega
  have PR := fun W => Parse_ref hLl W
  rw [hL] at hE ⊢
  rw [← hx, parse_pair L] at PR
  generalize floW (parseV L) = F at PR ⊢
  generalize errW (parseV L) = E at PR hE
  clear hL hx hLl
  subst hE
  have hkq : k ≤ q := by omega
  have HD := Lib.hid hd
  have HP := Lib.hid hp
  clear hd hp hq
  subst hk
  have t5 : ((q : Int) == (p : Int) + 2) = false := by rw [beq_eq_false_iff_ne]; omega
  unfold tok0 ktokV at *
  go_enter Tryz.func170, Tryz.ntmps170
  go_wp2_with (first | (go_at_call 197; refine (RN _).mono ?_; rintro e w1 ⟨rfl, rfl⟩; refine Hid.out ?_))
  refine Lib.hid ?_
  generalize ((w.alloc (.cells #[.int .i64 1, .int .i64 a, .int .i64 a, .int .i64 0, .float .f64 0, .string ⟨#[]⟩] 174)).alloc (.cells #[.int .i64 0, .int .i64 0, .int .i64 0, .int .i64 0, .float .f64 0, .string ⟨#[]⟩] 174)) = w2 at hW ⊢
  obtain ⟨c0, c1, c2, c3, c4, c5, cf⟩ := hW.tok.cells
  obtain ⟨a0, a1, a2, a3, a4, a5, d0, d1, d2, d3, d4, d5⟩ := hW.out6
  have df := hW.free
  have HW := Lib.hid hW
  clear hW RN
  go_wp2_with (first | (go_at_call 197; refine (RN2 _).mono ?_; rintro e w1 ⟨rfl, rfl⟩) | (go_at_call 198; refine (PR _).mono ?_; rintro e w4 ⟨rfl, hb4⟩; refine Hid.out ?_))
  refine Lib.hid ?_
  have hW4 : RW w w4 #[.int .i64 1, .int .i64 a, .int .i64 q, .int .i64 0, .float .f64 0, .string ⟨#[]⟩] := (HW.out.set 2 (.int .i64 q)).step hb4
  clear c0 c1 c2 c3 c4 c5 cf d0 d1 d2 d3 d4 d5 df hb4
  obtain ⟨c0, c1, c2, c3, c4, c5, cf⟩ := hW4.tok.cells
  obtain ⟨b0, b1, b2, b3, b4, b5, d0, d1, d2, d3, d4, d5⟩ := hW4.out6
  have df := hW4.free
  have HW4 := Lib.hid hW4
  clear hW4 HW
  go_wp2_with fail
  exact RW.good (t := ⟨3, q - a, 0, F, []⟩) rfl ((HW4.out.set 0 _).set 4 _) rfl rfl (by show (q : Int) = ((a + (q - a) : Nat) : Int); omega) rfl rfl
set_option maxRecDepth 20000 in
set_option maxHeartbeats 2000000 in
theorem number_flo_min_err {s : ByteArray} {a p k q : Nat} (hs : s.size ≤ 100000) (hd : a + (dig (left s a)).length = p) (hlt : p < s.size) (hp : s[p] = 112) (hk : k = p + 2) (hm : p + 1 < s.size) (hm2 : s[p + 1] = 45) (hq : k + (dig (left s k)).length = q) (hqk : ¬ q = k) (w : World) :
    Calls Tryz.prog 170 #[.string s, .agg (tok0 a)] w fun e w' => HdEnds a (.err (errW (parseV ((left s a).take (q - a))))) w e w' := by
  have hqs : q ≤ s.size := by
    have := dig_le (left s k)
    have := left_len s k
    omega
  have haq : a ≤ q := by omega
  have RN2 := run_any (s := s) (i := k) (by omega) hs
  rw [hq] at RN2
  have RN := run_any (s := s) (i := a) (by omega) hs
  rw [hd] at RN
  have hW := RW.start w (tok0 a)
  have SF := float_store
  have t1 : ((s[p].toNat : Int) == 112) = true := by rw [hp]; rfl
  have t2 : ((s[p + 1].toNat : Int) == 45) = true := by rw [hm2]; rfl
  obtain ⟨L, hL⟩ : ∃ L, (left s a).take (q - a) = L := ⟨_, rfl⟩
  have hx : s.extract a q = strL L := by rw [ext_self s a q, hL]
  have hLl : L.length ≤ 100000 := by rw [← hL, List.length_take, left_len]; omega
  have PR := fun W => Parse_ref hLl W
  rw [hL]
  rw [← hx, parse_pair L] at PR
  generalize floW (parseV L) = F at PR
  generalize errW (parseV L) = E at PR ⊢
  clear hL hx hLl
  have hkq : k ≤ q := by omega
  have HD := Lib.hid hd
  have HP := Lib.hid hp
  clear hd hp hq
  subst hk
  have t5 : ((q : Int) == (p : Int) + 2) = false := by rw [beq_eq_false_iff_ne]; omega
  unfold tok0 ktokV at *
  go_enter Tryz.func170, Tryz.ntmps170
  go_wp2_with (first | (go_at_call 197; refine (RN _).mono ?_; rintro e w1 ⟨rfl, rfl⟩; refine Hid.out ?_))
  refine Lib.hid ?_
  generalize ((w.alloc (.cells #[.int .i64 1, .int .i64 a, .int .i64 a, .int .i64 0, .float .f64 0, .string ⟨#[]⟩] 174)).alloc (.cells #[.int .i64 0, .int .i64 0, .int .i64 0, .int .i64 0, .float .f64 0, .string ⟨#[]⟩] 174)) = w2 at hW ⊢
  obtain ⟨c0, c1, c2, c3, c4, c5, cf⟩ := hW.tok.cells
  obtain ⟨a0, a1, a2, a3, a4, a5, d0, d1, d2, d3, d4, d5⟩ := hW.out6
  have df := hW.free
  have HW := Lib.hid hW
  clear hW RN
  go_wp2_with (first | (go_at_call 197; refine (RN2 _).mono ?_; rintro e w1 ⟨rfl, rfl⟩) | (go_at_call 198; refine (PR _).mono ?_; rintro e w4 ⟨rfl, hb4⟩; refine Hid.out ?_))
  refine Lib.hid ?_
  have hW4 : RW w w4 #[.int .i64 1, .int .i64 a, .int .i64 q, .int .i64 0, .float .f64 0, .string ⟨#[]⟩] := (HW.out.set 2 (.int .i64 q)).step hb4
  clear c0 c1 c2 c3 c4 c5 cf d0 d1 d2 d3 d4 d5 df hb4
  obtain ⟨c0, c1, c2, c3, c4, c5, cf⟩ := hW4.tok.cells
  obtain ⟨b0, b1, b2, b3, b4, b5, d0, d1, d2, d3, d4, d5⟩ := hW4.out6
  have df := hW4.free
  have HW4 := Lib.hid hW4
  clear hW4 HW
  go_wp2_with fail
  exact RW.bad rfl ((HW4.out.set 0 _).set 4 _) rfl rfl
theorem left_at {s : ByteArray} {a j : Nat} : (left s a)[j]? = s.data.toList[a + j]? := by unfold left; rw [List.getElem?_drop]
theorem byte_some {s : ByteArray} {i : Nat} (h : i < s.size) : s.data.toList[i]? = some s[i] := by
  rw [List.getElem?_eq_getElem (by simpa using h)]; rfl
theorem byte_none {s : ByteArray} {i : Nat} (h : ¬ i < s.size) : s.data.toList[i]? = none := by
  rw [List.getElem?_eq_none]; simpa using Nat.le_of_not_lt h
theorem HdEnds.of {a : Nat} {h h' : Hd} {w w' : World} {e : Ending} (k : HdEnds a h w e w') (hh : h = h') : HdEnds a h' w e w' := hh ▸ k
theorem lexnum_any {s : ByteArray} {a : Nat} (hs : s.size ≤ 100000) (ha : a ≤ s.size) (w : World) : Calls Tryz.prog 170 #[.string s, .agg (tok0 a)] w fun e w' => HdEnds a (numT (left s a)) w e w' := by
  obtain ⟨d, hd⟩ : ∃ d, (dig (left s a)).length = d := ⟨_, rfl⟩
  have hdl : d ≤ s.size - a := by
    have h1 := dig_le (left s a)
    have h2 := left_len s a
    omega
  · obtain ⟨p, hp⟩ : ∃ p, a + d = p := ⟨_, rfl⟩
    have hap : a + (dig (left s a)).length = p := by rw [hd]; exact hp
    have h112 : (left s a)[d]? = s.data.toList[p]? := by rw [left_at, hp]
    unfold numT
    rw [hd, h112]
    by_cases hlt : p < s.size
    · rw [byte_some hlt]
      by_cases hc : s[p] = 112
      · rw [if_pos (by rw [hc])]
        have hr : (left s a).drop (d + 1) = left s (p + 1) := by rw [← left_drop]; congr 1; omega
        rw [hr]
        unfold floT
        by_cases hm : p + 1 < s.size
        · by_cases hm2 : s[p + 1] = 45
          · have hM : expM (left s (p + 1)) = 1 := by unfold expM; rw [left_at, Nat.add_zero, byte_some hm, hm2]; rfl
            have hrd : (left s (p + 1)).drop (expM (left s (p + 1))) = left s (p + 2) := by rw [hM, ← left_drop]
            obtain ⟨q, hq⟩ : ∃ q, p + 2 + (dig (left s (p + 2))).length = q := ⟨_, rfl⟩
            have hL : floL d (left s (p + 1)) = q - a := by unfold floL; rw [hrd, hM]; omega
            rw [hrd, hL]
            by_cases hx : (dig (left s (p + 2))).length = 0
            · rw [if_pos hx]; exact number_flo_min_none hs hap hlt hc rfl hm hm2 hq (by omega) w
            · rw [if_neg hx]
              by_cases hE : errW (parseV ((left s a).take (q - a))) = 0
              · rw [if_pos hE]; exact number_flo_min_ok hs hap hlt hc rfl hm hm2 hq (by omega) hE w
              · rw [if_neg hE]; exact number_flo_min_err hs hap hlt hc rfl hm hm2 hq (by omega) w
          · have hM : expM (left s (p + 1)) = 0 := by unfold expM; rw [left_at, Nat.add_zero, byte_some hm, if_neg (by simpa using hm2)]
            have hrd : (left s (p + 1)).drop (expM (left s (p + 1))) = left s (p + 1) := by rw [hM, List.drop_zero]
            obtain ⟨q, hq⟩ : ∃ q, p + 1 + (dig (left s (p + 1))).length = q := ⟨_, rfl⟩
            have hL : floL d (left s (p + 1)) = q - a := by unfold floL; rw [hrd, hM]; omega
            rw [hrd, hL]
            by_cases hx : (dig (left s (p + 1))).length = 0
            · rw [if_pos hx]; exact number_flo_not_none hs hap hlt hc rfl hm hm2 hq (by omega) w
            · rw [if_neg hx]
              by_cases hE : errW (parseV ((left s a).take (q - a))) = 0
              · rw [if_pos hE]; exact number_flo_not_ok hs hap hlt hc rfl hm hm2 hq (by omega) hE w
              · rw [if_neg hE]; exact number_flo_not_err hs hap hlt hc rfl hm hm2 hq (by omega) w
        · have hN : left s (p + 1) = [] := left_nil (by omega)
          have hx : (dig ((left s (p + 1)).drop (expM (left s (p + 1))))).length = 0 := by rw [hN]; rfl
          rw [if_pos hx]
          exact number_flo_no_none (q := p + 1) hs hap hlt hc rfl (by omega) (by rw [hN]; rfl) rfl w
      · rw [if_neg (by simpa using hc)]
        by_cases hl : 19 < p - a
        · have : intT (dig (left s a)) = .err 3 := by unfold intT; rw [if_pos (by rw [hd]; omega)]
          rw [this]; exact number_long_not hs hap hlt hc hl w
        · exact number_int_not hs hap hlt hc hl w
    · rw [byte_none hlt, if_neg (by simp)]
      by_cases hl : 19 < p - a
      · have : intT (dig (left s a)) = .err 3 := by unfold intT; rw [if_pos (by rw [hd]; omega)]
        rw [this]; exact number_long_end hs hap (by omega) hl w
      · exact number_int_end hs hap (by omega) hl w
end Go.Proofs.YtcmohggnehkjeaaGreat
