/-
  Contracts of the program's reader: insist, take, readByte. A reader gives up by a panic of the error.
  Contract of the program's readUint.
  Contract of the library's strings.Clone: the same bytes in new memory.
-/
import Derived.Test.YteclpehbpicpaaaM03
import Derived.WalkLawsBesides
import Derived.Laws.BitsAllLaws
import Derived.Lib.BufferWrite
import Derived.Lib.UnsafeStr
namespace Go.Proofs.Yteclpehbpicpaaa
open Go.RowKit

/-- A panic of this error. -/
def errL (c : Int) : List PanicEntry := [{ v := .iface 34 (.int .i64 c), recovered := false }]
/-- The program's reader: the bytes, the place, the parts. -/
def Dr (w : World) (g : Nat) (s : ByteArray) (a p : Int) : Prop := w.heap[g]? = some (.cells #[.string s, .int .i64 a, .int .i64 p] 116 (0, 0))
theorem Dr.cells {w : World} {g : Nat} {s : ByteArray} {a p : Int} (h : Dr w g s a p) :
    w.cell? ⟨g, 0, none⟩ = some (.string s) ∧ w.cell? ⟨g, 1, none⟩ = some (.int .i64 a) ∧ w.cell? ⟨g, 2, none⟩ = some (.int .i64 p) ∧ ∀ o, w.frozen? ⟨g, o, none⟩ = false := by
  unfold Dr at h
  refine ⟨?_, ?_, ?_, fun o => ?_⟩
  · simp [World.cell?, h]
  · simp [World.cell?, h]
  · simp [World.cell?, h]
  · simp [World.frozen?, h]
theorem Dr.lt {w : World} {g : Nat} {s : ByteArray} {a p : Int} (h : Dr w g s a p) : g < w.heap.size := (Array.getElem?_eq_some_iff.1 h).1
theorem Dr.set1 {w : World} {g : Nat} {s : ByteArray} {a p : Int} (h : Dr w g s a p) (a' : Int) : Dr (w.setCell ⟨g, 1, none⟩ (.int .i64 a')) g s a' p := by
  unfold Dr at *
  simp [World.setCell, Array.getElem?_modify, h]
theorem Dr.set2 {w : World} {g : Nat} {s : ByteArray} {a p : Int} (h : Dr w g s a p) (p' : Int) : Dr (w.setCell ⟨g, 2, none⟩ (.int .i64 p')) g s a p' := by
  unfold Dr at *
  simp [World.setCell, Array.getElem?_modify, h]
theorem Dr.past {w w' : World} {g : Nat} {s : ByteArray} {a p : Int} (h : Dr w g s a p) (hb : Below w.heap.size w w') : Dr w' g s a p := (hb.block g h.lt).trans h
theorem insist_yes (w : World) : Calls Try.prog 85 #[.bool true] w fun e w' => e = .returned (.tuple #[]) ∧ w = w' := by
  go_enter Try.func85, Try.ntmps85
  go_wp2_with fail
  go_end0
  exact ⟨rfl, rfl⟩
theorem insist_no (w : World) : Calls Try.prog 85 #[.bool false] w fun e w' => e = .panicked (errL 5) ∧ w = w' := by
  go_enter Try.func85, Try.ntmps85
  go_wp2_with fail
  exact ⟨rfl, rfl, rfl⟩
theorem take_torn {w : World} {g : Nat} {s : ByteArray} {a n : Nat} {p : Int} (h : Dr w g s a p) (ha : a ≤ s.size) (hs : s.size ≤ 1000000000) (hn : s.size < a + n) :
    Calls Try.prog 89 #[.pointer (some ⟨g, 0, none⟩), .int .u64 n] w fun x w' => x = .panicked (errL 14) ∧ Past g w w' := by
  obtain ⟨c0, c1, c2, cf⟩ := h.cells
  have E1 : IntKind.i64.wrap ((s.size : Int) - a) = (s.size : Int) - a := by rw [IntKind.wrap_i64]; omega
  have E2 : IntKind.u64.wrap ((s.size : Int) - a) = (s.size : Int) - a := by rw [IntKind.wrap_u64]; omega
  have t1 : decide ((s.size : Int) - a < (n : Int)) = true := by simp; omega
  clear h
  go_enter Try.func89, Try.ntmps89
  go_wp2_with fail
  go_quiet (fail)
  have hd : Below w.heap.size w (w.drewN nq) := below_drewN (Below.refl _ _) _
  generalize w.drewN nq = w2 at hd ⊢
  have P2 := Lib.hid (Past.of_below (g := g) hd)
  clear hd
  go_wp2_with fail
  exact ⟨rfl, rfl, P2.out⟩
set_option maxHeartbeats 1000000 in
theorem take_ok {w : World} {g : Nat} {s : ByteArray} {a n : Nat} {p : Int} (h : Dr w g s a p) (hs : s.size ≤ 1000000000) (hn : a + n ≤ s.size) :
    Calls Try.prog 89 #[.pointer (some ⟨g, 0, none⟩), .int .u64 n] w fun x w' => x = .returned (.string (s.extract a (a + n))) ∧ Dr w' g s ((a + n : Nat) : Int) p ∧ Past g w w' := by
  obtain ⟨c0, c1, c2, cf⟩ := h.cells
  have E1 : IntKind.i64.wrap ((s.size : Int) - a) = (s.size : Int) - a := by rw [IntKind.wrap_i64]; omega
  have E2 : IntKind.u64.wrap ((s.size : Int) - a) = (s.size : Int) - a := by rw [IntKind.wrap_u64]; omega
  have E3 : IntKind.i64.wrap (n : Int) = n := by rw [IntKind.wrap_i64]; omega
  have t1 : decide ((s.size : Int) - a < (n : Int)) = false := by simp; omega
  have HH := Lib.hid h
  clear h
  go_enter Try.func89, Try.ntmps89
  go_wp2_with fail
  go_quiet (fail)
  have hd : Below w.heap.size w (w.drewN nq) := below_drewN (Below.refl _ _) _
  generalize w.drewN nq = w2 at hd ⊢
  obtain ⟨d0, d1, d2, df⟩ := (HH.out.past hd).cells
  have h2 := Lib.hid ((HH.out.past hd).set1 ((a : Int) + n))
  have P2 := Lib.hid ((Past.of_below (g := g) hd).set 1 (.int .i64 ((a : Int) + n)))
  clear hd c0 c1 c2 cf
  go_wp2_with fail
  obtain ⟨w3, hw3⟩ : ∃ w3, w3 = w2.setCell ⟨g, 1, none⟩ (.int .i64 ((a : Int) + n)) := ⟨_, rfl⟩
  rw [← hw3]
  have h3 := h2.out
  rw [← hw3] at h3
  have P3 := P2.out
  rw [← hw3] at P3
  obtain ⟨f0, f1, f2, ff⟩ := h3.cells
  have H3 := Lib.hid h3
  have HP3 := Lib.hid P3
  clear hw3 h2 P2 d0 d1 d2 df h3 P3 HH
  go_quiet (fail)
  have hd : Below w3.heap.size w3 (w3.drewN nq) := below_drewN (Below.refl _ _) _
  generalize w3.drewN nq = w4 at hd ⊢
  have HD := Lib.hid hd
  clear hd
  go_wp2_with fail
  go_ret
  exact ⟨rfl, H3.out.past HD.out, HP3.out.trans (Past.of_below HD.out)⟩
theorem readByte_ok {w : World} {g : Nat} {s : ByteArray} {a : Nat} {p : Int} (h : Dr w g s a p) (hs : s.size ≤ 1000000000) (hn : a < s.size) :
    Calls Try.prog 84 #[.pointer (some ⟨g, 0, none⟩)] w fun x w' => x = .returned (.int .u8 (s[a].toNat : Nat)) ∧ Dr w' g s ((a + 1 : Nat) : Int) p ∧ Past g w w' := by
  have T := take_ok (n := 1) h hs (by omega)
  have hx : (s.extract a (a + 1)).size = 1 := by rw [ByteArray.size_extract]; omega
  obtain ⟨b, hb⟩ : ∃ b, b = s[a] := ⟨_, rfl⟩
  have hg : ∀ i, (s.extract a (a + 1))[0]'i = b := fun i => by rw [hb]; exact (ByteArray.getElem_extract i).trans rfl
  rw [← hb]
  obtain ⟨t, ht⟩ : ∃ t, t = s.extract a (a + 1) := ⟨_, rfl⟩
  rw [← ht] at T hx
  have hg' : ∀ i, t[0]'i = b := by subst ht; exact hg
  have hbt : t[0]'(by omega) = b := hg' _
  clear h hg hb ht hg'
  go_enter Try.func84, Try.ntmps84
  go_wp2_with (go_at_call 89; refine T.mono ?_; rintro e w1 ⟨rfl, h1, hp1⟩)
  go_ret
  exact ⟨rfl, h1, hp1⟩
theorem readByte_end {w : World} {g : Nat} {s : ByteArray} {a : Nat} {p : Int} (h : Dr w g s a p) (hs : s.size ≤ 1000000000) (ha : a = s.size) :
    Calls Try.prog 84 #[.pointer (some ⟨g, 0, none⟩)] w fun x w' => x = .panicked (errL 14) ∧ Past g w w' := by
  have T := take_torn (n := 1) h (by omega) hs (by omega)
  have HH := Lib.hid h
  clear h
  go_enter Try.func84, Try.ntmps84
  go_wp2_with (go_at_call 89; refine T.mono ?_; rintro e w1 ⟨rfl, hp1⟩)
  exact ⟨rfl, rfl, hp1⟩
end Go.Proofs.Yteclpehbpicpaaa
namespace Go.Proofs.Yteclpehbpicpaaa
open Go.RowKit

/-- How a reading of the program's ends: a panic, or what is read and the place behind it. -/
def DEnds (s : ByteArray) (w : World) (g : Nat) (p : Int) {α : Type} (r : Except Nat (α × List UInt8)) (x : Ending) (w' : World) (val : α → Value) : Prop :=
  Past g w w' ∧ match r with
  | .error c => x = .panicked (errL c)
  | .ok (n, l) => x = .returned (val n) ∧ ∃ a : Nat, a ≤ s.size ∧ l = left s a ∧ Dr w' g s a p
theorem or_add {k n x : Nat} (hn : n < 2 ^ k) : n ||| x * 2 ^ k = n + x * 2 ^ k := by
  have h := Nat.two_pow_add_eq_or_of_lt hn x
  rw [Nat.mul_comm x, Nat.or_comm, ← h, Nat.add_comm]
theorem or_eq {i n b : Nat} (hn : i ≤ 9 → n < 2 ^ (7 * i)) (h : ¬ (9 < i ∨ (i = 9 ∧ 1 < b) ∨ (0 < i ∧ b = 0))) (hb : b < 2 ^ 8) :
    bits .or .u64 (n : Int) (IntKind.u64.wrap ((b : Int) % 128 * 2 ^ (7 * i))) = ((n + b % 128 * 2 ^ (7 * i) : Nat) : Int) ∧ (i + 1 ≤ 9 → n + b % 128 * 2 ^ (7 * i) < 2 ^ (7 * (i + 1))) := by
  refine ⟨?_, (acc_eq hn h hb).2⟩
  have hn := hn (by omega)
  have hx : b % 128 * 2 ^ (7 * i) < 18446744073709551616 ∧ n < 18446744073709551616 := by
    obtain rfl | rfl | rfl | rfl | rfl | rfl | rfl | rfl | rfl | rfl : i = 0 ∨ i = 1 ∨ i = 2 ∨ i = 3 ∨ i = 4 ∨ i = 5 ∨ i = 6 ∨ i = 7 ∨ i = 8 ∨ i = 9 := by omega
    case inr.inr.inr.inr.inr.inr.inr.inr.inr =>
      obtain rfl : b = 1 := by omega
      simp only [Nat.reduceMul, Nat.reducePow] at *
      omega
    all_goals
      simp only [Nat.reduceMul, Nat.reducePow] at *
      omega
  have e : IntKind.u64.wrap ((b : Int) % 128 * 2 ^ (7 * i)) = ((b % 128 * 2 ^ (7 * i) : Nat) : Int) := by
    have e1 : ((b : Int) % 128 * 2 ^ (7 * i)) = ((b % 128 * 2 ^ (7 * i) : Nat) : Int) := by simp
    rw [e1, IntKind.wrap_u64]
    omega
  rw [e, u64_or_nat _ _ hx.2 hx.1, or_add hn]
theorem or_0 {n b : Nat} (hn : n < 2 ^ (7 * 0)) : bits .or .u64 (n : Int) ((b : Int) % 128) = ((n + b % 128 * 2 ^ (7 * 0) : Nat) : Int) := by
  have e : ((b : Int) % 128) = ((b % 128 : Nat) : Int) := by simp
  rw [e, u64_or_nat _ _ (by simp at hn; omega) (by omega)]
  obtain rfl : n = 0 := by simpa using hn
  simp
set_option maxRecDepth 20000 in
set_option maxHeartbeats 4000000 in
theorem readUint_ok {w : World} {g : Nat} {s : ByteArray} {a : Nat} {p : Int} (h : Dr w g s a p) (ha : a ≤ s.size) (hs : s.size ≤ 1000000000) :
    Calls Try.prog 52 #[.pointer (some ⟨g, 0, none⟩)] w fun x w' => DEnds s w g p (uP 0 0 (left s a)) x w' (fun n => .int .u64 n) := by
  have HH := Lib.hid h
  clear h
  go_enter Try.func52, Try.ntmps52
  go_wp2_with fail
  go_loopw [3, 4] (fun nv iv wr => ∃ (i c n : Nat), i ≤ 9 ∧ c ≤ s.size ∧ nv = .int .u64 n ∧ iv = .int .i64 (7 * i : Nat) ∧ (i ≤ 9 → n < 2 ^ (7 * i)) ∧ Hid (uP i n (left s c) = uP 0 0 (left s a)) ∧ Dr wr g s c p ∧ Past g w wr) (fun _ iv _ => 100 - (intOf iv).toNat)
  case atStart => exact ⟨0, a, 0, by omega, ha, rfl, rfl, fun _ => by decide, Lib.hid rfl, HH.out, Past.refl _ _⟩
  case round =>
    obtain ⟨i, c, n, hi, hc, rfl, rfl, hn, hu, hr, hp⟩ := hrel
    by_cases hlt : c < s.size
    · have B := readByte_ok hr hs hlt
      obtain ⟨b, hb0⟩ : ∃ b, s[c] = b := ⟨_, rfl⟩
      have hu' := hu.out
      rw [left_cons hlt, hb0] at hu'
      rw [hb0] at B
      have hb256 := b.toNat_lt
      have Y := insist_yes
      have N := insist_no
      have HY := Lib.hid Y
      have HN := Lib.hid N
      clear Y N
      by_cases hbad : 9 < i ∨ (i = 9 ∧ 1 < b.toNat) ∨ (0 < i ∧ b.toNat = 0)
      · rw [uP_bad hbad] at hu'
        have HU := Lib.hid hu'
        have HP := Lib.hid hp
        clear hu hu' hr hb0 hp hn
        by_cases i9 : i = 9
        · subst i9
          by_cases b1 : 1 < b.toNat
          · have t1 : decide ((b.toNat : Int) ≤ 1) = false := by simp; omega
            go_wp2_with (first | (go_at_call 84; refine B.mono ?_; rintro e w1 ⟨rfl, h1, hp1⟩) | (go_at_call 85; first | ((with_reducible refine (HY.out _).mono ?_); rintro e w2 ⟨rfl, rfl⟩) | ((with_reducible refine (HN.out _).mono ?_); rintro e w2 ⟨rfl, rfl⟩)))
            refine ⟨rfl, HP.out.trans hp1, ?_⟩
            rw [← HU.out]
            rfl
          · have t1 : decide ((b.toNat : Int) ≤ 1) = true := by simp; omega
            have tl : decide ((b.toNat : Int) < 128) = true := by simp; omega
            have t0 : decide ((0 : Int) < (b.toNat : Int)) = false := by simp; omega
            go_wp2_with (first | (go_at_call 84; refine B.mono ?_; rintro e w1 ⟨rfl, h1, hp1⟩) | (go_at_call 85; first | ((with_reducible refine (HY.out _).mono ?_); rintro e w2 ⟨rfl, rfl⟩) | ((with_reducible refine (HN.out _).mono ?_); rintro e w2 ⟨rfl, rfl⟩)))
            refine ⟨rfl, HP.out.trans hp1, ?_⟩
            rw [← HU.out]
            rfl
        · have h63 : 7 * (i : Int) < 63 := by omega
          have tl : decide ((b.toNat : Int) < 128) = true := by simp; omega
          have t0 : decide ((0 : Int) < (b.toNat : Int)) = false := by simp; omega
          have ts : (7 * (i : Int) == 0) = false := by simp; omega
          go_wp2_with (first | (go_at_call 84; refine B.mono ?_; rintro e w1 ⟨rfl, h1, hp1⟩) | (go_at_call 85; first | ((with_reducible refine (HY.out _).mono ?_); rintro e w2 ⟨rfl, rfl⟩) | ((with_reducible refine (HN.out _).mono ?_); rintro e w2 ⟨rfl, rfl⟩)))
          refine ⟨rfl, HP.out.trans hp1, ?_⟩
          rw [← HU.out]
          rfl
      · have hE := or_eq hn hbad hb256
        by_cases hl : b.toNat < 128
        · rw [uP_last hbad hl] at hu'
          have HU := Lib.hid hu'
          have HP := Lib.hid hp
          have HE := Lib.hid hE
          have HNN := Lib.hid hn
          clear hu hu' hr hb0 hp hE hn
          have tl : decide ((b.toNat : Int) < 128) = true := by simp; omega
          by_cases i0 : i = 0
          · subst i0
            have H0 := Lib.hid (or_0 (b := b.toNat) (HNN.out (by omega)))
            go_wp2_with (first | (go_at_call 84; refine B.mono ?_; rintro e w1 ⟨rfl, h1, hp1⟩) | (go_at_call 85; first | ((with_reducible refine (HY.out _).mono ?_); rintro e w2 ⟨rfl, rfl⟩) | ((with_reducible refine (HN.out _).mono ?_); rintro e w2 ⟨rfl, rfl⟩)))
            all_goals
              go_ret
              refine ⟨HP.out.trans hp1, ?_⟩
              rw [← HU.out]
              first
                | exact ⟨congrArg (fun z => Ending.returned (Value.int .u64 z)) H0.out, _, hlt, rfl, h1⟩
                | exact ⟨congrArg (fun z => Ending.returned (Value.int .u64 z)) (by have e : (0 : Int) = (b.toNat : Int) % 128 := by omega
                                                                                    rw [e]; exact H0.out), _, hlt, rfl, h1⟩
          · have t0 : decide ((0 : Int) < (b.toNat : Int)) = true := by simp; omega
            by_cases i9 : i = 9
            · subst i9
              have t1 : decide ((b.toNat : Int) ≤ 1) = true := by simp; omega
              go_wp2_with (first | (go_at_call 84; refine B.mono ?_; rintro e w1 ⟨rfl, h1, hp1⟩) | (go_at_call 85; first | ((with_reducible refine (HY.out _).mono ?_); rintro e w2 ⟨rfl, rfl⟩) | ((with_reducible refine (HN.out _).mono ?_); rintro e w2 ⟨rfl, rfl⟩)))
              go_ret
              refine ⟨HP.out.trans hp1, ?_⟩
              rw [← HU.out]
              exact ⟨congrArg (fun z => Ending.returned (Value.int .u64 z)) HE.out.1, _, hlt, rfl, h1⟩
            · have h63 : 7 * (i : Int) < 63 := by omega
              go_wp2_with (first | (go_at_call 84; refine B.mono ?_; rintro e w1 ⟨rfl, h1, hp1⟩) | (go_at_call 85; first | ((with_reducible refine (HY.out _).mono ?_); rintro e w2 ⟨rfl, rfl⟩) | ((with_reducible refine (HN.out _).mono ?_); rintro e w2 ⟨rfl, rfl⟩)))
              go_ret
              refine ⟨HP.out.trans hp1, ?_⟩
              rw [← HU.out]
              exact ⟨congrArg (fun z => Ending.returned (Value.int .u64 z)) HE.out.1, _, hlt, rfl, h1⟩
        · rw [uP_more hbad hl] at hu'
          have HU := Lib.hid hu'
          have HP := Lib.hid hp
          have HE := Lib.hid hE
          have HNN := Lib.hid hn
          clear hu hu' hr hb0 hp hE hn
          have tl : decide ((b.toNat : Int) < 128) = false := by simp; omega
          have i9 : i < 9 := by omega
          have h63 : 7 * (i : Int) < 63 := by omega
          go_wp2_with (first | (go_at_call 84; refine B.mono ?_; rintro e w1 ⟨rfl, h1, hp1⟩) | (go_at_call 85; first | ((with_reducible refine (HY.out _).mono ?_); rintro e w2 ⟨rfl, rfl⟩) | ((with_reducible refine (HN.out _).mono ?_); rintro e w2 ⟨rfl, rfl⟩)))
          go_roundw
          case rel => exact ⟨i + 1, c + 1, _, by omega, hlt, congrArg (Value.int .u64) HE.out.1, by go_num, HE.out.2, HU, h1, HP.out.trans hp1⟩
          case measure => simp [intOf] <;> omega
    · have B := readByte_end hr hs (by omega)
      have hu' := hu.out
      rw [left_nil (by omega), uP_nil] at hu'
      have HU := Lib.hid hu'
      have HP := Lib.hid hp
      clear hu hu' hr hp
      go_wp2_with (go_at_call 84; refine B.mono ?_; rintro e w1 ⟨rfl, hp1⟩)
      refine ⟨rfl, HP.out.trans hp1, ?_⟩
      rw [← HU.out]
      rfl
end Go.Proofs.Yteclpehbpicpaaa
namespace Go.Proofs.Yteclpehbpicpaaa
open Go.RowKit

theorem info5s : (Try.prog.info? 5).map (·.size) = some 1 := by kernel_rfl
theorem cells5 : Try.prog.cellsOf 5 = 1 := by kernel_rfl
theorem clone_0 (w : World) : Calls Try.prog 109 #[.string ⟨#[]⟩] w fun e w' => e = .returned (.string ⟨#[]⟩) ∧ w = w' := by
  go_enter Try.func109, Try.ntmps109
  go_wp2_with fail
  go_ret
  exact ⟨rfl, rfl⟩
theorem bytes_len (s : ByteArray) : s.data.toList.length = s.size := by rw [Array.length_toList]; rfl
theorem bytes_str (s : ByteArray) : (⟨s.data.toList.toArray⟩ : ByteArray) = s := by cases s; simp
set_option maxRecDepth 20000 in
set_option maxHeartbeats 1000000 in
theorem clone_any {s : ByteArray} (h : s.size ≤ 1000000000) (w : World) : Calls Try.prog 109 #[.string s] w fun e w' => e = .returned (.string s) ∧ Below w.heap.size w w' := by
  by_cases h0 : s.size = 0
  · have e : s = ⟨#[]⟩ := by
      apply ByteArray.ext
      exact Array.eq_empty_of_size_eq_zero h0
    subst e
    exact (clone_0 w).mono fun e w' ⟨h1, h2⟩ => ⟨h1, h2 ▸ Below.refl _ _⟩
  · have t0 : ((s.size : Int) == 0) = false := by rw [beq_eq_false_iff_ne]; omega
    obtain ⟨i0, hi, hz0, hz1, hz2⟩ := info_parts info5
    have H0 := Lib.hid h0
    clear h0
    go_enter Try.func109, Try.ntmps109
    go_wp2_with (at_make; refine wpList_make_full _ rfl (.tmp 8) (.tmp 8) 77 rfl w.heap.size 5 i0 (.int .u8 0) 1 Try.underlying77 hi hz0 hz1 .i64 .i64 _ _ s.size rfl rfl rfl rfl (by rw [hz2]; omega) (by unfold maxLen; omega) (Nat.le_refl _) ?_; intro w1 hown hgrow; refine Hid.out ?_)
    refine Lib.hid ?_
    have hb1 : Below w.heap.size w w1 := (Below.refl _ _).grown hgrow (Nat.le_refl _) (fun k h => by cases h)
    have hpos : 0 < s.size := by have := H0.out; omega
    obtain ⟨cur, hg, hcur⟩ : ∃ cur, w1.heap[w.heap.size]? = some (.cells cur 5 (0, 0)) ∧ cur.size = s.size := by
      rcases hown.2 with ⟨hv, _⟩ | ⟨g, cap, cur, hv, _, hh, _, _, hs, _⟩
      · cases hv
      · injection hv with h1 h2 h3
        injection h1 with h1
        injection h1 with h1
        subst h1 h3
        exact ⟨cur, hh, by omega⟩
    have hcp := fun ty => Lib.run_copy_row_string (P := Try.prog) w1 77 9 ty 5 w.heap.size 0 s.size s.size s cur 5 Try.underlying77 info5s hg (Nat.le_refl _) (by omega)
    have hrow : (cur.toList.take 0 ++ Lib.byteCells s.data.toList ++ cur.toList.drop (0 + s.size)).toArray = (Lib.byteCells s.data.toList).toArray := by
      rw [List.drop_of_length_le (by rw [Array.length_toList]; omega)]; simp
    rw [hrow] at hcp
    obtain ⟨w2, hw2⟩ : ∃ w2, w2 = w1.setRow w.heap.size (Lib.byteCells s.data.toList).toArray := ⟨_, rfl⟩
    rw [← hw2] at hcp
    have hh2 : w2.heap[w.heap.size]? = some (.cells (Lib.byteCells s.data.toList).toArray 5 (0, 0)) := by rw [hw2]; exact setRow_heap w1 _ cur _ 5 _ hg
    have hb2 : Below w.heap.size w w2 := by rw [hw2]; exact hb1.trans ⟨rfl, rfl, rfl, by simp [World.setRow], fun k hk => setRow_other w1 _ k _ (by omega)⟩
    have hsh : w2.shape? w.heap.size = some (5, s.size) := by simp [World.shape?, hh2, Lib.byteCells_length]
    have hun := fun ty => Lib.run_unsafeString_row (P := Try.prog) w2 137 3 ty 5 Try.underlying137 cells5 w.heap.size s.size hsh s.data.toList (by intro e; have := bytes_len s; rw [e] at this; simp at this; omega) (by rw [bytes_len]; exact Nat.le_refl _) (by rw [bytes_len]; omega) (fun j x hx => by
      rw [Addr.add_lit, Nat.zero_add]
      have : (Lib.byteCells s.data.toList)[j]? = some (.int .u8 x.toNat) := by simp [Lib.byteCells, hx]
      simp [World.cell?, hh2, this])
    rw [bytes_len, bytes_str] at hun
    have HB2 := Lib.hid (Lib.below_freeze hb2 (p := ⟨w.heap.size, 0, none⟩) (Nat.le_refl _) s.size)
    clear hown hgrow hg hcur hrow hh2 hw2 hb1 hb2 hsh
    go_wp2_with fail
    go_ret
    exact ⟨rfl, HB2.out⟩
theorem Clone_any {s : ByteArray} (h : s.size ≤ 1000000000) (w : World) : Calls Try.prog 88 #[.string s] w fun e w' => e = .returned (.string s) ∧ Below w.heap.size w w' := by
  have C := clone_any h
  go_enter Try.func88, Try.ntmps88
  go_wp2_with (go_at_call 109; refine (C _).mono ?_; rintro e w1 ⟨rfl, hb1⟩)
  go_ret
  exact ⟨rfl, hb1⟩
end Go.Proofs.Yteclpehbpicpaaa
