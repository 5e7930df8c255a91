/-
  The document's reader: Str.
-/
import Derived.Test.YtdmbfajhcihfgaaRc
import Derived.Laws.DeepStrings4
namespace Go.Proofs.Ytdmbfajhcihfgaa
open Go.RowKit

def sP (most : Int) (l : List UInt8) : Except Nat (ByteArray × List UInt8) :=
  match uP 0 0 l with
  | .error c => .error c
  | .ok (n, r) => if most < 0 ∨ most < n then .error 5 else if r.length < n then .error 14 else .ok (strL (r.take n), r.drop n)
theorem cut_left (s : ByteArray) (a n : Nat) : s.extract a (a + n) = strL ((left s a).take n) := by
  apply ByteArray.ext
  unfold strL left
  rw [ByteArray.data_extract]
  apply Array.ext'
  simp
set_option maxRecDepth 20000 in
set_option maxHeartbeats 2000000 in
theorem Str_ok {w : World} {g : Nat} {s : ByteArray} {a : Nat} {p most : Int} (h : Rdr w g s a 0 p) (ha : a ≤ s.size) (hs : s.size ≤ 1000000000) (hm : -9223372036854775808 ≤ most ∧ most ≤ 9223372036854775807) :
    Calls Try.prog 80 #[.pointer (some ⟨g, 0, none⟩), .int .i64 most] w fun x w' => Ends s w g p (sP most (left s a)) x w' (.string ⟨#[]⟩) (fun t => .string t) := by
  cases hu : uP 0 0 (left s a) with
  | error c =>
    have U := Uint_bad h ha hs hu
    have hc := uP_err _ _ _ _ hu
    have e : sP most (left s a) = .error c := by unfold sP; rw [hu]
    rw [e]
    have tc : ((c : Int) != 0) = true := by simp; omega
    clear h hu e hm
    go_enter Try.func80, Try.ntmps80
    go_wp2_with (go_at_call 106; refine U.mono ?_; rintro e w1 ⟨rfl, hp1, a1, h1⟩; obtain ⟨d0, d1, d2, d3, df⟩ := h1.cells)
    go_ret
    exact ⟨hp1, rfl, by omega, a1, h1⟩
  | ok q =>
    obtain ⟨n, l⟩ := q
    have U := Uint_good h ha hs hu
    have hn := uP_lt _ 0 0 n l (fun _ => by decide) hu
    by_cases hbad : most < 0 ∨ most < n
    · have e : sP most (left s a) = .error 5 := by unfold sP; rw [hu]; exact if_pos hbad
      rw [e]
      clear h hu e
      by_cases h0 : most < 0
      · clear hn
        go_enter Try.func80, Try.ntmps80
        go_wp2_with (first | (go_at_call 106; refine U.mono ?_; rintro e w1 ⟨rfl, hp1, a1, ha1, hl, h1⟩; obtain ⟨d0, d1, d2, d3, df⟩ := h1.cells; have F := fail_0 h1 5) | (go_at_call 49; refine F.mono ?_; rintro e w2 ⟨rfl, h2, hp2⟩))
        go_ret
        exact ⟨hp1.trans hp2, rfl, by decide, a1, h2⟩
      · have E1 : IntKind.u64.wrap most = most := by rw [IntKind.wrap_u64]; omega
        have hlt : most < n := by omega
        clear hn hbad
        go_enter Try.func80, Try.ntmps80
        go_wp2_with (first | (go_at_call 106; refine U.mono ?_; rintro e w1 ⟨rfl, hp1, a1, ha1, hl, h1⟩; obtain ⟨d0, d1, d2, d3, df⟩ := h1.cells; have F := fail_0 h1 5) | (go_at_call 49; refine F.mono ?_; rintro e w2 ⟨rfl, h2, hp2⟩))
        go_ret
        exact ⟨hp1.trans hp2, rfl, by decide, a1, h2⟩
    · have E1 : IntKind.u64.wrap most = most := by rw [IntKind.wrap_u64]; omega
      have hle : (n : Int) ≤ most := by omega
      have h0 : 0 ≤ most := by omega
      by_cases hlen : l.length < n
      · have e : sP most (left s a) = .error 14 := by unfold sP; rw [hu]; exact (if_neg hbad).trans (if_pos hlen)
        rw [e]
        clear h hu e hn hbad hm
        go_enter Try.func80, Try.ntmps80
        go_wp2_with (first | (go_at_call 106; refine U.mono ?_; rintro e w1 ⟨rfl, hp1, a1, ha1, hl, h1⟩; obtain ⟨d0, d1, d2, d3, df⟩ := h1.cells))
        have hl2 : s.size - a1 < n := by rw [← left_len, ← hl]; exact hlen
        go_quiet (fail)
        have hd : Below w1.heap.size w1 (w1.drewN nq) := below_drewN (Below.refl _ _) _
        generalize w1.drewN nq = w2 at hd ⊢
        have F := fail_0 (h1.past hd) 14
        have P2 := Lib.hid (hp1.trans (Past.of_below hd))
        clear hd
        go_wp2_with (go_at_call 49; refine F.mono ?_; rintro e w3 ⟨rfl, h3, hp3⟩)
        go_ret
        exact ⟨P2.out.trans hp3, rfl, by decide, a1, h3⟩
      · have e : sP most (left s a) = .ok (strL (l.take n), l.drop n) := by unfold sP; rw [hu]; exact (if_neg hbad).trans (if_neg hlen)
        rw [e]
        clear h hu e hn hbad hm
        go_enter Try.func80, Try.ntmps80
        go_wp2_with (first | (go_at_call 106; refine U.mono ?_; rintro e w1 ⟨rfl, hp1, a1, ha1, hl, h1⟩; obtain ⟨d0, d1, d2, d3, df⟩ := h1.cells))
        have hl2 : n ≤ s.size - a1 := by rw [← left_len, ← hl]; omega
        have E2 : IntKind.i64.wrap (n : Int) = n := by rw [IntKind.wrap_i64]; omega
        have H1 := Lib.hid h1
        have HL := Lib.hid hl
        clear h1 hl hlen U
        go_quiet (fail)
        have hd : Below w1.heap.size w1 (w1.drewN nq) := below_drewN (Below.refl _ _) _
        generalize w1.drewN nq = w2 at hd ⊢
        obtain ⟨f0, f1, f2, f3, ff⟩ := (H1.out.past hd).cells
        have h2 := Lib.hid ((H1.out.past hd).set1 ((a1 : Int) + n))
        have P2 := Lib.hid ((hp1.trans (Past.of_below (g := g) hd)).set 1 (.int .i64 ((a1 : Int) + n)))
        clear hd d0 d1 d2 d3 df
        go_wp2_with fail
        obtain ⟨w3, hw3⟩ : ∃ w3, w3 = w2.setCell ⟨g, 1, none⟩ (.int .i64 ((a1 : Int) + n)) := ⟨_, rfl⟩
        rw [← hw3]
        have h3 := h2.out
        rw [← hw3] at h3
        have P3 := P2.out
        rw [← hw3] at P3
        obtain ⟨e0, e1, e2, e3, ef⟩ := h3.cells
        have H3 := Lib.hid h3
        have HP3 := Lib.hid P3
        clear hw3 h2 P2 f0 f1 f2 f3 ff h3 P3
        have i1 : (a1 : Int) + n - n = a1 := by omega
        have i2 : ((a1 : Int) + n).toNat = a1 + n := by omega
        have HC := Lib.hid (cut_left s a1 n)
        have SL : ∀ w : World, (Instr.slice 9 (.string s) (some (.int .i64 (a1 : Int))) (some (.int .i64 ((a1 : Int) + n))) none).run Try.prog w = .ok (.string (s.extract a1 (a1 + n))) w := fun w => by
          rw [run_slice_string_if w 9 s .i64 .i64 _ _ Try.underlying9, if_pos (by omega), if_pos (by omega), i2, Int.toNat_natCast]
        go_quiet (fail)
        have hd : Below w3.heap.size w3 (w3.drewN nq) := below_drewN (Below.refl _ _) _
        generalize w3.drewN nq = w4 at hd ⊢
        have HD := Lib.hid hd
        clear hd
        go_wp2_with fail
        go_ret
        refine ⟨HP3.out.trans (Past.of_below HD.out), ?_, a1 + n, by omega, ?_, ?_⟩
        · rw [HL.out, ← HC.out]; rfl
        · rw [HL.out]; unfold left; rw [List.drop_drop]
        · rw [Int.natCast_add]; exact H3.out.past HD.out
end Go.Proofs.Ytdmbfajhcihfgaa
