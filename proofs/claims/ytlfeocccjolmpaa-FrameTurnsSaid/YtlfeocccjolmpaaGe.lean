/-
  The document's All.
-/
import Derived.Test.YtlfeocccjolmpaaGd
import Derived.Deep.AppendLies
namespace Go.Proofs.Ytlfeocccjolmpaa
open Go.RowKit

theorem info9z : (Try.prog.info? 9).map (fun i => (i.zero, i.size, i.bytes)) = some (some (.string ⟨#[]⟩), 1, 16) := by kernel_rfl
def strs (N : List (List UInt8)) : List Value := N.map fun p => Value.string (strL p)
theorem strs_more (N : List (List UInt8)) (p : List UInt8) : strs N ++ [.string (strL p)] = strs (N ++ [p]) := by simp [strs]
/-- What All answers: the frames, and where they end. -/
def AllEnds (s : ByteArray) (w : World) (e : Ending) (w' : World) : Prop :=
  ∃ N g v, Fr s.data.toList N g ∧ e = .returned (.tuple #[v, .int .i64 (g : Nat)]) ∧ w'.ownsRow w.heap.size 9 1 v N.length (strs N) ∧ Below w.heap.size w w'
theorem owns_below {w w' : World} {base : Nat} {e : TypeId} {size : Nat} {v : Value} {n : Nat} {xs : List Value} (h : w.ownsRow base e size v n xs) (hb : Below w.heap.size w w') : w'.ownsRow base e size v n xs := by
  have h0 := h
  obtain ⟨h1, h2⟩ := h
  refine ⟨h1, ?_⟩
  rcases h2 with h2 | ⟨k, cap, cur, hv, hbk, hh, r⟩
  · exact .inl h2
  · exact .inr ⟨k, cap, cur, hv, hbk, by rw [hb.block k (by subst hv; exact (h0.lt k rfl).2)]; exact hh, r⟩
theorem new1 (w : World) (t : ByteArray) : ∀ (j : Nat) u, [Value.string t][j]? = some u → (w.alloc (.cells #[.string t] 9)).cell? ((⟨w.heap.size, 0, none⟩ : Addr).add j) = some u := fun j u hj => by
  rw [Addr.add_lit, Nat.zero_add, World.cell?_alloc_new, ← hj]
  simp
theorem left_drop (s : ByteArray) (i k : Nat) : left s (i + k) = (left s i).drop k := by unfold left; rw [List.drop_drop]
set_option maxRecDepth 20000 in
set_option maxHeartbeats 1000000 in
theorem All_any {s : ByteArray} (hs : s.size ≤ 1000000000) (w : World) : Calls Try.prog 17 #[.string s] w fun e w' => AllEnds s w e w' := by
  have NX := fun (i : Nat) W => Next_any (s := s) (a := i) hs W
  obtain ⟨i9, hi9, hy0, hy1, hy2⟩ := info_parts info9z
  go_enter Try.func17, Try.ntmps17
  go_wp2_with fail
  go_loopw [4, 5] (fun v iv wr => ∃ (N : List (List UInt8)) (i : Nat), i ≤ s.size ∧ N.length ≤ i ∧ iv = .int .i64 i ∧ wr.ownsRow w.heap.size 9 1 v N.length (strs N) ∧ Below w.heap.size w wr ∧ Hid (∀ ps g, Fr (left s i) ps g → Fr s.data.toList (N ++ ps) (i + g))) (fun _ iv _ => s.size - (intOf iv).toNat)
  case atStart => exact ⟨[], 0, Nat.zero_le _, Nat.le_refl _, rfl, World.ownsRow_nil _ _ _ _, Below.refl _ _, Lib.hid (fun ps g h => by rw [left_0] at h; rw [Nat.zero_add]; exact h)⟩
  case round =>
    obtain ⟨N, i, hi, hN, rfl, hO, hb, hF⟩ := hrel
    have C := NX i
    unfold nextV at C
    rw [if_neg (by omega), show ((i : Int)).toNat = i by omega] at C
    have HB := Lib.hid hb
    have hbs := hb.size
    cases hn : nextL (left s i) with
    | none =>
      rw [hn] at C
      have HFr := Lib.hid (hF.out [] 0 (.stop hn))
      have HO := Lib.hid hO
      clear hF hn hO hb
      go_wp2_with (go_at_call 15; refine (C _).mono ?_; rintro e w1 ⟨rfl, hb1⟩)
      go_ret2
      refine ⟨N, i, _, ?_, rfl, owns_below HO.out hb1, HB.out.trans (hb1.mono hbs)⟩
      have := HFr.out
      rwa [List.append_nil, Nat.add_zero] at this
    | some z =>
      obtain ⟨p, k⟩ := z
      rw [hn] at C
      obtain ⟨n1, n2, n3, n4, n5⟩ := nextL_some hn
      rw [left_len] at n5
      have hF' := Lib.hid fun ps g (h : Fr (left s (i + k)) ps g) => hF.out (p :: ps) (k + g) (.next hn (by rw [← left_drop]; exact h))
      have HO := Lib.hid hO
      have C' : ∀ W, Calls Try.prog 15 #[.string s, .int .i64 i] W fun e w' => e = .returned (.tuple #[.string (strL p), .int .i64 ((i + k : Nat) : Int), .int .i64 0]) ∧ Below W.heap.size W w' := C
      obtain ⟨q, hq⟩ : ∃ q, strL p = q := ⟨_, rfl⟩
      rw [hq] at C'
      have hk7 : 7 ≤ k := by omega
      have HQ := Lib.hid hq
      clear C hF hn hO hb n4 n3 n1 n2 hq
      go_wp2_with (first
        | (go_at_call 15; refine (C' _).mono ?_; rintro e w1 ⟨rfl, hb1⟩; have HB1 := Lib.hid (HB.out.trans (hb1.mono hbs)); have hO1 := owns_below HO.out hb1; have hs1 := hb1.size; clear hb1)
        | (at_builtin; refine wpList_append_own _ rfl _ _ 34 rfl w.heap.size 9 i9 (.string ⟨#[]⟩) 1 16 Try.underlying34 hi9 hy0 hy1 hy2 rfl (by decide) _ N.length _ rfl (hO1.alloc _) ⟨w1.heap.size, 0, none⟩ 1 1 [.string q] rfl rfl (new1 w1 q) (by simp [Value.oneCell']) (by unfold maxLen; omega) (by omega) (by simp; omega) ?_; intro v2 w2 hown2 hgrow2 _))
      go_roundw
      case rel =>
        refine ⟨N ++ [p], i + k, by omega, by simp; omega, by go_num, ?_, ?_, Lib.hid fun ps g h => ?_⟩
        · rw [List.length_append]
          rw [← HQ.out, strs_more] at hown2
          exact hown2
        · exact (HB1.out.alloc (by omega) _).grown hgrow2 (by simp; omega) (fun k e => (HO.out.lt k e).1)
        · have := hF'.out ps g h
          rw [List.append_assoc, Nat.add_assoc]
          exact this
      case measure => simp [intOf]; omega
end Go.Proofs.Ytlfeocccjolmpaa
