/-
  Contract of basculeref04's Quote.
-/
import Derived.Test.YtfkjehgbghckhaaDoorRefFd
import Derived.Test.YtfkjehgbghckhaaDoorVn
import Derived.Lib.UnsafeStr
import Derived.OwnWalk
import Derived.Maps.AppendAt
namespace Go.Proofs.YtfkjehgbghckhaaDoor
open Go.RowKit

def escL (b : UInt8) : List UInt8 := if b.toNat = 34 ∨ b.toNat = 92 then [92, b] else [b]
/-- What lies in the buffer behind k bytes. -/
def quoK (l : List UInt8) (k : Nat) : List UInt8 := 34 :: (l.take k).flatMap escL
def quoL (l : List UInt8) : List UInt8 := (34 :: l.flatMap escL) ++ [34]
theorem escL_len (b : UInt8) : (escL b).length ≤ 2 := by unfold escL; split <;> simp
theorem quoK_succ {l : List UInt8} {k : Nat} (h : k < l.length) : quoK l (k + 1) = quoK l k ++ escL l[k] := by
  unfold quoK
  rw [List.take_succ_eq_append_getElem h, List.flatMap_append]
  simp
theorem quoK_len (l : List UInt8) : ∀ k, (quoK l k).length ≤ 2 * k + 1 := by
  intro k
  induction k with
  | zero => unfold quoK; simp
  | succ k ih =>
    by_cases h : k < l.length
    · rw [quoK_succ h, List.length_append]
      have := escL_len l[k]
      omega
    · have e : quoK l (k + 1) = quoK l k := by
        unfold quoK
        rw [List.take_of_length_le (by omega), List.take_of_length_le (by omega)]
      rw [e]; omega
theorem owns_one (w : World) (x : Value) : (w.alloc (.cells #[x] 5)).ownsRow w.heap.size 5 1 (.slice (some ⟨w.heap.size, 0, none⟩) 1 1) 1 [x] :=
  ⟨rfl, .inr ⟨w.heap.size, 1, #[x], rfl, Nat.le_refl _, by first | exact Array.getElem?_push_size | (simp; rfl) | (unfold World.alloc; exact Array.getElem?_push_size), Nat.le_refl _, by unfold maxLen; omega, rfl, rfl⟩⟩
theorem owns_slice {w : World} {B : Nat} {v : Value} {n : Nat} {xs : List Value} (h : w.ownsRow B 5 1 v n xs) (hn : 0 < n) : ∃ g cap, v = .slice (some ⟨g, 0, none⟩) n cap := by
  rcases h.2 with ⟨_, h⟩ | ⟨g, cap, _, h, _⟩
  · omega
  · exact ⟨g, cap, h⟩

set_option maxHeartbeats 2000000 in
theorem Quote_any {s : ByteArray} (hs : s.size ≤ 1000000) (w : World) : Calls Tryd.prog 13 #[.string s] w fun e w' => e = .returned (.string (strL (quoL s.data.toList))) ∧ Below w.heap.size w w' := by
  obtain ⟨i0, hi, hz0, hz1, hz2⟩ := info_parts info5
  have hbW : Below w.heap.size w (w.alloc (.cells #[.int .u8 34] 5)) := (Below.refl _ _).alloc (Nat.le_refl _) _
  have hO := owns_one w (.int .u8 34)
  have HBW := Lib.hid hbW
  have HO := Lib.hid hO
  clear hbW hO
  go_enter Tryd.func13, Tryd.ntmps13
  go_wp2_with fail
  go_loopw [3, 4] (fun v iv wr => ∃ (k g cap : Nat) (L : List UInt8), k ≤ s.size ∧ iv = .int .i64 k ∧ v = .slice (some ⟨g, 0, none⟩) L.length cap ∧ L.length ≤ 2 * k + 1 ∧ 0 < L.length ∧ Hid (L = quoK s.data.toList k) ∧ wr.ownsRow w.heap.size 5 1 (.slice (some ⟨g, 0, none⟩) L.length cap) L.length (Lib.byteCells L) ∧ Below w.heap.size w wr) (fun _ iv _ => s.size - (intOf iv).toNat)
  case atStart => exact ⟨0, w.heap.size, 1, [34], Nat.zero_le _, rfl, rfl, by simp, by simp, Lib.hid rfl, HO.out, HBW.out⟩
  case round =>
    obtain ⟨k, g, cap, L, hk, rfl, rfl, hL2, hL0, hL, hown, hb⟩ := hrel
    have hsz := hb.size
    by_cases hlt : k < s.size
    · obtain ⟨c, hc⟩ : ∃ c, s[k] = c := ⟨_, rfl⟩
      have hnext : Hid (quoK s.data.toList (k + 1) = L ++ escL c) := Lib.hid (by
        rw [quoK_succ (by simpa using hlt), ← hL.out, ← hc]; rfl)
      clear hL
      by_cases hq : c.toNat = 34 ∨ c.toNat = 92
      · have hN : Hid (L ++ [92] ++ [c] = quoK s.data.toList (k + 1)) := Lib.hid (by rw [hnext.out, escL, if_pos hq]; simp)
        have hw2 : ∀ t1 t2 : Bool, ((c.toNat : Int) == 34) = t1 → ((c.toNat : Int) == 92) = t2 → (t1 = true ∨ t2 = true) → True := fun _ _ _ _ _ => trivial
        clear hw2 hnext
        rcases hq with hq | hq
        · have t1 : ((c.toNat : Int) == 34) = true := by simp; omega
          have t2 : ((c.toNat : Int) == 92) = false := by simp; omega
          clear hq
          go_wp2_with (first | (at_builtin; refine wpList_append_own _ rfl (.tmp 22) (.tmp 23) 22 rfl w.heap.size 5 i0 (.int .u8 0) 1 1 Tryd.underlying22 hi hz0 hz1 hz2 rfl (by decide) _ _ _ rfl (hown.alloc _) ⟨wr.heap.size, 0, none⟩ 1 1 [.int .u8 92] rfl rfl (cell_one_new _ _ _) (fun x hx => by simp at hx; subst hx; rfl) (by unfold maxLen; omega) (by omega) (by simp; omega) ?_; intro v' w3 hown' hgrow3 hnil3; refine Hid.out ?_))
          refine Lib.hid ?_
          obtain ⟨g3, cap3, rfl⟩ := owns_slice hown' (by omega)
          have hb3 : Below w.heap.size w w3 := (hb.alloc hsz _).grown hgrow3 (by simp; omega) (fun q hq => (hown.lt q hq).1)
          obtain ⟨M, hM⟩ : ∃ M, M = L ++ [92] := ⟨_, rfl⟩
          have hMl : M.length = L.length + 1 := by rw [hM]; simp
          have hown3 : w3.ownsRow w.heap.size 5 1 (.slice (some ⟨g3, 0, none⟩) (L.length + 1) cap3) M.length (Lib.byteCells M) := by
            rw [hM]; simpa [Lib.byteCells] using hown'
          rw [← hM] at hN
          have hsz3 := hb3.size
          clear hown' hgrow3 hnil3 hown hb hM
          go_wp2_with (first | (at_builtin; refine wpList_append_own _ rfl (.tmp 25) (.tmp 29) 22 rfl w.heap.size 5 i0 (.int .u8 0) 1 1 Tryd.underlying22 hi hz0 hz1 hz2 rfl (by decide) _ _ _ rfl (hown3.alloc _) ⟨w3.heap.size, 0, none⟩ 1 1 [.int .u8 c.toNat] rfl rfl (cell_one_new _ _ _) (fun x hx => by simp at hx; subst hx; rfl) (by unfold maxLen; omega) (by omega) (by simp; omega) ?_; intro v'' w4 hown'' hgrow4 hnil4; refine Hid.out ?_))
          refine Lib.hid ?_
          obtain ⟨g4, cap4, rfl⟩ := owns_slice hown'' (by omega)
          have hb4 : Below w.heap.size w w4 := (hb3.alloc hsz3 _).grown hgrow4 (by simp; omega) (fun q hq => (hown3.lt q hq).1)
          have hown4 : w4.ownsRow w.heap.size 5 1 (.slice (some ⟨g4, 0, none⟩) (M ++ [c]).length cap4) (M ++ [c]).length (Lib.byteCells (M ++ [c])) := by
            simpa [Lib.byteCells] using hown''
          have HO4 := Lib.hid hown4
          have HB4 := Lib.hid hb4
          have HM := Lib.hid hMl
          clear hown'' hgrow4 hnil4 hown3 hb3 hown4 hb4 hMl
          go_wp2_with fail
          go_roundw
          case rel => exact ⟨k + 1, g4, cap4, M ++ [c], by omega, by go_num, by simp [HM.out], by have := HM.out; simp; omega, by simp, hN, HO4.out, HB4.out⟩
          case measure => simp [intOf]; omega
        · have t1 : ((c.toNat : Int) == 34) = false := by simp; omega
          have t2 : ((c.toNat : Int) == 92) = true := by simp; omega
          clear hq
          go_wp2_with (first | (at_builtin; refine wpList_append_own _ rfl (.tmp 22) (.tmp 23) 22 rfl w.heap.size 5 i0 (.int .u8 0) 1 1 Tryd.underlying22 hi hz0 hz1 hz2 rfl (by decide) _ _ _ rfl (hown.alloc _) ⟨wr.heap.size, 0, none⟩ 1 1 [.int .u8 92] rfl rfl (cell_one_new _ _ _) (fun x hx => by simp at hx; subst hx; rfl) (by unfold maxLen; omega) (by omega) (by simp; omega) ?_; intro v' w3 hown' hgrow3 hnil3; refine Hid.out ?_))
          refine Lib.hid ?_
          obtain ⟨g3, cap3, rfl⟩ := owns_slice hown' (by omega)
          have hb3 : Below w.heap.size w w3 := (hb.alloc hsz _).grown hgrow3 (by simp; omega) (fun q hq => (hown.lt q hq).1)
          obtain ⟨M, hM⟩ : ∃ M, M = L ++ [92] := ⟨_, rfl⟩
          have hMl : M.length = L.length + 1 := by rw [hM]; simp
          have hown3 : w3.ownsRow w.heap.size 5 1 (.slice (some ⟨g3, 0, none⟩) (L.length + 1) cap3) M.length (Lib.byteCells M) := by
            rw [hM]; simpa [Lib.byteCells] using hown'
          rw [← hM] at hN
          have hsz3 := hb3.size
          clear hown' hgrow3 hnil3 hown hb hM
          go_wp2_with (first | (at_builtin; refine wpList_append_own _ rfl (.tmp 25) (.tmp 29) 22 rfl w.heap.size 5 i0 (.int .u8 0) 1 1 Tryd.underlying22 hi hz0 hz1 hz2 rfl (by decide) _ _ _ rfl (hown3.alloc _) ⟨w3.heap.size, 0, none⟩ 1 1 [.int .u8 c.toNat] rfl rfl (cell_one_new _ _ _) (fun x hx => by simp at hx; subst hx; rfl) (by unfold maxLen; omega) (by omega) (by simp; omega) ?_; intro v'' w4 hown'' hgrow4 hnil4; refine Hid.out ?_))
          refine Lib.hid ?_
          obtain ⟨g4, cap4, rfl⟩ := owns_slice hown'' (by omega)
          have hb4 : Below w.heap.size w w4 := (hb3.alloc hsz3 _).grown hgrow4 (by simp; omega) (fun q hq => (hown3.lt q hq).1)
          have hown4 : w4.ownsRow w.heap.size 5 1 (.slice (some ⟨g4, 0, none⟩) (M ++ [c]).length cap4) (M ++ [c]).length (Lib.byteCells (M ++ [c])) := by
            simpa [Lib.byteCells] using hown''
          have HO4 := Lib.hid hown4
          have HB4 := Lib.hid hb4
          have HM := Lib.hid hMl
          clear hown'' hgrow4 hnil4 hown3 hb3 hown4 hb4 hMl
          go_wp2_with fail
          go_roundw
          case rel => exact ⟨k + 1, g4, cap4, M ++ [c], by omega, by go_num, by simp [HM.out], by have := HM.out; simp; omega, by simp, hN, HO4.out, HB4.out⟩
          case measure => simp [intOf]; omega
      · have hN : Hid (L ++ [c] = quoK s.data.toList (k + 1)) := Lib.hid (by rw [hnext.out, escL, if_neg hq])
        have t1 : ((c.toNat : Int) == 34) = false := by simp; omega
        have t2 : ((c.toNat : Int) == 92) = false := by simp; omega
        clear hnext hq
        go_wp2_with (first
          | (at_builtin; refine wpList_append_own _ rfl (.tmp 25) (.tmp 29) 22 rfl w.heap.size 5 i0 (.int .u8 0) 1 1 Tryd.underlying22 hi hz0 hz1 hz2 rfl (by decide) _ _ _ rfl (hown.alloc _) ⟨wr.heap.size, 0, none⟩ 1 1 [.int .u8 c.toNat] rfl rfl (cell_one_new _ _ _) (fun x hx => by simp at hx; subst hx; rfl) (by unfold maxLen; omega) (by omega) (by simp; omega) ?_; intro v' w3 hown' hgrow3 hnil3; refine Hid.out ?_))
        refine Lib.hid ?_
        obtain ⟨g3, cap3, rfl⟩ := owns_slice hown' (by omega)
        have hb3 : Below w.heap.size w w3 := (hb.alloc hsz _).grown hgrow3 (by simp; omega) (fun q hq => (hown.lt q hq).1)
        have hown3 : w3.ownsRow w.heap.size 5 1 (.slice (some ⟨g3, 0, none⟩) (L ++ [c]).length cap3) (L ++ [c]).length (Lib.byteCells (L ++ [c])) := by
          simpa [Lib.byteCells] using hown'
        have HO3 := Lib.hid hown3
        have HB3 := Lib.hid hb3
        clear hown' hgrow3 hnil3 hown hb hown3 hb3
        go_wp2_with fail
        go_roundw
        case rel => exact ⟨k + 1, g3, cap3, L ++ [c], by omega, by go_num, by simp, by simp; omega, by simp, hN, HO3.out, HB3.out⟩
        case measure => simp [intOf]; omega
    · have hF : Hid (L ++ [34] = quoL s.data.toList) := Lib.hid (by
        rw [hL.out, quoK, quoL, List.take_of_length_le (by simp; omega)])
      clear hL
      go_wp2_with (first | (at_builtin; refine wpList_append_own _ rfl (.tmp 31) (.tmp 32) 22 rfl w.heap.size 5 i0 (.int .u8 0) 1 1 Tryd.underlying22 hi hz0 hz1 hz2 rfl (by decide) _ _ _ rfl (hown.alloc _) ⟨wr.heap.size, 0, none⟩ 1 1 [.int .u8 34] rfl rfl (cell_one_new _ _ _) (fun x hx => by simp at hx; subst hx; rfl) (by unfold maxLen; omega) (by omega) (by simp; omega) ?_; intro v' w3 hown' hgrow3 hnil3; refine Hid.out ?_))
      refine Lib.hid ?_
      obtain ⟨g3, cap3, rfl⟩ := owns_slice hown' (by omega)
      have hb3 : Below w.heap.size w w3 := (hb.alloc hsz _).grown hgrow3 (by simp; omega) (fun q hq => (hown.lt q hq).1)
      obtain ⟨M, hM⟩ : ∃ M, M = L ++ [34] := ⟨_, rfl⟩
      have hMl : L.length + 1 = M.length := by rw [hM]; simp
      have hown3 : w3.ownsRow w.heap.size 5 1 (.slice (some ⟨g3, 0, none⟩) (L.length + 1) cap3) M.length (Lib.byteCells M) := by
        rw [hM]; simpa [Lib.byteCells] using hown'
      have hcv := run_convert_bytes_back (P := Tryd.prog) w3 22 9 5 ⟨g3, 0, none⟩ cap3 M Tryd.underlying22 Tryd.underlying5 Tryd.underlying9 (fun j hj => hown3.cells (g := g3) rfl j _ (by simp [Lib.byteCells, hj]))
      rw [← hM] at hF
      rw [← hMl] at hcv
      have HB3 := Lib.hid hb3
      have HM := Lib.hid hMl
      clear hown' hgrow3 hnil3 hown hb hown3 hb3 hM hMl
      go_wp2_with fail
      go_ret
      exact ⟨by rw [← hF.out]; rfl, HB3.out⟩
end Go.Proofs.YtfkjehgbghckhaaDoor
