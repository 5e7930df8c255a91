/-
  The landed lex's quoted, sign and token: the walks.
-/
import Derived.Test.YtfkjehgbghckhaaDoorZc
import Derived.BigQuiet
import Derived.Deep.Cut
namespace Go.Proofs.YtfkjehgbghckhaaDoor
open Go.RowKit

theorem OwnB.nil {base : Nat} {w : World} (h : base ≤ w.heap.size) : OwnB base w (.slice none 0 0) [] := ⟨World.ownsRow_nil _ _ _ _, h⟩
set_option maxRecDepth 20000 in
set_option maxHeartbeats 4000000 in
theorem lquo_any {s : ByteArray} (hs : s.size ≤ 100000) (h0 : 0 < s.size) (w : World) : Calls Tryd.prog 33 #[.string s] w fun e w' => HdEnds 0 (strT (left s 0)) w e w' := by
  obtain ⟨H, hH⟩ : ∃ H, strT (left s 0) = H := ⟨_, rfl⟩
  rw [hH]
  have hH2 : strH (strR (left s 1)) = H := by rw [← hH]; unfold strT; rw [← left_drop]
  have HH := Lib.hid hH2
  have hW := RB.start w (.int .i64 0) (.int .i64 0) (.int .i64 0) (.int .i64 0) (.float .f64 0) (.string ⟨#[]⟩)
  have hO0 := OwnB.nil (base := w.heap.size + 1) (w := w.alloc (.cells #[.int .i64 0, .int .i64 0, .int .i64 0, .int .i64 0, .float .f64 0, .string ⟨#[]⟩] 30)) (by simp)
  have SF := float_store
  clear hH hH2
  go_enter Tryd.func33, Tryd.ntmps33
  go_wp2_with fail
  go_loopw [4, 5] (fun v iv wr => ∃ (L : List UInt8) (ao : Option Addr) (cap i : Nat), 1 ≤ i ∧ i ≤ s.size ∧ L.length ≤ i ∧ v = .slice ao L.length cap ∧ iv = .int .i64 i ∧ OwnB (w.heap.size + 1) wr (.slice ao L.length cap) L ∧ RB w wr ∧ Hid (Hs.add L (i - 1) (strR (left s i)) = strR (left s 1))) (fun _ iv _ => s.size - (intOf iv).toNat)
  case atStart => exact ⟨[], none, 0, 1, by omega, by omega, by simp, rfl, by go_num, hO0, hW, Lib.hid (by rw [Nat.sub_self, add_zero])⟩
  case round =>
    obtain ⟨L, ao, cap, i, hai, hi, hLi, rfl, rfl, hO, hR, hF⟩ := hrel
    clear hW hO0
    by_cases hlt : i < s.size
    · obtain ⟨c, hc⟩ : ∃ c, s[i] = c := ⟨_, rfl⟩
      by_cases h34 : c = 34
      · have t34 : ((c.toNat : Int) == 34) = true := by rw [h34]; rfl
        have hst : strR (left s i) = .ok [] 1 := by rw [left_cons hlt, hc, h34, strR_mark]
        have hH := HH.out
        rw [← hF.out, hst] at hH
        have hH2 : strH (.ok (L ++ []) (i - 1 + 1)) = H := hH
        rw [List.append_nil] at hH2
        have hH2 : (if 200 < L.length then Hd.err 3 else Hd.ok ⟨4, i - 1 + 1 + 1, 0, 0, L⟩) = H := hH2
        clear hst hH hF HH h34
        have hcv := hO.convs
        by_cases h200 : 200 < L.length
        · rw [if_pos h200] at hH2
          subst hH2
          obtain ⟨a0, a1, a2, a3, a4, a5, d0, d1, d2, d3, d4, d5, df⟩ := hR.cells
          have HR := Lib.hid hR
          clear hR hO
          go_wp2_with fail
          have hG := HR.out.done (.int .i64 0) (.int .i64 0) (.int .i64 0) (.int .i64 0) (.float .f64 0) (.string ⟨#[]⟩)
          exact box_bad rfl hG.1 hG.2 rfl rfl
        · rw [if_neg h200] at hH2
          subst hH2
          obtain ⟨a0, a1, a2, a3, a4, a5, d0, d1, d2, d3, d4, d5, df⟩ := hR.cells
          have HR := Lib.hid hR
          clear hR hO
          go_wp2_with fail
          have hG := HR.out.done (.int .i64 4) (.int .i64 0) (.int .i64 ((i : Int) + 1)) (.int .i64 0) (.float .f64 0) (.string (strL L))
          exact box_good (t := ⟨4, i - 1 + 1 + 1, 0, 0, L⟩) rfl hG.1 hG.2 rfl rfl (by show (i : Int) + 1 = ((i - 1 + 1 + 1 : Nat) : Int); omega) rfl rfl
      · have t34 : ((c.toNat : Int) == 34) = false := (u8_eqI (c := c) 34 34 rfl).trans (decide_eq_false h34)
        by_cases h92 : c = 92
        · have t92 : ((c.toNat : Int) == 92) = true := by rw [h92]; rfl
          by_cases hlt2 : i + 1 < s.size
          · have tend : ((i : Int) + 1 == (s.size : Int)) = false := by rw [beq_eq_false_iff_ne]; omega
            obtain ⟨x, hx⟩ : ∃ x, s[i + 1] = x := ⟨_, rfl⟩
            have hl2 : left s i = 92 :: x :: left s (i + 2) := by rw [left_cons hlt, hc, h92, left_cons hlt2, hx]
            by_cases hx92 : x = 92
            · have u92 : ((x.toNat : Int) == 92) = true := by rw [hx92]; rfl
              have v92 : ((x.toNat : Int) != 92) = false := by rw [bne, u92]; rfl
              have hst : strR (left s i) = Hs.add [x] 2 (strR (left s (i + 2))) := by rw [hl2]; exact strR_esc (.inl hx92) _
              clear hl2 hx92 h92 h34 HH
              obtain ⟨M, hM⟩ : ∃ M, L ++ [x] = M := ⟨_, rfl⟩
              have hMl : M.length = L.length + 1 := by rw [← hM]; simp
              have HF : Hid (Hs.add M (i + 2 - 1) (strR (left s (i + 2))) = strR (left s 1)) := Lib.hid (by
                rw [← hF.out, hst, add_add, hM, show i - 1 + 2 = i + 2 - 1 by omega])
              have hbA : Below (w.heap.size + 1) wr (wr.alloc (.cells #[.int .u8 x.toNat] 5)) := (Below.refl _ _).alloc hR.lt _
              have HM := Lib.hid hM
              have HMl := Lib.hid hMl
              have HRR := Lib.hid hR
              clear hF hst hM hMl hR
              go_wp2_with (first | (at_builtin; refine wp_app rfl _ _ rfl rfl (hO.alloc _) _ 1 [x] rfl rfl (newb wr x) (by omega) ?_; intro v6 w6 hO6 hb6; refine Hid.out ?_))
              refine Lib.hid ?_
              rw [HM.out] at hO6
              have hR6 := Lib.hid ((HRR.out.stepB hbA).stepB hb6)
              clear HRR hbA hb6 hO
              obtain ⟨ao6, cap6, rfl⟩ := hO6.form
              have HO6 := Lib.hid hO6
              clear hO6
              go_wp2_with fail
              go_roundw
              case rel => exact ⟨M, ao6, cap6, i + 2, by omega, by omega, by have := HMl.out; omega, rfl, by go_num, HO6.out, hR6.out, HF⟩
              case measure => simp [intOf]; omega
            · have u92 : ((x.toNat : Int) == 92) = false := (u8_eqI (c := x) 92 92 rfl).trans (decide_eq_false hx92)
              have v92 : ((x.toNat : Int) != 92) = true := by rw [bne, u92]; rfl
              by_cases hx34 : x = 34
              · have u34 : ((x.toNat : Int) == 34) = true := by rw [hx34]; rfl
                have v34 : ((x.toNat : Int) != 34) = false := by rw [bne, u34]; rfl
                have hst : strR (left s i) = Hs.add [x] 2 (strR (left s (i + 2))) := by rw [hl2]; exact strR_esc (.inr hx34) _
                clear hl2 hx92 hx34 h92 h34 HH
                obtain ⟨M, hM⟩ : ∃ M, L ++ [x] = M := ⟨_, rfl⟩
                have hMl : M.length = L.length + 1 := by rw [← hM]; simp
                have HF : Hid (Hs.add M (i + 2 - 1) (strR (left s (i + 2))) = strR (left s 1)) := Lib.hid (by
                  rw [← hF.out, hst, add_add, hM, show i - 1 + 2 = i + 2 - 1 by omega])
                have hbA : Below (w.heap.size + 1) wr (wr.alloc (.cells #[.int .u8 x.toNat] 5)) := (Below.refl _ _).alloc hR.lt _
                have HM := Lib.hid hM
                have HMl := Lib.hid hMl
                have HRR := Lib.hid hR
                clear hF hst hM hMl hR
                go_wp2_with (first | (at_builtin; refine wp_app rfl _ _ rfl rfl (hO.alloc _) _ 1 [x] rfl rfl (newb wr x) (by omega) ?_; intro v6 w6 hO6 hb6; refine Hid.out ?_))
                refine Lib.hid ?_
                rw [HM.out] at hO6
                have hR6 := Lib.hid ((HRR.out.stepB hbA).stepB hb6)
                clear HRR hbA hb6 hO
                obtain ⟨ao6, cap6, rfl⟩ := hO6.form
                have HO6 := Lib.hid hO6
                clear hO6
                go_wp2_with fail
                go_roundw
                case rel => exact ⟨M, ao6, cap6, i + 2, by omega, by omega, by have := HMl.out; omega, rfl, by go_num, HO6.out, hR6.out, HF⟩
                case measure => simp [intOf]; omega
              · have u34 : ((x.toNat : Int) == 34) = false := (u8_eqI (c := x) 34 34 rfl).trans (decide_eq_false hx34)
                have v34 : ((x.toNat : Int) != 34) = true := by rw [bne, u34]; rfl
                have hst : strR (left s i) = .err 5 := by rw [hl2]; exact strR_form (fun h => h.elim hx92 hx34) _
                have hH := HH.out
                rw [← hF.out, hst] at hH
                have hH2 : Hd.err 5 = H := hH
                subst hH2
                clear hH hF HH hst hl2 hx92 hx34 h92 h34
                obtain ⟨a0, a1, a2, a3, a4, a5, d0, d1, d2, d3, d4, d5, df⟩ := hR.cells
                have HR := Lib.hid hR
                clear hR hO
                go_wp2_with fail
                have hG := HR.out.done (.int .i64 0) (.int .i64 0) (.int .i64 0) (.int .i64 0) (.float .f64 0) (.string ⟨#[]⟩)
                exact box_bad rfl hG.1 hG.2 rfl rfl
          · have tend : ((i : Int) + 1 == (s.size : Int)) = true := by rw [beq_iff_eq]; omega
            have hst : strR (left s i) = .err 14 := by rw [left_cons hlt, hc, h92, left_nil (by omega)]; exact strR_end
            have hH := HH.out
            rw [← hF.out, hst] at hH
            have hH2 : Hd.err 14 = H := hH
            subst hH2
            clear hH hF HH hst h92 h34
            obtain ⟨a0, a1, a2, a3, a4, a5, d0, d1, d2, d3, d4, d5, df⟩ := hR.cells
            have HR := Lib.hid hR
            clear hR hO
            go_wp2_with fail
            have hG := HR.out.done (.int .i64 0) (.int .i64 0) (.int .i64 0) (.int .i64 0) (.float .f64 0) (.string ⟨#[]⟩)
            exact box_bad rfl hG.1 hG.2 rfl rfl
        · have t92 : ((c.toNat : Int) == 92) = false := (u8_eqI (c := c) 92 92 rfl).trans (decide_eq_false h92)
          have hst : strR (left s i) = Hs.add [c] 1 (strR (left s (i + 1))) := by rw [left_cons hlt, hc]; exact strR_other h34 h92 _
          clear h92 h34 HH
          obtain ⟨M, hM⟩ : ∃ M, L ++ [c] = M := ⟨_, rfl⟩
          have hMl : M.length = L.length + 1 := by rw [← hM]; simp
          have HF : Hid (Hs.add M (i + 1 - 1) (strR (left s (i + 1))) = strR (left s 1)) := Lib.hid (by
            rw [← hF.out, hst, add_add, hM, show i - 1 + 1 = i + 1 - 1 by omega])
          have hbA : Below (w.heap.size + 1) wr (wr.alloc (.cells #[.int .u8 c.toNat] 5)) := (Below.refl _ _).alloc hR.lt _
          have HM := Lib.hid hM
          have HMl := Lib.hid hMl
          have HRR := Lib.hid hR
          clear hF hst hM hMl hR
          go_wp2_with (first | (at_builtin; refine wp_app rfl _ _ rfl rfl (hO.alloc _) _ 1 [c] rfl rfl (newb wr c) (by omega) ?_; intro v6 w6 hO6 hb6; refine Hid.out ?_))
          refine Lib.hid ?_
          rw [HM.out] at hO6
          have hR6 := Lib.hid ((HRR.out.stepB hbA).stepB hb6)
          clear HRR hbA hb6 hO
          obtain ⟨ao6, cap6, rfl⟩ := hO6.form
          have HO6 := Lib.hid hO6
          clear hO6
          go_wp2_with fail
          go_roundw
          case rel => exact ⟨M, ao6, cap6, i + 1, by omega, by omega, by have := HMl.out; omega, rfl, by go_num, HO6.out, hR6.out, HF⟩
          case measure => simp [intOf]; omega
    · have hst : strR (left s i) = .err 14 := by rw [left_nil (by omega)]; rfl
      have hH := HH.out
      rw [← hF.out, hst] at hH
      have hH2 : Hd.err 14 = H := hH
      subst hH2
      clear hH hF HH hst
      obtain ⟨a0, a1, a2, a3, a4, a5, d0, d1, d2, d3, d4, d5, df⟩ := hR.cells
      have HR := Lib.hid hR
      clear hR hO
      go_wp2_with fail
      have hG := HR.out.done (.int .i64 0) (.int .i64 0) (.int .i64 0) (.int .i64 0) (.float .f64 0) (.string ⟨#[]⟩)
      exact box_bad rfl hG.1 hG.2 rfl rfl
end Go.Proofs.YtfkjehgbghckhaaDoor
