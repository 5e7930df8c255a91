/-
  What CodecBack reads again, plainly: what was written, amid other bytes, and cut off.
-/
import Derived.Test.YteclpehbpicpaaaM39
import Derived.Test.YteclpehbpicpaaaM37
namespace Go.Proofs.Yteclpehbpicpaaa.codecBack
open Go.RowKit

theorem ok_parts {t : VT} (h : okV t = true) : rightV t 12 = true ∧ tot t ≤ 200 := by
  unfold okV at h
  rw [Bool.and_eq_true] at h
  have hr := h.2
  have hc := of_decide_eq_true h.1
  rw [cnt_pure t 12 hr 0 (by omega) (by omega)] at hc
  exact ⟨hr, by omega⟩
theorem tok_parts {t : TT} (h : tokV t = true) : trightV t 12 = true ∧ ttot t ≤ 200 := by
  unfold tokV at h
  rw [Bool.and_eq_true] at h
  have hr := h.2
  have hc := of_decide_eq_true h.1
  rw [tcnt_pure t 12 hr 0 (by omega) (by omega)] at hc
  exact ⟨hr, by omega⟩
theorem left_amid (A X B : ByteArray) : left (A ++ X ++ B) A.size = X.data.toList ++ B.data.toList := by
  unfold left
  rw [ByteArray.data_append, ByteArray.data_append, Array.toList_append, Array.toList_append, List.append_assoc]
  have e : A.data.toList.length = A.size := lst_len A
  rw [← e, List.drop_left]
theorem size_amid (A X B : ByteArray) : (A ++ X ++ B).size = A.size + X.size + B.size := by
  rw [ByteArray.size_append, ByteArray.size_append]
/-- What was written is read as it was, whatever stands ahead and behind. -/
theorem back_v {t : VT} (h : okV t = true) (hf : floatsIn t) (hn : numsIn t) (A B : ByteArray) : rdV (A ++ valB t ++ B) A.size = .ok (norm t, B.data.toList) := by
  obtain ⟨hr, ht⟩ := ok_parts h
  have hs := size_amid A (valB t) B
  unfold rdV
  rw [if_neg (by omega)]
  have e : ((A.size : Nat) : Int).toNat = A.size := by omega
  rw [e, left_amid]
  unfold rrV
  have hv := v_back t 12 0 B.data.toList hr hf hn (by omega)
  unfold valL at hv
  rw [hv]
  dsimp only
  rw [if_pos (norm_ok hr ht)]
theorem back_t {t : TT} (h : tokV t = true) (A B : ByteArray) : rdT (A ++ typeB t ++ B) A.size = .ok (tnorm t, B.data.toList) := by
  obtain ⟨hr, ht⟩ := tok_parts h
  have hs := size_amid A (typeB t) B
  unfold rdT
  rw [if_neg (by omega)]
  have e : ((A.size : Nat) : Int).toNat = A.size := by omega
  rw [e, left_amid]
  unfold rrT
  have hv := t_back t 12 0 B.data.toList hr (by omega)
  unfold typL at hv
  rw [hv]
  dsimp only
  rw [if_pos (tnorm_ok hr ht)]
theorem next_amid (A X B : ByteArray) : (A ++ X ++ B).size - B.data.toList.length = A.size + X.size := by
  rw [size_amid, lst_len]; omega
theorem left_cut (X : ByteArray) (j : Nat) : left (X.extract 0 j) 0 = X.data.toList.take j := by
  have h := cut_left X 0 j
  rw [Nat.zero_add] at h
  rw [h]
  unfold left strL
  simp
/-- Cut off anywhere it is none. -/
theorem cut_v {t : VT} (h : okV t = true) (hf : floatsIn t) (hn : numsIn t) {j : Nat} (hj : j < (valB t).size) : rdV ((valB t).extract 0 j) 0 = .error 14 := by
  obtain ⟨hr, ht⟩ := ok_parts h
  unfold rdV
  rw [if_neg (by omega)]
  have e : (0 : Int).toNat = 0 := rfl
  rw [e, left_cut]
  unfold rrV
  have hv := v_cut t 12 0 j hr hf hn (by omega) (by unfold valL; rw [lst_len]; exact hj)
  unfold valL at hv
  rw [hv]
theorem cut_t {t : TT} (h : tokV t = true) {j : Nat} (hj : j < (typeB t).size) : rdT ((typeB t).extract 0 j) 0 = .error 14 := by
  obtain ⟨hr, ht⟩ := tok_parts h
  unfold rdT
  rw [if_neg (by omega)]
  have e : (0 : Int).toNat = 0 := rfl
  rw [e, left_cut]
  unfold rrT
  have hv := t_cut t 12 0 j hr (by omega) (by unfold typL; rw [lst_len]; exact hj)
  unfold typL at hv
  rw [hv]
end Go.Proofs.Yteclpehbpicpaaa.codecBack
