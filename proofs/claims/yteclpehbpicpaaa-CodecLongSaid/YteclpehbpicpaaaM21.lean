/-
  Plain facts on values as bytes: what is cut off is none; each has one way.
-/
import Derived.Test.YteclpehbpicpaaaM20
namespace Go.Proofs.Yteclpehbpicpaaa
open Go.RowKit

theorem M_cut {n j : Nat} (h : n ≤ 200) (hj : j < (uintL n).length) : mP ((uintL n).take j) = .error 14 := by
  unfold mP
  rw [U_cut (by omega) hj]
theorem items_cut (F : Nat → List UInt8 → Except Nat (VT × Nat × List UInt8)) (k : Nat) (ns : Nat → ByteArray) (G : Nat → List UInt8) (H : Nat → VT) (T : Nat → Nat) (m : Nat) (lim : Nat)
    (hn : ∀ i, i < m → (k = 6 → (ns i).size ≤ 30) ∧ (k ≠ 6 → ns i = ⟨#[]⟩))
    (hF : ∀ i, i < m → ∀ p r, p + T i ≤ lim → F p (G i ++ r) = .ok (H i, p + T i, r))
    (hC : ∀ i, i < m → ∀ p j, p + T i ≤ lim → j < (G i).length → F p ((G i).take j) = .error 14) :
    ∀ r i p j, i + r ≤ m → p + sufN T r i ≤ lim → j < (sufL (decide (k = 6)) ns G r i).length → itemsP F k r p ((sufL (decide (k = 6)) ns G r i).take j) = .error 14 := by
  intro r
  induction r with
  | zero => intro i p j _ _ hj; simp [sufL] at hj
  | succ r ih =>
    intro i p j hi hp hj
    rw [sufN] at hp
    have hni := hn i (by omega)
    rw [sufL] at hj ⊢
    have rest : ∀ nm l1 j', (if k = 6 then sP 30 l1 else Except.ok (⟨#[]⟩, l1)) = .ok (nm, (G i ++ sufL (decide (k = 6)) ns G r (i + 1)).take j') → j' < (G i ++ sufL (decide (k = 6)) ns G r (i + 1)).length → itemsP F k (r + 1) p l1 = .error 14 := by
      intro nm l1 j' hl hj'
      rw [itemsP_step, hl]
      show (F p ((G i ++ sufL (decide (k = 6)) ns G r (i + 1)).take j')).bind _ = _
      rcases take_cat (G i) (sufL (decide (k = 6)) ns G r (i + 1)) j' with ⟨h1, h2⟩ | ⟨h1, h2⟩
      · rw [h2, hC i (by omega) p j' (by omega) h1]; rfl
      · rw [h2, hF i (by omega) p _ (by omega)]
        show (itemsP F k r (p + T i) ((sufL (decide (k = 6)) ns G r (i + 1)).take (j' - (G i).length))).bind _ = _
        rw [List.length_append] at hj'
        rw [ih (i + 1) (p + T i) _ (by omega) (by omega) (by omega)]; rfl
    by_cases h6 : k = 6
    · rw [if_pos (by simpa using h6)] at hj ⊢
      rw [List.append_assoc] at hj ⊢
      rcases take_cat (strBL (ns i)) (G i ++ sufL (decide (k = 6)) ns G r (i + 1)) j with ⟨h1, h2⟩ | ⟨h1, h2⟩
      · rw [h2, itemsP_step, if_pos h6]
        have := S_cut (t := ns i) (most := 30) (j := j) (by have := hni.1 h6; omega) (by have := hni.1 h6; omega) h1
        have e : sP 30 ((strBL (ns i)).take j) = .error 14 := this
        rw [e]; rfl
      · rw [h2]
        rw [List.length_append] at hj
        refine rest (ns i) _ (j - (strBL (ns i)).length) ?_ (by omega)
        rw [if_pos h6]
        exact S_back (t := ns i) (most := 30) (by have := hni.1 h6; omega) (by have := hni.1 h6; omega) _
    · rw [if_neg (by simpa using h6), List.nil_append] at hj ⊢
      exact rest ⟨#[]⟩ _ j (by rw [if_neg h6]) hj
theorem v_cut : ∀ (t : VT) (q p j : Nat), rightV t q = true → floatsIn t → numsIn t → p + tot t ≤ 200 → j < (valL t).length → vP q p ((valL t).take j) = .error 14 := by
  intro t
  induction t with
  | bad => intro q p j h; rw [rightV] at h; exact absurd h (by decide)
  | mk k n f s c ns m xs ih =>
    intro q p j h hf hn hp hj
    obtain ⟨hq, hh⟩ := right_head h
    obtain ⟨q, rfl⟩ : ∃ q', q = q' + 1 := ⟨q - 1, by omega⟩
    have hp1 : p + 1 ≤ 200 := by rw [tot] at hp; omega
    have h0 : vP (q + 1) p [] = .error 14 := by rw [vP, if_neg (by omega)]
    cases j with
    | zero => exact h0
    | succ j =>
      have plain : ∀ (k0 : Nat) (L : List UInt8), valL (.mk k n f s c ns m xs) = [UInt8.ofNat k0] ++ L → 1 ≤ k0 → k0 ≤ 4 → (j < L.length → plainP k0 (L.take j) = .error 14) → vP (q + 1) p ((valL (.mk k n f s c ns m xs)).take (j + 1)) = .error 14 := by
        intro k0 L e h1 h4 hL
        rw [e] at hj ⊢
        rw [List.cons_append, List.nil_append, List.take_succ_cons, vP_plain h1 h4 hp1, hL (by simpa using hj)]
        rfl
      rcases hh with ⟨rfl, hn01, hm⟩ | ⟨rfl, hm⟩ | ⟨rfl, hm⟩ | ⟨rfl, hs, hm⟩ | ⟨rfl, hc, hx⟩ | ⟨rfl, hc, hnn, hx⟩
      · refine plain 1 [UInt8.ofNat n.toNat] (by rw [valL_plain (by omega)]; unfold plainL tailL; rw [if_pos rfl]; rfl) (by omega) (by omega) (fun hj => ?_)
        obtain rfl : j = 0 := by simpa using hj
        rfl
      · refine plain 2 (uintL (zig n)) (by rw [valL_plain (by omega)]; unfold plainL tailL; rw [if_neg (by omega), if_pos rfl]; rfl) (by omega) (by omega) (fun hj => ?_)
        unfold plainP
        rw [if_neg (by omega), if_pos rfl, I_cut hn.1 hj]
      · refine plain 3 (wordL (canonW f) 8) (by rw [valL_plain (by omega)]; unfold plainL tailL; rw [if_neg (by omega), if_neg (by omega), if_pos rfl]; rfl) (by omega) (by omega) (fun hj => ?_)
        unfold plainP
        rw [if_neg (by omega), if_neg (by omega), if_pos rfl, W_cut hj]
      · refine plain 4 (strBL s) (by rw [valL_plain (by omega)]; unfold plainL tailL; rw [if_neg (by omega), if_neg (by omega), if_neg (by omega)]; rfl) (by omega) (by omega) (fun hj => ?_)
        unfold plainP
        rw [if_neg (by omega), if_neg (by omega), if_neg (by omega)]
        have e : sP 200 ((strBL s).take j) = .error 14 := S_cut (by omega) (by omega) hj
        rw [e]
      · have hsum := sumN_item (T := fun i => tot (xs i)) (m := m) (fun i hi => tot_1 (hx i hi))
        rw [tot] at hp
        rw [valL_items (by omega), ← suf_all, List.append_assoc, List.cons_append, List.nil_append] at hj ⊢
        rw [List.take_succ_cons]
        refine (vP_items (k := 5) (by omega) (by omega) (by omega)).trans ?_
        have hj' : j < (uintL m ++ sufL (decide ((5 : Int) = 6)) (nz 5 ns) (fun i => valL (xs i)) m 0).length := by simpa using hj
        rcases take_cat (uintL m) (sufL (decide ((5 : Int) = 6)) (nz 5 ns) (fun i => valL (xs i)) m 0) j with ⟨h1, h2⟩ | ⟨h1, h2⟩
        · rw [h2, M_cut (by omega) h1]; rfl
        · rw [h2, M_back (by omega)]
          rw [List.length_append] at hj'
          have hr : ∀ i, i < m → rightV (xs i) (q : Nat) = true := fun i hi => by have := hx i hi; rwa [show ((q + 1 : Nat) : Int) - 1 = (q : Nat) by omega] at this
          have hI := items_cut (vP q) 5 (nz 5 ns) (fun i => valL (xs i)) (fun i => norm (xs i)) (fun i => tot (xs i)) m 200 (fun i hi => ⟨fun h => absurd h (by omega), fun _ => by unfold nz; rw [if_neg (by omega)]; rfl⟩)
            (fun i hi p r hp => v_back (xs i) q p r (hr i hi) (hf.2 i hi) (hn.2 i hi) hp) (fun i hi p j hp hj => ih i q p j (hr i hi) (hf.2 i hi) (hn.2 i hi) hp hj) m 0 (p + 1) (j - (uintL m).length) (by omega) (by rw [sufN_all]; omega) (by show j - (uintL m).length < (sufL (decide ((5 : Int) = 6)) (nz 5 ns) (fun i => valL (xs i)) m 0).length; omega)
          show (itemsP (vP q) 5 m (p + 1) ((sufL (decide ((5 : Nat) = 6)) (nz 5 ns) (fun i => valL (xs i)) m 0).take (j - (uintL m).length))).bind _ = _
          rw [hI]; rfl
      · have hsum := sumN_item (T := fun i => tot (xs i)) (m := m) (fun i hi => tot_1 (hx i hi))
        rw [tot] at hp
        rw [valL_items (by omega), ← suf_all, List.append_assoc, List.cons_append, List.nil_append] at hj ⊢
        rw [List.take_succ_cons]
        refine (vP_items (k := 6) (by omega) (by omega) (by omega)).trans ?_
        have hj' : j < (uintL m ++ sufL (decide ((6 : Int) = 6)) (nz 6 ns) (fun i => valL (xs i)) m 0).length := by simpa using hj
        rcases take_cat (uintL m) (sufL (decide ((6 : Int) = 6)) (nz 6 ns) (fun i => valL (xs i)) m 0) j with ⟨h1, h2⟩ | ⟨h1, h2⟩
        · rw [h2, M_cut (by omega) h1]; rfl
        · rw [h2, M_back (by omega)]
          rw [List.length_append] at hj'
          have hr : ∀ i, i < m → rightV (xs i) (q : Nat) = true := fun i hi => by have := hx i hi; rwa [show ((q + 1 : Nat) : Int) - 1 = (q : Nat) by omega] at this
          have hI := items_cut (vP q) 6 (nz 6 ns) (fun i => valL (xs i)) (fun i => norm (xs i)) (fun i => tot (xs i)) m 200 (fun i hi => ⟨fun _ => by rw [nz_6]; exact hnn i hi, fun h => absurd rfl h⟩)
            (fun i hi p r hp => v_back (xs i) q p r (hr i hi) (hf.2 i hi) (hn.2 i hi) hp) (fun i hi p j hp hj => ih i q p j (hr i hi) (hf.2 i hi) (hn.2 i hi) hp hj) m 0 (p + 1) (j - (uintL m).length) (by omega) (by rw [sufN_all]; omega) (by show j - (uintL m).length < (sufL (decide ((6 : Int) = 6)) (nz 6 ns) (fun i => valL (xs i)) m 0).length; omega)
          show (itemsP (vP q) 6 m (p + 1) ((sufL (decide ((6 : Nat) = 6)) (nz 6 ns) (fun i => valL (xs i)) m 0).take (j - (uintL m).length))).bind _ = _
          rw [hI]; rfl
end Go.Proofs.Yteclpehbpicpaaa
