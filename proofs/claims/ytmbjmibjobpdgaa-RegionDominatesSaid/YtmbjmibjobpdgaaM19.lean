/-
  The document's dominators.
-/
import Derived.Test.YtmbjmibjobpdgaaM18
namespace Go.Proofs.Ytmbjmibjobpdgaa
open Go.RowKit

set_option maxRecDepth 20000 in
set_option maxHeartbeats 4000000 in
theorem RDominators_any {mv : Array Value} {G : GT} (w : World) (r : Int) (h : ModelAt w w.heap.size mv G) (hfew : fewB G) :
    Calls Try.prog 21 #[.agg mv, .int .i64 r] w fun e w' => ∃ gO us, e = .returned (.slice (some ⟨gO, 0, none⟩) G.n G.n) ∧ w.heap.size ≤ gO ∧ CB w' 30 gO G.n us ∧ Fam w' w.heap.size us (domL G r) G.n ∧ Below w.heap.size w w' := by
  have hM := Lib.hid h
  have hF := Lib.hid hfew
  have hnn1 := hfew.1
  have hcl := Lib.hid (comeL_len hfew r)
  clear hfew
  cases h with
  | mk lb A a1 aa B b bb V p pp S q qq N n nn vs ms ns d ha1 hb hp hq hn hV hvs hS hms hN hns =>
    clear ha1 hb hp hq hV hvs hS hms hn hN hns
    have hn100 : n ≤ 100 := hnn1
    clear hnn1
    rw [show modelV lb A a1 aa B b bb V p pp S q qq N n nn = #[.int .i64 lb, .slice A a1 aa, .slice B b bb, .slice V p pp, .slice S q qq, .slice N n nn] from rfl]
    obtain ⟨b0, hb0⟩ : ∃ b0, b0 = w.heap.size := ⟨_, rfl⟩
    have HB0 := Lib.hid hb0
    have hX : Hid (Below w.heap.size w (w.alloc (.cells #[.int .i64 lb, .slice A a1 aa, .slice B b bb, .slice V p pp, .slice S q qq, .slice N n nn] 27))) := Lib.hid ((Below.refl _ _).alloc (Nat.le_refl _) _)
    have hbx : Hid ((w.alloc (.cells #[.int .i64 lb, .slice A a1 aa, .slice B b bb, .slice V p pp, .slice S q qq, .slice N n nn] 27)).heap[w.heap.size]? = some (.cells #[.int .i64 lb, .slice A a1 aa, .slice B b bb, .slice V p pp, .slice S q qq, .slice N n nn] 27 (0, 0))) := Lib.hid (heap_alloc_new w _)
    have hX1 : Hid ((w.alloc (.cells #[.int .i64 lb, .slice A a1 aa, .slice B b bb, .slice V p pp, .slice S q qq, .slice N n nn] 27)).heap.size = w.heap.size + 1) := Lib.hid (by simp)
    go_enter Try.func21, Try.ntmps21
    go_wp2_with (first | (refine wp_mkL rfl (.tmp 12) (.tmp 12) rfl n rfl rfl (by omega) ?_; intro w5 hcb5 hbw5 hlt5; refine Hid.out ?_) | fail)
    refine Lib.hid ?_
    rw [hX1.out] at hcb5 hlt5
    rw [← hb0] at hcb5 hlt5 hbx hX1 ⊢
    have hbx5 : Hid (w5.heap[b0]? = some (.cells #[.int .i64 lb, .slice A a1 aa, .slice B b bb, .slice V p pp, .slice S q qq, .slice N n nn] 27 (0, 0))) := Lib.hid ((hbw5.block _ (by have := row_lt hbx.out; omega)).trans hbx.out)
    have hX5 : Hid (Below w.heap.size w w5) := Lib.hid (hX.out.trans (hbw5.mono hX.out.size))
    have hcb5 := Lib.hid hcb5
    have hlt5 := Lib.hid hlt5
    have hM5 : Hid (ModelAt w5 w5.heap.size #[.int .i64 lb, .slice A a1 aa, .slice B b bb, .slice V p pp, .slice S q qq, .slice N n nn] ⟨n, d⟩) := Lib.hid ((hM.out.stay hX5.out).mono hX5.out.size)
    clear hX hbx hX1 hbw5 hb0
    generalize hgO : b0 + 1 = gO at *
    have HGO := Lib.hid hgO
    clear hgO
    go_wp2_with (first
      | (refine wpList_load_row rfl 27 _ rfl b0 rfl 27 #[.int .i64 lb, .slice A a1 aa, .slice B b bb, .slice V p pp, .slice S q qq, .slice N n nn] (0, 0) _ hbx5.out Try.underlying27 rfl (by kernel_rfl) ?_)
      | (go_at_call 45; refine (Rcome_any _ r hM5.out hF.out).mono ?_; rintro e W2 ⟨va, rfl, hoa, hb6⟩; refine Hid.out ?_)
      | fail)
    refine Lib.hid ?_
    have hX2 : Hid (Below w.heap.size w W2) := Lib.hid (hX5.out.trans (hb6.mono hX5.out.size))
    have hbx2 : Hid (W2.heap[b0]? = some (.cells #[.int .i64 lb, .slice A a1 aa, .slice B b bb, .slice V p pp, .slice S q qq, .slice N n nn] 27 (0, 0))) := Lib.hid ((hb6.block _ (row_lt hbx5.out)).trans hbx5.out)
    have hcb2 : Hid (CB W2 30 gO n (fun _ => .slice none 0 0)) := Lib.hid (hcb5.out.keep hb6)
    obtain ⟨Aa, ca, hva⟩ := hoa.open
    obtain ⟨la, hla⟩ : ∃ la, la = (comeL ⟨n, d⟩ r).length := ⟨_, rfl⟩
    rw [← hla] at hva
    subst hva
    have hOA := Lib.hid hoa
    obtain ⟨b2, hb2'⟩ : ∃ b2, b2 = W2.heap.size := ⟨_, rfl⟩
    have HB2 := Lib.hid hb2'
    have hb2 : Hid (b2 ≤ W2.heap.size) := Lib.hid (Nat.le_of_eq hb2')
    have hw2 : Hid (w.heap.size ≤ b0 ∧ b0 < gO ∧ gO < b2) := Lib.hid ⟨by have := HB0.out; omega, by have := HGO.out; omega, by have := hcb2.out.lt; omega⟩
    have hLA := Lib.hid hla
    clear hla hoa hb6 hbx5 hcb5 hM5 hlt5 hX5 hb2'
    -- what holds in each world behind
    have C1 : Hid (∀ wj, Bow b2 gO W2 wj → ∀ x : Int, Calls Try.prog 46 #[.slice Aa la ca, .int .i64 x] wj fun e w' => e = .returned (.bool (decide (x ∈ comeL ⟨n, d⟩ r))) ∧ Below wj.heap.size wj w') := Lib.hid (fun wj hb x => by
      have ho := hb.own hOA.out (Nat.le_of_eq HB2.out.symm) hcb2.out
      rw [hLA.out]
      rw [hLA.out] at ho
      exact Rhas_any x wj ho.lieAt.2 (Nat.le_refl _) (by have := hcl.out; omega))
    have C3 : Hid (∀ wj, Bow b2 gO W2 wj → wj.heap[b0]? = some (.cells #[.int .i64 lb, .slice A a1 aa, .slice B b bb, .slice V p pp, .slice S q qq, .slice N n nn] 27 (0, 0)) ∧ ModelAt wj wj.heap.size #[.int .i64 lb, .slice A a1 aa, .slice B b bb, .slice V p pp, .slice S q qq, .slice N n nn] ⟨n, d⟩ ∧ wj.cell? ⟨b0, 5, none⟩ = some (.slice N n nn)) := Lib.hid (fun wj hb => by
      have h0 : wj.heap[b0]? = some (.cells #[.int .i64 lb, .slice A a1 aa, .slice B b bb, .slice V p pp, .slice S q qq, .slice N n nn] 27 (0, 0)) := (hb.block b0 (by have := hw2.out; omega) (by have := hw2.out; omega)).trans hbx2.out
      have h1 : Below w.heap.size w wj := hX2.out.trans (hb.below (by have := hw2.out; omega) (by have := hw2.out; omega))
      refine ⟨h0, (hM.out.stay h1).mono h1.size, ?_⟩
      rw [cell_of_row wj _ 5 _ 27 (0, 0) h0]; rfl)
    have hfam2 : Hid (Fam W2 b2 (fun _ => .slice none 0 0) (fun t => domK ⟨n, d⟩ r 0 t) n) := Lib.hid ⟨fun _ _ => OwnI.nil _ _, fun _ _ _ _ _ => .inl rfl⟩
    have hbow2 : Hid (Bow b2 gO W2 W2) := Lib.hid (Bow.refl _ _ _)
    clear hM hcl hOA hbx2
    go_wp2_with fail
    go_loopw [7] (fun dv wr => ∃ (k : Nat) (us : Nat → Value), k ≤ n ∧ dv = .int .i64 k ∧ Hid (Bow b2 gO W2 wr) ∧ Hid (CB wr 30 gO n us) ∧ Hid (Fam wr b2 us (fun t => domK ⟨n, d⟩ r k t) n)) (fun dv _ => n - (intOf dv).toNat)
    case atStart => exact ⟨0, fun _ => .slice none 0 0, Nat.zero_le _, rfl, hbow2, hcb2, hfam2⟩
    case round =>
      clear hbow2 hcb2 hfam2
      obtain ⟨k, us, hk, rfl, hb, hcb, hfam⟩ := hrel
      obtain ⟨hbr, hMr, c5⟩ := C3.out _ hb.out
      have hbr := Lib.hid hbr
      have hMr := Lib.hid hMr
      by_cases hkn : k < n
      · by_cases hka : (k : Int) ∈ comeL ⟨n, d⟩ r
        · have HKA := Lib.hid (decide_eq_true hka)
          go_wp2_with (first
            | (go_at_call 46; with_reducible refine (C1.out _ hb.out _).mono ?_; rintro e w6 ⟨he, h6⟩; rw [HKA.out] at he; subst he; refine Hid.out ?_)
            | fail)
          refine Lib.hid ?_
          have hb6 : Hid (Bow b2 gO W2 w6) := Lib.hid (hb.out.step h6 (Nat.le_trans hb2.out hb.out.size))
          have hcb6 : Hid (CB w6 30 gO n us) := Lib.hid (hcb.out.keep h6)
          have hfam6 : Hid (Fam w6 b2 us (fun t => domK ⟨n, d⟩ r k t) n) := Lib.hid (hfam.out.below h6)
          obtain ⟨hbr6, hMr6, _⟩ := C3.out _ hb6.out
          have hbr6 := Lib.hid hbr6
          have hMr6 := Lib.hid hMr6
          clear hb hcb hfam hbr hMr c5 h6
          go_wp2_with (first
            | (refine wpList_load_row rfl 27 _ rfl b0 rfl 27 #[.int .i64 lb, .slice A a1 aa, .slice B b bb, .slice V p pp, .slice S q qq, .slice N n nn] (0, 0) _ hbr6.out Try.underlying27 rfl (by kernel_rfl) ?_)
            | (go_at_call 47; refine (Rwithout_any _ (k : Int) hMr6.out hF.out).mono ?_; rintro e w7 ⟨mv7, rfl, hM7, hb7⟩)
            | (go_at_call 45; refine (Rcome_any _ r hM7 (fewB_without hF.out _)).mono ?_; rintro e w8 ⟨v8, rfl, ho8, hb8⟩; refine Hid.out ?_)
            | fail)
          refine Lib.hid ?_
          have hl8 := Lib.hid (comeL_len (fewB_without hF.out (k : Int)) r)
          have hrl : ∃ rL, rL = comeL (withoutG ⟨n, d⟩ (k : Int)) r := ⟨_, rfl⟩
          obtain ⟨rL, hrl⟩ := hrl
          rw [← hrl] at ho8 hl8
          have HRL := Lib.hid hrl
          clear hrl
          obtain ⟨Ar, cr, hv8⟩ := ho8.open
          obtain ⟨lr, hlr⟩ : ∃ lr, lr = rL.length := ⟨_, rfl⟩
          rw [← hlr] at hv8
          subst hv8
          have hb68 : Below w6.heap.size w6 w8 := hb7.trans (hb8.mono hb7.size)
          have hb8' : Hid (Bow b2 gO W2 w8) := Lib.hid (hb6.out.step hb68 (Nat.le_trans hb2.out hb6.out.size))
          have hcb8 : Hid (CB w8 30 gO n (upd us n (.slice Ar lr cr))) := Lib.hid ((hcb6.out.keep hb68).congr (fun i hi => upd_far (by omega)))
          have hfam8 : Hid (Fam w8 b2 (upd us n (.slice Ar lr cr)) (fun t => if t = n then rL else if t < 0 then domK ⟨n, d⟩ r (k + 1) t else domK ⟨n, d⟩ r k t) (n + 1)) := Lib.hid ((hfam6.out.add hb68 (ho8.low hb7.size) (Nat.le_refl _) (Nat.le_trans hb2.out hb6.out.size)).congr (fun t _ => by
            by_cases e : t = n
            · subst e; rw [if_pos rfl, upd_same]
            · rw [if_neg e, if_neg (Nat.not_lt_zero _), upd_far e]))
          have hRn8 : Hid (upd us n (.slice Ar lr cr) n = .slice Ar lr cr) := Lib.hid (upd_same _ _ _)
          have HLR := Lib.hid hlr
          have C2 : Hid (∀ wj (us : Nat → Value) (Lf : Nat → List Int), Fam wj b2 us (fun t => if t = n then rL else Lf t) (n + 1) → us n = .slice Ar lr cr → ∀ x : Int, Calls Try.prog 46 #[.slice Ar lr cr, .int .i64 x] wj fun e w' => e = .returned (.bool (decide (x ∈ rL))) ∧ Below wj.heap.size wj w') := Lib.hid (fun wj us Lf hf hu x => by
            have ho : OwnI wj b2 (us n) (if n = n then rL else Lf n) := hf.1 n (by omega)
            rw [if_pos rfl, hu, HLR.out] at ho
            rw [HLR.out]
            exact Rhas_any x wj ho.lieAt.2 (Nat.le_refl _) (by have := hl8.out; omega))
          clear hlr hb68 hb7 hb8 hM7 ho8 hb6 hcb6 hfam6 hbr6 hMr6
          go_wp2_with fail
          go_loopw [9] (fun jv wj => ∃ (j : Nat) (us : Nat → Value), j ≤ n ∧ jv = .int .i64 j ∧ Hid (Bow b2 gO W2 wj) ∧ Hid (CB wj 30 gO n us) ∧ Hid (Fam wj b2 us (fun t => if t = n then rL else if t < j then domK ⟨n, d⟩ r (k + 1) t else domK ⟨n, d⟩ r k t) (n + 1)) ∧ Hid (us n = .slice Ar lr cr)) (fun jv _ => n - (intOf jv).toNat)
          case atStart => exact ⟨0, upd us n (.slice Ar lr cr), Nat.zero_le _, rfl, hb8', hcb8, hfam8, hRn8⟩
          case round =>
            clear hb8' hcb8 hfam8 hRn8
            obtain ⟨j, us, hj, rfl, hb, hcb, hfam, hRn⟩ := hrel
            obtain ⟨_, _, c5⟩ := C3.out _ hb.out
            by_cases hjn : j < n
            · by_cases hta : (j : Int) ∈ comeL ⟨n, d⟩ r
              · have dta := Lib.hid (decide_eq_true hta)
                by_cases hkr : (k : Int) = r
                · have tkr : ((k : Int) == r) = true := by simp [hkr]
                  clear hkr
                  go_upto_region 12 with (first | (go_at_call 46; with_reducible refine (C1.out _ hb.out _).mono ?_; rintro e w6 ⟨he, h6⟩; rw [dta.out] at he; subst he; have hb6 : Hid (Bow b2 gO W2 w6) := Lib.hid (hb.out.step h6 (Nat.le_trans hb2.out hb.out.size)); have hC6 : Hid (CB w6 30 gO n us) := Lib.hid (hcb.out.keep h6); have hF6 : Hid (Fam w6 b2 us (fun t => if t = n then rL else if t < j then domK ⟨n, d⟩ r (k + 1) t else domK ⟨n, d⟩ r k t) (n + 1)) := Lib.hid (hfam.out.below h6)) | fail)
                  have hdk : Hid (domK ⟨n, d⟩ r (k + 1) j = domK ⟨n, d⟩ r k j ++ [(k : Int)]) := Lib.hid (by
                    rw [domK_succ, (show domB ⟨n, d⟩ r k j = true by unfold domB; rw [HKA.out, dta.out, tkr]; rfl), if_pos rfl])
                  obtain ⟨L0, hL0⟩ : ∃ L0, L0 = domK ⟨n, d⟩ r k j := ⟨_, rfl⟩
                  have hL0l : Hid (L0.length ≤ 100) := Lib.hid (by rw [hL0]; have := domK_len ⟨n, d⟩ r k j; omega)
                  have hO1 : Hid (OwnI w6 b2 (us j) L0) := Lib.hid (by
                    have this : OwnI w6 b2 (us j) (if j = n then rL else if j < j then domK ⟨n, d⟩ r (k + 1) j else domK ⟨n, d⟩ r k j) := hF6.out.1 j (by omega)
                    rw [if_neg (by omega), if_neg (by omega), ← hL0] at this
                    exact this)
                  have HL0 := Lib.hid hL0
                  clear hL0
                  have cj : w6.cell? ⟨gO, j, none⟩ = some (us j) := hC6.out.cell hjn
                  have hO2 : Hid (OwnI (w6.alloc (.cells #[.int .i64 (k : Int)] 3)) b2 (us j) L0) := Lib.hid (World.ownsRow.alloc hO1.out _)
                  have hBA : Hid (Below w6.heap.size w6 (w6.alloc (.cells #[.int .i64 (k : Int)] 3))) := Lib.hid ((Below.refl _ _).alloc (Nat.le_refl _) _)
                  have w0 : (w6.alloc (.cells #[.int .i64 (k : Int)] 3)).cell? ⟨w6.heap.size, 0, none⟩ = some (.int .i64 (k : Int)) := by rw [World.cell?_alloc_new]; rfl
                  have hszW : Hid (b2 ≤ w6.heap.size) := Lib.hid (Nat.le_trans hb2.out hb6.out.size)
                  go_wp2_with (at_builtin; refine Hid.out ?_)
                  refine Lib.hid ?_
                  refine wpl_intAt rfl (.tmp 64) (.tmp 66) rfl b2 (us j) L0 rfl hO2.out w6.heap.size (k : Int) rfl w0 (by have := hL0l.out; omega) (by have := hszW.out; simp; omega) ?_
                  intro v' w8 ho8 hg8 hat8
                  have hF1 : Hid (Fam w8 b2 (upd us j v') (upd (fun t => if t = n then rL else if t < j then domK ⟨n, d⟩ r (k + 1) t else domK ⟨n, d⟩ r k t) j (L0 ++ [(k : Int)])) (n + 1)) := Lib.hid ((hF6.out.below hBA.out).grow (by omega) ho8 hg8 hat8)
                  have hC8 : Hid (CB w8 30 gO n us) := Lib.hid ((hC6.out.keep hBA.out).block (hg8.block gO (Nat.lt_of_lt_of_le hC6.out.lt hBA.out.size) (by
                    obtain ⟨cs, hcs, _⟩ := hC6.out.keep hBA.out
                    exact hO2.out.ne hcs (by decide))))
                  have hB8 : Hid (Bow b2 gO W2 w8) := Lib.hid ((hb6.out.step hBA.out hszW.out).grown hg8 (Nat.le_trans hszW.out hBA.out.size) (fun k e => .inl (World.ownsRow.lt hO2.out k e).1))
                  have cj8 : w8.cell? ⟨gO, j, none⟩ = some (us j) := hC8.out.cell hjn
                  have fj8 : w8.frozen? ⟨gO, j, none⟩ = false := hC8.out.free j
                  have hC9 : Hid (CB (w8.setCell ⟨gO, j, none⟩ v') 30 gO n (upd us j v')) := Lib.hid (hC8.out.set j v')
                  have hB9 : Hid (Bow b2 gO W2 (w8.setCell ⟨gO, j, none⟩ v')) := Lib.hid (hB8.out.grown (grown_set w8 gO j v') (Nat.le_trans hb2.out hB8.out.size) (fun k e => by cases e; exact .inr rfl))
                  have hF9 : Hid (Fam (w8.setCell ⟨gO, j, none⟩ v') b2 (upd us j v') (fun t => if t = n then rL else if t < j + 1 then domK ⟨n, d⟩ r (k + 1) t else domK ⟨n, d⟩ r k t) (n + 1)) := Lib.hid ((hF1.out.set hC8.out).congr (fun t _ => by
                    by_cases e : t = j
                    · subst e
                      rw [upd_same, if_neg (by omega), if_pos (by omega), hdk.out, HL0.out]
                    · rw [upd_far e]
                      by_cases e1 : t = n
                      · rw [if_pos e1, if_pos e1]
                      · rw [if_neg e1, if_neg e1]
                        by_cases e2 : t < j
                        · rw [if_pos e2, if_pos (by omega)]
                        · rw [if_neg e2, if_neg (by omega)]))
                  have hRn9 : Hid (upd us j v' n = .slice Ar lr cr) := Lib.hid (by rw [upd_far (by omega)]; exact hRn.out)
                  obtain ⟨A7, l7, c7, hv7⟩ : ∃ A7 l7 c7, v' = .slice A7 l7 c7 := by
                    obtain ⟨A7, c7, e⟩ := ho8.open
                    exact ⟨A7, _, c7, e⟩
                  subst hv7
                  clear hdk hL0l hO1 HL0 cj hO2 hBA w0 hszW ho8 hg8 hat8 hF1 hC8 hB8 
                  go_wp2_with fail
                  go_roundw
                  case rel => exact ⟨j + 1, _, by omega, by go_num, hB9, hC9, hF9, hRn9⟩
                  case measure => simp [intOf]; omega
                · have tkr : ((k : Int) == r) = false := by simp [hkr]
                  clear hkr
                  by_cases hjk : ((j : Int) == (k : Int)) = true
                  · have tjk : ((j : Int) == (k : Int)) = true := hjk
                    clear hjk
                    go_upto_region 12 with (first | (go_at_call 46; with_reducible refine (C1.out _ hb.out _).mono ?_; rintro e w6 ⟨he, h6⟩; rw [dta.out] at he; subst he; have hb6 : Hid (Bow b2 gO W2 w6) := Lib.hid (hb.out.step h6 (Nat.le_trans hb2.out hb.out.size)); have hC6 : Hid (CB w6 30 gO n us) := Lib.hid (hcb.out.keep h6); have hF6 : Hid (Fam w6 b2 us (fun t => if t = n then rL else if t < j then domK ⟨n, d⟩ r (k + 1) t else domK ⟨n, d⟩ r k t) (n + 1)) := Lib.hid (hfam.out.below h6)) | fail)
                    have hdk : Hid (domK ⟨n, d⟩ r (k + 1) j = domK ⟨n, d⟩ r k j ++ [(k : Int)]) := Lib.hid (by
                      rw [domK_succ, (show domB ⟨n, d⟩ r k j = true by unfold domB; rw [HKA.out, dta.out, tkr, tjk]; rfl), if_pos rfl])
                    obtain ⟨L0, hL0⟩ : ∃ L0, L0 = domK ⟨n, d⟩ r k j := ⟨_, rfl⟩
                    have hL0l : Hid (L0.length ≤ 100) := Lib.hid (by rw [hL0]; have := domK_len ⟨n, d⟩ r k j; omega)
                    have hO1 : Hid (OwnI w6 b2 (us j) L0) := Lib.hid (by
                      have this : OwnI w6 b2 (us j) (if j = n then rL else if j < j then domK ⟨n, d⟩ r (k + 1) j else domK ⟨n, d⟩ r k j) := hF6.out.1 j (by omega)
                      rw [if_neg (by omega), if_neg (by omega), ← hL0] at this
                      exact this)
                    have HL0 := Lib.hid hL0
                    clear hL0
                    have cj : w6.cell? ⟨gO, j, none⟩ = some (us j) := hC6.out.cell hjn
                    have hO2 : Hid (OwnI (w6.alloc (.cells #[.int .i64 (k : Int)] 3)) b2 (us j) L0) := Lib.hid (World.ownsRow.alloc hO1.out _)
                    have hBA : Hid (Below w6.heap.size w6 (w6.alloc (.cells #[.int .i64 (k : Int)] 3))) := Lib.hid ((Below.refl _ _).alloc (Nat.le_refl _) _)
                    have w0 : (w6.alloc (.cells #[.int .i64 (k : Int)] 3)).cell? ⟨w6.heap.size, 0, none⟩ = some (.int .i64 (k : Int)) := by rw [World.cell?_alloc_new]; rfl
                    have hszW : Hid (b2 ≤ w6.heap.size) := Lib.hid (Nat.le_trans hb2.out hb6.out.size)
                    go_wp2_with (at_builtin; refine Hid.out ?_)
                    refine Lib.hid ?_
                    refine wpl_intAt rfl (.tmp 64) (.tmp 66) rfl b2 (us j) L0 rfl hO2.out w6.heap.size (k : Int) rfl w0 (by have := hL0l.out; omega) (by have := hszW.out; simp; omega) ?_
                    intro v' w8 ho8 hg8 hat8
                    have hF1 : Hid (Fam w8 b2 (upd us j v') (upd (fun t => if t = n then rL else if t < j then domK ⟨n, d⟩ r (k + 1) t else domK ⟨n, d⟩ r k t) j (L0 ++ [(k : Int)])) (n + 1)) := Lib.hid ((hF6.out.below hBA.out).grow (by omega) ho8 hg8 hat8)
                    have hC8 : Hid (CB w8 30 gO n us) := Lib.hid ((hC6.out.keep hBA.out).block (hg8.block gO (Nat.lt_of_lt_of_le hC6.out.lt hBA.out.size) (by
                      obtain ⟨cs, hcs, _⟩ := hC6.out.keep hBA.out
                      exact hO2.out.ne hcs (by decide))))
                    have hB8 : Hid (Bow b2 gO W2 w8) := Lib.hid ((hb6.out.step hBA.out hszW.out).grown hg8 (Nat.le_trans hszW.out hBA.out.size) (fun k e => .inl (World.ownsRow.lt hO2.out k e).1))
                    have cj8 : w8.cell? ⟨gO, j, none⟩ = some (us j) := hC8.out.cell hjn
                    have fj8 : w8.frozen? ⟨gO, j, none⟩ = false := hC8.out.free j
                    have hC9 : Hid (CB (w8.setCell ⟨gO, j, none⟩ v') 30 gO n (upd us j v')) := Lib.hid (hC8.out.set j v')
                    have hB9 : Hid (Bow b2 gO W2 (w8.setCell ⟨gO, j, none⟩ v')) := Lib.hid (hB8.out.grown (grown_set w8 gO j v') (Nat.le_trans hb2.out hB8.out.size) (fun k e => by cases e; exact .inr rfl))
                    have hF9 : Hid (Fam (w8.setCell ⟨gO, j, none⟩ v') b2 (upd us j v') (fun t => if t = n then rL else if t < j + 1 then domK ⟨n, d⟩ r (k + 1) t else domK ⟨n, d⟩ r k t) (n + 1)) := Lib.hid ((hF1.out.set hC8.out).congr (fun t _ => by
                      by_cases e : t = j
                      · subst e
                        rw [upd_same, if_neg (by omega), if_pos (by omega), hdk.out, HL0.out]
                      · rw [upd_far e]
                        by_cases e1 : t = n
                        · rw [if_pos e1, if_pos e1]
                        · rw [if_neg e1, if_neg e1]
                          by_cases e2 : t < j
                          · rw [if_pos e2, if_pos (by omega)]
                          · rw [if_neg e2, if_neg (by omega)]))
                    have hRn9 : Hid (upd us j v' n = .slice Ar lr cr) := Lib.hid (by rw [upd_far (by omega)]; exact hRn.out)
                    obtain ⟨A7, l7, c7, hv7⟩ : ∃ A7 l7 c7, v' = .slice A7 l7 c7 := by
                      obtain ⟨A7, c7, e⟩ := ho8.open
                      exact ⟨A7, _, c7, e⟩
                    subst hv7
                    clear hdk hL0l hO1 HL0 cj hO2 hBA w0 hszW ho8 hg8 hat8 hF1 hC8 hB8 
                    go_wp2_with fail
                    go_roundw
                    case rel => exact ⟨j + 1, _, by omega, by go_num, hB9, hC9, hF9, hRn9⟩
                    case measure => simp [intOf]; omega
                  · have tjk : ((j : Int) == (k : Int)) = false := by simpa using hjk
                    clear hjk
                    by_cases htr : (j : Int) ∈ rL
                    · have dtr := Lib.hid (decide_eq_true htr)
                      go_upto_region 10 with (first | (go_at_call 46; with_reducible refine (C1.out _ hb.out _).mono ?_; rintro e w6 ⟨he, h6⟩; rw [dta.out] at he; subst he; have hb6 : Hid (Bow b2 gO W2 w6) := Lib.hid (hb.out.step h6 (Nat.le_trans hb2.out hb.out.size)); have hC6 : Hid (CB w6 30 gO n us) := Lib.hid (hcb.out.keep h6); have hF6 : Hid (Fam w6 b2 us (fun t => if t = n then rL else if t < j then domK ⟨n, d⟩ r (k + 1) t else domK ⟨n, d⟩ r k t) (n + 1)) := Lib.hid (hfam.out.below h6)) | (go_at_call 46; with_reducible refine (C2.out _ us _ hF6.out hRn.out _).mono ?_; rintro e w7 ⟨he, h7⟩; rw [dtr.out] at he; subst he; have hb7 : Hid (Bow b2 gO W2 w7) := Lib.hid (hb6.out.step h7 (Nat.le_trans hb2.out hb6.out.size)); have hC7 : Hid (CB w7 30 gO n us) := Lib.hid (hC6.out.keep h7); have hF7 : Hid (Fam w7 b2 us (fun t => if t = n then rL else if t < j then domK ⟨n, d⟩ r (k + 1) t else domK ⟨n, d⟩ r k t) (n + 1)) := Lib.hid (hF6.out.below h7)) | fail)
                      have hF9 : Hid (Fam w7 b2 us (fun t => if t = n then rL else if t < j + 1 then domK ⟨n, d⟩ r (k + 1) t else domK ⟨n, d⟩ r k t) (n + 1)) := Lib.hid (hF7.out.congr (fun t _ => by
                        by_cases e1 : t = n
                        · rw [if_pos e1, if_pos e1]
                        · rw [if_neg e1, if_neg e1]
                          by_cases e2 : t < j
                          · rw [if_pos e2, if_pos (by omega)]
                          · rw [if_neg e2]
                            by_cases e3 : t < j + 1
                            · have e4 : t = j := by omega
                              subst e4
                              rw [if_pos e3, domK_succ, (show domB ⟨n, d⟩ r k t = false by unfold domB; rw [HKA.out, dta.out, tkr, tjk, ← HRL.out, dtr.out]; rfl)]
                              simp
                            · rw [if_neg e3]))
                      go_wp2_with fail
                      go_roundw
                      case rel => exact ⟨j + 1, us, by omega, by go_num, hb7, hC7, hF9, hRn⟩
                      case measure => simp [intOf]; omega
                    · have dtr := Lib.hid (decide_eq_false htr)
                      go_upto_region 12 with (first | (go_at_call 46; with_reducible refine (C1.out _ hb.out _).mono ?_; rintro e w6 ⟨he, h6⟩; rw [dta.out] at he; subst he; have hb6 : Hid (Bow b2 gO W2 w6) := Lib.hid (hb.out.step h6 (Nat.le_trans hb2.out hb.out.size)); have hC6 : Hid (CB w6 30 gO n us) := Lib.hid (hcb.out.keep h6); have hF6 : Hid (Fam w6 b2 us (fun t => if t = n then rL else if t < j then domK ⟨n, d⟩ r (k + 1) t else domK ⟨n, d⟩ r k t) (n + 1)) := Lib.hid (hfam.out.below h6)) | (go_at_call 46; with_reducible refine (C2.out _ us _ hF6.out hRn.out _).mono ?_; rintro e w7 ⟨he, h7⟩; rw [dtr.out] at he; subst he; have hb7 : Hid (Bow b2 gO W2 w7) := Lib.hid (hb6.out.step h7 (Nat.le_trans hb2.out hb6.out.size)); have hC7 : Hid (CB w7 30 gO n us) := Lib.hid (hC6.out.keep h7); have hF7 : Hid (Fam w7 b2 us (fun t => if t = n then rL else if t < j then domK ⟨n, d⟩ r (k + 1) t else domK ⟨n, d⟩ r k t) (n + 1)) := Lib.hid (hF6.out.below h7)) | fail)
                      have hdk : Hid (domK ⟨n, d⟩ r (k + 1) j = domK ⟨n, d⟩ r k j ++ [(k : Int)]) := Lib.hid (by
                        rw [domK_succ, (show domB ⟨n, d⟩ r k j = true by unfold domB; rw [HKA.out, dta.out, tkr, tjk, ← HRL.out, dtr.out]; rfl), if_pos rfl])
                      obtain ⟨L0, hL0⟩ : ∃ L0, L0 = domK ⟨n, d⟩ r k j := ⟨_, rfl⟩
                      have hL0l : Hid (L0.length ≤ 100) := Lib.hid (by rw [hL0]; have := domK_len ⟨n, d⟩ r k j; omega)
                      have hO1 : Hid (OwnI w7 b2 (us j) L0) := Lib.hid (by
                        have this : OwnI w7 b2 (us j) (if j = n then rL else if j < j then domK ⟨n, d⟩ r (k + 1) j else domK ⟨n, d⟩ r k j) := hF7.out.1 j (by omega)
                        rw [if_neg (by omega), if_neg (by omega), ← hL0] at this
                        exact this)
                      have HL0 := Lib.hid hL0
                      clear hL0
                      have cj : w7.cell? ⟨gO, j, none⟩ = some (us j) := hC7.out.cell hjn
                      have hO2 : Hid (OwnI (w7.alloc (.cells #[.int .i64 (k : Int)] 3)) b2 (us j) L0) := Lib.hid (World.ownsRow.alloc hO1.out _)
                      have hBA : Hid (Below w7.heap.size w7 (w7.alloc (.cells #[.int .i64 (k : Int)] 3))) := Lib.hid ((Below.refl _ _).alloc (Nat.le_refl _) _)
                      have w0 : (w7.alloc (.cells #[.int .i64 (k : Int)] 3)).cell? ⟨w7.heap.size, 0, none⟩ = some (.int .i64 (k : Int)) := by rw [World.cell?_alloc_new]; rfl
                      have hszW : Hid (b2 ≤ w7.heap.size) := Lib.hid (Nat.le_trans hb2.out hb7.out.size)
                      go_wp2_with (at_builtin; refine Hid.out ?_)
                      refine Lib.hid ?_
                      refine wpl_intAt rfl (.tmp 64) (.tmp 66) rfl b2 (us j) L0 rfl hO2.out w7.heap.size (k : Int) rfl w0 (by have := hL0l.out; omega) (by have := hszW.out; simp; omega) ?_
                      intro v' w8 ho8 hg8 hat8
                      have hF1 : Hid (Fam w8 b2 (upd us j v') (upd (fun t => if t = n then rL else if t < j then domK ⟨n, d⟩ r (k + 1) t else domK ⟨n, d⟩ r k t) j (L0 ++ [(k : Int)])) (n + 1)) := Lib.hid ((hF7.out.below hBA.out).grow (by omega) ho8 hg8 hat8)
                      have hC8 : Hid (CB w8 30 gO n us) := Lib.hid ((hC7.out.keep hBA.out).block (hg8.block gO (Nat.lt_of_lt_of_le hC7.out.lt hBA.out.size) (by
                        obtain ⟨cs, hcs, _⟩ := hC7.out.keep hBA.out
                        exact hO2.out.ne hcs (by decide))))
                      have hB8 : Hid (Bow b2 gO W2 w8) := Lib.hid ((hb7.out.step hBA.out hszW.out).grown hg8 (Nat.le_trans hszW.out hBA.out.size) (fun k e => .inl (World.ownsRow.lt hO2.out k e).1))
                      have cj8 : w8.cell? ⟨gO, j, none⟩ = some (us j) := hC8.out.cell hjn
                      have fj8 : w8.frozen? ⟨gO, j, none⟩ = false := hC8.out.free j
                      have hC9 : Hid (CB (w8.setCell ⟨gO, j, none⟩ v') 30 gO n (upd us j v')) := Lib.hid (hC8.out.set j v')
                      have hB9 : Hid (Bow b2 gO W2 (w8.setCell ⟨gO, j, none⟩ v')) := Lib.hid (hB8.out.grown (grown_set w8 gO j v') (Nat.le_trans hb2.out hB8.out.size) (fun k e => by cases e; exact .inr rfl))
                      have hF9 : Hid (Fam (w8.setCell ⟨gO, j, none⟩ v') b2 (upd us j v') (fun t => if t = n then rL else if t < j + 1 then domK ⟨n, d⟩ r (k + 1) t else domK ⟨n, d⟩ r k t) (n + 1)) := Lib.hid ((hF1.out.set hC8.out).congr (fun t _ => by
                        by_cases e : t = j
                        · subst e
                          rw [upd_same, if_neg (by omega), if_pos (by omega), hdk.out, HL0.out]
                        · rw [upd_far e]
                          by_cases e1 : t = n
                          · rw [if_pos e1, if_pos e1]
                          · rw [if_neg e1, if_neg e1]
                            by_cases e2 : t < j
                            · rw [if_pos e2, if_pos (by omega)]
                            · rw [if_neg e2, if_neg (by omega)]))
                      have hRn9 : Hid (upd us j v' n = .slice Ar lr cr) := Lib.hid (by rw [upd_far (by omega)]; exact hRn.out)
                      obtain ⟨A7, l7, c7, hv7⟩ : ∃ A7 l7 c7, v' = .slice A7 l7 c7 := by
                        obtain ⟨A7, c7, e⟩ := ho8.open
                        exact ⟨A7, _, c7, e⟩
                      subst hv7
                      clear hdk hL0l hO1 HL0 cj hO2 hBA w0 hszW ho8 hg8 hat8 hF1 hC8 hB8 
                      go_wp2_with fail
                      go_roundw
                      case rel => exact ⟨j + 1, _, by omega, by go_num, hB9, hC9, hF9, hRn9⟩
                      case measure => simp [intOf]; omega
              · have dta := Lib.hid (decide_eq_false hta)
                go_upto_region 10 with (first | (go_at_call 46; with_reducible refine (C1.out _ hb.out _).mono ?_; rintro e w6 ⟨he, h6⟩; rw [dta.out] at he; subst he; have hb6 : Hid (Bow b2 gO W2 w6) := Lib.hid (hb.out.step h6 (Nat.le_trans hb2.out hb.out.size)); have hC6 : Hid (CB w6 30 gO n us) := Lib.hid (hcb.out.keep h6); have hF6 : Hid (Fam w6 b2 us (fun t => if t = n then rL else if t < j then domK ⟨n, d⟩ r (k + 1) t else domK ⟨n, d⟩ r k t) (n + 1)) := Lib.hid (hfam.out.below h6)) | fail)
                have hF9 : Hid (Fam w6 b2 us (fun t => if t = n then rL else if t < j + 1 then domK ⟨n, d⟩ r (k + 1) t else domK ⟨n, d⟩ r k t) (n + 1)) := Lib.hid (hF6.out.congr (fun t _ => by
                  by_cases e1 : t = n
                  · rw [if_pos e1, if_pos e1]
                  · rw [if_neg e1, if_neg e1]
                    by_cases e2 : t < j
                    · rw [if_pos e2, if_pos (by omega)]
                    · rw [if_neg e2]
                      by_cases e3 : t < j + 1
                      · have e4 : t = j := by omega
                        subst e4
                        rw [if_pos e3, domK_succ, (show domB ⟨n, d⟩ r k t = false by unfold domB; rw [dta.out]; simp)]
                        simp
                      · rw [if_neg e3]))
                go_wp2_with fail
                go_roundw
                case rel => exact ⟨j + 1, us, by omega, by go_num, hb6, hC6, hF9, hRn⟩
                case measure => simp [intOf]; omega
            · have hjn' : j = n := by omega
              have hF9 : Hid (Fam wr b2 us (fun t => domK ⟨n, d⟩ r (k + 1) t) n) := Lib.hid (hfam.out.drop.congr (fun t ht => by rw [if_neg (by omega), if_pos (by omega)]))
              clear hfam
              go_wp2_with fail
              go_roundw
              case rel => exact ⟨k + 1, us, by omega, by go_num, hb, hcb, hF9⟩
              case measure => simp [intOf]; omega
        · have HKA := Lib.hid (decide_eq_false hka)
          go_wp2_with (first
            | (go_at_call 46; with_reducible refine (C1.out _ hb.out _).mono ?_; rintro e w6 ⟨he, h6⟩; rw [HKA.out] at he; subst he; refine Hid.out ?_)
            | fail)
          refine Lib.hid ?_
          have hb6 : Hid (Bow b2 gO W2 w6) := Lib.hid (hb.out.step h6 (Nat.le_trans hb2.out hb.out.size))
          have hcb6 : Hid (CB w6 30 gO n us) := Lib.hid (hcb.out.keep h6)
          have hfam6 : Hid (Fam w6 b2 us (fun t => domK ⟨n, d⟩ r (k + 1) t) n) := Lib.hid ((hfam.out.below h6).congr (fun t _ => by
            rw [domK_succ, show domB ⟨n, d⟩ r k t = false by unfold domB; rw [HKA.out]; rfl]
            simp))
          clear hb hcb hfam hbr hMr c5 h6
          go_wp2_with fail
          go_roundw
          case rel => exact ⟨k + 1, us, by omega, by go_num, hb6, hcb6, hfam6⟩
          case measure => simp [intOf]; omega
      · have hkn' : k = n := by omega
        have hfin : Hid (Fam wr w.heap.size us (domL ⟨n, d⟩ r) n) := Lib.hid (by
          have := hfam.out
          rw [hkn'] at this
          exact ⟨fun t ht => (this.1 t ht).low (by have := hw2.out; omega), this.2⟩)
        have hbf : Hid (Below w.heap.size w wr) := Lib.hid (hX2.out.trans (hb.out.below (by have := hw2.out; omega) (by have := hw2.out; omega)))
        clear hfam
        go_wp2_with fail
        go_ret
        exact ⟨gO, us, rfl, by have := hw2.out; omega, hcb.out, hfin.out, hbf.out⟩
end Go.Proofs.Ytmbjmibjobpdgaa
