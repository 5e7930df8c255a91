/-
  Dominators, plainly: a node's are those of the node over it, with the node put in.
  The landed nearest: rounds till no edge asks for more.
-/
import Derived.Test.YtmbjmibjobpdgaaM29
import Derived.Test.YtmbjmibjobpdgaaM28
import Derived.Test.YtmbjmibjobpdgaaM18
import Derived.Test.YtmbjmibjobpdgaaM20
import Derived.WalkMore
namespace Go.Proofs.Ytmbjmibjobpdgaa

theorem domB_iff {G : GT} {r d t : Nat} (hr : r < G.n) : domB G (r : Int) d t = true ↔ Dom G r d t := by
  have hw : r < (withoutG G (d : Int)).n := hr
  unfold domB Dom
  simp only [Bool.and_eq_true, Bool.or_eq_true, decide_eq_true_eq, beq_iff_eq, Bool.not_eq_true', decide_eq_false_iff_not, comeL_iff hr, comeL_iff hw]
  constructor
  · rintro ⟨a, b, c⟩
    exact ⟨a, b, c.imp (fun h => by omega) (fun c => c.imp (fun h => by omega) id)⟩
  · rintro ⟨a, b, c⟩
    exact ⟨a, b, c.imp (fun h => by omega) (fun c => c.imp (fun h => by omega) id)⟩
theorem domB_none {G : GT} {r : Int} {d t : Nat} (hr : ¬ (0 ≤ r ∧ r < G.n)) : domB G r d t = false := by
  unfold domB comeL
  rw [if_neg hr]
  simp
theorem range_at (x : Nat) : ∀ n, x < n → ∃ B : List Nat, List.range n = List.range x ++ x :: B ∧ ∀ b ∈ B, x < b := by
  intro n
  induction n with
  | zero => intro h; omega
  | succ n ih =>
    intro h
    by_cases e : n = x
    · subst e
      exact ⟨[], List.range_succ, fun b hb => by cases hb⟩
    · obtain ⟨B, e1, h1⟩ := ih (by omega)
      refine ⟨B ++ [n], by rw [List.range_succ, e1]; simp, fun b hb => ?_⟩
      rcases List.mem_append.1 hb with hb | hb
      · exact h1 b hb
      · have : b = n := by simpa using hb
        omega
/-- One more is put in at its place. -/
theorem put_in {n x : Nat} {f g : Nat → Bool} (hx : x < n) (hg : ∀ d, g d = true ↔ (d = x ∨ f d = true)) (hf : f x = false) :
    let L := ((List.range n).filter f).map fun d : Nat => (d : Int)
    L.take (L.countP (· < (x : Int))) ++ [(x : Int)] ++ L.drop (L.countP (· < (x : Int))) = ((List.range n).filter g).map fun d : Nat => (d : Int) := by
  obtain ⟨B, e, hB⟩ := range_at x n hx
  have hA : ∀ a ∈ List.range x, a < x := fun a ha => List.mem_range.1 ha
  have hfg : ∀ d, d ≠ x → g d = f d := fun d hd => by
    cases hb : f d
    · cases hc : g d
      · rfl
      · rcases (hg d).1 hc with h | h
        · exact absurd h hd
        · rw [hb] at h; cases h
    · exact (hg d).2 (.inr hb)
  have hgx : g x = true := (hg x).2 (.inl rfl)
  have e1 : (List.range n).filter f = (List.range x).filter f ++ B.filter f := by
    rw [e, List.filter_append, List.filter_cons_of_neg (by rw [hf]; exact Bool.false_ne_true)]
  have e2 : (List.range n).filter g = (List.range x).filter f ++ x :: B.filter f := by
    rw [e, List.filter_append, List.filter_cons_of_pos hgx]
    congr 1
    · exact List.filter_congr fun a ha => hfg a (by have := hA a ha; omega)
    · congr 1
      exact List.filter_congr fun a ha => hfg a (by have := hB a ha; omega)
  intro L
  have eL : L = (((List.range x).filter f).map fun d : Nat => (d : Int)) ++ ((B.filter f).map fun d : Nat => (d : Int)) := by
    show ((List.range n).filter f).map _ = _
    rw [e1, List.map_append]
  have c1 : (((List.range x).filter f).map fun d : Nat => (d : Int)).countP (· < (x : Int)) = (((List.range x).filter f).map fun d : Nat => (d : Int)).length := by
    rw [List.countP_eq_length]
    intro a ha
    obtain ⟨d, hd, rfl⟩ := List.mem_map.1 ha
    have := hA d (List.mem_filter.1 hd).1
    simpa using this
  have c2 : ((B.filter f).map fun d : Nat => (d : Int)).countP (· < (x : Int)) = 0 := by
    rw [List.countP_eq_zero]
    intro a ha
    obtain ⟨d, hd, rfl⟩ := List.mem_map.1 ha
    have := hB d (List.mem_filter.1 hd).1
    simp
    omega
  have c3 : L.countP (· < (x : Int)) = (((List.range x).filter f).map fun d : Nat => (d : Int)).length := by
    rw [eL, List.countP_append, c1, c2]
    rfl
  rw [c3, eL, List.take_left, List.drop_left, e2, List.map_append, List.map_cons]
  simp
section
variable {G : GT} {r : Nat} {ord : List Nat} {o : Nat → Int}
theorem anc_up {o : Nat → Int} {d p : Nat} (h0 : 0 < p) : Anc o d p ↔ (d = p ∨ Anc o d (o p).toNat) := by
  constructor
  · intro h
    cases h with
    | self => exact .inl rfl
    | up _ h => exact .inr h
  · rintro (rfl | h)
    · exact .self
    · exact .up h0 h
/-- Over places: a node is dominated by itself, and by whatever dominates the node over it. -/
theorem dom_over (hr : r < G.n) (hR : Rpo G r ord) (hO : Ov (srcN G ord) ord.length o) (hk : AllK ord.length o) (hc : Chk (srcN G ord) ord.length o) {p : Nat} (hp : p < ord.length) (h0 : 0 < p) :
    ∃ y, (o p).toNat < p ∧ ord[(o p).toNat]? = some y ∧ (∀ d, domB G (r : Int) d ord[p] = true ↔ (d = ord[p] ∨ domB G (r : Int) d y = true)) ∧ domB G (r : Int) ord[p] y = false := by
  obtain ⟨k1, k2, k3, k4⟩ := hO.known hp (hk p hp)
  have hlt := k3 h0
  have hy : (o p).toNat < ord.length := by omega
  have hpe := List.getElem?_eq_getElem hp
  have hye := List.getElem?_eq_getElem hy
  refine ⟨ord[(o p).toNat], hlt, hye, fun d => ?_, ?_⟩
  · rw [domB_iff hr, domB_iff hr]
    constructor
    · intro hd
      obtain ⟨q, hq⟩ := List.getElem?_of_mem ((hR.mem d).2 hd.1)
      have h1 := hO.anc hk p hp ((hR.dom hq hpe).2 hd)
      rcases (anc_up h0).1 h1 with rfl | h2
      · rw [hpe] at hq
        injection hq with hq
        exact .inl hq.symm
      · exact .inr ((hR.dom hq hye).1 (Chk.dom hR.srcs hO hk hc h2))
    · rintro (rfl | hd)
      · exact dom_self.2 ((hR.mem _).1 (List.getElem_mem hp))
      · obtain ⟨q, hq⟩ := List.getElem?_of_mem ((hR.mem d).2 hd.1)
        have h1 := hO.anc hk _ hy ((hR.dom hq hye).2 hd)
        exact (hR.dom hq hpe).1 (Chk.dom hR.srcs hO hk hc ((anc_up h0).2 (.inr h1)))
  · cases hb : domB G (r : Int) ord[p] ord[(o p).toNat]
    · rfl
    · have h1 := (hR.dom hpe hye).2 ((domB_iff hr).1 hb)
      have h2 := PD.le hR.srcs _ hy h1
      omega
theorem dom_first (hr : r < G.n) (hR : Rpo G r ord) : ∀ d, domB G (r : Int) d r = true ↔ d = r := fun d => by
  rw [domB_iff hr]
  constructor
  · intro hd
    obtain ⟨q, hq⟩ := List.getElem?_of_mem ((hR.mem d).2 hd.1)
    have h1 := (hR.dom hq hR.first).2 hd
    have h2 := PD.le hR.srcs 0 hR.srcs.pos h1
    obtain rfl : q = 0 := by omega
    rw [hR.first] at hq
    injection hq with hq
    exact hq.symm
  · rintro rfl
    exact dom_self.2 (.inl rfl)
theorem dom_away (hr : r < G.n) (hR : Rpo G r ord) {t : Nat} (ht : t ∉ ord) : domL G (r : Int) t = [] := by
  unfold domL domK
  rw [List.filter_eq_nil_iff.2 fun d _ hd => ht ((hR.mem t).2 ((domB_iff hr).1 hd).2.1)]
  rfl
end
end Go.Proofs.Ytmbjmibjobpdgaa
namespace Go.Proofs.Ytmbjmibjobpdgaa
open Go.RowKit

/-- What a block of ints holds, as it is read off the memory. -/
def oOf (w : World) (g : Nat) (p : Nat) : Int := match w.cell? ⟨g, p, none⟩ with
  | some (.int _ v) => v
  | _ => -1
theorem OAt.read {w : World} {g m : Nat} {o : Nat → Int} (h : OAt w g m o) {p : Nat} (hp : p < m) : oOf w g p = o p := by
  unfold oOf
  rw [h.cell hp]
theorem sumO_congr {o o' : Nat → Int} : ∀ k, (∀ p, p < k → o p = o' p) → sumO o k = sumO o' k := by
  intro k
  induction k with
  | zero => intro _; rfl
  | succ k ih =>
    intro h
    show sumO o k + _ = sumO o' k + _
    rw [ih (fun p hp => h p (by omega)), h k (by omega)]
def allB (o : Nat → Int) (m : Nat) : Bool := (List.range m).all fun p => decide (o p ≠ -1)
theorem allB_iff {o : Nat → Int} {m : Nat} : allB o m = true ↔ AllK m o := by
  unfold allB AllK
  rw [List.all_eq_true]
  exact ⟨fun h p hp => of_decide_eq_true (h p (List.mem_range.2 hp)), fun h p hp => decide_eq_true (h p (List.mem_range.1 hp))⟩
/-- How far the rounds may still go. -/
def leftM (o : Nat → Int) (m : Nat) : Nat := if allB o m = true then sumO o m else m * m + 1
theorem leftM_congr {o o' : Nat → Int} {m : Nat} (h : ∀ p, p < m → o p = o' p) : leftM o m = leftM o' m := by
  have e : allB o m = allB o' m := by
    have : AllK m o ↔ AllK m o' := ⟨fun k p hp => by rw [← h p hp]; exact k p hp, fun k p hp => by rw [h p hp]; exact k p hp⟩
    cases h1 : allB o m <;> cases h2 : allB o' m
    · rfl
    · rw [← allB_iff, ← allB_iff, h1, h2] at this; exact absurd (this.2 rfl) (by decide)
    · rw [← allB_iff, ← allB_iff, h1, h2] at this; exact absurd (this.1 rfl) (by decide)
    · rfl
  unfold leftM
  rw [e, sumO_congr m h]
section
variable {S : Nat → List Nat} {m : Nat} {o : Nat → Int}
theorem round_less (hS : Srcs S m) (h : Ov S m o) (h0 : Pre m 0 o) {p s : Nat} (hp : p < m) (hs : s ∈ S p) (hne : mtv (roundF S o m) (roundF S o m p).toNat s ≠ (roundF S o m p).toNat) : leftM (roundF S o m) m < leftM o m := by
  obtain ⟨a1, a2, a3⟩ := roundF_ov hS h h0 m (Nat.le_refl _)
  have hk : AllK m (roundF S o m) := a3.1
  unfold leftM
  rw [if_pos (allB_iff.2 hk)]
  by_cases hko : AllK m o
  · rw [if_pos (allB_iff.2 hko)]
    rcases roundF_same hS h hko m (Nat.le_refl _) with ⟨e, hm⟩ | hlt
    · rw [e] at hne
      exact absurd (hm p hp s hs) hne
    · exact hlt
  · rw [if_neg (fun e => hko (allB_iff.1 e))]
    have := sumO_bound (o := roundF S o m) m m (fun q hq => by
      obtain ⟨x1, x2, _⟩ := a1.known hq (hk q hq)
      omega)
    omega
theorem Pre.all {o' : Nat → Int} (h : AllK m o') : Pre m 0 o' := ⟨fun q hq => absurd hq (by omega), .inl h⟩
end
/-- What nearest answers. -/
def NearEnds (w : World) (S : Nat → List Nat) (m : Nat) (e : Ending) (w' : World) : Prop :=
  ∃ g o, e = .returned (.slice (some ⟨g, 0, none⟩) m m) ∧ w.heap.size ≤ g ∧ OAt w' g m o ∧ Ov S m o ∧ AllK m o ∧ Chk S m o ∧ Below w.heap.size w w'
set_option maxRecDepth 20000 in
set_option maxHeartbeats 4000000 in
theorem nearest_any {w : World} {lim m c : Nat} {A : Option Addr} {S : Nat → List Nat} (hS : Srcs S m) (hl : LieR w lim A m (fun p => ofNs (S p))) (hlim : lim ≤ w.heap.size) (hm : m ≤ 1000) (hlen : ∀ p, p < m → (S p).length ≤ 10000) :
    Calls Try.prog 41 #[.slice A m c] w fun e w' => NearEnds w S m e w' := by
  obtain ⟨gs, os, rfl, hgs, hrow⟩ := hl hS.pos
  have hm0 := hS.pos
  have HS := Lib.hid hS
  have HL := Lib.hid hrow
  have HN := Lib.hid hlen
  clear hS hl hrow hlen
  have R := Lib.hid (rep_any w.heap.size m hm (w.alloc (.cells #[.int .i64 (-1)] 3)) (heap_alloc_new w _))
  go_enter Try.func41, Try.ntmps41
  go_wp2_with fail
  go_step3
  go_wp2_with (go_at_call 68; refine R.out.mono ?_; clear R; rintro e w1 ⟨g, rfl, hg, hI, hb1⟩; have hI1 : OAt w1 g m (fun _ => -1) := hI; have c0 := hI1.cell hm0; have f0 : w1.frozen? ⟨g, 0, none⟩ = false := hI1.free 0; have HI := Lib.hid hI1; have HB := Lib.hid (((Below.refl _ w).alloc (Nat.le_refl _) (.cells #[.int .i64 (-1)] 3)).trans (hb1.mono (by simp))); have HG := Lib.hid hg; clear hI hI1 hb1 hg)
  go_step3
  go_wp2_with fail
  have hgl : g < w1.heap.size := HI.out.lt
  have hgw : w.heap.size ≤ g := by have := HG.out; simp at this; omega
  -- ahead of the first round
  have H0 : Hid (OAt (w1.setCell ⟨g, 0, none⟩ (.int .i64 0)) g m (fup (fun _ => -1) 0 0) ∧ Bow w1.heap.size g w1 (w1.setCell ⟨g, 0, none⟩ (.int .i64 0))) := Lib.hid ⟨HI.out.set 0 0, (Bow.refl _ _ _).set 0 _⟩
  clear c0 f0
  go_loopw [] (fun wr => ∃ o, Hid (OAt wr g m o ∧ Ov S m o ∧ Pre m 0 o ∧ Bow w1.heap.size g w1 wr)) (fun wr => leftM (oOf wr g) m)
  case atStart => exact ⟨_, Lib.hid ⟨H0.out.1, (Ov.start S m).1, (Ov.start S m).2, H0.out.2⟩⟩
  case round =>
    clear H0 HI
    obtain ⟨o, ho⟩ := hrel
    obtain ⟨hO, hov, hpre, hbw⟩ := ho.out
    have HM : Hid (leftM (oOf wr g) m = leftM o m) := Lib.hid (leftM_congr fun p hp => hO.read hp)
    have H1 : Hid (OAt wr g m (roundF S o 0) ∧ Ov S m (roundF S o 0) ∧ Pre m 0 (roundF S o 0) ∧ Bow w1.heap.size g w1 wr) := Lib.hid ⟨hO, hov, hpre, hbw⟩
    have HOV := Lib.hid (And.intro hov hpre)
    clear hO hov hpre hbw ho
    go_wp2_with fail
    go_loopw [18] (fun kv wr => ∃ k : Nat, k ≤ m ∧ kv = .int .i64 k ∧ Hid (OAt wr g m (roundF S o k) ∧ Ov S m (roundF S o k) ∧ Pre m k (roundF S o k) ∧ Bow w1.heap.size g w1 wr)) (fun kv _ => m - (intOf kv).toNat)
    case atStart => exact ⟨0, Nat.zero_le _, rfl, H1⟩
    case round =>
      clear H1
      obtain ⟨k, hk, rfl, hr⟩ := hrel
      by_cases hlt : k < m
      · obtain ⟨hO, hov, hpre, hbw⟩ := hr.out
        obtain ⟨B, cB, x0, hli⟩ := HL.out k hlt
        rw [ofN_len] at x0
        have hBl : Below lim w wr := (HB.out.mono hlim).trans (hbw.below (by have := HB.out.size; omega) (by omega))
        have x1 : wr.cell? ⟨gs, os + k, none⟩ = some (.slice B (S k).length cB) := (hBl.cell (p := ⟨gs, os + k, none⟩) hgs).trans x0
        have hmid : Mid m k (roundF S o k) := ⟨hpre.1, hpre.2.imp id fun a q hq hqm => a q (by omega) (by omega) hqm⟩
        have L := Lib.hid (lift_any (c := m) (cc := cB) HS.out hO hov hmid hlt (fun _ h => h) (hli.keep fun gg oo hg => hBl.cell (p := ⟨gg, oo, none⟩) hg) (show lim ≤ g by omega) (HN.out k hlt))
        have hnx := liftF_ov HS.out (S k) hov hmid (fun _ h => h)
        have HNX : Hid (Ov S m (roundF S o (k + 1)) ∧ Pre m (k + 1) (roundF S o (k + 1))) := Lib.hid (by
          obtain ⟨a1, _, a3⟩ := roundF_ov HS.out HOV.out.1 HOV.out.2 (k + 1) (by omega)
          exact ⟨a1, a3⟩)
        have HBW := Lib.hid hbw
        have hsz : Hid (w1.heap.size ≤ wr.heap.size) := Lib.hid hbw.size
        clear hO hov hpre hbw hr x0 hli hBl hmid hnx
        generalize (S k).length = lk at *
        go_wp2_with (go_at_call 69; refine L.out.mono ?_; clear L; rintro e w5 ⟨rfl, ho5, hb5⟩; have H5 : Hid (OAt w5 g m (roundF S o (k + 1)) ∧ Bow w1.heap.size g w1 w5) := Lib.hid ⟨ho5, HBW.out.trans ⟨hb5.os, hb5.tape, hb5.output, hb5.size, fun kk hkk hne => hb5.block kk (Nat.lt_of_lt_of_le hkk hsz.out) hne⟩⟩; clear ho5 hb5)
        go_roundw
        case rel => exact ⟨k + 1, by omega, by go_num, Lib.hid ⟨H5.out.1, HNX.out.1, HNX.out.2, H5.out.2⟩⟩
        case measure => simp [intOf]; omega
      · obtain rfl : m = k := by omega
        obtain ⟨o', ho'⟩ : ∃ o', o' = roundF S o m := ⟨_, rfl⟩
        have HE := Lib.hid ho'
        obtain ⟨hO, hov, hpre, hbw⟩ := hr.out
        rw [← ho'] at hO hov hpre
        have H2 : Hid (OAt wr g m o' ∧ Bow w1.heap.size g w1 wr) := Lib.hid ⟨hO, hbw⟩
        have HK : Hid (Ov S m o' ∧ AllK m o') := Lib.hid ⟨hov, hpre.1⟩
        clear hO hov hpre hbw ho' hr hlt hk
        go_wp2_with fail
        go_loopw [30] (fun kv wr => ∃ k : Nat, k ≤ m ∧ kv = .int .i64 k ∧ Hid (OAt wr g m o' ∧ Bow w1.heap.size g w1 wr) ∧ Hid (∀ p, p < k → ∀ s ∈ S p, mtv o' (o' p).toNat s = (o' p).toNat)) (fun kv _ => m - (intOf kv).toNat)
        case atStart => exact ⟨0, Nat.zero_le _, rfl, H2, Lib.hid fun p hp => absurd hp (by omega)⟩
        case round =>
          clear H2
          obtain ⟨k, hk, rfl, hr, hdone⟩ := hrel
          by_cases hlt : k < m
          · obtain ⟨hO, hbw⟩ := hr.out
            obtain ⟨B, cB, x0, hli⟩ := HL.out k hlt
            rw [ofN_len] at x0
            have hBl : Below lim w wr := (HB.out.mono hlim).trans (hbw.below (by have := HB.out.size; omega) (by omega))
            have x1 : wr.cell? ⟨gs, os + k, none⟩ = some (.slice B (S k).length cB) := (hBl.cell (p := ⟨gs, os + k, none⟩) hgs).trans x0
            have HR := hr
            obtain ⟨Lk, hLk⟩ : ∃ Lk, Lk = S k := ⟨_, rfl⟩
            have HLK := Lib.hid hLk
            rw [← hLk] at x1 hli
            have HLI := Lib.hid hli
            obtain ⟨nk, hnk⟩ : ∃ nk, nk = Lk.length := ⟨_, rfl⟩
            have HNK := Lib.hid hnk
            have hnb : nk ≤ 10000 := by rw [hnk, hLk]; exact HN.out k hlt
            rw [← hnk] at x1
            clear hO hbw x0 hli hBl hLk hnk hr
            go_wp2_with fail
            go_loopw [37] (fun jv wr => ∃ j : Nat, j ≤ nk ∧ jv = .int .i64 j ∧ Hid (OAt wr g m o' ∧ Bow w1.heap.size g w1 wr) ∧ Hid (∀ i (h : i < Lk.length), i < j → mtv o' (o' k).toNat Lk[i] = (o' k).toNat)) (fun jv _ => nk - (intOf jv).toNat)
            case atStart => exact ⟨0, Nat.zero_le _, rfl, HR, Lib.hid fun i _ hi => absurd hi (by omega)⟩
            case round =>
              clear x1 HR
              obtain ⟨j, hj, rfl, hr, hin⟩ := hrel
              by_cases hjt : j < nk
              · have hjL : j < Lk.length := by have := HNK.out; omega
                obtain ⟨gr, orr, rfl, hgr, hx⟩ := HLI.out (by rw [ofN_len]; omega)
                obtain ⟨hO, hbw⟩ := hr.out
                have hBl : Below lim w wr := (HB.out.mono hlim).trans (hbw.below (by have := HB.out.size; omega) (by omega))
                have x0 : wr.cell? ⟨gr, orr + j, none⟩ = some (.int .i64 (Lk[j] : Nat)) := by
                  rw [hBl.cell (p := ⟨gr, orr + j, none⟩) hgr, hx j (by rw [ofN_len]; exact hjL)]
                  simp [ofNs]
                have hs : Lk[j] ∈ S k := by rw [← HLK.out]; exact List.getElem_mem hjL
                have hsm := (HS.out.lt k _ hs).2
                obtain ⟨y1, y2, y3, y4⟩ := HK.out.1.known hlt (HK.out.2 k hlt)
                have c1 := hO.cell hlt
                have M := meet_any (w := wr.drew) (c := m) (show OAt wr.drew g m o' from hO) HK.out.1 (a := (o' k).toNat) (b := Lk[j]) (by omega) hsm y4 (HK.out.2 _ hsm)
                have e2 : (((o' k).toNat : Nat) : Int) = o' k := by omega
                rw [e2] at M
                have HM1 := Lib.hid M
                have H3 : Hid (OAt wr.drew g m o' ∧ Bow w1.heap.size g w1 wr.drew) := Lib.hid ⟨hO, hbw.os, hbw.tape, hbw.output, hbw.size, hbw.block⟩
                obtain ⟨sj, hsj⟩ : ∃ sj, sj = Lk[j] := ⟨_, rfl⟩
                rw [← hsj] at x0 HM1
                have HSJ := Lib.hid hsj
                have hD : Hid (mtv o' (o' k).toNat sj = (o' k).toNat → ∀ i (h : i < Lk.length), i < j + 1 → mtv o' (o' k).toNat Lk[i] = (o' k).toNat) := Lib.hid fun he i h hi => by
                  by_cases e : i = j
                  · subst e; rw [← HSJ.out]; exact he
                  · exact hin.out i h (by omega)
                have hV : Hid (mtv o' (o' k).toNat sj ≠ (o' k).toNat → leftM (oOf wr.drew g) m < leftM o m) := Lib.hid fun hne => by
                  have h1 := round_less HS.out HOV.out.1 HOV.out.2 hlt hs (by rw [← HE.out, ← HSJ.out]; exact hne)
                  rw [← HE.out] at h1
                  rw [leftM_congr (fun p hp => H3.out.1.read hp)]
                  exact h1
                have he2 : Hid ((((o' k).toNat : Nat) : Int) = o' k) := Lib.hid e2
                clear hO hbw hBl hs hsm y1 y2 y3 y4 M e2 hsj hx hin hr
                obtain ⟨r, hrr⟩ : ∃ r, r = mtv o' (o' k).toNat sj := ⟨_, rfl⟩
                rw [← hrr] at HM1 hD hV
                obtain ⟨ok, hok⟩ : ∃ ok, ok = o' k := ⟨_, rfl⟩
                rw [← hok] at c1 HM1 hD hV he2
                have HOK := Lib.hid hok
                clear hrr hok
                by_cases hre : (r : Int) = ok
                · have t0 : ((r : Int) != ok) = false := by simpa using hre
                  have hD2 : Hid (∀ i (h : i < Lk.length), i < j + 1 → mtv o' (o' k).toNat Lk[i] = (o' k).toNat) := Lib.hid (by
                    have h9 := hD.out (by have := he2.out; omega)
                    rw [HOK.out] at h9
                    exact h9)
                  clear hre hD hV he2
                  go_wp2_with fail
                  go_region_held3 (fun W => W.cell? ⟨g, k, none⟩ = some (.int .i64 ok)) (go_keep) (first | (go_simp; go_at_call 70; (with_reducible refine HM1.out.mono ?_); rintro e w6 ⟨rfl, rfl⟩))
                  go_wp2_with fail
                  go_roundw
                  case rel => exact ⟨j + 1, by omega, by go_num, H3, hD2⟩
                  case measure => simp [intOf]; omega
                · have t0 : ((r : Int) != ok) = true := by simpa using hre
                  have hV2 := Lib.hid (hV.out (by have := he2.out; omega))
                  clear hre hD hV he2
                  go_wp2_with fail
                  go_region_held3 (fun W => W.cell? ⟨g, k, none⟩ = some (.int .i64 ok)) (go_keep) (first | (go_simp; go_at_call 70; (with_reducible refine HM1.out.mono ?_); rintro e w6 ⟨rfl, rfl⟩))
                  go_wp2_with fail
                  go_roundw
                  case rel => exact ⟨o', Lib.hid ⟨H3.out.1, HK.out.1, Pre.all HK.out.2, H3.out.2⟩⟩
                  case measure =>
                    rw [HM.out]
                    exact hV2.out
              · have hfin : Hid (∀ p, p < k + 1 → ∀ s ∈ S p, mtv o' (o' p).toNat s = (o' p).toNat) := Lib.hid fun p hp s hs => by
                  by_cases e : p = k
                  · subst e
                    rw [← HLK.out] at hs
                    obtain ⟨i, hi, rfl⟩ := List.getElem_of_mem hs
                    exact hin.out i hi (by have := HNK.out; omega)
                  · exact hdone.out p (by omega) s hs
                obtain rfl : nk = j := by omega
                clear hin
                go_wp2_with fail
                go_roundw
                case rel => exact ⟨k + 1, by omega, by go_num, hr, hfin⟩
                case measure => simp [intOf]; omega
          · obtain rfl : m = k := by omega
            have hfin : Hid (NearEnds w S m (.returned (.slice (some ⟨g, 0, none⟩) m m)) wr) := Lib.hid ⟨g, o', rfl, hgw, hr.out.1, HK.out.1, HK.out.2, fun p hp s hs => hdone.out p hp s hs, HB.out.trans (hr.out.2.below HB.out.size hgw)⟩
            clear hr hdone
            go_wp2_with fail
            go_ret
            exact hfin.out
end Go.Proofs.Ytmbjmibjobpdgaa
