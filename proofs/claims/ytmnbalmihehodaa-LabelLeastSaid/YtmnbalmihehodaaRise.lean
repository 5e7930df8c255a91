/-
  The contract of rise.
-/
import Derived.Test.YtmnbalmihehodaaRiseW
import Derived.Test.YtmnbalmihehodaaMayBe
import Derived.Deep.RegionWith
import Derived.Deep.LoopGhost
namespace Go.Proofs.Ytmnbalmihehodaa
open Go.RowKit

theorem snoc_cases (l : List Nat) : l = [] ∨ ∃ s x, l = s ++ [x] := by
  rcases List.eq_nil_or_concat l with h | ⟨s, x, h⟩
  · exact .inl h
  · exact .inr ⟨s, x, by simpa using h⟩

theorem RW.pop {w0 wr : World} {Bx gl gf gn ge Bo m len go cap x : Nat} {p c ce : Nat → Int} {st : List Nat}
    (h : RW w0 wr Bx gl gf gn ge Bo m len p c ce (.slice (some ⟨go, 0, none⟩) (st.length + 1) cap) (st ++ [x])) : RW w0 wr Bx gl gf gn ge Bo m len p c ce (.slice (some ⟨go, 0, none⟩) st.length cap) st := by
  obtain ⟨go', cap', e, _, hR, _⟩ := h.shape
  cases e
  exact hR

theorem new_cell {w : World} {z : Value} : ∀ j u, [z][j]? = some u → (w.alloc (.cells #[z] 3)).cell? ((⟨w.heap.size, 0, none⟩ : Addr).add j) = some u := by
  intro j u hu
  match j, hu with
  | 0, hu =>
    cases hu
    show (w.alloc _).cell? ⟨w.heap.size, 0, none⟩ = _
    rw [World.cell?_alloc_at _ _ _ _ rfl]
    rfl
theorem new_one (z : Int) : ∀ u ∈ [Value.int .i64 z], u.oneCell' = true := by simp [Value.oneCell']

theorem RW.own' {w0 wr : World} {Bx gl gf gn ge Bo m len x : Nat} {p c ce : Nat → Int} {v : Value} {st : List Nat}
    (h : RW w0 wr Bx gl gf gn ge Bo m len p c ce v (st ++ [x])) : wr.ownsRow Bo 3 1 v (st.length + 1) (intsOf (st ++ [x])) := by
  have := h.own
  rwa [List.length_append, List.length_singleton] at this

/-- One more thing on the stack. -/
theorem wp_push {ops : Array Oper} {rest : List Oper} {o : Oper} {a : Act} {w w0 wr : World} {Q : Exit → Act → World → Prop} {Bx gl gf gn ge Bo m len x go oc : Nat} {p c ce : Nat → Int} {s0 : List Nat}
    (hgd : o.guard = none) (s t : Operand) (ho : o.op = .call { callee := .builtin .append, args := #[s, t], argTypes := #[23, 23] })
    (hR : RW w0 wr Bx gl gf gn ge Bo m len p c ce (.slice (some ⟨go, 0, none⟩) (s0.length + 1) oc) (s0 ++ [x])) (y gz : Nat) (hs1 : s0.length ≤ 100000)
    (hs : a.eval s = .slice (some ⟨go, 0, none⟩) (s0.length + 1) oc) (ht : a.eval t = .slice (some ⟨gz, 0, none⟩) 1 1) (hgz : gz = wr.heap.size) (hw : w = wr.alloc (.cells #[.int .i64 (y : Int)] 3))
    (h : ∀ v' w9, RW w0 w9 Bx gl gf gn ge Bo m len p c ce v' (s0 ++ [x] ++ [y]) → wpList Try.prog ops Q rest (a.put o.dst v') w9) : wpList Try.prog ops Q (o :: rest) a w := by
  obtain ⟨ti, hi, hz0, hz1, hz2⟩ := info_parts Try.info3
  subst hgz hw
  have hsz := hR.sz
  refine wpList_append_own _ hgd s t 23 ho Bo 3 ti (.int .i64 0) 1 8 Try.underlying23 hi hz0 hz1 hz2 rfl (by decide) _ (s0.length + 1) (intsOf (s0 ++ [x])) hs (hR.own'.alloc _) ⟨wr.heap.size, 0, none⟩ 1 1 [.int .i64 (y : Int)] ht rfl new_cell (new_one _) (by unfold maxLen; omega) (by omega) (by simp; omega) ?_
  intro v' w9 hown9 hgrow _
  exact h v' w9 (hR.push (by rw [List.length_append, List.length_singleton]; exact hown9) hgrow)

/-- What rise leaves behind. -/
def GivesRise (n : Nat) (A : Nat → Nat) (m : Nat) (p q : Nat → Int) (len : Nat) (f : Nat → Int) (Bx gl : Nat) (w : World) (e : Ending) (w' : World) : Prop :=
  e = .returned (.tuple #[]) ∧ ∃ c, IB w' gl m c ∧ Raised n A m p q len f c ∧ Below Bx w w'

set_option maxRecDepth 100000 in
set_option maxHeartbeats 2000000 in
theorem rise_any {g n : Nat} {A B : Nat → Nat} {L : Nat → Nat → Bool} (hG : GLat n A B L) (Bx : Nat) (w : World) (h : Lat w g n A B) (hg : g < Bx) (D : Option Addr) (len cap : Nat) (p q : Nat → Int)
    (hp : Prs w Bx D len p q) (m lcap gl : Nat) (f : Nat → Int) (hlab : IB w gl m f) (hBx : Bx ≤ gl) (hE : okK (m : Int) p q len = true) (hf : okL n f m = true) (hm1 : 1 ≤ m) (hm : m ≤ 1000) (hlen : len ≤ 1000) :
    Calls Try.prog 42 #[.pointer (some ⟨g, 0, none⟩), .slice D len cap, .slice (some ⟨gl, 0, none⟩) m lcap] w (GivesRise n A m p q len f Bx gl w) := by
  have hlt := hlab.lt
  have hBs : Bx ≤ w.heap.size := by omega
  have HE : Hid (okK (m : Int) p q len = true) := Lib.hid hE
  have HT : Hid (Things m p q len) := Lib.hid (fun i hi => by have := okK_at hE hi; omega)
  have HF : Hid (∀ x, x < m → isL n (f x) = true) := Lib.hid (okL_iff.1 hf)
  clear hE hf
  go_enter Try.func42, Try.ntmps42
  go_wp2_with fail
  go_step3
  go_wp2_with fail
  refine (fan_any m D len cap p q _ hm hlen (hp.mono hBs) HE.out).mono ?_
  rintro e w1 ⟨gf, gn, rfl, hW⟩
  go_wp2_with fail
  refine (Clone_any ⟨gf, 0, none⟩ m m (foF p len) _ hm hW.first.rd).mono ?_
  rintro e w2 ⟨ge, ecap, rfl, hge, hlft, hb2⟩
  go_wp2_with fail
  refine (every_any m hm _).mono ?_
  rintro e w3 ⟨v, rfl, hown, hb3⟩
  have hR : RW w w3 Bx gl gf gn ge w2.heap.size m len p f (foF p len) v (List.range m) := by
    have k1 := hW.lo; have k2 := hW.lt; have k3 := hW.next.lt; have k4 := hlft.lt; have k5 := hb3.size; have k6 := hW.below.size; have k7 := hb2.size
    exact ⟨hBx, by omega, k2, by omega, k4, k5, ((hlab.keep hW.below).keep (hb2.mono (Nat.le_refl _))).keep hb3, (hW.first.keep hb2).keep hb3, (hW.next.keep hb2).keep hb3, hlft.keep hb3, hown,
      ((hW.below.mono hBs).trans (hb2.mono (by omega))).trans (hb3.mono (by omega))⟩
  have HI : Hid (RI n A m p q len f f (foF p len) (List.range m)) := Lib.hid (RI.start hG HT.out HF.out)
  clear hW hlft hb2 hown hb3 hge
  generalize w2.heap.size = Bo at *
  go_wp2_with fail
  go_step3
  go_wp2_with fail
  go_loopg [9] (2 * rooms n A f m + (List.range m).length) (fun k v wr => ∃ c ce st, Hid (k = 2 * rooms n A c m + st.length ∧ RI n A m p q len f c ce st) ∧ RW w wr Bx gl gf gn ge Bo m len p c ce v st)
  case atStart => exact ⟨f, foF p len, List.range m, Lib.hid ⟨rfl, HI.out⟩, hR⟩
  case round =>
    obtain ⟨c, ce, st, HK, hR'⟩ := hrel
    clear hR HI
    rcases snoc_cases st with rfl | ⟨s0, x, rfl⟩
    · obtain ⟨Ao, oc, rfl⟩ := hR'.shape0
      go_wp2_with fail
      show Exit.noGoto _ _ _ _
      unfold Exit.noGoto
      go_end0
      exact ⟨rfl, c, hR'.lab, HK.out.2.done, hR'.below⟩
    · obtain ⟨go, oc, rfl, hcell, _, hcap⟩ := hR'.shape
      have hs0 : (0 : Int) ≤ (s0.length : Int) := by omega
      have hs1 : s0.length ≤ 100000 := by
        have h1 := HK.out.2.size
        rw [List.length_append] at h1
        have h2 := hG.n8
        have h3 : n * m ≤ 8 * m := Nat.mul_le_mul_right m h2
        omega
      have HX : Hid (x < m) := Lib.hid (HK.out.2.things x (by simp))
      have HG : Hid (gk = 2 * rooms n A c m + (s0.length + 1)) := Lib.hid (by have := HK.out.1; rw [List.length_append, List.length_singleton] at this; exact this)
      go_wp2_with fail
      clear hcell
      go_loopg [9] ((ce x + 1).toNat) (fun k v wr => ∃ ce, v = .slice (some ⟨go, 0, none⟩) (s0.length + 1) oc ∧ Hid (k = (ce x + 1).toNat ∧ RI n A m p q len f c ce (s0 ++ [x])) ∧ RW w wr Bx gl gf gn ge Bo m len p c ce (.slice (some ⟨go, 0, none⟩) (s0.length + 1) oc) (s0 ++ [x]))
      case atStart => exact ⟨ce, rfl, Lib.hid ⟨rfl, HK.out.2⟩, hR'⟩
      case round =>
        obtain ⟨ce, rfl, HC, hQ⟩ := hrel
        clear hR' HK
        have hxm := HX.out
        have hx0 : (0 : Int) ≤ (x : Int) := by omega
        have hx1 : (x : Int) < (m : Int) := by omega
        have hcl := hQ.lft.cell hxm
        rcases HC.out.2.chain x hxm with hce | ⟨i, hi, hce, hpi⟩
        · rw [hce] at hcl
          have HE1 := Lib.hid hce
          clear hce
          go_wp2_with fail
          go_roundg (2 * rooms n A c m + s0.length)
          case rel => exact ⟨c, ce, s0, Lib.hid ⟨rfl, HC.out.2.pop HE1.out⟩, hQ.pop⟩
          case measure => have := HG.out; omega
        · rw [hce] at hcl
          have HE1 := Lib.hid hce
          have HP := Lib.hid hpi
          clear hce hpi
          obtain ⟨gE, off, rfl, hgE, hcE⟩ := hp (by omega)
          have d1 := (hQ.below.cell (p := ⟨gE, off + i * 2 + 1, none⟩) hgE).trans (hcE i hi).2
          have hqi := okK_at HE.out hi
          obtain ⟨y, hy⟩ : ∃ y : Nat, q i = (y : Int) := ⟨(q i).toNat, by omega⟩
          rw [hy] at d1
          have HY : Hid ((q i).toNat = y) := Lib.hid (by omega)
          have hym : y < m := by omega
          have hy0 : (0 : Int) ≤ (y : Int) := by omega
          have hy1 : (y : Int) < (m : Int) := by omega
          have hi0 : (0 : Int) ≤ (i : Int) := by omega
          have hi1 : (i : Int) < (len : Int) := by omega
          have hnx := hQ.nxt.cell hi
          have hfl := hQ.lft.free x
          have hQ4 := hQ.setLeft x (foN p len i)
          have HZ := Lib.hid (foN_lt (p := p) hi)
          have HPass := Lib.hid (HC.out.2.pass hxm hi HE1.out HP.out)
          have HLift := Lib.hid (HC.out.2.lift hG HT.out hxm hi HE1.out HP.out)
          rw [HY.out] at HPass HLift
          clear hy hqi hcE hp hQ
          generalize foN p len i = z at *
          go_wp2_with fail
          clear hcl hnx hfl d1
          generalize wr.setCell ⟨ge, x, none⟩ (.int .i64 z) = w4 at *
          have c1 := hQ4.lab.cell hxm
          have c2 := hQ4.lab.cell hym
          have hL4 := h.low hg hQ4.below
          cases hle : leqB n A (c x) (c y)
          · have HQ : ∀ k, Calls Try.prog 19 #[.pointer (some ⟨g, 0, none⟩), .int .i64 (c x), .int .i64 (c y)] (w4.drewN k) fun e w' => e = .returned (.bool false) ∧ w' = w4.drewN k := by
              intro k
              have := leq_still (c x) (c y) (w4.drewN k) (hL4.drewN k)
              rwa [hle] at this
            have HLE := Lib.hid hle
            clear hle
            go_quiet ((go_at_call 19; exact Calls.quiet_of_same (HQ _)))
            go_wp2_with fail
            have hQ5 := hQ4.drewN nq
            have hL5 := hL4.drewN nq
            clear hQ4 hL4 HQ c1 c2
            generalize w4.drewN nq = w5 at *
            have hL5 := hL5.drew
            have hQ5 := hQ5.drew
            have c1 := hQ5.lab.cell hxm
            have c2 := hQ5.lab.cell hym
            have i1 := Lib.hid (HC.out.2.isL hxm)
            have i2 := Lib.hid (HC.out.2.isL hym)
            have HJ := Join_yes (c x) (c y) w5.drew hL5 i1.out i2.out
            have HL1 := Lib.hid (HLift.out HLE.out).1
            have HL2 := Lib.hid (HLift.out HLE.out).2
            change Calls _ _ _ _ (fun e w' => e = .returned (.tuple #[.int .i64 (jI n A (c x) (c y)), .int .i64 0]) ∧ _) at HJ
            clear HLift
            generalize jI n A (c x) (c y) = j at *
            go_region_with (go_at_call 28; refine HJ.mono ?_; rintro e w6 ⟨rfl, hb6⟩; have hQ6 := hQ5.keep hb6; have e1 := hQ6.lab.cell hym; have e2 := hQ6.lab.free y; have hQ7 := hQ6.setLab y j)
            all_goals
              clear c1 c2 e1 e2 hQ6 hQ5 hL5 hb6 HJ
              generalize w6.setCell ⟨gl, y, none⟩ (.int .i64 j) = w7 at *
              have e3 := hQ7.fst.cell hym
              have e4 := hQ7.lft.cell hym
              have e5 := hQ7.lft.free y
              have hQ8 := hQ7.setLeft y (foF p len y)
              clear hQ7
              generalize foF p len y = z2 at *
              go_wp2_with (first | (at_builtin; refine wp_push rfl (.tmp 90) (.tmp 92) rfl hQ8 y w7.heap.size hs1 (by kernel_rfl) (by kernel_rfl) (by simp [World.setCell]) (by kernel_rfl) ?_; intro v' w9 hQ9; clear hQ8 e3 e4 e5) | fail)
              go_roundg (2 * rooms n A (updI c y j) m + (s0 ++ [x] ++ [y]).length)
              case rel => exact ⟨updI c y j, updI (updI ce x z) y z2, s0 ++ [x] ++ [y], Lib.hid ⟨rfl, HL1.out⟩, hQ9⟩
              case measure => have := HG.out; have := HL2.out; simp only [List.length_append, List.length_singleton]; omega
          · have HQ : ∀ k, Calls Try.prog 19 #[.pointer (some ⟨g, 0, none⟩), .int .i64 (c x), .int .i64 (c y)] (w4.drewN k) fun e w' => e = .returned (.bool true) ∧ w' = w4.drewN k := by
              intro k
              have := leq_still (c x) (c y) (w4.drewN k) (hL4.drewN k)
              rwa [hle] at this
            have HLE := Lib.hid hle
            clear hle
            go_quiet ((go_at_call 19; exact Calls.quiet_of_same (HQ _)))
            go_wp2_with fail
            go_roundg ((z + 1).toNat)
            case rel => exact ⟨updI ce x z, rfl, Lib.hid ⟨by rw [updI_same], HPass.out HLE.out⟩, hQ4.drewN _⟩
            case measure => have := HZ.out; have := HC.out.1; have := HE1.out; omega
end Go.Proofs.Ytmnbalmihehodaa
