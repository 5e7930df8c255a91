/-
  The contract of slices.Repeat, of one int.
  The landed lift.
  Places and nodes: who stands over whom among the places is who dominates whom among the nodes.
-/
import Derived.Test.YtmbjmibjobpdgaaM08
import Derived.Test.YtmbjmibjobpdgaaM28
import Derived.Deep.LoopGhost
import Derived.Laws.CopyOwn
import Derived.Test.YtmbjmibjobpdgaaM26
import Derived.Test.YtmbjmibjobpdgaaM18
import Derived.Test.YtmbjmibjobpdgaaM24
import Derived.Test.YtmbjmibjobpdgaaM27
namespace Go.Proofs.Ytmbjmibjobpdgaa
open Go.RowKit

/-- Block g begins with these ints. -/
def IB (w : World) (g m : Nat) (f : Nat → Int) : Prop := CB w 3 g m (fun i => .int .i64 (f i))
theorem IB.congr {w : World} {g m : Nat} {f f' : Nat → Int} (h : IB w g m f) (he : ∀ i, i < m → f' i = f i) : IB w g m f' := CB.congr h fun i hi => by rw [he i hi]
theorem wp_mkI {ops : Array Oper} {rest : List Oper} {o : Oper} {a : Act} {w : World} {Q : Exit → Act → World → Prop} (hgd : o.guard = none) (l c : Operand) (ho : o.op = .makeSlice 30 l c)
    (n : Nat) (hl : a.eval l = .int .i64 (n : Int)) (hc : a.eval c = .int .i64 (n : Int)) (hn : n ≤ 1000)
    (h : ∀ w', IB w' w.heap.size n (fun _ => 0) → Below w.heap.size w w' → wpList Try.prog ops Q rest (a.put o.dst (.slice (some ⟨w.heap.size, 0, none⟩) n n)) w') : wpList Try.prog ops Q (o :: rest) a w :=
  wp_mk info3' (by omega) Try.underlying30 rfl hgd l c ho n hl hc hn h
theorem mul_one (n : Nat) (hn : n ≤ 1000) (w : World) : Calls Try.prog 91 #[.int .u64 1, .int .u64 (n : Int)] w fun e w' => e = .returned (.tuple #[.int .u64 0, .int .u64 (n : Int)]) ∧ w = w' :=
  (lib_bits_Mul 1 n (by omega) (by omega) w).mono fun e w' h => by
    obtain ⟨rfl, rfl⟩ := h
    rw [show 1 * n / 18446744073709551616 = 0 by omega, show 1 * n % 18446744073709551616 = n by omega]
    exact ⟨rfl, rfl⟩

theorem cells_toList {w : World} {g : Nat} {cs : Array Value} {t : TypeId} (h : w.heap[g]? = some (.cells cs t (0, 0))) : w.heap[g]? = some (.cells cs.toList.toArray t (0, 0)) := by simpa using h

/-- Block g has n cells, or more, of which the first k are this int. -/
def Fill (w : World) (g n k : Nat) (z : Int) : Prop := ∃ L : List Value, w.heap[g]? = some (.cells L.toArray 3 (0, 0)) ∧ n ≤ L.length ∧ ∀ i, i < k → L[i]? = some (.int .i64 z)
theorem Fill.ib {w : World} {g n : Nat} {z : Int} (h : Fill w g n n z) : IB w g n fun _ => z := by
  obtain ⟨L, h1, h2, h3⟩ := h
  exact ⟨_, h1, by simpa using h2, fun i hi => by simpa using h3 i hi⟩
theorem Fill.drew {w : World} {g n k : Nat} {z : Int} (h : Fill w g n k z) : Fill w.drew g n k z := h
theorem splice_fill {L : List Value} {k m : Nat} {z : Int} (h3 : ∀ i, i < k → L[i]? = some (.int .i64 z)) (hk : k + m ≤ L.length) :
    ∀ i, i < k + m → (splice L k (List.replicate m (.int .i64 z)))[i]? = some (.int .i64 z) := by
  intro i hi
  unfold splice
  by_cases h : i < k
  · rw [List.getElem?_append_left (by simp; omega), List.getElem?_take, if_pos h]
    exact h3 i h
  · rw [List.getElem?_append_right (by simp; omega), List.getElem?_append_left (by simp; omega), List.getElem?_replicate, if_pos (by simp; omega)]
theorem ones (m : Nat) (z : Int) : ∀ v ∈ List.replicate m (Value.int .i64 z), v.oneCell' = true := by
  intro v hv
  rw [List.mem_replicate] at hv
  rw [hv.2]
  rfl

/-- The first copy: of one int. -/
theorem wp_cp1 {ops : Array Oper} {rest : List Oper} {o : Oper} {a : Act} {w : World} {Q : Exit → Act → World → Prop} (hgd : o.guard = none) (d s : Operand)
    (ho : o.op = .call { callee := .builtin .copy, args := #[d, s], argTypes := #[30, 30] }) (g gx n : Nat) (f : Nat → Int) (z : Int) (hn : 1 ≤ n) (hd : a.eval d = .slice (some ⟨g, 0, none⟩) n n) (hs : a.eval s = .slice (some ⟨gx, 0, none⟩) 1 1)
    (hI : IB w g n f) (hx : w.cell? ⟨gx, 0, none⟩ = some (.int .i64 z)) (B : Nat) (w0 : World) (hb : Below B w0 w) (hB : B ≤ g)
    (h : ∀ w', Fill w' g n 1 z → Below B w0 w' → wpList Try.prog ops Q rest (a.put o.dst (.int .i64 1)) w') : wpList Try.prog ops Q (o :: rest) a w := by
  obtain ⟨cs, c1, c2, c3⟩ := hI
  refine wpList_copy_splice hgd d s 30 30 ho 3 Try.underlying30 (by kernel_rfl) _ _ n n 1 1 hd hs g 0 cs.toList 3 (cells_toList c1) (List.replicate 1 (.int .i64 z)) ?_ ?_ ?_ (ones 1 z) B w0 hb hB ?_
  · show 1 = min 1 n
    omega
  · intro _
    refine ⟨rfl, _, rfl, fun j v hj => ?_⟩
    match j, hj with
    | 0, hj =>
      cases hj
      exact hx
  · simp; omega
  · intro w' h1 h2
    exact h w' ⟨_, h1.out, by rw [length_splice _ _ _ (by simp; omega)]; simpa using c2, by have := splice_fill (L := cs.toList) (k := 0) (m := 1) (z := z) (fun i hi => absurd hi (by omega)) (by simp; omega); simpa using this⟩ h2

/-- A further one: of what stands there already. -/
theorem step_cp {ops : Array Oper} {o : Oper} {a : Act} {w : World} {K : Act → World → Prop} {Q : Exit → Act → World → Prop} {E : Prop} (hgd : o.guard = none) (d s : Operand)
    (ho : o.op = .call { callee := .builtin .copy, args := #[d, s], argTypes := #[30, 30] }) (g n k : Nat) (z : Int) (hk : k < n) (dp sp : Option Addr) (dl sl c1 c2 : Nat) (hd : a.eval d = .slice dp dl c1) (hs : a.eval s = .slice sp sl c2) (hdp : dp = some ⟨g, k, none⟩) (hdl : dl = n - k) (hsp : sp = some ⟨g, 0, none⟩) (hsl : sl = k)
    (hI : Fill w g n k z) (B : Nat) (w0 : World) (hb : Below B w0 w) (hB : B ≤ g)
    (hk1 : 1 ≤ k) (h : ∀ w' (m : Nat), 1 ≤ m → k + m ≤ n → Fill w' g n (k + m) z → Below B w0 w' → K (a.put o.dst (.int .i64 (m : Int))) w') :
    if Region.wanted o (yielded ops a.tmps) = true then Oper.wp Try.prog o a w K Q else E := by
  obtain ⟨L, c1', c2', c3⟩ := hI
  rw [hdp, hdl] at hd
  rw [hsp, hsl] at hs
  have hm1 : min k (n - k) ≤ k := Nat.min_le_left _ _
  have hm2 : min k (n - k) ≤ n - k := Nat.min_le_right _ _
  generalize hm : min k (n - k) = m at *
  refine step_copy_splice hgd d s 30 30 ho 3 Try.underlying30 (by kernel_rfl) _ _ _ c1 k c2 hd hs g k L 3 c1' (List.replicate m (.int .i64 z)) ?_ ?_ ?_ (ones m z) B w0 hb hB ?_
  · rw [List.length_replicate]
    exact hm.symm
  · intro _
    refine ⟨rfl, _, rfl, fun j v hj => ?_⟩
    have hjm : j < m := by
      have := (List.getElem?_eq_some_iff.1 hj).1
      simpa using this
    rw [List.getElem?_replicate, if_pos hjm] at hj
    rw [WideShapes.add_plain, Nat.zero_add, cell_of_heap c1' j]
    simpa [← hj] using c3 j (by omega)
  · simp; omega
  · intro w' h1 h2
    rw [List.length_replicate]
    exact h w' m (by omega) (by omega) ⟨_, h1.out, by rw [length_splice _ _ _ (by simp; omega)]; exact c2', splice_fill c3 (by omega)⟩ h2

set_option maxRecDepth 20000 in
set_option maxHeartbeats 1000000 in
theorem rep_zero (gx : Nat) (w : World) (_ : w.heap[gx]? = some (.cells #[.int .i64 (-1)] 3 (0, 0))) :
    Calls Try.prog 68 #[.slice (some ⟨gx, 0, none⟩) 1 1, .int .i64 0] w fun e w' => ∃ g, e = .returned (.slice (some ⟨g, 0, none⟩) 0 0) ∧ w.heap.size ≤ g ∧ IB w' g 0 (fun _ => -1) ∧ Below w.heap.size w w' := by
  go_enter Try.func68, Try.ntmps68
  go_wp2_with fail
  refine (mul_one 0 (by omega) _).mono ?_
  rintro e w' ⟨rfl, rfl⟩
  go_wp2_with (first | (at_make; refine wp_mkI rfl _ _ rfl 0 rfl rfl (by omega) ?_; intro w1 hI hb1) | (with_reducible refine wpList_copy_nothing rfl (.tmp 31) (.tmp 32) 30 30 rfl 3 Try.underlying30 rfl _ _ _ _ _ _ rfl rfl rfl ?_) | fail)
  go_loopw [8] (fun v wr => v = .int .i64 0 ∧ wr = w1) (fun _ _ => 0)
  case atStart => exact ⟨rfl, rfl⟩
  case round =>
    obtain ⟨rfl, rfl⟩ := hrel
    go_wp2_with fail
    go_ret
    exact ⟨_, rfl, Nat.le_refl _, hI.congr (fun i hi => absurd hi (Nat.not_lt_zero _)), hb1⟩

set_option maxRecDepth 20000 in
set_option maxHeartbeats 1000000 in
theorem rep_pos (gx n : Nat) (hn1 : 1 ≤ n) (hn : n ≤ 1000) (w : World) (hx : w.heap[gx]? = some (.cells #[.int .i64 (-1)] 3 (0, 0))) :
    Calls Try.prog 68 #[.slice (some ⟨gx, 0, none⟩) 1 1, .int .i64 (n : Int)] w fun e w' => ∃ g, e = .returned (.slice (some ⟨g, 0, none⟩) n n) ∧ w.heap.size ≤ g ∧ IB w' g n (fun _ => -1) ∧ Below w.heap.size w w' := by
  have h0 : (0 : Int) ≤ n := by omega
  have h1 : (n : Int) ≤ 1000 := by omega
  have hlt := (Array.getElem?_eq_some_iff.1 hx).1
  go_enter Try.func68, Try.ntmps68
  go_wp2_with fail
  refine (mul_one n hn _).mono ?_
  rintro e w' ⟨rfl, rfl⟩
  go_wp2_with (first | (at_make; refine wp_mkI rfl _ _ rfl n rfl rfl hn ?_; intro w1 hI hb1) | (with_reducible refine wp_cp1 rfl (.tmp 31) (.tmp 32) rfl w.heap.size gx n _ (-1) hn1 rfl rfl hI ((cell_of_heap ((hb1.block gx hlt).trans hx) 0).trans rfl) w.heap.size w hb1 (Nat.le_refl _) ?_; intro w2 hF hb2; clear hI) | fail)
  go_loopg [8] n (fun j v wr => ∃ k : Nat, j + k = n + 1 ∧ 1 ≤ k ∧ k ≤ n ∧ v = .int .i64 k ∧ Fill wr w.heap.size n k (-1) ∧ Below w.heap.size w wr)
  case atStart => exact ⟨1, rfl, Nat.le_refl _, hn1, rfl, hF, hb2⟩
  case round =>
    obtain ⟨k, hj, hk1, hk, rfl, hF, hb⟩ := hrel
    have HJ := Lib.hid hj
    clear hj
    by_cases hlt : k < n
    · have hk0 : (0 : Int) ≤ k := by omega
      have hk2 : (k : Int) < n := by omega
      go_wp2_with fail
      have hkn : ¬ n = k := by omega
      go_region_law (refine step_cp rfl (.tmp 41) (.tmp 44) rfl w.heap.size n k (-1) hlt (some ⟨w.heap.size, k, none⟩) (some ⟨w.heap.size, 0, none⟩) (n - k) k (n - k) n (by kernel_rfl) (by kernel_rfl) rfl rfl rfl rfl hF.drew w.heap.size w hb.drew (Nat.le_refl _) hk1 ?_; intro w3 m hm1 hm2 hF3 hb3; have hws : IntKind.i64.wrap ((k : Int) + (m : Int)) = (k : Int) + (m : Int) := IntWalk.i64_in _ (by omega))
      clear hws
      go_wp2_with fail
      have hj := HJ.out
      go_roundg (n + 1 - (k + m))
      case rel => exact ⟨k + m, by omega, by omega, by omega, by go_num, hF3, hb3⟩
      case measure => omega
    · obtain rfl : k = n := by omega
      go_wp2_with fail
      go_ret
      exact ⟨_, rfl, Nat.le_refl _, hF.ib, hb⟩

theorem rep_any (gx n : Nat) (hn : n ≤ 1000) (w : World) (hx : w.heap[gx]? = some (.cells #[.int .i64 (-1)] 3 (0, 0))) :
    Calls Try.prog 68 #[.slice (some ⟨gx, 0, none⟩) 1 1, .int .i64 (n : Int)] w fun e w' => ∃ g, e = .returned (.slice (some ⟨g, 0, none⟩) n n) ∧ w.heap.size ≤ g ∧ IB w' g n (fun _ => -1) ∧ Below w.heap.size w w' := by
  rcases Nat.eq_zero_or_pos n with rfl | h
  · exact rep_zero gx w hx
  · exact rep_pos gx n h hn w hx
end Go.Proofs.Ytmbjmibjobpdgaa
namespace Go.Proofs.Ytmbjmibjobpdgaa
open Go.RowKit

theorem ofN_len (L : List Nat) : (ofNs L).length = L.length := by simp [ofNs]
theorem liftF_snoc (p : Nat) (o : Nat → Int) (L : List Nat) {k : Nat} (hk : k < L.length) : liftF p o (L.take (k + 1)) = lift1 p (liftF p o (L.take k)) L[k] := by
  unfold liftF
  rw [List.take_add_one, List.getElem?_eq_getElem hk, Option.toList, List.foldl_append]
  rfl
theorem Bow.set {B g : Nat} {w w' : World} (h : Bow B g w w') (i : Nat) (v : Value) : Bow B g w (w'.setCell ⟨g, i, none⟩ v) :=
  ⟨h.os, h.tape, h.output, by simpa using h.size, fun k hk hne => (Below.heap_setCell _ _ _ _ (by intro e; exact hne (by rw [e]))).trans (h.block k hk hne)⟩
theorem Bow.cell {B g : Nat} {w w' : World} (h : Bow B g w w') {k o : Nat} (hk : k < B) (hne : k ≠ g) : w'.cell? ⟨k, o, none⟩ = w.cell? ⟨k, o, none⟩ := by
  simp only [World.cell?, h.block k hk hne]
theorem Bow.trans {B g : Nat} {w w' w'' : World} (h : Bow B g w w') (h' : Bow B g w' w'') : Bow B g w w'' :=
  ⟨h'.os.trans h.os, h'.tape.trans h.tape, h'.output.trans h.output, Nat.le_trans h.size h'.size, fun k hk hne => (h'.block k hk hne).trans (h.block k hk hne)⟩
set_option maxRecDepth 20000 in
set_option maxHeartbeats 2000000 in
theorem lift_any {w : World} {g m c p lim cc : Nat} {A : Option Addr} {o : Nat → Int} {S : Nat → List Nat} {L : List Nat} (hS : Srcs S m) (hg : OAt w g m o) (h : Ov S m o) (hmid : Mid m p o) (hp : p < m) (hL : ∀ s ∈ L, s ∈ S p) (hl : LieI w lim A (ofNs L)) (hlim : lim ≤ g) (hlen : L.length ≤ 10000) :
    Calls Try.prog 69 #[.slice (some ⟨g, 0, none⟩) m c, .int .i64 p, .slice A L.length cc] w fun e w' => e = .returned (.tuple #[]) ∧ OAt w' g m (liftF p o L) ∧ Bow w.heap.size g w w' := by
  have HS := Lib.hid hS
  have HL := Lib.hid hL
  have HLI := Lib.hid hl
  have hgl := hg.lt
  have H0 : Hid (OAt w g m (liftF p o (L.take 0)) ∧ Ov S m (liftF p o (L.take 0)) ∧ Mid m p (liftF p o (L.take 0)) ∧ Bow w.heap.size g w w) := Lib.hid ⟨hg, h, hmid, Bow.refl _ _ _⟩
  clear hS hL hl hg h hmid
  obtain ⟨nL, hnL⟩ : ∃ nL, nL = L.length := ⟨_, rfl⟩
  have HN := Lib.hid hnL
  rw [← hnL] at hlen ⊢
  clear hnL
  go_enter Try.func69, Try.ntmps69
  go_wp2_with fail
  go_loopw [10] (fun kv wr => ∃ k : Nat, k ≤ nL ∧ kv = .int .i64 k ∧ Hid (OAt wr g m (liftF p o (L.take k)) ∧ Ov S m (liftF p o (L.take k)) ∧ Mid m p (liftF p o (L.take k)) ∧ Bow w.heap.size g w wr)) (fun kv _ => nL - (intOf kv).toNat)
  case atStart => exact ⟨0, Nat.zero_le _, rfl, H0⟩
  case round =>
    obtain ⟨k, hk, rfl, hr⟩ := hrel
    by_cases hlt : k < nL
    · have hkL : k < L.length := by have := HN.out; omega
      obtain ⟨rg, ro, rfl, hrg, hx⟩ := HLI.out (by rw [ofN_len]; omega)
      obtain ⟨hO, hov, hmid, hbw⟩ := hr.out
      have hs : L[k] ∈ S p := HL.out _ (List.getElem_mem hkL)
      have hsm := (HS.out.lt p _ hs).2
      obtain ⟨a1, a2, a3, a4⟩ := lift1_ov HS.out hov hmid hs
      have hstep := liftF_snoc p o L hkL
      have x0 : wr.cell? ⟨rg, ro + k, none⟩ = some (.int .i64 (L[k] : Nat)) := by
        rw [hbw.cell (by omega) (by omega), hx k (by rw [ofN_len]; exact hkL)]
        simp [ofNs]
      have cs := hO.cell hsm
      have cp := hO.cell hp
      have fr : ∀ i, wr.frozen? ⟨g, i, none⟩ = false := fun i => hO.free i
      obtain ⟨s, hsd⟩ : ∃ s, s = L[k] := ⟨_, rfl⟩
      rw [← hsd] at hs hsm a1 a2 a3 a4 hstep x0 cs
      obtain ⟨o', ho'⟩ : ∃ o', o' = liftF p o (L.take k) := ⟨_, rfl⟩
      rw [← ho'] at hO hov hmid a1 a2 a3 a4 hstep cs cp
      have HO := Lib.hid hO
      have HOV := Lib.hid hov
      have HB := Lib.hid hbw
      have HA : Hid (Ov S m (lift1 p o' s) ∧ Mid m p (lift1 p o' s)) := Lib.hid ⟨a1, a3⟩
      have HST := Lib.hid hstep
      clear hO hov hmid hbw hr hx hs a1 a2 a3 a4 hstep H0 HL HLI hsd ho' hkL
      by_cases ks : o' s = -1
      · have e1 : lift1 p o' s = o' := by unfold lift1; rw [if_pos ks]
        rw [ks] at cs
        rw [e1] at HA HST
        clear ks e1
        go_wp2_with fail
        go_roundw
        case rel => exact ⟨k + 1, by omega, by go_num, Lib.hid ⟨by rw [HST.out]; exact HO.out, by rw [HST.out]; exact HA.out.1, by rw [HST.out]; exact HA.out.2, HB.out⟩⟩
        case measure => simp [intOf]; omega
      · by_cases kp : o' p = -1
        · have e1 : lift1 p o' s = fup o' p (s : Int) := by unfold lift1; rw [if_neg ks, if_pos kp]
          have t0 : (o' s == (-1 : Int)) = false := by simpa using ks
          rw [kp] at cp
          have HO2 := Lib.hid (HO.out.set p (s : Int))
          have HB2 := Lib.hid (HB.out.set p (.int .i64 (s : Int)))
          rw [e1] at HA HST
          generalize o' s = os at *
          clear ks kp e1 HO HB HOV
          go_wp2_with fail
          go_roundw
          case rel => exact ⟨k + 1, by omega, by go_num, Lib.hid ⟨by rw [HST.out]; exact HO2.out, by rw [HST.out]; exact HA.out.1, by rw [HST.out]; exact HA.out.2, HB2.out⟩⟩
          case measure => simp [intOf]; omega
        · have e1 : lift1 p o' s = fup o' p (mtv o' (o' p).toNat s : Int) := by unfold lift1; rw [if_neg ks, if_neg kp]
          have t0 : (o' s == (-1 : Int)) = false := by simpa using ks
          have t1 : (o' p == (-1 : Int)) = false := by simpa using kp
          obtain ⟨y1, y2, y3, y4⟩ := HOV.out.known hp kp
          have M := meet_any (c := c) HO.out HOV.out (a := (o' p).toNat) (b := s) (by omega) hsm y4 ks
          have e2 : (((o' p).toNat : Nat) : Int) = o' p := by omega
          rw [e2] at M
          rw [e1] at HA HST
          generalize hr : mtv o' (o' p).toNat s = r at *
          have HO2 := Lib.hid (HO.out.set p (r : Int))
          have HB2 := Lib.hid (HB.out.set p (.int .i64 (r : Int)))
          have HM := Lib.hid M
          generalize o' s = os at *
          generalize o' p = op at *
          clear ks kp e1 e2 HO HB HOV y1 y2 y3 y4 hr M
          go_wp2_with (go_at_call 70; refine HM.out.mono ?_; rintro e w5 ⟨rfl, rfl⟩)
          go_roundw
          case rel => exact ⟨k + 1, by omega, by go_num, Lib.hid ⟨by rw [HST.out]; exact HO2.out, by rw [HST.out]; exact HA.out.1, by rw [HST.out]; exact HA.out.2, HB2.out⟩⟩
          case measure => simp [intOf]; omega
    · obtain rfl : nL = k := by omega
      have hfin : OAt wr g m (liftF p o L) ∧ Bow w.heap.size g w wr := by
        have := hr.out
        rw [List.take_of_length_le (by have := HN.out; omega)] at this
        exact ⟨this.1, this.2.2.2⟩
      have HF := Lib.hid hfin
      clear hfin hr H0
      go_wp2_with fail
      go_end0
      exact ⟨rfl, HF.out.1, HF.out.2⟩
end Go.Proofs.Ytmbjmibjobpdgaa
namespace Go.Proofs.Ytmbjmibjobpdgaa

/-- For each place the places that edges to its node come from. -/
def srcN (G : GT) (ord : List Nat) (p : Nat) : List Nat := match ord[p]? with
  | some x => ((inN G x).filter fun y => decide (y ∈ ord)).map fun y => pos ord y
  | none => []
theorem mem_srcN {G : GT} {ord : List Nat} {p s : Nat} : s ∈ srcN G ord p ↔ ∃ x y, ord[p]? = some x ∧ Stp G y x ∧ y ∈ ord ∧ pos ord y = s := by
  unfold srcN
  cases h : ord[p]? with
  | none => simp
  | some x =>
    simp only [List.mem_map, List.mem_filter, decide_eq_true_eq]
    constructor
    · rintro ⟨y, ⟨h1, h2⟩, h3⟩; exact ⟨x, y, rfl, mem_inN.1 h1, h2, h3⟩
    · rintro ⟨x', y, e, h1, h2, h3⟩
      injection e with e
      subst e
      exact ⟨y, ⟨mem_inN.2 h1, h2⟩, h3⟩
theorem rch_come {G : GT} {r t : Nat} : Rch (outN G) (fun _ => False) r t ↔ Come G r t := by
  constructor
  · intro h
    induction h with
    | refl => exact .inl rfl
    | snoc _ e _ ih =>
      have s := mem_outN.1 e
      rcases ih with rfl | ih
      · exact .inr (.one s)
      · exact .inr (.snoc ih s)
  · rintro (rfl | h)
    · exact .refl _
    · induction h with
      | one s => exact .snoc (.refl _) (mem_outN.2 s) (fun h => h)
      | snoc _ s ih => exact .snoc ih (mem_outN.2 s) (fun h => h)
/-- The order in which the nodes that are come to from a root stand. -/
structure Rpo (G : GT) (r : Nat) (ord : List Nat) : Prop where
  nodup : ord.Nodup
  first : ord[0]? = some r
  mem : ∀ t, t ∈ ord ↔ Come G r t
  pre : ∀ p, 0 < p → ∀ x, ord[p]? = some x → ∃ y, Stp G y x ∧ y ∈ ord ∧ pos ord y < p
theorem nodup_rev {l : List Nat} (h : l.Nodup) : l.reverse.Nodup := (List.reverse_perm l).nodup_iff.2 h
theorem pos_rev {l : List Nat} (hn : l.Nodup) {x : Nat} (hx : x ∈ l) : pos l.reverse x = l.length - 1 - pos l x := by
  have h := pos_lt hx
  refine pos_of (nodup_rev hn) ?_
  rw [List.getElem?_reverse (by omega), show l.length - 1 - (l.length - 1 - pos l x) = pos l x by omega]
  exact pos_at hx
theorem rpo_of {G : GT} {r : Nat} {d : Ds} (h : Inv (outN G) (fun _ => False) (fun x => x = r) d) (hs : d.stk = []) (hr : r ∈ d.lft) : Rpo G r d.lft.reverse := by
  have hn : d.lft.Nodup := (List.nodup_append.1 h.nodup).1
  have htop : pos d.lft r = d.lft.length - 1 := by
    have hne : 0 < d.lft.length := List.length_pos_of_mem hr
    have hl : d.lft[d.lft.length - 1]? = some (d.lft[d.lft.length - 1]'(by omega)) := List.getElem?_eq_getElem (by omega)
    have := (h.top hs (List.mem_of_getElem? hl)).2
    rw [pos_of hn hl] at this
    have := pos_lt hr
    omega
  refine ⟨nodup_rev hn, ?_, fun t => ?_, fun p h0 x hx => ?_⟩
  · have hne : 0 < d.lft.length := List.length_pos_of_mem hr
    rw [List.getElem?_reverse hne]
    have := pos_at hr
    rw [htop] at this
    simpa using this
  · rw [List.mem_reverse, h.one hs hr, rch_come]
  · have hxl : x ∈ d.lft := List.mem_reverse.1 (List.mem_of_getElem? hx)
    have hp := pos_of (nodup_rev hn) hx
    rw [pos_rev hn hxl] at hp
    rcases h.over x hxl with e | ⟨y, hy, a⟩
    · subst e
      rw [htop] at hp
      omega
    · rcases a with a | ⟨a, b⟩
      · rw [hs] at a; cases a
      · refine ⟨y, mem_outN.1 hy, List.mem_reverse.2 a, ?_⟩
        rw [pos_rev hn a]
        have := pos_lt hxl
        have := pos_lt a
        omega
section
variable {G : GT} {r : Nat} {ord : List Nat}
theorem Rpo.srcs (h : Rpo G r ord) : Srcs (srcN G ord) ord.length := by
  have h0 := (List.getElem?_eq_some_iff.1 h.first).1
  refine ⟨h0, fun p s hs => ?_, fun p hp hp0 => ?_⟩
  · obtain ⟨x, y, hx, _, hy, rfl⟩ := mem_srcN.1 hs
    exact ⟨(List.getElem?_eq_some_iff.1 hx).1, pos_lt hy⟩
  · obtain ⟨y, hs, hy, hlt⟩ := h.pre p hp0 _ (List.getElem?_eq_getElem hp)
    exact ⟨_, mem_srcN.2 ⟨_, y, List.getElem?_eq_getElem hp, hs, hy, rfl⟩, hlt⟩
theorem Rpo.posr (h : Rpo G r ord) : pos ord r = 0 := pos_of h.nodup h.first
theorem Rpo.avoid (h : Rpo G r ord) {q d : Nat} (hq : ord[q]? = some d) {p t : Nat} (hp : ord[p]? = some t) : Av (srcN G ord) q p ↔ (d ≠ r ∧ t ≠ d ∧ Come (withoutG G (d : Int)) r t) := by
  have hqp := pos_of h.nodup hq
  constructor
  · intro ha
    have key : ∀ p, Av (srcN G ord) q p → ∀ t, ord[p]? = some t → d ≠ r ∧ t ≠ d ∧ Come (withoutG G (d : Int)) r t := by
      intro p ha
      induction ha with
      | root hne =>
        intro t ht
        rw [h.first] at ht
        injection ht with ht
        subst ht
        have : r ≠ d := fun e => by
          subst e
          rw [h.posr] at hqp
          exact hne hqp
        exact ⟨Ne.symm this, this, .inl rfl⟩
      | @step s p _ e hne ih =>
        intro t ht
        obtain ⟨x, y, hx, hst, hy, rfl⟩ := mem_srcN.1 e
        rw [ht] at hx
        injection hx with hx
        subst hx
        obtain ⟨h1, h2, h3⟩ := ih y (pos_at hy)
        have htd : t ≠ d := fun e => by
          subst e
          have := pos_of h.nodup ht
          omega
        refine ⟨h1, htd, .inr ?_⟩
        have hst' : Stp (withoutG G (d : Int)) y t := stp_without.2 ⟨hst, by omega⟩
        rcases h3 with rfl | h3
        · exact .one hst'
        · exact .snoc h3 hst'
    exact key p ha t hp
  · rintro ⟨hdr, htd, hc⟩
    have h0 : 0 ≠ q := fun e => by
      subst e
      rw [h.first] at hq
      injection hq with hq
      exact hdr hq.symm
    have hroot : Av (srcN G ord) q 0 := .root h0
    have key : ∀ t, Path (withoutG G (d : Int)) r t → t ∈ ord ∧ (t ≠ d → Av (srcN G ord) q (pos ord t)) := by
      intro t hpath
      have hstep : ∀ u v, u ∈ ord → (u ≠ d → Av (srcN G ord) q (pos ord u)) → u ≠ d → Stp (withoutG G (d : Int)) u v → v ∈ ord ∧ (v ≠ d → Av (srcN G ord) q (pos ord v)) := fun u v hu ha hud hs => by
        obtain ⟨hs, hne⟩ := stp_without.1 hs
        have hv : v ∈ ord := by
          rw [h.mem] at hu ⊢
          rcases hu with rfl | hu
          · exact .inr (.one hs)
          · exact .inr (.snoc hu hs)
        refine ⟨hv, fun hvd => .step (ha hud) (mem_srcN.2 ⟨v, u, pos_at hv, hs, hu, rfl⟩) fun e => ?_⟩
        have h1 := pos_at hv
        rw [e, hq] at h1
        injection h1 with h1
        exact hvd h1.symm
      have hrm : r ∈ ord := (h.mem r).2 (.inl rfl)
      induction hpath with
      | one s => exact hstep _ _ hrm (fun _ => by rw [h.posr]; exact hroot) (Ne.symm hdr) s
      | @snoc u v hp s ih =>
        have hud : u ≠ d := fun e => by
          subst e
          cases hp with
          | one s' => exact (stp_without.1 s').2 rfl
          | snoc _ s' => exact (stp_without.1 s').2 rfl
        exact hstep u v ih.1 ih.2 hud s
    have hpt := pos_of h.nodup hp
    rcases hc with rfl | hc
    · rw [h.posr] at hpt
      rw [← hpt]; exact hroot
    · have := (key t hc).2 htd
      rw [hpt] at this; exact this
theorem Rpo.dom (h : Rpo G r ord) {q d : Nat} (hq : ord[q]? = some d) {p t : Nat} (hp : ord[p]? = some t) : PD (srcN G ord) q p ↔ Dom G r d t := by
  unfold PD
  rw [h.avoid hq hp]
  have hd : Come G r d := (h.mem d).1 (List.mem_of_getElem? hq)
  have ht : Come G r t := (h.mem t).1 (List.mem_of_getElem? hp)
  unfold Dom
  constructor
  · intro hn
    refine ⟨hd, ht, ?_⟩
    by_cases a : d = r
    · exact .inl a
    · by_cases b : t = d
      · exact .inr (.inl b)
      · exact .inr (.inr fun c => hn ⟨a, b, c⟩)
  · rintro ⟨_, _, h3⟩ ⟨a, b, c⟩
    rcases h3 with h3 | h3 | h3
    · exact a h3
    · exact b h3
    · exact h3 c
end
end Go.Proofs.Ytmbjmibjobpdgaa
