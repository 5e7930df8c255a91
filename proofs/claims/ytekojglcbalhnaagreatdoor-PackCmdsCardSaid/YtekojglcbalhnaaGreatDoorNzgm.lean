/-
  The walk of PackCmds.
-/
import Derived.Test.YtekojglcbalhnaaGreatDoorM39
import Derived.Test.YtekojglcbalhnaaGreatDoorM32
import Derived.Test.YtekojglcbalhnaaGreatDoorM35
import Derived.Test.YtekojglcbalhnaaGreatDoorM40
import Derived.Test.YtekojglcbalhnaaGreatDoorM36
import Derived.Test.YtekojglcbalhnaaGreatDoorM23
namespace Go.Proofs.YtekojglcbalhnaaGreatDoor.packCmds
open Go.RowKit

def isRowD (d : TypeDesc) : Bool := match d with | .struct _ | .array _ _ => true | _ => false
/-- A whole load of a block, guarded or not. -/
theorem ldr {ops : Array Oper} {rest : List Oper} {o : Oper} {a : Act} {w : World} {Q : Exit → Act → World → Prop} (hw : Region.wanted o (yielded ops a.tmps) = true) (ty : TypeId) (x : Operand) (ho : o.op = .load ty x)
    (g : Nat) (hx : a.eval x = .pointer (some ⟨g, 0, none⟩)) (t : TypeId) (cs : Array Value) (fr : Nat × Nat) (d : TypeDesc) (hg : w.heap[g]? = some (.cells cs t fr))
    (hu : Tryz.prog.underlying ty = some d) (hd : isRowD d = true) (hi : (Tryz.prog.info? ty).map (·.size) = some cs.size)
    (h : wpList Tryz.prog ops Q rest (a.put o.dst (.agg cs)) w) : wpList Tryz.prog ops Q (o :: rest) a w :=
  BigFrame.wpList_want hw fun _ hK => wp_load_row ty x ho g hx t cs fr d hg hu (by revert hd; cases d <;> exact fun h => h) hi (hK _ _ h)
def Yes (w : World) (e : Ending) (w' : World) : Prop := e = .returned (.bool true) ∧ Below w.heap.size w w'
/-- The command's box, in whatever world comes. -/
theorem box17 {w : World} {C : Array Value} : Hid (∀ W, Below (w.alloc (.cells C 30)).heap.size (w.alloc (.cells C 30)) W → W.heap[w.heap.size]? = some (.cells C 30 (0, 0))) := Lib.hid fun W hb =>
  (hb.block _ (by simp)).trans (heap_alloc_new w _)
theorem at_box {w : World} {C : Array Value} {c : Cm} (hv : CmdAt w w.heap.size C c) : Hid (∀ W, Below (w.alloc (.cells C 30)).heap.size (w.alloc (.cells C 30)) W → CmdAt W W.heap.size C c) := Lib.hid fun W hb => by
  have h0 : Below w.heap.size w (w.alloc (.cells C 30)) := (Below.refl _ _).alloc (Nat.le_refl _) _
  exact ((hv.stay h0).mono h0.size |>.stay hb).mono hb.size
theorem rd_f {s : ByteArray} {a : Int} (hs : s.size ≤ 1000000000) {z : Cm} {nx er : Int} (h : rdv s a = (z, nx, er)) (W : World) : Calls Tryz.prog 8 #[.string s, .int .i64 a] W fun e w' => Below W.heap.size W w' ∧ ∃ v, e = .returned (.tuple #[.agg v, .int .i64 nx, .int .i64 er]) ∧ CmdAt w' w'.heap.size v z :=
  (ReadCmd_f (s := s) (a := a) (w := W) hs).mono fun e w' hx => by
    have hr := rd_row hx
    rw [h] at hr
    exact hr
theorem rd_r {s : ByteArray} {a : Int} (hs : s.size ≤ 1000000000) {z : Cm} {nx er : Int} (h : rdv s a = (z, nx, er)) (W : World) : Calls Tryz.prog 10 #[.string s, .int .i64 a] W fun e w' => Below W.heap.size W w' ∧ ∃ v, e = .returned (.tuple #[.agg v, .int .i64 nx, .int .i64 er]) ∧ CmdAt w' w'.heap.size v z :=
  (ReadCmd_r (s := s) (a := a) (w := W) hs).mono fun e w' hx => by
    have hr := rd_row hx
    rw [h] at hr
    exact hr
theorem same_self {c : Cm} {v v' : Array Value} {w : World} (hv : CmdAt w w.heap.size v c) (hv' : CmdAt w w.heap.size v' c) : Calls Tryz.prog 9 #[.agg v, .agg v'] w (Yes w) :=
  SameCmd_yes hv hv' rfl rfl rfl rfl rfl (val_self _) (val_self _)
set_option maxRecDepth 100000 in
set_option maxHeartbeats 4000000 in
theorem walk_big1 {c : Cm} {v : Array Value} {w : World} {ah s : ByteArray} {at_ : Int} (hv : CmdAt w w.heap.size v c) (hsm : smallC c = false) :
    Calls Tryz.prog 3 #[.agg v, .string ah, .string s, .int .i64 at_] w (Yes w) := by
  have HV := at_box hv
  have HX := box17 (w := w) (C := v)
  have HS := Lib.hid fun W h => SmallC_any (w := W) (HV.out W h)
  have HAW := Lib.hid awake_any
  have SF := float_store
  obtain ⟨W0, hW0⟩ : ∃ W0, W0 = w.alloc (.cells v 30) := ⟨_, rfl⟩
  have HB0 : Hid (Below w.heap.size w W0) := Lib.hid (by rw [hW0]; exact (Below.refl _ _).alloc (Nat.le_refl _) _)
  rw [← hW0] at HV HX HS
  rw [hsm] at HS
  obtain ⟨k, n, ll, i, d, p0, p1, p2, p3, p4, p5, p6, p7, p8, p9, q0, q1, q2, q3, q4, q5, q6, q7, q8, q9, rfl⟩ := hv.named
  have HW0 := Lib.hid hW0
  clear hW0 hv hsm
  go_enter Tryz.func3, Tryz.ntmps3
  go_wp2_with (first
    | (go_at_call 4; refine (HAW.out _).mono ?_; rintro e w1 ⟨rfl, hb⟩; have HC := Lib.hid (show Below W0.heap.size W0 w1 by rw [HW0.out]; exact hb); clear hb; have XC := Lib.hid (HX.out _ HC.out); clear HW0)
    | (go_at_call 4; refine (HAW.out _).mono ?_; rintro e w11 ⟨rfl, hb⟩; replace HC := Lib.hid (HC.out.trans (hb.mono HC.out.size)); clear hb; replace XC := Lib.hid (HX.out _ HC.out))
    | (refine ldr rfl 30 _ rfl w.heap.size rfl 30 #[.int .i64 k, .int .i64 n, .int .i64 ll, .int .i64 i, .int .i64 d, .int .i64 p0, .int .i64 p1, .float .f64 p2, .string p3, .slice p4 p5 p6, .slice p7 p8 p9, .int .i64 q0, .int .i64 q1, .float .f64 q2, .string q3, .slice q4 q5 q6, .slice q7 q8 q9] (0, 0) _ XC.out Tryz.underlying30 rfl (by kernel_rfl) ?_)
    | (go_at_call 5; refine (HS.out _ HC.out).mono ?_; rintro e w2 ⟨rfl, hb⟩; replace HC := Lib.hid (HC.out.trans (hb.mono HC.out.size)); clear hb; replace XC := Lib.hid (HX.out _ HC.out)))
  go_ret
  exact ⟨rfl, HB0.out.trans (HC.out.mono HB0.out.size)⟩
set_option maxRecDepth 100000 in
set_option maxHeartbeats 4000000 in
theorem walk_big2 {c : Cm} {v : Array Value} {w : World} {ah s : ByteArray} {at_ : Int} (hv : CmdAt w w.heap.size v c) (hsm : smallC c = true) (ha : 100 < ah.size) :
    Calls Tryz.prog 3 #[.agg v, .string ah, .string s, .int .i64 at_] w (Yes w) := by
  have tA : decide ((100 : Int) < (ah.size : Int)) = true := by simp; omega
  have HV := at_box hv
  have HX := box17 (w := w) (C := v)
  have HS := Lib.hid fun W h => SmallC_any (w := W) (HV.out W h)
  have HAW := Lib.hid awake_any
  have SF := float_store
  obtain ⟨W0, hW0⟩ : ∃ W0, W0 = w.alloc (.cells v 30) := ⟨_, rfl⟩
  have HB0 : Hid (Below w.heap.size w W0) := Lib.hid (by rw [hW0]; exact (Below.refl _ _).alloc (Nat.le_refl _) _)
  rw [← hW0] at HV HX HS
  rw [hsm] at HS
  obtain ⟨k, n, ll, i, d, p0, p1, p2, p3, p4, p5, p6, p7, p8, p9, q0, q1, q2, q3, q4, q5, q6, q7, q8, q9, rfl⟩ := hv.named
  have HW0 := Lib.hid hW0
  clear hW0 hv hsm
  go_enter Tryz.func3, Tryz.ntmps3
  go_wp2_with (first
    | (go_at_call 4; refine (HAW.out _).mono ?_; rintro e w1 ⟨rfl, hb⟩; have HC := Lib.hid (show Below W0.heap.size W0 w1 by rw [HW0.out]; exact hb); clear hb; have XC := Lib.hid (HX.out _ HC.out); clear HW0)
    | (go_at_call 4; refine (HAW.out _).mono ?_; rintro e w11 ⟨rfl, hb⟩; replace HC := Lib.hid (HC.out.trans (hb.mono HC.out.size)); clear hb; replace XC := Lib.hid (HX.out _ HC.out))
    | (refine ldr rfl 30 _ rfl w.heap.size rfl 30 #[.int .i64 k, .int .i64 n, .int .i64 ll, .int .i64 i, .int .i64 d, .int .i64 p0, .int .i64 p1, .float .f64 p2, .string p3, .slice p4 p5 p6, .slice p7 p8 p9, .int .i64 q0, .int .i64 q1, .float .f64 q2, .string q3, .slice q4 q5 q6, .slice q7 q8 q9] (0, 0) _ XC.out Tryz.underlying30 rfl (by kernel_rfl) ?_)
    | (go_at_call 5; refine (HS.out _ HC.out).mono ?_; rintro e w2 ⟨rfl, hb⟩; replace HC := Lib.hid (HC.out.trans (hb.mono HC.out.size)); clear hb; replace XC := Lib.hid (HX.out _ HC.out)))
  go_ret
  exact ⟨rfl, HB0.out.trans (HC.out.mono HB0.out.size)⟩
set_option maxRecDepth 100000 in
set_option maxHeartbeats 4000000 in
theorem walk_big3 {c : Cm} {v : Array Value} {w : World} {ah s : ByteArray} {at_ : Int} (hv : CmdAt w w.heap.size v c) (hsm : smallC c = true) (ha : ah.size ≤ 100) (hs : 1000 < s.size) :
    Calls Tryz.prog 3 #[.agg v, .string ah, .string s, .int .i64 at_] w (Yes w) := by
  have tA : decide ((100 : Int) < (ah.size : Int)) = false := by simp; omega
  have tB : decide ((1000 : Int) < (s.size : Int)) = true := by simp; omega
  have HV := at_box hv
  have HX := box17 (w := w) (C := v)
  have HS := Lib.hid fun W h => SmallC_any (w := W) (HV.out W h)
  have HAW := Lib.hid awake_any
  have SF := float_store
  obtain ⟨W0, hW0⟩ : ∃ W0, W0 = w.alloc (.cells v 30) := ⟨_, rfl⟩
  have HB0 : Hid (Below w.heap.size w W0) := Lib.hid (by rw [hW0]; exact (Below.refl _ _).alloc (Nat.le_refl _) _)
  rw [← hW0] at HV HX HS
  rw [hsm] at HS
  obtain ⟨k, n, ll, i, d, p0, p1, p2, p3, p4, p5, p6, p7, p8, p9, q0, q1, q2, q3, q4, q5, q6, q7, q8, q9, rfl⟩ := hv.named
  have HW0 := Lib.hid hW0
  clear hW0 hv hsm
  go_enter Tryz.func3, Tryz.ntmps3
  go_wp2_with (first
    | (go_at_call 4; refine (HAW.out _).mono ?_; rintro e w1 ⟨rfl, hb⟩; have HC := Lib.hid (show Below W0.heap.size W0 w1 by rw [HW0.out]; exact hb); clear hb; have XC := Lib.hid (HX.out _ HC.out); clear HW0)
    | (go_at_call 4; refine (HAW.out _).mono ?_; rintro e w11 ⟨rfl, hb⟩; replace HC := Lib.hid (HC.out.trans (hb.mono HC.out.size)); clear hb; replace XC := Lib.hid (HX.out _ HC.out))
    | (refine ldr rfl 30 _ rfl w.heap.size rfl 30 #[.int .i64 k, .int .i64 n, .int .i64 ll, .int .i64 i, .int .i64 d, .int .i64 p0, .int .i64 p1, .float .f64 p2, .string p3, .slice p4 p5 p6, .slice p7 p8 p9, .int .i64 q0, .int .i64 q1, .float .f64 q2, .string q3, .slice q4 q5 q6, .slice q7 q8 q9] (0, 0) _ XC.out Tryz.underlying30 rfl (by kernel_rfl) ?_)
    | (go_at_call 5; refine (HS.out _ HC.out).mono ?_; rintro e w2 ⟨rfl, hb⟩; replace HC := Lib.hid (HC.out.trans (hb.mono HC.out.size)); clear hb; replace XC := Lib.hid (HX.out _ HC.out)))
  go_ret
  exact ⟨rfl, HB0.out.trans (HC.out.mono HB0.out.size)⟩
set_option maxRecDepth 100000 in
set_option maxHeartbeats 4000000 in
theorem walk_no {c : Cm} {v : Array Value} {w : World} {ah s : ByteArray} {at_ : Int} (hv : CmdAt w w.heap.size v c) (hsm : smallC c = true) (ha : ah.size ≤ 100) (hs : s.size ≤ 1000) (ho : cmdB c = false) :
    Calls Tryz.prog 3 #[.agg v, .string ah, .string s, .int .i64 at_] w (Yes w) := by
  have tA : decide ((100 : Int) < (ah.size : Int)) = false := by simp; omega
  have tB : decide ((1000 : Int) < (s.size : Int)) = false := by simp; omega
  have HV := at_box hv
  have HX := box17 (w := w) (C := v)
  have HS := Lib.hid fun W h => SmallC_any (w := W) (HV.out W h)
  have HAW := Lib.hid awake_any
  have SF := float_store
  obtain ⟨W0, hW0⟩ : ∃ W0, W0 = w.alloc (.cells v 30) := ⟨_, rfl⟩
  have HB0 : Hid (Below w.heap.size w W0) := Lib.hid (by rw [hW0]; exact (Below.refl _ _).alloc (Nat.le_refl _) _)
  rw [← hW0] at HV HX HS
  rw [hsm] at HS
  have H1 := Lib.hid fun W h => Cmd_f (w := W) (HV.out W h)
  have H2 := Lib.hid fun W h => Cmd_r (w := W) (HV.out W h)
  rw [if_neg (by rw [ho]; exact Bool.false_ne_true)] at H1 H2
  obtain ⟨z, nx, er, hz⟩ : ∃ z nx er, rdv s at_ = (z, nx, er) := ⟨_, _, _, rfl⟩
  have her := rdv_err s at_
  rw [hz] at her
  dsimp only at her
  have HRf := Lib.hid (rd_f (s := s) (a := at_) (by omega) hz)
  have HRr := Lib.hid (rd_r (s := s) (a := at_) (by omega) hz)
  have hwr : IntKind.i64.wrap er = er := by rcases her with rfl | rfl | rfl <;> rfl
  obtain ⟨k, n, ll, i, d, p0, p1, p2, p3, p4, p5, p6, p7, p8, p9, q0, q1, q2, q3, q4, q5, q6, q7, q8, q9, rfl⟩ := hv.named
  have HW0 := Lib.hid hW0
  clear hW0 hv hsm ho her hz
  go_enter Tryz.func3, Tryz.ntmps3
  go_wp2_with (first
    | (go_at_call 4; refine (HAW.out _).mono ?_; rintro e w1 ⟨rfl, hb⟩; have HC := Lib.hid (show Below W0.heap.size W0 w1 by rw [HW0.out]; exact hb); clear hb; have XC := Lib.hid (HX.out _ HC.out); clear HW0)
    | (refine ldr rfl 30 _ rfl w.heap.size rfl 30 #[.int .i64 k, .int .i64 n, .int .i64 ll, .int .i64 i, .int .i64 d, .int .i64 p0, .int .i64 p1, .float .f64 p2, .string p3, .slice p4 p5 p6, .slice p7 p8 p9, .int .i64 q0, .int .i64 q1, .float .f64 q2, .string q3, .slice q4 q5 q6, .slice q7 q8 q9] (0, 0) _ XC.out Tryz.underlying30 rfl (by kernel_rfl) ?_)
    | (go_at_call 5; refine (HS.out _ HC.out).mono ?_; rintro e w2 ⟨rfl, hb⟩; replace HC := Lib.hid (HC.out.trans (hb.mono HC.out.size)); clear hb; replace XC := Lib.hid (HX.out _ HC.out))
    | (go_at_call 6; refine (H1.out _ HC.out).mono ?_; rintro e w3 ⟨rfl, hb⟩; replace HC := Lib.hid (HC.out.trans (hb.mono HC.out.size)); clear hb; replace XC := Lib.hid (HX.out _ HC.out))
    | (go_at_call 7; refine (H2.out _ HC.out).mono ?_; rintro e w4 ⟨rfl, hb⟩; replace HC := Lib.hid (HC.out.trans (hb.mono HC.out.size)); clear hb; replace XC := Lib.hid (HX.out _ HC.out))
    | (go_at_call 8; refine (HRf.out _).mono ?_; clear HRf; rintro e w7 ⟨hb, vu, rfl, hvu⟩; obtain ⟨ku, nu, llu, iu, du, p0u, p1u, p2u, p3u, p4u, p5u, p6u, p7u, p8u, p9u, q0u, q1u, q2u, q3u, q4u, q5u, q6u, q7u, q8u, q9u, rfl⟩ := hvu.named; have HP := at_box hvu; have XP := box17 (w := w7) (C := #[.int .i64 ku, .int .i64 nu, .int .i64 llu, .int .i64 iu, .int .i64 du, .int .i64 p0u, .int .i64 p1u, .float .f64 p2u, .string p3u, .slice p4u p5u p6u, .slice p7u p8u p9u, .int .i64 q0u, .int .i64 q1u, .float .f64 q2u, .string q3u, .slice q4u q5u q6u, .slice q7u q8u q9u]); replace HC := Lib.hid ((HC.out.trans (hb.mono HC.out.size)).alloc (Nat.le_trans HC.out.size hb.size) (.cells #[.int .i64 ku, .int .i64 nu, .int .i64 llu, .int .i64 iu, .int .i64 du, .int .i64 p0u, .int .i64 p1u, .float .f64 p2u, .string p3u, .slice p4u p5u p6u, .slice p7u p8u p9u, .int .i64 q0u, .int .i64 q1u, .float .f64 q2u, .string q3u, .slice q4u q5u q6u, .slice q7u q8u q9u] 30)); clear hb hvu; clear XC)
    | (go_at_call 10; refine (HRr.out _).mono ?_; clear HRr; rintro e w8 ⟨hb, vv, rfl, hvv⟩; obtain ⟨kv, nv, llv, iv, dv, p0v, p1v, p2v, p3v, p4v, p5v, p6v, p7v, p8v, p9v, q0v, q1v, q2v, q3v, q4v, q5v, q6v, q7v, q8v, q9v, rfl⟩ := hvv.named; have HQ := at_box hvv; have XQ := Lib.hid (heap_alloc_new w8 (.cells #[.int .i64 kv, .int .i64 nv, .int .i64 llv, .int .i64 iv, .int .i64 dv, .int .i64 p0v, .int .i64 p1v, .float .f64 p2v, .string p3v, .slice p4v p5v p6v, .slice p7v p8v p9v, .int .i64 q0v, .int .i64 q1v, .float .f64 q2v, .string q3v, .slice q4v q5v q6v, .slice q7v q8v q9v] 30)); have hp := hb.alloc hb.size (.cells #[.int .i64 kv, .int .i64 nv, .int .i64 llv, .int .i64 iv, .int .i64 dv, .int .i64 p0v, .int .i64 p1v, .float .f64 p2v, .string p3v, .slice p4v p5v p6v, .slice p7v p8v p9v, .int .i64 q0v, .int .i64 q1v, .float .f64 q2v, .string q3v, .slice q4v q5v q6v, .slice q7v q8v q9v] 30); replace HC := Lib.hid (HC.out.trans (hp.mono HC.out.size)); have XU := Lib.hid (XP.out _ hp); have HSP := Lib.hid (same_self (HP.out _ hp) (HQ.out _ (Below.refl _ _))); clear hb hvv hp XP HP HQ)
    | (refine ldr rfl 30 _ rfl w7.heap.size rfl 30 #[.int .i64 ku, .int .i64 nu, .int .i64 llu, .int .i64 iu, .int .i64 du, .int .i64 p0u, .int .i64 p1u, .float .f64 p2u, .string p3u, .slice p4u p5u p6u, .slice p7u p8u p9u, .int .i64 q0u, .int .i64 q1u, .float .f64 q2u, .string q3u, .slice q4u q5u q6u, .slice q7u q8u q9u] (0, 0) _ XU.out Tryz.underlying30 rfl (by kernel_rfl) ?_)
    | (refine ldr rfl 30 _ rfl w8.heap.size rfl 30 #[.int .i64 kv, .int .i64 nv, .int .i64 llv, .int .i64 iv, .int .i64 dv, .int .i64 p0v, .int .i64 p1v, .float .f64 p2v, .string p3v, .slice p4v p5v p6v, .slice p7v p8v p9v, .int .i64 q0v, .int .i64 q1v, .float .f64 q2v, .string q3v, .slice q4v q5v q6v, .slice q7v q8v q9v] (0, 0) _ XQ.out Tryz.underlying30 rfl (by kernel_rfl) ?_)
    | (go_at_call 9; refine HSP.out.mono ?_; clear HSP; rintro e w9 ⟨rfl, hb⟩; replace HC := Lib.hid (HC.out.trans (hb.mono HC.out.size)); clear hb))
  go_ret
  exact ⟨rfl, HB0.out.trans (HC.out.mono HB0.out.size)⟩
set_option maxRecDepth 100000 in
set_option maxHeartbeats 4000000 in
theorem walk_yes {c : Cm} {v : Array Value} {w : World} {ah s : ByteArray} {at_ : Int} (hv : CmdAt w w.heap.size v c) (hsm : smallC c = true) (ha : ah.size ≤ 100) (hs : s.size ≤ 1000) (ho : cmdB c = true) :
    Calls Tryz.prog 3 #[.agg v, .string ah, .string s, .int .i64 at_] w (Yes w) := by
  have tA : decide ((100 : Int) < (ah.size : Int)) = false := by simp; omega
  have tB : decide ((1000 : Int) < (s.size : Int)) = false := by simp; omega
  have HV := at_box hv
  have HX := box17 (w := w) (C := v)
  have HS := Lib.hid fun W h => SmallC_any (w := W) (HV.out W h)
  have HAW := Lib.hid awake_any
  have SF := float_store
  obtain ⟨W0, hW0⟩ : ∃ W0, W0 = w.alloc (.cells v 30) := ⟨_, rfl⟩
  have HB0 : Hid (Below w.heap.size w W0) := Lib.hid (by rw [hW0]; exact (Below.refl _ _).alloc (Nat.le_refl _) _)
  rw [← hW0] at HV HX HS
  rw [hsm] at HS
  have H1 := Lib.hid fun W h => Cmd_f (w := W) (HV.out W h)
  have H2 := Lib.hid fun W h => Cmd_r (w := W) (HV.out W h)
  rw [if_pos ho] at H1 H2
  have hX := cmdL_few hv ho
  have hback := rdv_back hv ho ah s
  have HB1 := Lib.hid (back_same hv ho)
  have hsz : (ah ++ strL (cmdL c) ++ s).size ≤ 1000000000 := by rw [ByteArray.size_append, ByteArray.size_append]; omega
  have HRd := Lib.hid (rd_f (s := ah ++ strL (cmdL c) ++ s) (a := ah.size) hsz hback)
  obtain ⟨z, nx, er, hz⟩ : ∃ z nx er, rdv s at_ = (z, nx, er) := ⟨_, _, _, rfl⟩
  have her := rdv_err s at_
  rw [hz] at her
  dsimp only at her
  have HRf := Lib.hid (rd_f (s := s) (a := at_) (by omega) hz)
  have HRr := Lib.hid (rd_r (s := s) (a := at_) (by omega) hz)
  have hwr : IntKind.i64.wrap er = er := by rcases her with rfl | rfl | rfl <;> rfl
  generalize strL (cmdL c) = X at *
  obtain ⟨k, n, ll, i, d, p0, p1, p2, p3, p4, p5, p6, p7, p8, p9, q0, q1, q2, q3, q4, q5, q6, q7, q8, q9, rfl⟩ := hv.named
  have HW0 := Lib.hid hW0
  clear hW0 hv hsm ho her hz hback hsz
  go_enter Tryz.func3, Tryz.ntmps3
  go_wp2_with (first
    | (go_at_call 4; refine (HAW.out _).mono ?_; rintro e w1 ⟨rfl, hb⟩; have HC := Lib.hid (show Below W0.heap.size W0 w1 by rw [HW0.out]; exact hb); clear hb; have XC := Lib.hid (HX.out _ HC.out); clear HW0)
    | (refine ldr rfl 30 _ rfl w.heap.size rfl 30 #[.int .i64 k, .int .i64 n, .int .i64 ll, .int .i64 i, .int .i64 d, .int .i64 p0, .int .i64 p1, .float .f64 p2, .string p3, .slice p4 p5 p6, .slice p7 p8 p9, .int .i64 q0, .int .i64 q1, .float .f64 q2, .string q3, .slice q4 q5 q6, .slice q7 q8 q9] (0, 0) _ XC.out Tryz.underlying30 rfl (by kernel_rfl) ?_)
    | (go_at_call 5; refine (HS.out _ HC.out).mono ?_; rintro e w2 ⟨rfl, hb⟩; replace HC := Lib.hid (HC.out.trans (hb.mono HC.out.size)); clear hb; replace XC := Lib.hid (HX.out _ HC.out))
    | (go_at_call 6; refine (H1.out _ HC.out).mono ?_; rintro e w3 ⟨rfl, hb⟩; replace HC := Lib.hid (HC.out.trans (hb.mono HC.out.size)); clear hb; replace XC := Lib.hid (HX.out _ HC.out))
    | (go_at_call 7; refine (H2.out _ HC.out).mono ?_; rintro e w4 ⟨rfl, hb⟩; replace HC := Lib.hid (HC.out.trans (hb.mono HC.out.size)); clear hb; replace XC := Lib.hid (HX.out _ HC.out))
    | (go_at_call 8; refine (HRd.out _).mono ?_; clear HRd; rintro e w5 ⟨hb, vd, rfl, hvd⟩; obtain ⟨kd, nd, lld, id, dd, p0d, p1d, p2d, p3d, p4d, p5d, p6d, p7d, p8d, p9d, q0d, q1d, q2d, q3d, q4d, q5d, q6d, q7d, q8d, q9d, rfl⟩ := hvd.named; have HD := at_box hvd; have XD := Lib.hid (heap_alloc_new w5 (.cells #[.int .i64 kd, .int .i64 nd, .int .i64 lld, .int .i64 id, .int .i64 dd, .int .i64 p0d, .int .i64 p1d, .float .f64 p2d, .string p3d, .slice p4d p5d p6d, .slice p7d p8d p9d, .int .i64 q0d, .int .i64 q1d, .float .f64 q2d, .string q3d, .slice q4d q5d q6d, .slice q7d q8d q9d] 30)); replace HC := Lib.hid ((HC.out.trans (hb.mono HC.out.size)).alloc (Nat.le_trans HC.out.size hb.size) (.cells #[.int .i64 kd, .int .i64 nd, .int .i64 lld, .int .i64 id, .int .i64 dd, .int .i64 p0d, .int .i64 p1d, .float .f64 p2d, .string p3d, .slice p4d p5d p6d, .slice p7d p8d p9d, .int .i64 q0d, .int .i64 q1d, .float .f64 q2d, .string q3d, .slice q4d q5d q6d, .slice q7d q8d q9d] 30)); clear hb hvd; replace XC := Lib.hid (HX.out _ HC.out); have HSD := Lib.hid (SameCmd_yes (HD.out _ (Below.refl _ _)) (HV.out _ HC.out) rfl rfl rfl rfl rfl HB1.out.1 HB1.out.2))
    | (refine ldr rfl 30 _ rfl w5.heap.size rfl 30 #[.int .i64 kd, .int .i64 nd, .int .i64 lld, .int .i64 id, .int .i64 dd, .int .i64 p0d, .int .i64 p1d, .float .f64 p2d, .string p3d, .slice p4d p5d p6d, .slice p7d p8d p9d, .int .i64 q0d, .int .i64 q1d, .float .f64 q2d, .string q3d, .slice q4d q5d q6d, .slice q7d q8d q9d] (0, 0) _ XD.out Tryz.underlying30 rfl (by kernel_rfl) ?_)
    | (go_at_call 9; refine HSD.out.mono ?_; clear HSD HD; rintro e w6 ⟨rfl, hb⟩; clear XD; replace HC := Lib.hid (HC.out.trans (hb.mono HC.out.size)); clear hb; replace XC := Lib.hid (HX.out _ HC.out))
    | (go_at_call 8; refine (HRf.out _).mono ?_; clear HRf; rintro e w7 ⟨hb, vu, rfl, hvu⟩; obtain ⟨ku, nu, llu, iu, du, p0u, p1u, p2u, p3u, p4u, p5u, p6u, p7u, p8u, p9u, q0u, q1u, q2u, q3u, q4u, q5u, q6u, q7u, q8u, q9u, rfl⟩ := hvu.named; have HP := at_box hvu; have XP := box17 (w := w7) (C := #[.int .i64 ku, .int .i64 nu, .int .i64 llu, .int .i64 iu, .int .i64 du, .int .i64 p0u, .int .i64 p1u, .float .f64 p2u, .string p3u, .slice p4u p5u p6u, .slice p7u p8u p9u, .int .i64 q0u, .int .i64 q1u, .float .f64 q2u, .string q3u, .slice q4u q5u q6u, .slice q7u q8u q9u]); replace HC := Lib.hid ((HC.out.trans (hb.mono HC.out.size)).alloc (Nat.le_trans HC.out.size hb.size) (.cells #[.int .i64 ku, .int .i64 nu, .int .i64 llu, .int .i64 iu, .int .i64 du, .int .i64 p0u, .int .i64 p1u, .float .f64 p2u, .string p3u, .slice p4u p5u p6u, .slice p7u p8u p9u, .int .i64 q0u, .int .i64 q1u, .float .f64 q2u, .string q3u, .slice q4u q5u q6u, .slice q7u q8u q9u] 30)); clear hb hvu; clear XC)
    | (go_at_call 10; refine (HRr.out _).mono ?_; clear HRr; rintro e w8 ⟨hb, vv, rfl, hvv⟩; obtain ⟨kv, nv, llv, iv, dv, p0v, p1v, p2v, p3v, p4v, p5v, p6v, p7v, p8v, p9v, q0v, q1v, q2v, q3v, q4v, q5v, q6v, q7v, q8v, q9v, rfl⟩ := hvv.named; have HQ := at_box hvv; have XQ := Lib.hid (heap_alloc_new w8 (.cells #[.int .i64 kv, .int .i64 nv, .int .i64 llv, .int .i64 iv, .int .i64 dv, .int .i64 p0v, .int .i64 p1v, .float .f64 p2v, .string p3v, .slice p4v p5v p6v, .slice p7v p8v p9v, .int .i64 q0v, .int .i64 q1v, .float .f64 q2v, .string q3v, .slice q4v q5v q6v, .slice q7v q8v q9v] 30)); have hp := hb.alloc hb.size (.cells #[.int .i64 kv, .int .i64 nv, .int .i64 llv, .int .i64 iv, .int .i64 dv, .int .i64 p0v, .int .i64 p1v, .float .f64 p2v, .string p3v, .slice p4v p5v p6v, .slice p7v p8v p9v, .int .i64 q0v, .int .i64 q1v, .float .f64 q2v, .string q3v, .slice q4v q5v q6v, .slice q7v q8v q9v] 30); replace HC := Lib.hid (HC.out.trans (hp.mono HC.out.size)); have XU := Lib.hid (XP.out _ hp); have HSP := Lib.hid (same_self (HP.out _ hp) (HQ.out _ (Below.refl _ _))); clear hb hvv hp XP HP HQ)
    | (refine ldr rfl 30 _ rfl w7.heap.size rfl 30 #[.int .i64 ku, .int .i64 nu, .int .i64 llu, .int .i64 iu, .int .i64 du, .int .i64 p0u, .int .i64 p1u, .float .f64 p2u, .string p3u, .slice p4u p5u p6u, .slice p7u p8u p9u, .int .i64 q0u, .int .i64 q1u, .float .f64 q2u, .string q3u, .slice q4u q5u q6u, .slice q7u q8u q9u] (0, 0) _ XU.out Tryz.underlying30 rfl (by kernel_rfl) ?_)
    | (refine ldr rfl 30 _ rfl w8.heap.size rfl 30 #[.int .i64 kv, .int .i64 nv, .int .i64 llv, .int .i64 iv, .int .i64 dv, .int .i64 p0v, .int .i64 p1v, .float .f64 p2v, .string p3v, .slice p4v p5v p6v, .slice p7v p8v p9v, .int .i64 q0v, .int .i64 q1v, .float .f64 q2v, .string q3v, .slice q4v q5v q6v, .slice q7v q8v q9v] (0, 0) _ XQ.out Tryz.underlying30 rfl (by kernel_rfl) ?_)
    | (go_at_call 9; refine HSP.out.mono ?_; clear HSP; rintro e w9 ⟨rfl, hb⟩; replace HC := Lib.hid (HC.out.trans (hb.mono HC.out.size)); clear hb))
  go_ret
  exact ⟨rfl, HB0.out.trans (HC.out.mono HB0.out.size)⟩
theorem walk {c : Cm} {v : Array Value} {w : World} {ah s : ByteArray} {at_ : Int} (hv : CmdAt w w.heap.size v c) :
    Calls Tryz.prog 3 #[.agg v, .string ah, .string s, .int .i64 at_] w (Yes w) := by
  cases hsm : smallC c with
  | false => exact walk_big1 hv hsm
  | true =>
    by_cases ha : ah.size ≤ 100
    · by_cases hs : s.size ≤ 1000
      · cases ho : cmdB c with
        | false => exact walk_no hv hsm ha hs ho
        | true => exact walk_yes hv hsm ha hs ho
      · exact walk_big3 hv hsm ha (by omega)
    · exact walk_big2 hv hsm (by omega)
end Go.Proofs.YtekojglcbalhnaaGreatDoor.packCmds
