/-
  What CodecReads calls: the two readers of values answer alike, and those of types; the walk.
-/
import Derived.Test.YteclpehbpicpaaaJhm
import Derived.Test.YteclpehbpicpaaaRhm
import Derived.Test.YteclpehbpicpaaaM38
import Derived.Test.YteclpehbpicpaaaM23


namespace Go.Proofs.Yteclpehbpicpaaa.codecReads
open Go.RowKit

def Yes (w : World) (e : Ending) (w' : World) : Prop := e = .returned (.bool true) ∧ Below w.heap.size w w'
/-- A reader of a value answers the tree t, a place, an error. -/
def Gives (f : Nat) (s : ByteArray) (i : Int) (t : VT) (nx c : Int) : Prop := ∀ W, Calls Try.prog f #[.string s, .int .i64 i] W fun e w' => ∃ (b0 b1 : Int) (b2 : Nat) (b3 : ByteArray) (b4 : Option Addr) (b5 b6 : Nat) (b7 : Option Addr) (b8 b9 : Nat), e = .returned (.tuple #[.agg #[.int .i64 b0, .int .i64 b1, .float .f64 b2, .string b3, .slice b4 b5 b6, .slice b7 b8 b9], .int .i64 nx, .int .i64 c]) ∧ VOwn w' (fun b => W.heap.size ≤ b) #[.int .i64 b0, .int .i64 b1, .float .f64 b2, .string b3, .slice b4 b5 b6, .slice b7 b8 b9] t ∧ Below W.heap.size W w'
def GivesT (f : Nat) (s : ByteArray) (i : Int) (t : TT) (nx c : Int) : Prop := ∀ W, Calls Try.prog f #[.string s, .int .i64 i] W fun e w' => ∃ (b0 : Int) (b1 : Option Addr) (b2 b3 : Nat) (b4 : Option Addr) (b5 b6 : Nat), e = .returned (.tuple #[.agg #[.int .i64 b0, .slice b1 b2 b3, .slice b4 b5 b6], .int .i64 nx, .int .i64 c]) ∧ TOwn w' (fun b => W.heap.size ≤ b) #[.int .i64 b0, .slice b1 b2 b3, .slice b4 b5 b6] t ∧ Below W.heap.size W w'
theorem gives_zero {f : Nat} {s : ByteArray} {i c : Int} (h : ∀ W, Calls Try.prog f #[.string s, .int .i64 i] W fun e w' => e = .returned (.tuple #[.agg zero6, .int .i64 0, .int .i64 c]) ∧ Below W.heap.size W w') : Gives f s i (leaf 0 0 0 ⟨#[]⟩) 0 c := fun W =>
  (h W).mono fun e w' ⟨he, hb⟩ => ⟨0, 0, 0, ⟨#[]⟩, none, 0, 0, none, 0, 0, he, VOwn.leaf (by decide) (by decide) (by decide) (by decide), hb⟩
theorem givesT_zero {f : Nat} {s : ByteArray} {i c : Int} (h : ∀ W, Calls Try.prog f #[.string s, .int .i64 i] W fun e w' => e = .returned (.tuple #[.agg zero3, .int .i64 0, .int .i64 c]) ∧ Below W.heap.size W w') : GivesT f s i (tleaf 0) 0 c := fun W =>
  (h W).mono fun e w' ⟨he, hb⟩ => ⟨0, none, 0, 0, none, 0, 0, he, TOwn.leaf (by decide), hb⟩
theorem gives_tree {f : Nat} {s : ByteArray} {i nx : Int} {t : VT} (h : ∀ W, Calls Try.prog f #[.string s, .int .i64 i] W fun e w' => (∃ v, e = .returned (.tuple #[.agg v, .int .i64 nx, .int .i64 0]) ∧ VOwn w' (fun b => W.heap.size ≤ b) v t) ∧ Below W.heap.size W w') : Gives f s i t nx 0 := fun W =>
  (h W).mono fun e w' hx => by
    obtain ⟨⟨v, he, hv⟩, hb⟩ := hx
    obtain ⟨b0, b1, b2, b3, b4, b5, b6, b7, b8, b9, rfl⟩ := hv.val.eight
    exact ⟨_, _, _, _, _, _, _, _, _, _, he, hv, hb⟩
theorem givesT_tree {f : Nat} {s : ByteArray} {i nx : Int} {t : TT} (h : ∀ W, Calls Try.prog f #[.string s, .int .i64 i] W fun e w' => (∃ v, e = .returned (.tuple #[.agg v, .int .i64 nx, .int .i64 0]) ∧ TOwn w' (fun b => W.heap.size ≤ b) v t) ∧ Below W.heap.size W w') : GivesT f s i t nx 0 := fun W =>
  (h W).mono fun e w' hx => by
    obtain ⟨⟨v, he, hv⟩, hb⟩ := hx
    obtain ⟨b0, b1, b2, b3, b4, b5, b6, rfl⟩ := hv.val.four
    exact ⟨_, _, _, _, _, _, _, he, hv, hb⟩
/-- The program and the document read one value alike. -/
theorem alike_v {s : ByteArray} (i : Int) (hs : s.size ≤ 3000) : ∃ t nx c, Gives 31 s i t nx c ∧ Gives 32 s i t nx c := by
  by_cases h : i < 0 ∨ (s.size : Int) < i
  · have hr : rdV s i = .error 3 := by unfold rdV; rw [if_pos h]
    exact ⟨_, _, _, gives_zero fun W => ReadValue_err hr (by omega), gives_zero fun W => RefV_place W h⟩
  · obtain ⟨a, rfl⟩ : ∃ a : Nat, i = a := ⟨i.toNat, by omega⟩
    have ha : a ≤ s.size := by omega
    have hr : rdV s (a : Int) = rrV (left s a) := by unfold rdV; rw [if_neg h]; rfl
    unfold rrV at hr
    cases hv : vP 12 0 (left s a) with
    | error c =>
      rw [hv] at hr
      exact ⟨_, _, _, gives_zero fun W => ReadValue_err hr (by omega), gives_zero fun W => RefV_err W ha (by omega) (vP_ne _ _ _ _ hv) hv⟩
    | ok z =>
      obtain ⟨t, p, l⟩ := z
      rw [hv] at hr
      dsimp only at hr
      cases hok : okV t with
      | false =>
        rw [if_neg (by rw [hok]; exact Bool.false_ne_true)] at hr
        exact ⟨_, _, _, gives_zero fun W => ReadValue_err hr (by omega), gives_zero fun W => RefV_bad W ha (by omega) hv hok⟩
      | true =>
        rw [if_pos hok] at hr
        exact ⟨_, _, _, gives_tree fun W => ReadValue_ok hr (by omega), gives_tree fun W => RefV_ok W ha (by omega) hv hok⟩
theorem alike_t {s : ByteArray} (i : Int) (hs : s.size ≤ 3000) : ∃ t nx c, GivesT 33 s i t nx c ∧ GivesT 34 s i t nx c := by
  by_cases h : i < 0 ∨ (s.size : Int) < i
  · have hr : rdT s i = .error 3 := by unfold rdT; rw [if_pos h]
    exact ⟨_, _, _, givesT_zero fun W => ReadType_err hr (by omega), givesT_zero fun W => RefT_place W h⟩
  · obtain ⟨a, rfl⟩ : ∃ a : Nat, i = a := ⟨i.toNat, by omega⟩
    have ha : a ≤ s.size := by omega
    have hr : rdT s (a : Int) = rrT (left s a) := by unfold rdT; rw [if_neg h]; rfl
    unfold rrT at hr
    cases hv : tP 12 0 (left s a) with
    | error c =>
      rw [hv] at hr
      exact ⟨_, _, _, givesT_zero fun W => ReadType_err hr (by omega), givesT_zero fun W => RefT_err W ha (by omega) (tP_ne _ _ _ _ hv) hv⟩
    | ok z =>
      obtain ⟨t, p, l⟩ := z
      rw [hv] at hr
      dsimp only at hr
      cases hok : tokV t with
      | false =>
        rw [if_neg (by rw [hok]; exact Bool.false_ne_true)] at hr
        exact ⟨_, _, _, givesT_zero fun W => ReadType_err hr (by omega), givesT_zero fun W => RefT_bad W ha (by omega) hv hok⟩
      | true =>
        rw [if_pos hok] at hr
        exact ⟨_, _, _, givesT_tree fun W => ReadType_ok hr (by omega), givesT_tree fun W => RefT_ok W ha (by omega) hv hok⟩
theorem tval_same {W : World} {lim : Nat} {v : Array Value} {t : TT} (h : TVal W lim v t) : sameP t t := by
  induction h with
  | mk k A c ca B m cb ns xs vs hk hc hm hns hB hxs ih =>
    rw [sameP]
    exact ⟨rfl, rfl, rfl, fun _ _ => rfl, fun i hi => ih i hi⟩
theorem same_v {t : VT} (W : World) (v v' : Array Value) (h : Val W W.heap.size v t) (h' : Val W W.heap.size v' t) : Calls Try.prog 35 #[.agg v, .agg v'] W fun e w' => e = .returned (.bool true) ∧ Below W.heap.size W w' := by
  have := same_any h h'
  rw [val_self] at this
  exact this
theorem same_t {t : TT} (W : World) (v v' : Array Value) (h : TVal W W.heap.size v t) (h' : TVal W W.heap.size v' t) : Calls Try.prog 36 #[.agg v, .agg v'] W fun e w' => e = .returned (.bool true) ∧ Below W.heap.size W w' :=
  sameT_any _ _ _ _ W h h' (tval_same h)
end Go.Proofs.Yteclpehbpicpaaa.codecReads
