/-
  The contract of Raise.
-/
import Derived.Test.YtmnbalmihehodaaRise
import Derived.Test.YtmnbalmihehodaaAwake
namespace Go.Proofs.Ytmnbalmihehodaa
open Go.RowKit

theorem own_len0 {w : World} {base : Nat} {v : Value} (h : w.ownsRow base 3 1 v (List.range 0).length (intsOf (List.range 0))) : ∃ A cap, v = .slice A 0 cap := by
  rcases h.2 with ⟨rfl, _⟩ | ⟨go, cap, cur, rfl, _⟩
  · exact ⟨none, 0, rfl⟩
  · exact ⟨_, cap, rfl⟩

set_option maxRecDepth 100000 in
set_option maxHeartbeats 400000 in
/-- No things: nothing rises. -/
theorem rise_zero (l : Value) (D LA : Option Addr) (cap lcap : Nat) (w : World) :
    Calls Try.prog 42 #[l, .slice D 0 cap, .slice LA 0 lcap] w fun e w' => e = .returned (.tuple #[]) ∧ Below w.heap.size w w' := by
  have HP : Hid (Prs w w.heap.size D 0 (fun _ => 0) fun _ => 0) := Lib.hid (fun h => absurd h (Nat.lt_irrefl 0))
  go_enter Try.func42, Try.ntmps42
  go_wp2_with fail
  go_step3
  go_wp2_with fail
  refine (fan_any 0 D 0 cap (fun _ => 0) (fun _ => 0) _ (by omega) (by omega) HP.out rfl).mono ?_
  rintro e w1 ⟨gf, gn, rfl, hW⟩
  go_wp2_with fail
  refine (Clone_any ⟨gf, 0, none⟩ 0 0 (foF (fun _ => 0) 0) _ (by omega) hW.first.rd).mono ?_
  rintro e w2 ⟨ge, ecap, rfl, hge, hlft, hb2⟩
  go_wp2_with fail
  refine (every_any 0 (by omega) _).mono ?_
  rintro e w3 ⟨v, rfl, hown, hb3⟩
  obtain ⟨Ao, oc, rfl⟩ := own_len0 hown
  have hb : Below w.heap.size w w3 := after (after hW.below hb2) hb3
  clear hW hlft hb2 hown hb3 hge
  go_wp2_with fail
  go_step3
  go_wp2_with fail
  go_loopg [9] 0 (fun _ v wr => v = .slice Ao 0 oc ∧ wr = w3)
  case atStart => exact ⟨rfl, rfl⟩
  case round =>
    obtain ⟨rfl, rfl⟩ := hrel
    go_wp2_with fail
    show Exit.noGoto _ _ _ _
    unfold Exit.noGoto
    go_end0
    exact ⟨rfl, hb⟩

theorem Raise_nil (v u : Value) (w : World) : Calls Try.prog 22 #[.pointer none, v, u] w fun e w' => e = .returned (.tuple #[.slice none 0 0, .int .i64 1]) ∧ w = w' := by
  go_enter Try.func22, Try.ntmps22
  go_wp2_with fail
  go_ret2
  exact ⟨rfl, rfl⟩

theorem Raise_no {g n : Nat} {A B : Nat → Nat} (D : Option Addr) (len cap : Nat) (p q : Nat → Int) (C : Option Addr) (m capl : Nat) (f : Nat → Int) (w : World) (hm : m ≤ 1000) (hlen : len ≤ 1000)
    (h : Lat w g n A B) (hp : Prs w w.heap.size D len p q) (hR : Rd w w.heap.size C m f) (hno : (okL n f m && okK (m : Int) p q len) = false) :
    Calls Try.prog 22 #[.pointer (some ⟨g, 0, none⟩), .slice D len cap, .slice C m capl] w fun e w' => e = .returned (.tuple #[.slice none 0 0, .int .i64 3]) ∧ Below w.heap.size w w' := by
  have HN := Lib.hid hno
  clear hno
  go_enter Try.func22, Try.ntmps22
  go_wp2_with fail
  refine (mayBeR_any D len cap p q C m capl f _ hm hlen h hp hR).mono ?_
  rintro e w1 ⟨rfl, hb⟩
  rw [HN.out]
  go_wp2_with fail
  go_ret2
  exact ⟨rfl, hb⟩

/-- Raise hands out labels. -/
def GivesUp (n : Nat) (A : Nat → Nat) (m : Nat) (p q : Nat → Int) (len : Nat) (f : Nat → Int) (w : World) (e : Ending) (w' : World) : Prop :=
  ∃ A' cap' c, e = .returned (.tuple #[.slice A' m cap', .int .i64 0]) ∧ Rd w' w'.heap.size A' m c ∧ Raised n A m p q len f c ∧ Below w.heap.size w w'

theorem Raise_yes {g n : Nat} {A B : Nat → Nat} {L : Nat → Nat → Bool} (hG : GLat n A B L) (D : Option Addr) (len cap : Nat) (p q : Nat → Int) (C : Option Addr) (m capl : Nat) (f : Nat → Int) (w : World) (hm1 : 1 ≤ m) (hm : m ≤ 1000) (hlen : len ≤ 1000)
    (h : Lat w g n A B) (hp : Prs w w.heap.size D len p q) (hR : Rd w w.heap.size C m f) (hl : okL n f m = true) (hk : okK (m : Int) p q len = true) :
    Calls Try.prog 22 #[.pointer (some ⟨g, 0, none⟩), .slice D len cap, .slice C m capl] w (GivesUp n A m p q len f w) := by
  have HL := Lib.hid hl
  have HK := Lib.hid hk
  have HN : Hid ((okL n f m && okK (m : Int) p q len) = true) := Lib.hid (by rw [hl, hk]; rfl)
  obtain ⟨gC, oC, rfl, _⟩ := hR (by omega)
  clear hl hk
  go_enter Try.func22, Try.ntmps22
  go_wp2_with fail
  refine (mayBeR_any D len cap p q _ m capl f _ hm hlen h hp hR).mono ?_
  rintro e w1 ⟨rfl, hb1⟩
  rw [HN.out]
  go_wp2_with fail
  refine (Clone_any _ m capl f _ hm ((hR.keep hb1).mono hb1.size)).mono ?_
  rintro e w2 ⟨gl, lcap, rfl, hgl, hI, hb2⟩
  have hb12 := after hb1 hb2
  have hgl2 : w.heap.size ≤ gl := Nat.le_trans hb1.size hgl
  go_wp2_with fail
  refine (rise_any hG w.heap.size _ (h.low h.lt hb12) h.lt D len cap p q (hp.keep hb12) m lcap gl f hI hgl2 HK.out HL.out hm1 hm hlen).mono ?_
  rintro e w3 ⟨rfl, c, hc, hup, hb3⟩
  go_wp2_with fail
  go_ret2
  exact ⟨_, lcap, c, rfl, hc.rd, hup, hb12.trans hb3⟩

theorem Raise_zero {g n : Nat} {A B : Nat → Nat} (D : Option Addr) (cap : Nat) (p q : Nat → Int) (C : Option Addr) (capl : Nat) (f : Nat → Int) (w : World)
    (h : Lat w g n A B) :
    Calls Try.prog 22 #[.pointer (some ⟨g, 0, none⟩), .slice D 0 cap, .slice C 0 capl] w (GivesUp n A 0 p q 0 f w) := by
  have hp : Prs w w.heap.size D 0 p q := fun h => absurd h (Nat.lt_irrefl 0)
  have hR : Rd w w.heap.size C 0 f := fun h => absurd h (Nat.lt_irrefl 0)
  have HU : Hid (Raised n A 0 p q 0 f f) := Lib.hid ⟨fun x hx => absurd hx (Nat.not_lt_zero _), fun x hx => absurd hx (Nat.not_lt_zero _), fun _ _ _ x hx => absurd hx (Nat.not_lt_zero _)⟩
  cases C with
  | none =>
    go_enter Try.func22, Try.ntmps22
    go_wp2_with fail
    refine (mayBeR_any D 0 cap p q _ 0 capl f _ (by omega) (by omega) h hp hR).mono ?_
    rintro e w1 ⟨rfl, hb1⟩
    rw [show (okL n f 0 && okK ((0 : Nat) : Int) p q 0) = true from rfl]
    go_wp2_with fail
    refine (Clone_nil 0 capl _).mono ?_
    rintro e w' ⟨rfl, rfl⟩
    go_wp2_with fail
    refine (rise_zero _ D none cap 0 _).mono ?_
    rintro e w3 ⟨rfl, hb3⟩
    go_wp2_with fail
    go_ret2
    exact ⟨_, _, f, rfl, fun h => absurd h (Nat.lt_irrefl 0), HU.out, after hb1 hb3⟩
  | some ad =>
    go_enter Try.func22, Try.ntmps22
    go_wp2_with fail
    refine (mayBeR_any D 0 cap p q _ 0 capl f _ (by omega) (by omega) h hp hR).mono ?_
    rintro e w1 ⟨rfl, hb1⟩
    rw [show (okL n f 0 && okK ((0 : Nat) : Int) p q 0) = true from rfl]
    go_wp2_with fail
    refine (Clone_any _ 0 capl f _ (by omega) ((hR.keep hb1).mono hb1.size)).mono ?_
    rintro e w2 ⟨gl, lcap, rfl, hgl, hI, hb2⟩
    have hb12 := after hb1 hb2
    clear hI hgl
    go_wp2_with fail
    refine (rise_zero _ D _ cap lcap _).mono ?_
    rintro e w3 ⟨rfl, hb3⟩
    go_wp2_with fail
    go_ret2
    exact ⟨_, _, f, rfl, fun h => absurd h (Nat.lt_irrefl 0), HU.out, after hb12 hb3⟩

theorem okK_zero {p q : Nat → Int} {len : Nat} (h : okK ((0 : Nat) : Int) p q len = true) : len = 0 := by
  rcases Nat.eq_zero_or_pos len with h0 | h0
  · exact h0
  · have := okK_at h h0
    omega

/-- Raise, where all are labels and things. -/
theorem Raise_any {g n : Nat} {A B : Nat → Nat} {L : Nat → Nat → Bool} (hG : GLat n A B L) (D : Option Addr) (len cap : Nat) (p q : Nat → Int) (C : Option Addr) (m capl : Nat) (f : Nat → Int) (w : World) (hm : m ≤ 1000) (hlen : len ≤ 1000)
    (h : Lat w g n A B) (hp : Prs w w.heap.size D len p q) (hR : Rd w w.heap.size C m f) (hl : okL n f m = true) (hk : okK (m : Int) p q len = true) :
    Calls Try.prog 22 #[.pointer (some ⟨g, 0, none⟩), .slice D len cap, .slice C m capl] w (GivesUp n A m p q len f w) := by
  rcases Nat.eq_zero_or_pos m with rfl | h1
  · obtain rfl := okK_zero hk
    exact Raise_zero D cap p q C capl f w h
  · exact Raise_yes hG D len cap p q C m capl f w h1 hm hlen h hp hR hl hk
end Go.Proofs.Ytmnbalmihehodaa
