/-
  The document's May and Make.
-/
import Derived.Test.YtlfeocccjolmpaaGb
namespace Go.Proofs.Ytlfeocccjolmpaa
open Go.RowKit

def mayB (p : ByteArray) : Bool := decide (1 ≤ p.size) && decide (p.size ≤ 2000)
theorem May_any {p : ByteArray} (w : World) : Calls Try.prog 12 #[.string p] w fun e w' => e = .returned (.bool (mayB p)) ∧ w' = w := by
  obtain ⟨b, hb⟩ : ∃ b, b = mayB p := ⟨_, rfl⟩
  rw [← hb]
  have HB := Lib.hid hb
  clear hb
  by_cases h1 : 1 ≤ p.size
  · have t1 : decide ((1 : Int) ≤ (p.size : Int)) = true := by simp; omega
    by_cases h2 : p.size ≤ 2000
    · have t2 : decide ((p.size : Int) ≤ 2000) = true := by simp; omega
      go_enter Try.func12, Try.ntmps12
      go_wp2_with fail
      go_ret
      refine ⟨?_, rfl⟩
      rw [HB.out]; unfold mayB; simp [h1, h2]
    · have t2 : decide ((p.size : Int) ≤ 2000) = false := by simp; omega
      go_enter Try.func12, Try.ntmps12
      go_wp2_with fail
      go_ret
      refine ⟨?_, rfl⟩
      rw [HB.out]; unfold mayB; simp [h2]
  · have t1 : decide ((1 : Int) ≤ (p.size : Int)) = false := by simp; omega
    go_enter Try.func12, Try.ntmps12
    go_wp2_with fail
    go_ret
    refine ⟨?_, rfl⟩
    rw [HB.out]; unfold mayB; simp [h1]
theorem bytes_conv (w : World) (L : List UInt8) (cs : Array Value) (hcs : ∀ j (hj : j < L.length), cs[j]? = some (.int .u8 (L[j].toNat : Int))) (g : Nat) (hg : g = w.heap.size) :
    (convert 42 9 (.slice (some ⟨g, 0, none⟩) L.length L.length)).run Try.prog (w.alloc (.cells cs 5)) = .ok (.string (strL L)) (w.alloc (.cells cs 5)) := by
  subst hg
  refine run_convert_bytes_back (P := Try.prog) (w.alloc (.cells cs 5)) 42 9 5 ⟨w.heap.size, 0, none⟩ L.length L Try.underlying42 Try.underlying5 Try.underlying9 ?_
  intro j hj
  rw [Addr.add_lit, Nat.zero_add, World.cell?_alloc_new]
  exact hcs j hj
theorem of_nat_mod (n : Nat) : ((UInt8.ofNat n).toNat : Int) = (n : Int) % 256 := by simp
theorem conv2 (w : World) {a b : Int} {x y : Nat} (ha : a = (x : Int) % 256) (hb : b = (y : Int) % 256) (g : Nat) (hg : g = w.heap.size) :
    (convert 42 9 (.slice (some ⟨g, 0, none⟩) 2 2)).run Try.prog (w.alloc (.cells #[.int .u8 a, .int .u8 b] 5)) = .ok (.string (strL [UInt8.ofNat x, UInt8.ofNat y])) (w.alloc (.cells #[.int .u8 a, .int .u8 b] 5)) := by
  refine bytes_conv w [UInt8.ofNat x, UInt8.ofNat y] _ (fun j hj => ?_) g hg
  subst ha hb
  match j, hj with
  | 0, _ => exact congrArg (fun z => some (Value.int .u8 z)) (of_nat_mod x).symm
  | 1, _ => exact congrArg (fun z => some (Value.int .u8 z)) (of_nat_mod y).symm
theorem conv4 (w : World) {a b c d : Int} {x y z u : Nat} (ha : a = (x : Int) % 256) (hb : b = (y : Int) % 256) (hc : c = (z : Int) % 256) (hd : d = (u : Int) % 256) (g : Nat) (hg : g = w.heap.size) :
    (convert 42 9 (.slice (some ⟨g, 0, none⟩) 4 4)).run Try.prog (w.alloc (.cells #[.int .u8 a, .int .u8 b, .int .u8 c, .int .u8 d] 5)) = .ok (.string (strL [UInt8.ofNat x, UInt8.ofNat y, UInt8.ofNat z, UInt8.ofNat u])) (w.alloc (.cells #[.int .u8 a, .int .u8 b, .int .u8 c, .int .u8 d] 5)) := by
  refine bytes_conv w [UInt8.ofNat x, UInt8.ofNat y, UInt8.ofNat z, UInt8.ofNat u] _ (fun j hj => ?_) g hg
  subst ha hb hc hd
  match j, hj with
  | 0, _ => exact congrArg (fun z => some (Value.int .u8 z)) (of_nat_mod x).symm
  | 1, _ => exact congrArg (fun z => some (Value.int .u8 z)) (of_nat_mod y).symm
  | 2, _ => exact congrArg (fun z => some (Value.int .u8 z)) (of_nat_mod z).symm
  | 3, _ => exact congrArg (fun z => some (Value.int .u8 z)) (of_nat_mod u).symm
set_option maxRecDepth 20000 in
set_option maxHeartbeats 1000000 in
theorem Make_any {p : ByteArray} (hp : p.size ≤ 1000000000) (w : World) : Calls Try.prog 13 #[.string p] w fun e w' => e = .returned (.string (strL (frL p.data.toList))) ∧ Below w.heap.size w w' := by
  have C1 := fun w => conv2 w (a := (p.size : Int) / 256 % 256) (b := (p.size : Int) % 256) (x := p.size / 256) (y := p.size % 256) (by omega) (by omega)
  obtain ⟨h, hh⟩ : ∃ h, h = strL [UInt8.ofNat (p.size / 256), UInt8.ofNat (p.size % 256)] := ⟨_, rfl⟩
  rw [← hh] at C1
  have hs : h.size = 2 := by rw [hh]; rfl
  have z1 : ¬ 9223372036854775807 < h.size + p.size := by omega
  obtain ⟨f, hf⟩ : ∃ f, f = h ++ p := ⟨_, rfl⟩
  have hfs : f.size = p.size + 2 := by rw [hf, ByteArray.size_append, hs]; omega
  have S := Sum_any (s := f) (by omega)
  have hc := sumN_lt f.data.toList
  obtain ⟨c, hcc⟩ : ∃ c, c = sumN f.data.toList := ⟨_, rfl⟩
  rw [← hcc] at S hc
  rw [hf] at S
  have R : strL (frL p.data.toList) = f ++ strL (tail4 c) := by
    have e : f = strL (headL p.data.toList) := by rw [hf, hh]; exact strL_append _ _
    rw [hcc, e]
    exact (strL_append _ _).symm
  rw [R, hf]
  have C4 := fun w => conv4 w (a := (c : Int) % 256) (b := (c : Int) / 256 % 256) (c := (c : Int) / 65536 % 256) (d := (c : Int) / 16777216) (x := c % 256) (y := c / 256 % 256) (z := c / 65536 % 256) (u := c / 16777216 % 256) (by omega) (by omega) (by omega) (by omega)
  obtain ⟨q, hq⟩ : ∃ q, q = strL (tail4 c) := ⟨_, rfl⟩
  have hqs : q.size = 4 := by rw [hq]; rfl
  have z2 : ¬ 9223372036854775807 < (h ++ p).size + q.size := by rw [← hf, hfs, hqs]; omega
  unfold tail4 at hq
  rw [← hq] at C4
  have HB := Lib.hid (show Below w.heap.size w ((w.alloc (.cells #[.int .u8 ((p.size : Int) / 256 % 256), .int .u8 ((p.size : Int) % 256)] 5)).alloc (.cells #[.int .u8 ((c : Int) % 256), .int .u8 ((c : Int) / 256 % 256), .int .u8 ((c : Int) / 65536 % 256), .int .u8 ((c : Int) / 16777216)] 5)) from ((Below.refl _ _).alloc (Nat.le_refl _) _).alloc (by simp) _)
  have e4 : tail4 c = [UInt8.ofNat (c % 256), UInt8.ofNat (c / 256 % 256), UInt8.ofNat (c / 65536 % 256), UInt8.ofNat (c / 16777216 % 256)] := rfl
  rw [e4, ← hq]
  clear R hh hcc hq hqs hs hf hfs hp e4
  go_enter Try.func13, Try.ntmps13
  go_wp2_with (go_at_call 11; refine (S _).mono ?_; rintro e w1 ⟨rfl, rfl⟩)
  go_ret
  exact ⟨rfl, HB.out⟩
end Go.Proofs.Ytlfeocccjolmpaa
