/-
  The contract of fanOut.
-/
import Derived.Test.YtmnbalmihehodaaRep
namespace Go.Proofs.Ytmnbalmihehodaa
open Go.RowKit

/-- Each thing's last edge among the first k; for each of these the one ahead of it. -/
def foF (p : Nat → Int) : Nat → (Nat → Int)
  | 0 => fun _ => -1
  | k + 1 => updI (foF p k) (p k).toNat k
def foN (p : Nat → Int) : Nat → (Nat → Int)
  | 0 => fun _ => 0
  | k + 1 => updI (foN p k) k (foF p k (p k).toNat)

/-- The world amid fanOut. -/
structure FW (w wr : World) (gf gn n len : Nat) (p : Nat → Int) (k : Nat) : Prop where
  lo : w.heap.size ≤ gf
  lt : gf < gn
  first : IB wr gf n (foF p k)
  next : IB wr gn len (foN p k)
  below : Below w.heap.size w wr
theorem FW.alloc {w wr : World} {gf gn n len : Nat} {p : Nat → Int} {k : Nat} (h : FW w wr gf gn n len p k) (o : Obj) : FW w (wr.alloc o) gf gn n len p k :=
  ⟨h.lo, h.lt, h.first.alloc o, h.next.alloc o, h.below.alloc h.below.size o⟩
theorem FW.step {w wr : World} {gf gn n len : Nat} {p : Nat → Int} {k : Nat} (h : FW w wr gf gn n len p k) :
    FW w ((wr.setCell ⟨gn, k, none⟩ (.int .i64 (foF p k (p k).toNat))).setCell ⟨gf, (p k).toNat, none⟩ (.int .i64 (k : Int))) gf gn n len p (k + 1) := by
  have h1 := h.lo
  have h2 := h.lt
  exact ⟨h.lo, h.lt, (h.first.far (by show gf ≠ gn; omega) _).set _ _, (h.next.set _ _).far (by show gn ≠ gf; omega) _, (h.below.setCell (by show _ ≤ gn; omega) _).setCell h.lo _⟩

set_option maxHeartbeats 1000000 in
theorem fan_any (n : Nat) (A : Option Addr) (len cap : Nat) (p q : Nat → Int) (w : World) (hn : n ≤ 1000) (hlen : len ≤ 1000) (hp : Prs w w.heap.size A len p q) (hok : okK (n : Int) p q len = true) :
    Calls Try.prog 52 #[.slice A len cap, .int .i64 (n : Int)] w fun e w' => ∃ gf gn, e = .returned (.tuple #[.slice (some ⟨gf, 0, none⟩) n n, .slice (some ⟨gn, 0, none⟩) len len]) ∧ FW w w' gf gn n len p len := by
  have Hok := Lib.hid hok
  clear hok
  have hx := heap_alloc_new w (.cells #[.int .i64 (-1)] 3)
  have hb0 := (Below.refl w.heap.size w).alloc (Nat.le_refl _) (.cells #[.int .i64 (-1)] 3)
  go_enter Try.func52, Try.ntmps52
  go_wp2_with fail
  refine (rep_any w.heap.size n hn _ hx).mono ?_
  rintro e w1 ⟨gf, rfl, hgf, hF, hb1⟩
  have hgf' : w.heap.size ≤ gf := Nat.le_trans hb0.size hgf
  have hb01 := hb0.trans (hb1.mono hb0.size)
  clear hgf hb1 hx hb0
  go_wp2_with (first | (at_make; refine wp_mkI rfl _ _ rfl len rfl rfl hlen ?_; intro w2 hN hb2) | fail)
  have hF2 := hF.keep hb2
  have hlt := hF.lt
  have hb := hb01.trans (hb2.mono hb01.size)
  clear hF hb2 hb01
  have hW : FW w w2 gf w1.heap.size n len p 0 := ⟨hgf', hlt, hF2, hN, hb⟩
  clear hgf' hlt hF2 hN hb
  generalize w1.heap.size = gn at *
  go_loopw [16] (fun i wr => ∃ k : Nat, k ≤ len ∧ i = .int .i64 k ∧ FW w wr gf gn n len p k) (fun i _ => len - (intOf i).toNat)
  case atStart => exact ⟨0, Nat.zero_le _, rfl, hW⟩
  case round =>
    obtain ⟨k, hk, rfl, hW⟩ := hrel
    by_cases hlt : k < len
    · obtain ⟨g, off, rfl, hg, hc⟩ := hp (by omega)
      obtain ⟨c0, c1⟩ := hc k hlt
      have d0 := (hW.below.cell (p := ⟨g, off + k * 2, none⟩) hg).trans c0
      have d1 := (hW.below.cell (p := ⟨g, off + k * 2 + 1, none⟩) hg).trans c1
      obtain ⟨b0, b1, b2, b3⟩ := okK_at Hok.out hlt
      have hA := hW.alloc (.cells #[.int .i64 (p k), .int .i64 (q k)] 51)
      have e0 : (wr.alloc (.cells #[.int .i64 (p k), .int .i64 (q k)] 51)).cell? ⟨wr.heap.size, 0, none⟩ = some (.int .i64 (p k)) := cell_of_heap (heap_alloc_new _ _) 0
      have e1 : ((wr.alloc (.cells #[.int .i64 (p k), .int .i64 (q k)] 51)).setCell ⟨gn, k, none⟩ (.int .i64 (foF p k (p k).toNat))).cell? ⟨wr.heap.size, 0, none⟩ = some (.int .i64 (p k)) :=
        (World.cell?_of_block (Below.heap_setCell _ _ _ _ (Nat.ne_of_gt hW.next.lt))).trans e0
      have hp0 : (p k).toNat < n := by omega
      have hp1 : (0 : Int) ≤ p k := b0
      have cf := hA.first.cell hp0
      have fn := hA.next.free k
      have cn := hA.next.cell hlt
      have hfar := (hA.first).far (a := ⟨gn, k, none⟩) (by have := hW.lt; show gf ≠ gn; omega) (.int .i64 (foF p k (p k).toNat))
      have ff := hfar.free (p k).toNat
      have cf2 := hfar.cell hp0
      have hk0 : (0 : Int) ≤ k := by omega
      have hk1 : (k : Int) < len := by omega
      have hst := hA.step
      clear hc c0 c1 hp hW hA b2 b3 hfar
      generalize hv : foF p k (p k).toNat = v at *
      clear hv
      go_wp2_with fail
      go_roundw
      case rel => exact ⟨k + 1, by omega, by go_num, hst⟩
      case measure => simp [intOf]; omega
    · obtain rfl : k = len := by omega
      go_wp2_with fail
      go_ret2
      exact ⟨gf, gn, rfl, hW⟩
end Go.Proofs.Ytmnbalmihehodaa
