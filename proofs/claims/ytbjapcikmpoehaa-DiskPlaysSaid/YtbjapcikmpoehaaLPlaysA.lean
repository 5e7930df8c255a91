/-
  The two disks amid DiskPlays.
-/
import Derived.Test.YtbjapcikmpoehaaDs
import Derived.Test.YtbjapcikmpoehaaDg
import Derived.OwnWalk
import Derived.Deep.RegionHeld3
namespace Go.Proofs.Ytbjapcikmpoehaa.lawDiskPlays
open Go.RowKit

def Yes (w : World) (e : Ending) (w' : World) : Prop := e = .returned (.bool true) ∧ Below w.heap.size w w'

theorem row_ne {w : World} {g h : Nat} {cs ds : Array Value} {s t : TypeId} (a : w.heap[g]? = some (.cells cs s (0, 0))) (b : w.heap[h]? = some (.cells ds t (0, 0))) (hst : s ≠ t) : g ≠ h := by
  intro e
  subst e
  rw [a] at b
  simp at b
  exact hst b.2
theorem row_lt {w : World} {g : Nat} {o : Obj} (a : w.heap[g]? = some o) : g < w.heap.size := by
  rw [Array.getElem?_eq_some_iff] at a
  exact a.1

/-- A call's cells. -/
def ocells (v : OpV) : Array Value := #[.int .i64 v.k, .int .i64 v.i, .int .i64 v.n, .string v.s]
/-- The landed disk at gd holds Ld, the document's at gw (its row at rw) holds Lr; the call that is played lies at b. -/
structure Sb (w wr : World) (n gw rw gd : Nat) (Ld Lr : Nat → ByteArray) (b : Nat) (v : OpV) : Prop where
  below : Below w.heap.size w wr
  d : DAt wr gd n Ld
  r : RAt wr gw rw n Lr
  lo : w.heap.size ≤ gd
  lor : w.heap.size ≤ rw
  box : wr.heap[b]? = some (.cells (ocells v) 34 (0, 0))
/-- The same, with no call. -/
structure St (w wr : World) (n gw rw gd : Nat) (L : Nat → ByteArray) : Prop where
  below : Below w.heap.size w wr
  d : DAt wr gd n L
  r : RAt wr gw rw n L
  lo : w.heap.size ≤ gd
  lor : w.heap.size ≤ rw
section
variable {w wr : World} {n gw rw gd : Nat} {L Ld Lr : Nat → ByteArray} {b : Nat} {v : OpV}

theorem RAt.of_block {w w' : World} (h : RAt w gw rw n L) (h1 : w'.heap[gw]? = w.heap[gw]?) (h2 : w'.heap[rw]? = w.heap[rw]?) : RAt w' gw rw n L :=
  ⟨by rw [h1]; exact h.box, by rw [h2]; exact h.row, h.n8, h.sz⟩
theorem DAt.of_block {w w' : World} (h : DAt w gd n L) (h1 : w'.heap[gd]? = w.heap[gd]?) : DAt w' gd n L := ⟨by rw [h1]; exact h.blk, h.n8, h.sz⟩

theorem Sb.land (h : Sb w wr n gw rw gd Ld Lr b v) {w2 : World} {L2 : Nat → ByteArray} (hg : wr.grownBy w2 (some gd)) (hd : DAt w2 gd n L2) : Sb w w2 n gw rw gd L2 Lr b v := by
  have n1 := row_ne h.r.box h.d.blk (by decide)
  have n2 := row_ne h.r.row h.d.blk (by decide)
  have n3 := row_ne h.box h.d.blk (by decide)
  exact ⟨h.below.grown hg h.below.size (by intro k e; cases e; exact h.lo), hd,
    RAt.of_block h.r (hg.block _ (row_lt h.r.box) (by simpa using n1)) (hg.block _ (row_lt h.r.row) (by simpa using n2)), h.lo, h.lor,
    by rw [hg.block _ (row_lt h.box) (by simpa using n3)]; exact h.box⟩
theorem Sb.refd (h : Sb w wr n gw rw gd Ld Lr b v) {w2 : World} {L2 : Nat → ByteArray} (hg : wr.grownBy w2 (some rw)) (hr : RAt w2 gw rw n L2) : Sb w w2 n gw rw gd Ld L2 b v := by
  have n1 := row_ne h.d.blk h.r.row (by decide)
  have n3 := row_ne h.box h.r.row (by decide)
  exact ⟨h.below.grown hg h.below.size (by intro k e; cases e; exact h.lor), DAt.of_block h.d (hg.block _ (row_lt h.d.blk) (by simpa using n1)), hr, h.lo, h.lor,
    by rw [hg.block _ (row_lt h.box) (by simpa using n3)]; exact h.box⟩
theorem Sb.drew (h : Sb w wr n gw rw gd Ld Lr b v) : Sb w wr.drew n gw rw gd Ld Lr b v :=
  ⟨h.below.drew, DAt.of_block h.d rfl, RAt.of_block h.r rfl rfl, h.lo, h.lor, h.box⟩
/-- New memory is nothing to the two. -/
theorem St.read (h : St w wr n gw rw gd L) {w2 : World} (hb : Below wr.heap.size wr w2) : St w w2 n gw rw gd L :=
  ⟨h.below.trans (hb.mono h.below.size), h.d.clone hb, RAt.of_block h.r (hb.block _ (row_lt h.r.box)) (hb.block _ (row_lt h.r.row)), h.lo, h.lor⟩
theorem Sb.st (h : Sb w wr n gw rw gd L L b v) : St w wr n gw rw gd L := ⟨h.below, h.d, h.r, h.lo, h.lor⟩
theorem St.boxed (h : St w wr n gw rw gd L) (v : OpV) : Sb w (wr.alloc (.cells (ocells v) 34)) n gw rw gd L L wr.heap.size v :=
  ⟨h.below.alloc h.below.size _, h.d.alloc _, RAt.of_block h.r (Below.heap_alloc _ _ _ (row_lt h.r.box)) (Below.heap_alloc _ _ _ (row_lt h.r.row)), h.lo, h.lor, heap_alloc_new wr _⟩
theorem Sb.cells (h : Sb w wr n gw rw gd Ld Lr b v) : wr.cell? ⟨b, 0, none⟩ = some (.int .i64 v.k) ∧ wr.cell? ⟨b, 1, none⟩ = some (.int .i64 v.i) ∧ wr.cell? ⟨b, 2, none⟩ = some (.int .i64 v.n) ∧ wr.cell? ⟨b, 3, none⟩ = some (.string v.s) :=
  ⟨cell_of_heap h.box 0, cell_of_heap h.box 1, cell_of_heap h.box 2, cell_of_heap h.box 3⟩

def Aft (c : Nat) (w : World) (n gw rw gd : Nat) (Ld Lr : Nat → ByteArray) (b : Nat) (v : OpV) (e : Ending) (w2 : World) : Prop := e = .returned (.int .i64 c) ∧ Sb w w2 n gw rw gd Ld Lr b v
theorem Sb.append (h : Sb w wr n gw rw gd Ld Lr b v) (i : Int) (s : ByteArray) : Calls Try.prog 10 #[.pointer (some ⟨gd, 0, none⟩), .int .i64 i, .string s] wr (Aft (tearC n Ld i s) w n gw rw gd (tearL n Ld i s s.size) Lr b v) :=
  (Append_any i s wr h.d).mono fun _ _ ⟨he, hg, hd⟩ => ⟨he, h.land hg hd⟩
theorem Sb.tear (h : Sb w wr n gw rw gd Ld Lr b v) (i k : Int) (s : ByteArray) : Calls Try.prog 12 #[.pointer (some ⟨gd, 0, none⟩), .int .i64 i, .string s, .int .i64 k] wr (Aft (tearC n Ld i s) w n gw rw gd (tearL n Ld i s k) Lr b v) :=
  (Tear_any i k s wr h.d).mono fun _ _ ⟨he, hg, hd⟩ => ⟨he, h.land hg hd⟩
theorem Sb.cut (h : Sb w wr n gw rw gd Ld Lr b v) (i m : Int) : Calls Try.prog 14 #[.pointer (some ⟨gd, 0, none⟩), .int .i64 i, .int .i64 m] wr (Aft (cutC n Ld i m) w n gw rw gd (cutL n Ld i m) Lr b v) :=
  (Cut_any i m wr h.d).mono fun _ _ ⟨he, hg, hd⟩ => ⟨he, h.land hg hd⟩
theorem Sb.rappend (h : Sb w wr n gw rw gd Ld Lr b v) (i : Int) (s : ByteArray) (hs : s.size ≤ 1000000) : Calls Try.prog 11 #[.pointer (some ⟨gw, 0, none⟩), .int .i64 i, .string s] wr (Aft (tearC n Lr i s) w n gw rw gd Ld (tearL n Lr i s s.size) b v) :=
  (RAppend_any i s wr h.r hs).mono fun _ _ ⟨he, hg, hd⟩ => ⟨he, h.refd hg hd⟩
theorem Sb.rtear (h : Sb w wr n gw rw gd Ld Lr b v) (i k : Int) (s : ByteArray) (hs : s.size ≤ 1000000) : Calls Try.prog 13 #[.pointer (some ⟨gw, 0, none⟩), .int .i64 i, .string s, .int .i64 k] wr (Aft (tearC n Lr i s) w n gw rw gd Ld (tearL n Lr i s k) b v) :=
  (RTear_any i k s wr h.r hs).mono fun _ _ ⟨he, hg, hd⟩ => ⟨he, h.refd hg hd⟩
theorem Sb.rcut (h : Sb w wr n gw rw gd Ld Lr b v) (i m : Int) : Calls Try.prog 15 #[.pointer (some ⟨gw, 0, none⟩), .int .i64 i, .int .i64 m] wr (Aft (cutC n Lr i m) w n gw rw gd Ld (cutL n Lr i m) b v) :=
  (RCut_any i m wr h.r).mono fun _ _ ⟨he, hg, hd⟩ => ⟨he, h.refd hg hd⟩
/-- The copy that goes on in the disk's place. -/
theorem Sb.copy (h : Sb w wr n gw rw gd L L b v) : Calls Try.prog 16 #[.pointer (some ⟨gd, 0, none⟩)] wr fun e w2 =>
    ∃ gc, e = .returned (.pointer (some ⟨gc, 0, none⟩)) ∧ Sb w w2 n gw rw gd L L b v ∧ w.heap.size ≤ gc ∧ DAt w2 gc n L ∧ gc ≠ gd := by
  refine (Copy_any wr h.d).mono ?_
  rintro e w2 ⟨rfl, rfl⟩
  have hlt := row_lt h.d.blk
  exact ⟨_, rfl, ⟨h.below.alloc h.below.size _, h.d.alloc _, RAt.of_block h.r (Below.heap_alloc _ _ _ (row_lt h.r.box)) (Below.heap_alloc _ _ _ (row_lt h.r.row)), h.lo, h.lor, by rw [Below.heap_alloc _ _ _ (row_lt h.box)]; exact h.box⟩,
    h.below.size, DAt.new wr L h.d.n8 h.d.sz, by omega⟩
/-- A call on the disk that was copied, which the copy knows nothing of. -/
theorem Sb.appendk {gc : Nat} (h : Sb w wr n gw rw gd Ld Lr b v) (hc : DAt wr gc n L) (hne : gc ≠ gd) (i : Int) (s : ByteArray) : Calls Try.prog 10 #[.pointer (some ⟨gd, 0, none⟩), .int .i64 i, .string s] wr fun e w2 =>
    ∃ (c : Nat) (L2 : Nat → ByteArray), e = .returned (.int .i64 c) ∧ Sb w w2 n gw rw gd L2 Lr b v ∧ DAt w2 gc n L :=
  (Append_any i s wr h.d).mono fun _ _ ⟨he, hg, hd⟩ => ⟨_, _, he, h.land hg hd, DAt.of_block hc (hg.block _ (row_lt hc.blk) (by simpa using hne))⟩
theorem Sb.cutk {gc : Nat} (h : Sb w wr n gw rw gd Ld Lr b v) (hc : DAt wr gc n L) (hne : gc ≠ gd) (i m : Int) : Calls Try.prog 14 #[.pointer (some ⟨gd, 0, none⟩), .int .i64 i, .int .i64 m] wr fun e w2 =>
    ∃ (c : Nat) (L2 : Nat → ByteArray), e = .returned (.int .i64 c) ∧ Sb w w2 n gw rw gd L2 Lr b v ∧ DAt w2 gc n L :=
  (Cut_any i m wr h.d).mono fun _ _ ⟨he, hg, hd⟩ => ⟨_, _, he, h.land hg hd, DAt.of_block hc (hg.block _ (row_lt hc.blk) (by simpa using hne))⟩
/-- What is done to the disk that was copied is nothing to the copy. -/
theorem Sb.swap {gc : Nat} (h : Sb w wr n gw rw gd Ld L b v) (hc : w.heap.size ≤ gc) (hd : DAt wr gc n L) : St w wr n gw rw gc L := ⟨h.below, hd, h.r, hc, h.lor⟩
end

/-- A slice of strings made. -/
theorem info9 : (Try.prog.info? 9).map (fun i => (i.zero, i.size, i.bytes)) = some (some (.string ⟨#[]⟩), 1, 16) := by kernel_rfl
theorem made_strs (n : Nat) : (madeCells (Value.string ⟨#[]⟩).cells (n * 1)).toList = (rcells n emptyL).toList := by
  apply List.ext_getElem
  · simp [madeCells, rcells]
  · intro i h1 h2
    simp [madeCells, rcells, Value.cells, Nat.mod_one, emptyL]
theorem wp_mkS {ops : Array Oper} {rest : List Oper} {o : Oper} {a : Act} {w : World} {Q : Exit → Act → World → Prop} (hgd : o.guard = none) (l c : Operand) (ho : o.op = .makeSlice 30 l c)
    (n : Nat) (hl : a.eval l = .int .i64 (n : Int)) (hc : a.eval c = .int .i64 (n : Int)) (hn : n ≤ 1000)
    (h : ∀ w', w'.heap[w.heap.size]? = some (.cells (rcells n emptyL) 9 (0, 0)) → w.grownBy w' none → wpList Try.prog ops Q rest (a.put o.dst (.slice (some ⟨w.heap.size, 0, none⟩) n n)) w') : wpList Try.prog ops Q (o :: rest) a w := by
  obtain ⟨i0, hi, hz0, hz1, hz2⟩ := info_parts info9
  refine wpList_make_full w hgd l c 30 ho w.heap.size 9 i0 (.string ⟨#[]⟩) 1 Try.underlying30 hi hz0 hz1 .i64 .i64 _ _ n hl hc rfl rfl (by rw [hz2]; omega) (by unfold maxLen; omega) (Nat.le_refl _) fun w' h1 h2 => ?_
  rw [made_strs] at h1
  refine h w' ?_ h2
  obtain ⟨_, h1 | ⟨g, cap, cur, hv, _, hh, _, _, hcur, ht⟩⟩ := h1
  · exact absurd h1.1 (by simp)
  · cases hv
    rw [hh]
    have : cur.toList = (rcells n emptyL).toList := by
      rw [← ht, List.take_of_length_le]
      simp [hcur]
    rw [Array.toList_inj.1 this]
/-- Where the two disks begin. -/
theorem St.start {w w1 w2 : World} {n gd r : Nat} (hb : Below w.heap.size w w1) (hd : DAt w1 gd n emptyL) (hlo : w.heap.size ≤ gd) (hr : w2.heap[r]? = some (.cells (rcells n emptyL) 9 (0, 0))) (hrw : w1.heap.size ≤ r) (hg : w1.grownBy w2 none) :
    St w (w2.alloc (.cells #[.slice (some ⟨r, 0, none⟩) n n] 32)) n w2.heap.size r gd emptyL := by
  have h1 : w.heap.size ≤ w2.heap.size := Nat.le_trans hb.size hg.size
  refine ⟨(hb.grown hg hb.size (by intro k e; cases e)).alloc h1 _, (DAt.of_block hd (hg.block _ (row_lt hd.blk) (by simp))).alloc _, ⟨heap_alloc_new w2 _, ?_, hd.n8, hd.sz⟩, hlo, Nat.le_trans hb.size hrw⟩
  rw [Below.heap_alloc _ _ _ (row_lt hr)]
  exact hr
end Go.Proofs.Ytbjapcikmpoehaa.lawDiskPlays
