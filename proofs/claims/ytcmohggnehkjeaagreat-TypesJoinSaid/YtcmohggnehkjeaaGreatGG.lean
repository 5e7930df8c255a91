/-
  The landed package fresh: types in new memory.
  The landed package fresh: names in new memory.
  The landed package fresh: types in new memory.
  The landed package types: insist, equal names; steps of types in boxes.
  The landed package types: join.
-/
import Derived.Test.YtcmohggnehkjeaaGreatGE
import Derived.Test.YtcmohggnehkjeaaGreatGA
import Derived.Lib.BufferWrite
import Derived.Lib.UnsafeStr
import Derived.OwnWalk
import Derived.Laws.AppendOwnNone
import Derived.Laws.OwnMore
namespace Go.Proofs.YtcmohggnehkjeaaGreat
open Go.RowKit

theorem info5s : (Tryz.prog.info? 5).map (·.size) = some 1 := by kernel_rfl
theorem cells5 : Tryz.prog.cellsOf 5 = 1 := by kernel_rfl
theorem clone_0 (w : World) : Calls Tryz.prog 157 #[.string ⟨#[]⟩] w fun e w' => e = .returned (.string ⟨#[]⟩) ∧ w = w' := by
  go_enter Tryz.func157, Tryz.ntmps157
  go_wp2_with fail
  go_ret
  exact ⟨rfl, rfl⟩
theorem cbytes_len (s : ByteArray) : s.data.toList.length = s.size := by rw [Array.length_toList]; rfl
theorem cbytes_str (s : ByteArray) : (⟨s.data.toList.toArray⟩ : ByteArray) = s := by cases s; simp
set_option maxRecDepth 20000 in
set_option maxHeartbeats 1000000 in
theorem clone_any {s : ByteArray} (h : s.size ≤ 1000000000) (w : World) : Calls Tryz.prog 157 #[.string s] w fun e w' => e = .returned (.string s) ∧ Below w.heap.size w w' := by
  by_cases h0 : s.size = 0
  · have e : s = ⟨#[]⟩ := by
      apply ByteArray.ext
      exact Array.eq_empty_of_size_eq_zero h0
    subst e
    exact (clone_0 w).mono fun e w' ⟨h1, h2⟩ => ⟨h1, h2 ▸ Below.refl _ _⟩
  · have t0 : ((s.size : Int) == 0) = false := by rw [beq_eq_false_iff_ne]; omega
    obtain ⟨i0, hi, hz0, hz1, hz2⟩ := info_parts info5
    have H0 := Lib.hid h0
    clear h0
    go_enter Tryz.func157, Tryz.ntmps157
    go_wp2_with (at_make; refine wpList_make_full _ rfl (.tmp 8) (.tmp 8) 199 rfl w.heap.size 5 i0 (.int .u8 0) 1 Tryz.underlying199 hi hz0 hz1 .i64 .i64 _ _ s.size rfl rfl rfl rfl (by rw [hz2]; omega) (by unfold maxLen; omega) (Nat.le_refl _) ?_; intro w1 hown hgrow; refine Hid.out ?_)
    refine Lib.hid ?_
    have hb1 : Below w.heap.size w w1 := (Below.refl _ _).grown hgrow (Nat.le_refl _) (fun k h => by cases h)
    have hpos : 0 < s.size := by have := H0.out; omega
    obtain ⟨cur, hg, hcur⟩ : ∃ cur, w1.heap[w.heap.size]? = some (.cells cur 5 (0, 0)) ∧ cur.size = s.size := by
      rcases hown.2 with ⟨hv, _⟩ | ⟨g, cap, cur, hv, _, hh, _, _, hs, _⟩
      · cases hv
      · injection hv with h1 h2 h3
        injection h1 with h1
        injection h1 with h1
        subst h1 h3
        exact ⟨cur, hh, by omega⟩
    have hcp := fun ty => Lib.run_copy_row_string (P := Tryz.prog) w1 199 9 ty 5 w.heap.size 0 s.size s.size s cur 5 Tryz.underlying199 info5s hg (Nat.le_refl _) (by omega)
    have hrow : (cur.toList.take 0 ++ Lib.byteCells s.data.toList ++ cur.toList.drop (0 + s.size)).toArray = (Lib.byteCells s.data.toList).toArray := by
      rw [List.drop_of_length_le (by rw [Array.length_toList]; omega)]; simp
    rw [hrow] at hcp
    obtain ⟨w2, hw2⟩ : ∃ w2, w2 = w1.setRow w.heap.size (Lib.byteCells s.data.toList).toArray := ⟨_, rfl⟩
    rw [← hw2] at hcp
    have hh2 : w2.heap[w.heap.size]? = some (.cells (Lib.byteCells s.data.toList).toArray 5 (0, 0)) := by rw [hw2]; exact setRow_heap w1 _ cur _ 5 _ hg
    have hb2 : Below w.heap.size w w2 := by rw [hw2]; exact hb1.trans ⟨rfl, rfl, rfl, by simp [World.setRow], fun k hk => setRow_other w1 _ k _ (by omega)⟩
    have hsh : w2.shape? w.heap.size = some (5, s.size) := by simp [World.shape?, hh2, Lib.byteCells_length]
    have hun := fun ty => Lib.run_unsafeString_row (P := Tryz.prog) w2 200 3 ty 5 Tryz.underlying200 cells5 w.heap.size s.size hsh s.data.toList (by intro e; have := cbytes_len s; rw [e] at this; simp at this; omega) (by rw [cbytes_len]; exact Nat.le_refl _) (by rw [cbytes_len]; omega) (fun j x hx => by
      rw [Addr.add_lit, Nat.zero_add]
      have : (Lib.byteCells s.data.toList)[j]? = some (.int .u8 x.toNat) := by simp [Lib.byteCells, hx]
      simp [World.cell?, hh2, this])
    rw [cbytes_len, cbytes_str] at hun
    have HB2 := Lib.hid (Lib.below_freeze hb2 (p := ⟨w.heap.size, 0, none⟩) (Nat.le_refl _) s.size)
    clear hown hgrow hg hcur hrow hh2 hw2 hb1 hb2 hsh
    go_wp2_with fail
    go_ret
    exact ⟨rfl, HB2.out⟩
theorem Clone_any {s : ByteArray} (h : s.size ≤ 1000000000) (w : World) : Calls Tryz.prog 126 #[.string s] w fun e w' => e = .returned (.string s) ∧ Below w.heap.size w w' := by
  have C := clone_any h
  go_enter Tryz.func126, Tryz.ntmps126
  go_wp2_with (go_at_call 157; refine (C _).mono ?_; rintro e w1 ⟨rfl, hb1⟩)
  go_ret
  exact ⟨rfl, hb1⟩

/-- A type by value, in blocks that meet Q; a slice that is none has no room. -/
inductive TW (w : World) (Q : Nat → Prop) : Array Value → TT → Prop
  | mk (k : Int) (A : Option Addr) (c ca : Nat) (B : Option Addr) (m cb : Nat) (ns : Nat → ByteArray) (xs : Nat → TT) (vs : Nat → Array Value)
      (hk : -9223372036854775808 ≤ k ∧ k ≤ 9223372036854775807) (hc : c ≤ ca ∧ ca ≤ maxLen) (hm : m ≤ cb ∧ cb ≤ maxLen) (hA : A = none → ca = 0) (hB0 : B = none → cb = 0)
      (hns : 0 < c → ∃ g o, A = some ⟨g, o, none⟩ ∧ Q g ∧ g < w.heap.size ∧ ∀ i, i < c → w.cell? ⟨g, o + i, none⟩ = some (.string (ns i)) ∧ (ns i).size ≤ maxLen)
      (hB : 0 < m → ∃ g o, B = some ⟨g, o, none⟩ ∧ Q g ∧ g < w.heap.size ∧ ∀ i, i < m → ThreeAt w g (o + i * 3) (vs i))
      (hxs : ∀ i, i < m → TW w Q (vs i) (xs i)) :
      TW w Q (tfields k A c ca B m cb) (.mk k c ns m xs)
theorem TW.val {w : World} {Q : Nat → Prop} {v : Array Value} {t : TT} (h : TW w Q v t) : TVal w w.heap.size v t := by
  induction h with
  | mk k A c ca B m cb ns xs vs hk hc hm hA hB0 hns hB hxs ih =>
    refine .mk k A c ca B m cb ns xs vs hk hc hm (fun h0 => ?_) (fun h0 => ?_) ih
    · obtain ⟨g, o, e, _, hg, hx⟩ := hns h0
      exact ⟨g, o, e, hg, hx⟩
    · obtain ⟨g, o, e, _, hg, hx⟩ := hB h0
      exact ⟨g, o, e, hg, hx⟩
theorem TW.keep {w w' : World} {Q : Nat → Prop} {v : Array Value} {t : TT} (h : TW w Q v t) (hs' : w.heap.size ≤ w'.heap.size) (hw : ∀ g, Q g → g < w.heap.size → w'.heap[g]? = w.heap[g]?) : TW w' Q v t := by
  have hc' : ∀ g o, Q g → g < w.heap.size → w'.cell? ⟨g, o, none⟩ = w.cell? ⟨g, o, none⟩ := fun g o h1 h2 => World.cell?_of_block (w := w) (a := ⟨g, o, none⟩) (hw g h1 h2)
  induction h with
  | mk k A c ca B m cb ns xs vs hk hc hm hA hB0 hns hB hxs ih =>
    refine .mk k A c ca B m cb ns xs vs hk hc hm hA hB0 (fun h0 => ?_) (fun h0 => ?_) ih
    · obtain ⟨g, o, e, hl, hg, hx⟩ := hns h0
      exact ⟨g, o, e, hl, by omega, fun i hi => ⟨(hc' _ _ hl hg).trans (hx i hi).1, (hx i hi).2⟩⟩
    · obtain ⟨g, o, e, hl, hg, hx⟩ := hB h0
      exact ⟨g, o, e, hl, by omega, fun i hi j hj => (hc' _ _ hl hg).trans (hx i hi j hj)⟩
theorem TW.stay {w w' : World} {Q : Nat → Prop} {v : Array Value} {t : TT} (h : TW w Q v t) (hb : Below w.heap.size w w') : TW w' Q v t := h.keep hb.size fun g _ hg => hb.block g hg
theorem TW.imp {w : World} {P Q : Nat → Prop} {v : Array Value} {t : TT} (h : TW w P v t) (hi : ∀ g, P g → g < w.heap.size → Q g) : TW w Q v t := by
  induction h with
  | mk k A c ca B m cb ns xs vs hk hc hm hA hB0 hns hB hxs ih =>
    refine .mk k A c ca B m cb ns xs vs hk hc hm hA hB0 (fun h0 => ?_) (fun h0 => ?_) ih
    · obtain ⟨g, o, e, hl, hg, hx⟩ := hns h0
      exact ⟨g, o, e, hi g hl hg, hg, hx⟩
    · obtain ⟨g, o, e, hl, hg, hx⟩ := hB h0
      exact ⟨g, o, e, hi g hl hg, hg, hx⟩
theorem TW.form {w : World} {Q : Nat → Prop} {v : Array Value} {t : TT} (h : TW w Q v t) : ∃ k A c ca B m cb, v = #[.int .i64 k, .slice A c ca, .slice B m cb] := by
  cases h; exact ⟨_, _, _, _, _, _, _, rfl⟩
/-- Not too great to be copied. -/
def tfew : TT → Prop
  | .bad => False
  | .mk _ c ns m xs => c ≤ 1000 ∧ m ≤ 1000 ∧ (∀ i, i < c → (ns i).size ≤ 1000) ∧ ∀ i, i < m → tfew (xs i)

/-- A list copied behind nothing. -/
theorem app_copy {ops : Array Oper} {rest : List Oper} {o : Oper} {a : Act} {w : World} {Q : Exit → Act → World → Prop} (hgd : o.guard = none) (s x : Operand) (t e : TypeId)
    (ho : o.op = .call { callee := .builtin .append, args := #[s, x], argTypes := #[t, t] }) (i : TypeInfo) (z : Value) (size bytes : Nat) (ht : Tryz.prog.underlying t = some (.slice e)) (hi : Tryz.prog.info? e = some i) (hz : i.zero = some z)
    (hsize : i.size = size) (hby : i.bytes = bytes) (hzs : z.cells.size = size) (hsz : 0 < size) (A : Option Addr) (n c : Nat) (L : List Value) (hs : a.eval s = .slice none 0 0) (hx : a.eval x = .slice A n c) (hA0 : A = none → n = 0 ∧ c = 0) (hl : L.length = n * size)
    (hcell : 0 < n → ∃ g o, A = some ⟨g, o, none⟩ ∧ ∀ (j : Nat) u, L[j]? = some u → w.cell? ⟨g, o + j, none⟩ = some u) (h1 : ∀ u ∈ L, u.oneCell' = true) (h63 : n ≤ maxLen) (hbytes : n * bytes ≤ 140737488355328)
    (h : ∀ v' w', w'.ownsRow w.heap.size e size v' n L → w.grownBy w' none → wpList Tryz.prog ops Q rest (a.put o.dst v') w') : wpList Tryz.prog ops Q (o :: rest) a w := by
  cases A with
  | none =>
    obtain ⟨rfl, rfl⟩ := hA0 rfl
    have hL : L = [] := List.length_eq_zero_iff.1 (by rw [hl, Nat.zero_mul])
    subst hL
    have hown := World.ownsRow_nil w w.heap.size e size
    have hrun := run_append_owned_none (P := Tryz.prog) (w := w) w.heap.size t o.type e i size ht hi (.slice none 0 0) 0 [] hown
    refine wpList_plain hgd fun K hK => ?_
    unfold Oper.wp
    simp [execOp, ho, resolve, invoke, builtin, hs, hx, hrun, Result.andThen]
    exact hK _ _ (h _ w hown ⟨rfl, rfl, rfl, Nat.le_refl _, fun _ _ _ => rfl⟩)
  | some ad =>
    refine wpList_append_own w hgd s x t ho w.heap.size e i z size bytes ht hi hz hsize hby hzs hsz (.slice none 0 0) 0 [] hs (World.ownsRow_nil _ _ _ _) ad n c L hx hl ?_ h1 (by omega) (by rw [Nat.zero_add]; exact hbytes) (Nat.le_refl _) ?_
    · intro j u hu
      have hj := (List.getElem?_eq_some_iff.1 hu).1
      have hn : 0 < n := by
        rcases Nat.eq_zero_or_pos n with rfl | hp
        · rw [hl, Nat.zero_mul] at hj; omega
        · exact hp
      obtain ⟨g, o, e, hc⟩ := hcell hn
      cases e
      rw [add_plain]
      exact hc j u hu
    · intro v' w' h2 h3 _
      rw [Nat.zero_add, List.nil_append] at h2
      exact h v' w' h2 h3
theorem infoS : (Tryz.prog.info? 9).map (fun i => (i.zero, i.size, i.bytes)) = some (some (.string ⟨#[]⟩), 1, 16) := by kernel_rfl
theorem infoT : (Tryz.prog.info? 25).map (fun i => (i.zero, i.size, i.bytes)) = some (some (.agg #[.int .i64 0, .slice none 0 0, .slice none 0 0]), 3, 56) := by kernel_rfl
end Go.Proofs.YtcmohggnehkjeaaGreat
namespace Go.Proofs.YtcmohggnehkjeaaGreat
open Go.RowKit

def updF (F : Nat → Value) (j : Nat) (u : Value) : Nat → Value := fun q => if q = j then u else F q
theorem range_set (F : Nat → Value) (n j : Nat) (u : Value) : ((List.range n).map F).set j u = (List.range n).map (updF F j u) := by
  apply List.ext_getElem?
  intro i
  rw [List.getElem?_set]
  by_cases h : j = i
  · subst h
    by_cases hj : j < n
    · simp [hj, updF]
    · simp [hj]
  · rw [if_neg h]
    by_cases hi : i < n
    · simp [hi, updF, Ne.symm h]
    · simp [hi]
theorem range_at (F : Nat → Value) {n i : Nat} (h : i < n) : ((List.range n).map F)[i]? = some (F i) := by simp [h]
/-- Names, a row of the call's own. -/
def NamesAt (w : World) (Q : Nat → Prop) (A : Option Addr) (c : Nat) (ns : Nat → ByteArray) : Prop :=
  0 < c → ∃ g o, A = some ⟨g, o, none⟩ ∧ Q g ∧ g < w.heap.size ∧ ∀ i, i < c → w.cell? ⟨g, o + i, none⟩ = some (.string (ns i)) ∧ (ns i).size ≤ maxLen
theorem NamesAt.stay {w w' : World} {Q : Nat → Prop} {A : Option Addr} {c : Nat} {ns : Nat → ByteArray} (h : NamesAt w Q A c ns) (hb : Below w.heap.size w w') : NamesAt w' Q A c ns := fun h0 => by
  obtain ⟨g, o, e, hq, hg, hx⟩ := h h0
  exact ⟨g, o, e, hq, Nat.lt_of_lt_of_le hg hb.size, fun i hi => ⟨(hb.cell (p := ⟨g, o + i, none⟩) hg).trans (hx i hi).1, (hx i hi).2⟩⟩
theorem owns_form1 {w : World} {base : Nat} {e : TypeId} {size : Nat} {v : Value} {n : Nat} {xs : List Value} (h : w.ownsRow base e size v n xs) : ∃ A cap, v = .slice A n cap ∧ n ≤ cap ∧ cap ≤ maxLen ∧ (0 < n → ∃ g, A = some ⟨g, 0, none⟩) := by
  rcases h.2 with ⟨rfl, rfl⟩ | ⟨g, cap, cur, rfl, hg, hh, hn, hm, hc, ht⟩
  · exact ⟨none, 0, rfl, Nat.le_refl _, Nat.zero_le _, fun h => absurd h (Nat.lt_irrefl 0)⟩
  · exact ⟨_, cap, rfl, hn, hm, fun _ => ⟨g, rfl⟩⟩
set_option maxRecDepth 20000 in
set_option maxHeartbeats 2000000 in
theorem each_str {w : World} {A : Option Addr} {c ca : Nat} {ns : Nat → ByteArray} {Q : Nat → Prop} (hS : NamesAt w Q A c ns) (hA : A = none → c = 0 ∧ ca = 0) (hc : c ≤ 1000) (hz : ∀ i, i < c → (ns i).size ≤ 1000) :
    Calls Tryz.prog 147 #[.slice A c ca, .func (.func 126) #[] #[]] w fun e w' => ∃ A' ca', e = .returned (.slice A' c ca') ∧ c ≤ ca' ∧ ca' ≤ maxLen ∧ (A' = none → ca' = 0) ∧ NamesAt w' (fun g => w.heap.size ≤ g) A' c ns ∧ Below w.heap.size w w' := by
  obtain ⟨i9, hi9, hy0, hy1, hy2⟩ := info_parts infoS
  have HS := Lib.hid hS
  have HZ := Lib.hid hz
  have HA := Lib.hid hA
  have hcx : c ≤ 9223372036854775807 := by omega
  clear hS hz hA
  go_enter Tryz.func147, Tryz.ntmps147
  go_wp2_with (at_builtin; refine app_copy rfl _ _ 22 9 rfl i9 (.string ⟨#[]⟩) 1 16 Tryz.underlying22 hi9 hy0 hy1 hy2 rfl (by decide) A c ca ((List.range c).map fun i => .string (ns i)) rfl rfl HA.out (by simp) (fun h0 => ?_) (by simp; intro i _; rfl) (by unfold maxLen; omega) (by omega) ?_)
  · obtain ⟨g, o, e, _, _, hx⟩ := HS.out h0
    refine ⟨g, o, e, fun j u hu => ?_⟩
    have hj := (List.getElem?_eq_some_iff.1 hu).1
    simp at hj
    rw [range_at _ hj] at hu
    cases hu
    exact (hx j hj).1
  intro v1 w1 hown hgrow
  refine Hid.out ?_
  refine Lib.hid ?_
  obtain ⟨A1, cap, rfl, hc1, hc2, hA1⟩ := owns_form1 hown
  have hb1 : Below w.heap.size w w1 := (Below.refl _ _).grown hgrow (Nat.le_refl _) (fun k e => by cases e)
  have HO := Lib.hid hown
  have HB1 := Lib.hid hb1
  clear hown hgrow hb1
  go_wp2_with fail
  go_loopw [12] (fun iv wr => ∃ i : Nat, i ≤ c ∧ iv = .int .i64 i ∧ Hid (wr.ownsRow w.heap.size 9 1 (.slice A1 c cap) c ((List.range c).map fun i => .string (ns i)) ∧ Below w.heap.size w wr)) (fun iv _ => c - (intOf iv).toNat)
  case atStart => exact ⟨0, Nat.zero_le _, rfl, Lib.hid ⟨HO.out, HB1.out⟩⟩
  case round =>
    obtain ⟨i, hi, rfl, hW⟩ := hrel
    clear HO HB1
    by_cases hlt : i < c
    · obtain ⟨g, rfl⟩ := hA1 (by omega)
      have hs0 : wr.cell? ⟨g, i, none⟩ = some (.string (ns i)) := by rw [hW.out.1.cellAt i (by omega), range_at _ hlt]
      have hg := hW.out.1.lt g rfl
      have C := Lib.hid (fun W => Clone_any (s := ns i) (by have := HZ.out i hlt; omega) W)
      have ti : (i : Int) < c := by omega
      have ti0 : (0 : Int) ≤ i := by omega
      go_wp2_with (go_at_call 126; refine (C.out _).mono ?_; rintro e w2 ⟨rfl, hb2⟩; have hO2 := hW.out.1.kept (w' := w2) (row := none) ⟨hb2.os, hb2.tape, hb2.output, hb2.size, fun k hk _ => hb2.block k hk⟩ (.inr (by simp [Value.ownBlock])); have q0 : w2.cell? ⟨g, i, none⟩ = some (.string (ns i)) := (by rw [hO2.cellAt i (by omega), range_at _ hlt]); have q1 := hO2.frozenAt i; have HB2 := Lib.hid (hW.out.2.trans (hb2.mono hW.out.2.size)); have HO2 := Lib.hid hO2; have hg2 := hO2.lt g rfl; clear hO2 hb2 hs0)
      have hst := HO2.out.stored i (.string (ns i))
      have hsame : ((List.range c).map fun i => Value.string (ns i)).set i (.string (ns i)) = (List.range c).map fun i => Value.string (ns i) := by
        rw [range_set]
        congr 1
        funext q
        unfold updF
        split
        · rename_i e; rw [e]
        · rfl
      rw [hsame] at hst
      have HF := Lib.hid (And.intro hst.1 (HB2.out.grown hst.2 HB2.out.size (fun k e => by cases e; exact hg.1)))
      clear hst hsame
      go_roundw
      case rel => exact ⟨i + 1, by omega, by go_num, HF⟩
      case measure => simp [intOf]; omega
    · go_wp2_with fail
      go_ret
      refine ⟨A1, cap, rfl, hc1, hc2, fun e => ?_, fun h0 => ?_, hW.out.2⟩
      · rcases hW.out.1.2 with ⟨h1, h2⟩ | ⟨g, cap', cur, h1, _⟩
        · cases h1; rfl
        · cases h1; cases e
      · obtain ⟨g, rfl⟩ := hA1 h0
        have hg := hW.out.1.lt g rfl
        refine ⟨g, 0, rfl, hg.1, hg.2, fun j hj => ⟨?_, by have := HZ.out j hj; unfold maxLen; omega⟩⟩
        rw [Nat.zero_add, hW.out.1.cellAt j (by omega), range_at _ hj]
theorem names_fresh {w : World} {A : Option Addr} {c ca : Nat} {ns : Nat → ByteArray} {Q : Nat → Prop} (hS : NamesAt w Q A c ns) (hA : A = none → c = 0 ∧ ca = 0) (hc : c ≤ 1000) (hz : ∀ i, i < c → (ns i).size ≤ 1000) :
    Calls Tryz.prog 111 #[.slice A c ca] w fun e w' => ∃ A' ca', e = .returned (.slice A' c ca') ∧ c ≤ ca' ∧ ca' ≤ maxLen ∧ (A' = none → ca' = 0) ∧ NamesAt w' (fun g => w.heap.size ≤ g) A' c ns ∧ Below w.heap.size w w' := by
  have C := Lib.hid (each_str hS hA hc hz)
  clear hS hA hz
  go_enter Tryz.func111, Tryz.ntmps111
  go_wp2_with (go_at_call 147; refine C.out.mono ?_; rintro e w1 ⟨A', ca', rfl, h⟩; have H := Lib.hid h; clear h)
  go_ret
  exact ⟨A', ca', rfl, H.out⟩
end Go.Proofs.YtcmohggnehkjeaaGreat
namespace Go.Proofs.YtcmohggnehkjeaaGreat
open Go.RowKit

/-- What fresh.Type answers. -/
def Fresh (t : TT) (w : World) (e : Ending) (w' : World) : Prop := ∃ v, e = .returned (.agg v) ∧ TW w' (fun g => w.heap.size ≤ g) v t ∧ Below w.heap.size w w'
def Freshens (t : TT) : Prop := ∀ (v : Array Value) (Q : Nat → Prop) (w : World), TW w Q v t → tfew t → Calls Tryz.prog 71 #[.agg v] w (Fresh t w)
/-- Types, one behind the other. -/
def TypesAt (w : World) (Q : Nat → Prop) (B : Option Addr) (m : Nat) (xs : Nat → TT) (vs : Nat → Array Value) : Prop :=
  (0 < m → ∃ g o, B = some ⟨g, o, none⟩ ∧ Q g ∧ g < w.heap.size ∧ ∀ i, i < m → ThreeAt w g (o + i * 3) (vs i)) ∧ ∀ i, i < m → TW w Q (vs i) (xs i)
/-- The row amid Each: the first i are new. -/
structure Mid (w wr : World) (B : Option Addr) (m cap i : Nat) (xs : Nat → TT) (F : Nat → Value) (vs : Nat → Array Value) : Prop where
  own : wr.ownsRow w.heap.size 25 3 (.slice B m cap) m ((List.range (m * 3)).map F)
  below : Below w.heap.size w wr
  done : ∀ q, q < i → ∃ u : Array Value, TW wr (fun g => w.heap.size ≤ g ∧ B ≠ some ⟨g, 0, none⟩) u (xs q) ∧ ∀ k, k < 3 → u[k]? = some (F (q * 3 + k))
  left : ∀ q, i ≤ q → q < m → ∀ k, k < 3 → (vs q)[k]? = some (F (q * 3 + k))
theorem TW.get {w : World} {Q : Nat → Prop} {v : Array Value} {t : TT} (h : TW w Q v t) {k : Nat} (hk : k < 3) : v[k]? = some (v.getD k undef) := by
  cases h
  match k, hk with
  | 0, _ | 1, _ | 2, _ => rfl
theorem Mid.step {w wr w2 : World} {g m cap i : Nat} {xs : Nat → TT} {F : Nat → Value} {vs : Nat → Array Value} (h : Mid w wr (some ⟨g, 0, none⟩) m cap i xs F vs) (hi : i < m) {W : World} (hb : Below wr.heap.size wr w2) {a0 a1 a2 : Value}
    (hu : TW w2 (fun b => wr.heap.size ≤ b) #[a0, a1, a2] (xs i)) (hW : W = ((w2.setCell ⟨g, i * 3, none⟩ a0).setCell ⟨g, i * 3 + 1, none⟩ a1).setCell ⟨g, i * 3 + 2, none⟩ a2) :
    Mid w W (some ⟨g, 0, none⟩) m cap (i + 1) xs (updF (updF (updF F (i * 3) a0) (i * 3 + 1) a1) (i * 3 + 2) a2) vs := by
  have hg := h.own.lt g rfl
  have hO2 := h.own.kept (w' := w2) (row := none) ⟨hb.os, hb.tape, hb.output, hb.size, fun k hk _ => hb.block k hk⟩ (.inr (by simp [Value.ownBlock]))
  have s0 := hO2.stored (i * 3) a0
  have s1 := s0.1.stored (i * 3 + 1) a1
  have s2 := s1.1.stored (i * 3 + 2) a2
  rw [← hW] at s2
  have hk : ∀ k, k ≠ g → W.heap[k]? = w2.heap[k]? := fun k hk => by
    rw [hW, Below.heap_setCell _ _ _ _ (by simpa using hk), Below.heap_setCell _ _ _ _ (by simpa using hk), Below.heap_setCell _ _ _ _ (by simpa using hk)]
  have hsz : W.heap.size = w2.heap.size := by rw [hW]; simp [World.setCell]
  have hb2 := h.below.trans (hb.mono h.below.size)
  refine ⟨?_, ?_, fun q hq => ?_, fun q hq hm k hk' => ?_⟩
  · rw [← range_set, ← range_set, ← range_set]
    exact s2.1
  · exact ⟨by rw [hW]; exact hb2.os, by rw [hW]; exact hb2.tape, by rw [hW]; exact hb2.output, by rw [hsz]; exact hb2.size, fun k hlt => (hk k (by omega)).trans (hb2.block k hlt)⟩
  · by_cases e : q = i
    · subst e
      refine ⟨#[a0, a1, a2], ?_, fun k hk' => ?_⟩
      · refine (hu.keep (by omega) fun b hb' hl => hk b (by omega)).imp fun b hb' _ => ⟨by have := h.below.size; omega, fun e => ?_⟩
        injection e with e
        injection e with e
        omega
      · match k, hk' with
        | 0, _ => simp [updF]
        | 1, _ => simp [updF]
        | 2, _ => simp [updF]
    · obtain ⟨u, hu1, hu2⟩ := h.done q (by omega)
      refine ⟨u, hu1.keep (by rw [hsz]; exact hb.size) fun b hb' hl => (hk b (fun e => hb'.2 (by rw [e]))).trans (hb.block b hl), fun k hk' => ?_⟩
      rw [hu2 k hk']
      simp only [updF]
      rw [if_neg (by omega), if_neg (by omega), if_neg (by omega)]
  · rw [h.left q (by omega) hm k hk']
    simp only [updF]
    rw [if_neg (by omega), if_neg (by omega), if_neg (by omega)]
set_option maxRecDepth 20000 in
set_option maxHeartbeats 4000000 in
theorem each_typ {w : World} {B : Option Addr} {m cb : Nat} {xs : Nat → TT} {vs : Nat → Array Value} {Q : Nat → Prop} (hT : TypesAt w Q B m xs vs) (hB : B = none → m = 0 ∧ cb = 0) (hm : m ≤ 1000) (hf : ∀ i, i < m → Freshens (xs i)) (hz : ∀ i, i < m → tfew (xs i)) :
    Calls Tryz.prog 112 #[.slice B m cb, .func (.func 71) #[] #[]] w fun e w' => ∃ B' cb' vs', e = .returned (.slice B' m cb') ∧ m ≤ cb' ∧ cb' ≤ maxLen ∧ (B' = none → cb' = 0) ∧ TypesAt w' (fun g => w.heap.size ≤ g) B' m xs vs' ∧ Below w.heap.size w w' := by
  obtain ⟨iT, hiT, hy0, hy1, hy2⟩ := info_parts infoT
  have HT := Lib.hid hT
  have HF := Lib.hid hf
  have HZ := Lib.hid hz
  have HA := Lib.hid hB
  have hcx : m ≤ 9223372036854775807 := by omega
  obtain ⟨F0, hF0⟩ : ∃ F0 : Nat → Value, ∀ q, q < m → ∀ k, k < 3 → (vs q)[k]? = some (F0 (q * 3 + k)) := by
    refine ⟨fun j => (vs (j / 3)).getD (j % 3) undef, fun q hq k hk => ?_⟩
    show (vs q)[k]? = some ((vs ((q * 3 + k) / 3)).getD ((q * 3 + k) % 3) undef)
    rw [show (q * 3 + k) / 3 = q by omega, show (q * 3 + k) % 3 = k by omega]
    exact (hT.2 q hq).get hk
  have HF0 := Lib.hid hF0
  clear hT hf hz hB hF0
  go_enter Tryz.func112, Tryz.ntmps112
  go_wp2_with (at_builtin; refine app_copy rfl _ _ 23 25 rfl iT (.agg #[.int .i64 0, .slice none 0 0, .slice none 0 0]) 3 56 Tryz.underlying23 hiT hy0 hy1 hy2 rfl (by decide) B m cb ((List.range (m * 3)).map F0) rfl rfl HA.out (by simp) (fun h0 => ?_) (fun u hu => ?_) (by unfold maxLen; omega) (by omega) ?_)
  · obtain ⟨g, o, e, _, _, hx⟩ := HT.out.1 h0
    refine ⟨g, o, e, fun j u hu => ?_⟩
    have hj := (List.getElem?_eq_some_iff.1 hu).1
    simp at hj
    rw [range_at _ hj] at hu
    cases hu
    have h1 := hx (j / 3) (by omega) (j % 3) (by omega)
    have h2 := HF0.out (j / 3) (by omega) (j % 3) (by omega)
    rw [show o + j / 3 * 3 + j % 3 = o + j by omega] at h1
    rw [h1, h2, show j / 3 * 3 + j % 3 = j by omega]
  · simp only [List.mem_map, List.mem_range] at hu
    obtain ⟨j, hj, rfl⟩ := hu
    have h2 := HF0.out (j / 3) (by omega) (j % 3) (by omega)
    rw [show j / 3 * 3 + j % 3 = j by omega] at h2
    obtain ⟨k', A', c', ca', B', m', cb', e⟩ := (HT.out.2 (j / 3) (by omega)).form
    rw [e] at h2
    have h3 : j % 3 = 0 ∨ j % 3 = 1 ∨ j % 3 = 2 := by omega
    rcases h3 with h3 | h3 | h3 <;> (rw [h3] at h2; simp at h2; rw [← h2]; rfl)
  intro v1 w1 hown hgrow
  refine Hid.out ?_
  refine Lib.hid ?_
  obtain ⟨B1, cap, rfl, hc1, hc2, hB1⟩ := owns_form1 hown
  have hM : Mid w w1 B1 m cap 0 xs F0 vs := ⟨hown, (Below.refl _ _).grown hgrow (Nat.le_refl _) (fun k e => by cases e), fun q hq => absurd hq (Nat.not_lt_zero q), fun q _ hq => HF0.out q hq⟩
  have HM := Lib.hid hM
  clear hown hgrow hM
  go_wp2_with fail
  go_loopw [12] (fun iv wr => ∃ (i : Nat) (F : Nat → Value), i ≤ m ∧ iv = .int .i64 i ∧ Hid (Mid w wr B1 m cap i xs F vs)) (fun iv _ => m - (intOf iv).toNat)
  case atStart => exact ⟨0, F0, Nat.zero_le _, rfl, HM⟩
  case round =>
    obtain ⟨i, F, hi, rfl, hW⟩ := hrel
    clear HM
    by_cases hlt : i < m
    · obtain ⟨g, rfl⟩ := hB1 (by omega)
      have hg := hW.out.own.lt g rfl
      have hti := (HT.out.2 i hlt).stay hW.out.below
      have hl := hW.out.left i (Nat.le_refl _) hlt
      generalize vs i = vi at hti hl
      obtain ⟨k', A', c', ca', B', m', cb', rfl⟩ := hti.form
      have l0 := hl 0 (by omega)
      have l1 := hl 1 (by omega)
      have l2 := hl 2 (by omega)
      simp at l0 l1 l2
      have c0 : wr.cell? ⟨g, i * 3, none⟩ = some (.int .i64 k') := by rw [hW.out.own.cellAt (i * 3) (by omega), range_at _ (by omega), ← l0]
      have c1 : wr.cell? ⟨g, i * 3 + 1, none⟩ = some (.slice A' c' ca') := by rw [hW.out.own.cellAt (i * 3 + 1) (by omega), range_at _ (by omega), ← l1]
      have c2 : wr.cell? ⟨g, i * 3 + 2, none⟩ = some (.slice B' m' cb') := by rw [hW.out.own.cellAt (i * 3 + 2) (by omega), range_at _ (by omega), ← l2]
      have hbx : Below wr.heap.size wr (wr.alloc (.cells #[.int .i64 k', .slice A' c' ca', .slice B' m' cb'] 25)) := (Below.refl _ _).alloc (Nat.le_refl _) _
      have C := Lib.hid (HF.out i hlt _ _ _ (hti.stay hbx) (HZ.out i hlt))
      have HBX := Lib.hid hbx
      have ti : (i : Int) < m := by omega
      have ti0 : (0 : Int) ≤ i := by omega
      clear hti hl l0 l1 l2 hbx
      go_wp2_with (go_at_call 71; refine C.out.mono ?_; rintro e w2 ⟨u, rfl, hu, hb2⟩; refine Hid.out ?_)
      refine Lib.hid ?_
      obtain ⟨k2, A2, cc2, ca2, B2, m2, cb2, rfl⟩ := hu.form
      have hb3 := HBX.out.trans (hb2.mono HBX.out.size)
      have hO2 := hW.out.own.kept (w' := w2) (row := none) ⟨hb3.os, hb3.tape, hb3.output, hb3.size, fun k hk _ => hb3.block k hk⟩ (.inr (by simp [Value.ownBlock]))
      have hst := Lib.hid (hW.out.step hlt (W := _) hb3 (hu.imp fun b hb' _ => Nat.le_trans HBX.out.size hb') rfl)
      have n0 : ∃ x, w2.cell? ⟨g, i * 3, none⟩ = some x := ⟨_, by rw [hO2.cellAt (i * 3) (by omega), range_at _ (by omega)]⟩
      have n1 : ∃ x, w2.cell? ⟨g, i * 3 + 1, none⟩ = some x := ⟨_, by rw [hO2.cellAt (i * 3 + 1) (by omega), range_at _ (by omega)]⟩
      have n2 : ∃ x, w2.cell? ⟨g, i * 3 + 2, none⟩ = some x := ⟨_, by rw [hO2.cellAt (i * 3 + 2) (by omega), range_at _ (by omega)]⟩
      obtain ⟨x0, n0⟩ := n0
      obtain ⟨x1, n1⟩ := n1
      obtain ⟨x2, n2⟩ := n2
      have nf := hO2.frozenAt
      have hg2 := (hO2.lt g rfl).2
      clear hu hb2 hb3 hO2 c0 c1 c2 C HBX
      go_wp2_with fail
      go_roundw
      case rel => exact ⟨i + 1, _, by omega, by go_num, hst⟩
      case measure => simp [intOf]; omega
    · have hend : i = m := by omega
      subst hend
      go_wp2_with fail
      go_ret
      have hM := hW.out
      obtain ⟨vs', hvs⟩ : ∃ vs' : Nat → Array Value, ∀ q, q < i → TW wr (fun g => w.heap.size ≤ g ∧ B1 ≠ some ⟨g, 0, none⟩) (vs' q) (xs q) ∧ ∀ k, k < 3 → (vs' q)[k]? = some (F (q * 3 + k)) :=
        ⟨fun q => if h : q < i then (hM.done q h).choose else #[], fun q hq => by simp only [dif_pos hq]; exact (hM.done q hq).choose_spec⟩
      refine ⟨B1, cap, vs', rfl, hc1, hc2, fun e => ?_, ⟨fun h0 => ?_, fun q hq => (hvs q hq).1.imp fun b hb' _ => hb'.1⟩, hM.below⟩
      · rcases hM.own.2 with ⟨h1, h2⟩ | ⟨g, cap', cur, h1, _⟩
        · cases h1; rfl
        · cases h1; cases e
      · obtain ⟨g, rfl⟩ := hB1 h0
        have hg := hM.own.lt g rfl
        refine ⟨g, 0, rfl, hg.1, hg.2, fun q hq k hk => ?_⟩
        rw [Nat.zero_add, hM.own.cellAt (q * 3 + k) (by omega), range_at _ (by omega), (hvs q hq).2 k hk]
theorem info25s : (Tryz.prog.info? 25).map (·.size) = some 3 := by kernel_rfl
/-- A box of one type. -/
def TB (w : World) (R : Nat) (v : Array Value) : Prop := w.heap[R]? = some (.cells v 25 (0, 0))
theorem TB.lt {w : World} {R : Nat} {v : Array Value} (h : TB w R v) : R < w.heap.size := (Array.getElem?_eq_some_iff.1 h).1
theorem TB.of {w w' : World} {R : Nat} {v : Array Value} (h : TB w R v) (he : w'.heap[R]? = w.heap[R]?) : TB w' R v := he.trans h
theorem TB.below {w w' : World} {R : Nat} {v : Array Value} (h : TB w R v) (hb : Below w.heap.size w w') : TB w' R v := h.of (hb.block R h.lt)
theorem TB.new (w : World) (v : Array Value) : TB (w.alloc (.cells v 25)) w.heap.size v := heap_alloc_new w _
theorem TB.cells {w : World} {R : Nat} {a0 a1 a2 : Value} (h : TB w R #[a0, a1, a2]) : w.cell? ⟨R, 0, none⟩ = some a0 ∧ w.cell? ⟨R, 1, none⟩ = some a1 ∧ w.cell? ⟨R, 2, none⟩ = some a2 ∧ (∀ o, w.frozen? ⟨R, o, none⟩ = false) ∧ R < w.heap.size := by
  have hl := h.lt
  unfold TB at h
  refine ⟨?_, ?_, ?_, fun o => ?_, hl⟩
  all_goals first | (simp [World.cell?, h]; done) | (simp [World.frozen?, h]; done)
theorem TB.set {w : World} {R : Nat} {v : Array Value} (h : TB w R v) (o : Nat) (u : Value) : TB (w.setCell ⟨R, o, none⟩ u) R (v.setIfInBounds o u) := by
  unfold TB at *
  simp [World.setCell, Array.getElem?_modify, h]
theorem results_typ {fn : Func} {p : Tmp} (h : fn.results = #[.cell p 25]) (tmps : Array Value) (w : World) (R : Nat) (v : Array Value) (hp : tmps.getD p undef = .pointer (some ⟨R, 0, none⟩)) (hg : TB w R v) (hv : v.size = 3) :
    (results fn tmps).run Tryz.prog w = .ok (.agg v) w :=
  results_cell_row h tmps w R 25 v (0, 0) _ hp hg Tryz.underlying25 rfl (by rw [info25s, hv])
set_option maxRecDepth 20000 in
set_option maxHeartbeats 4000000 in
theorem fresh_typ : ∀ t, Freshens t := by
  intro t
  induction t with
  | bad => intro v Q w hv; cases hv
  | mk k c ns m xs ih =>
    intro v Q w hv hf
    unfold tfew at hf
    obtain ⟨hc1, hm1, hns1, hxs1⟩ := hf
    cases hv with
    | mk _ A _ ca B _ cb _ _ vs hk hc hm hA hB0 hns hB hxs =>
      have hb0 : Below w.heap.size w ((w.alloc (.cells (tfields k A c ca B m cb) 25)).alloc (.cells #[.int .i64 0, .slice none 0 0, .slice none 0 0] 25)) := ((Below.refl _ _).alloc (Nat.le_refl _) _).alloc (by simp) _
      obtain ⟨W0, hW0⟩ : ∃ W, W = (w.alloc (.cells (tfields k A c ca B m cb) 25)).alloc (.cells #[.int .i64 0, .slice none 0 0, .slice none 0 0] 25) := ⟨_, rfl⟩
      rw [← hW0] at hb0
      have hz0 : W0.heap.size = w.heap.size + 2 := by rw [hW0]; simp
      have t1 : TB W0 w.heap.size (tfields k A c ca B m cb) := by rw [hW0]; exact (TB.new w _).of (Below.heap_alloc _ _ _ (by simp))
      have t2 : TB W0 (w.heap.size + 1) #[.int .i64 0, .slice none 0 0, .slice none 0 0] := by
        rw [hW0]
        have := TB.new (w.alloc (.cells (tfields k A c ca B m cb) 25)) #[.int .i64 0, .slice none 0 0, .slice none 0 0]
        rw [World.size_alloc] at this
        exact this
      have hN : NamesAt w Q A c ns := hns
      have C := Lib.hid (names_fresh (hN.stay hb0) (fun e => ⟨by have := hA e; omega, hA e⟩) hc1 hns1)
      have hT : TypesAt w Q B m xs vs := ⟨hB, hxs⟩
      have HT := Lib.hid hT
      have D := Lib.hid (fun (W : World) (hb : Below w.heap.size w W) => each_typ (Q := Q) (w := W) (B := B) (cb := cb) (vs := vs) ⟨fun h0 => by
          obtain ⟨g, o, e, hq, hg, hx⟩ := HT.out.1 h0
          exact ⟨g, o, e, hq, Nat.lt_of_lt_of_le hg hb.size, fun i hi => (hx i hi).keep fun o => hb.cell (p := ⟨g, o, none⟩) hg⟩, fun i hi => (HT.out.2 i hi).stay hb⟩ (fun e => ⟨by have := hB0 e; omega, hB0 e⟩) hm1 (fun i _ => ih i) hxs1)
      have HB0 := Lib.hid hb0
      have HZ0 := Lib.hid hz0
      have T2 := Lib.hid t2
      have T1 := Lib.hid t1
      have KK := Lib.hid hk
      unfold tfields at *
      obtain ⟨x0, x1, x2, xf, xl⟩ := t1.cells
      clear hN hT hns hB hxs hA hB0 hc hm ih hns1 hxs1 t1 t2 hb0 hk
      go_enter Tryz.func71, Tryz.ntmps71
      go_wp2_with fail
      rw [← hW0]
      clear hW0
      go_wp2_with (go_at_call 111; refine C.out.mono ?_; rintro e w1 ⟨A1, ca1, rfl, hca, hmx, hA1, hN1, hb1⟩; refine Hid.out ?_)
      refine Lib.hid ?_
      have t11 := T1.out.below hb1
      have t21 := T2.out.below hb1
      have t1s := t11.set 1 (.slice A1 c ca1)
      have t2s := t21.of (w' := w1.setCell ⟨w.heap.size, 1, none⟩ (.slice A1 c ca1)) (Below.heap_setCell _ _ _ _ (by simp))
      have hb2 : Below w.heap.size w (w1.setCell ⟨w.heap.size, 1, none⟩ (.slice A1 c ca1)) := below_set (HB0.out.trans (hb1.mono HB0.out.size)) (Nat.le_refl _)
      have hN2 : NamesAt (w1.setCell ⟨w.heap.size, 1, none⟩ (.slice A1 c ca1)) (fun g => w.heap.size + 2 ≤ g) A1 c ns := fun h0 => by
        obtain ⟨g, o, e, hq, hg, hx⟩ := hN1 h0
        have hz := HZ0.out
        refine ⟨g, o, e, by omega, by simpa [World.setCell] using hg, fun i hi => ⟨?_, (hx i hi).2⟩⟩
        rw [← (hx i hi).1]
        exact World.cell?_of_block (w := w1) (a := ⟨g, o + i, none⟩) (Below.heap_setCell _ _ _ _ (by simp; omega))
      have HS := Lib.hid (And.intro t1s (And.intro t2s (And.intro hb2 hN2)))
      have HA1 := Lib.hid (And.intro hca (And.intro hmx hA1))
      obtain ⟨y0, y1, y2, yf, yl⟩ := t11.cells
      have HZ1 := Lib.hid (show w.heap.size + 2 ≤ w1.heap.size by have := hb1.size; have := HZ0.out; omega)
      clear x0 x1 x2 xf t11 t21 t1s t2s hb2 hN2 hN1 hb1 hca hmx hA1 C
      go_wp2_with (go_at_call 112; refine (D.out _ HS.out.2.2.1).mono ?_; rintro e w3 ⟨B1, cb1, vs1, rfl, hcb, hmb, hB1, hT1, hb3⟩; refine Hid.out ?_)
      refine Lib.hid ?_
      obtain ⟨t1s, t2s, hb2, hN2⟩ := HS.out
      have t13 := t1s.below hb3
      have t23 := t2s.below hb3
      have hN3 := hN2.stay hb3
      have hl3 := hb3.size
      have hz1 : (w1.setCell ⟨w.heap.size, 1, none⟩ (.slice A1 c ca1)).heap.size = w1.heap.size := by simp [World.setCell]
      rw [hz1] at hl3 hT1 hb3
      have t14 := t13.set 2 (.slice B1 m cb1)
      have t24 := t23.of (w' := w3.setCell ⟨w.heap.size, 2, none⟩ (.slice B1 m cb1)) (Below.heap_setCell _ _ _ _ (by simp))
      obtain ⟨u0, u1, u2, uf, ul⟩ := t13.cells
      obtain ⟨v0, v1, v2, vf, vl⟩ := TB.cells t24
      obtain ⟨wF, hwF⟩ : ∃ W, W = (((w3.setCell ⟨w.heap.size, 2, none⟩ (.slice B1 m cb1)).setCell ⟨w.heap.size + 1, 0, none⟩ (.int .i64 k)).setCell ⟨w.heap.size + 1, 1, none⟩ (.slice A1 c ca1)).setCell ⟨w.heap.size + 1, 2, none⟩ (.slice B1 m cb1) := ⟨_, rfl⟩
      have hF : TB wF (w.heap.size + 1) #[.int .i64 k, .slice A1 c ca1, .slice B1 m cb1] := by rw [hwF]; exact ((t24.set 0 _).set 1 _).set 2 _
      have hbF : Below w.heap.size w wF := by
        rw [hwF]
        have hb3' : Below w.heap.size w w3 := hb2.trans (hb3.mono (by have := HZ1.out; omega))
        exact below_set (below_set (below_set (below_set hb3' (Nat.le_refl _)) (Nat.le_succ _)) (Nat.le_succ _)) (Nat.le_succ _)
      have hkF : ∀ b, w.heap.size + 2 ≤ b → wF.heap[b]? = w3.heap[b]? := fun b hb => by
        rw [hwF, Below.heap_setCell _ _ _ _ (by simp; omega), Below.heap_setCell _ _ _ _ (by simp; omega), Below.heap_setCell _ _ _ _ (by simp; omega), Below.heap_setCell _ _ _ _ (by simp; omega)]
      have hszF : wF.heap.size = w3.heap.size := by rw [hwF]; simp [World.setCell]
      have hTF : TW wF (fun g => w.heap.size ≤ g) (tfields k A1 c ca1 B1 m cb1) (.mk k c ns m xs) := by
        have hzz := HZ1.out
        refine .mk k A1 c ca1 B1 m cb1 ns xs vs1 KK.out ⟨HA1.out.1, HA1.out.2.1⟩ ⟨hcb, hmb⟩ HA1.out.2.2 hB1 (fun h0 => ?_) (fun h0 => ?_) (fun i hi => ?_)
        · obtain ⟨g, o, e, hq, hg, hx⟩ := hN3 h0
          refine ⟨g, o, e, by omega, by omega, fun i hi => ⟨?_, (hx i hi).2⟩⟩
          rw [← (hx i hi).1]
          exact World.cell?_of_block (w := w3) (a := ⟨g, o + i, none⟩) (hkF g hq)
        · obtain ⟨g, o, e, hq, hg, hx⟩ := hT1.1 h0
          exact ⟨g, o, e, by omega, by omega, fun i hi => (hx i hi).keep fun o => World.cell?_of_block (w := w3) (a := ⟨g, o, none⟩) (hkF g (by omega))⟩
        · exact ((hT1.2 i hi).keep (by omega) fun g hg _ => hkF g (by omega)).imp fun g hg _ => by omega
      have HFIN := Lib.hid (And.intro hF (And.intro hTF hbF))
      clear t14 t24 t13 t23 hN3 hl3 hz1 hT1 hb3 hF hbF hkF hszF hTF t1s t2s hb2 hN2 HS HT D T1 T2
      have HW := Lib.hid hwF
      clear hwF
      go_wp2_with fail
      rw [← HW.out]
      exact bodyPost_ret (results_typ rfl _ _ (w.heap.size + 1) #[.int .i64 k, .slice A1 c ca1, .slice B1 m cb1] rfl HFIN.out.1 rfl) rfl ⟨_, rfl, HFIN.out.2.1, HFIN.out.2.2⟩
end Go.Proofs.YtcmohggnehkjeaaGreat
namespace Go.Proofs.YtcmohggnehkjeaaGreat
open Go.RowKit

/-- What the checker gives up with. -/
def gaveP (c : Int) : List PanicEntry := [{ v := .iface 104 (.agg #[.int .i64 c]), recovered := false }]
theorem tinsist_yes (w : World) : Calls Tryz.prog 72 #[.bool true] w fun e w' => e = .returned (.tuple #[]) ∧ w = w' := by
  go_enter Tryz.func72, Tryz.ntmps72
  go_wp2_with fail
  go_end0
  exact ⟨rfl, rfl⟩
theorem tinsist_no (w : World) : Calls Tryz.prog 72 #[.bool false] w fun e w' => e = .panicked (gaveP 6) ∧ w = w' := by
  unfold gaveP
  go_enter Tryz.func72, Tryz.ntmps72
  go_wp2_with fail
  exact ⟨rfl, rfl, rfl⟩
def nmEq (c c' : Nat) (ns ns' : Nat → ByteArray) : Bool := decide (c = c') && (List.range c).all (fun i => decide (ns i = ns' i))
theorem nmEq_iff {c c' : Nat} {ns ns' : Nat → ByteArray} : nmEq c c' ns ns' = true ↔ c = c' ∧ ∀ i, i < c → ns i = ns' i := by
  unfold nmEq
  simp [List.all_eq_true]
set_option maxRecDepth 20000 in
set_option maxHeartbeats 2000000 in
theorem eqnames_any {w : World} {A A' : Option Addr} {c ca c' ca' : Nat} {ns ns' : Nat → ByteArray} {Q Q' : Nat → Prop} (h : NamesAt w Q A c ns) (h' : NamesAt w Q' A' c' ns') (hc : c ≤ maxLen) (hc' : c' ≤ maxLen) :
    Calls Tryz.prog 36 #[.slice A c ca, .slice A' c' ca'] w fun e w' => e = .returned (.bool (nmEq c c' ns ns')) ∧ Below w.heap.size w w' := by
  have hcx : c ≤ 9223372036854775807 := by unfold maxLen at hc; omega
  have H := Lib.hid h
  have H' := Lib.hid h'
  clear h h' hc
  by_cases hcc : c = c'
  · subst hcc
    have t0 : ((c : Int) == (c : Int)) = true := beq_self_eq_true _
    have t1 : ((c : Int) != (c : Int)) = false := by simp
    go_enter Tryz.func36, Tryz.ntmps36
    go_wp2_with fail
    go_loopw [13] (fun iv wr => ∃ i : Nat, i ≤ c ∧ iv = .int .i64 i ∧ Hid (Below w.heap.size w wr ∧ ∀ j, j < i → ns j = ns' j)) (fun iv _ => c - (intOf iv).toNat)
    case atStart => exact ⟨0, Nat.zero_le _, rfl, Lib.hid ⟨Below.refl _ _, fun j hj => absurd hj (Nat.not_lt_zero j)⟩⟩
    case round =>
      obtain ⟨i, hi, rfl, hW⟩ := hrel
      by_cases hlt : i < c
      · obtain ⟨g, o, rfl, _, hg, hx⟩ := H.out (by omega)
        obtain ⟨g', o', rfl, _, hg', hx'⟩ := H'.out (by omega)
        have s0 : wr.cell? ⟨g, o + i, none⟩ = some (.string (ns i)) := (hW.out.1.cell (p := ⟨g, o + i, none⟩) hg).trans (hx i hlt).1
        have s1 : wr.cell? ⟨g', o' + i, none⟩ = some (.string (ns' i)) := (hW.out.1.cell (p := ⟨g', o' + i, none⟩) hg').trans (hx' i hlt).1
        have ti : (i : Int) < c := by omega
        have ti0 : (0 : Int) ≤ i := by omega
        clear hx hx'
        by_cases he : ns i = ns' i
        · have tb := str_eq he
          have HE := Lib.hid he
          clear he
          go_wp2_with fail
          go_quiet (fail)
          have hq := Lib.hid (show Below w.heap.size w (wr.drewN nq) from ⟨hW.out.1.os, hW.out.1.tape, hW.out.1.output, hW.out.1.size, hW.out.1.block⟩)
          generalize wr.drewN nq = w2 at hq ⊢
          clear s0 s1
          go_wp2_with fail
          go_roundw
          case rel => exact ⟨i + 1, by omega, by go_num, Lib.hid ⟨hq.out, fun j hj => by
            by_cases e : j = i
            · subst e; exact HE.out
            · exact hW.out.2 j (by omega)⟩⟩
          case measure => simp [intOf]; omega
        · have tb := str_ne he
          have HN : Hid (nmEq c c ns ns' = false) := Lib.hid (by
            cases e : nmEq c c ns ns'
            · rfl
            · exact absurd ((nmEq_iff.1 e).2 i hlt) he)
          generalize ns i = a at *
          generalize ns' i = b at *
          go_wp2_with fail
          go_quiet (fail)
          have hq := Lib.hid (show Below w.heap.size w (wr.drewN nq) from ⟨hW.out.1.os, hW.out.1.tape, hW.out.1.output, hW.out.1.size, hW.out.1.block⟩)
          generalize wr.drewN nq = w2 at hq ⊢
          clear s0 s1
          go_wp2_with fail
          go_ret
          exact ⟨by rw [HN.out]; rfl, hq.out⟩
      · have HN : Hid (nmEq c c ns ns' = true) := Lib.hid (nmEq_iff.2 ⟨rfl, fun j hj => hW.out.2 j (by omega)⟩)
        go_wp2_with fail
        go_ret
        exact ⟨by rw [HN.out]; rfl, hW.out.1⟩
  · have t0 : ((c : Int) == (c' : Int)) = false := by rw [beq_eq_false_iff_ne]; omega
    have t1 : ((c : Int) != (c' : Int)) = true := by simp; omega
    have HN : Hid (nmEq c c' ns ns' = false) := Lib.hid (by unfold nmEq; simp [hcc])
    clear hcc
    go_enter Tryz.func36, Tryz.ntmps36
    go_wp2_with fail
    go_ret
    exact ⟨by rw [HN.out]; rfl, Below.refl _ _⟩
section
variable {ops : Array Oper} {rest : List Oper} {o : Oper} {a : Act} {w : World} {Q : Exit → Act → World → Prop} {K : Act → World → Prop}
/-- A type is laid into a box. -/
theorem stT (hgd : o.guard = none) (x y : Operand) (ho : o.op = .store 25 x y) (g : Nat) (v old : Array Value) (hx : a.eval x = .pointer (some ⟨g, 0, none⟩)) (hy : a.eval y = .agg v) (hg : TB w g old) (hold : old.size = 3) (hv : v.size = 3) (h1 : v.all (·.oneCell') = true)
    (h : wpList Tryz.prog ops Q rest (a.put o.dst undef) (w.setRow g v)) : wpList Tryz.prog ops Q (o :: rest) a w :=
  wpList_store_row hgd 25 x y ho g v hx hy 25 old hg (by rw [info25s, hv]) (by rw [hold, hv]) h1 h
/-- A type is taken out of a box. -/
theorem ldT (hgd : o.guard = none) (x : Operand) (ho : o.op = .load 25 x) (g : Nat) (v : Array Value) (hx : a.eval x = .pointer (some ⟨g, 0, none⟩)) (hg : TB w g v) (hv : v.size = 3)
    (h : wpList Tryz.prog ops Q rest (a.put o.dst (.agg v)) w) : wpList Tryz.prog ops Q (o :: rest) a w :=
  wpList_load_row hgd 25 x ho g hx 25 v (0, 0) _ hg Tryz.underlying25 rfl (by rw [info25s, hv]) h
end
theorem TB.row {w : World} {R S : Nat} {v u : Array Value} (h : TB w R v) (hS : R ≠ S) : TB (w.setRow S u) R v := h.of (setRow_other w S R u hS)
theorem TB.put {w : World} {R : Nat} {v : Array Value} (h : TB w R v) (u : Array Value) : TB (w.setRow R u) R u := setRow_heap w R v u _ _ h
theorem TW.size {w : World} {Q : Nat → Prop} {v : Array Value} {t : TT} (h : TW w Q v t) : v.size = 3 := by cases h; rfl
theorem TW.one {w : World} {Q : Nat → Prop} {v : Array Value} {t : TT} (h : TW w Q v t) : v.all (·.oneCell') = true := by
  cases h
  simp [tfields, Value.oneCell']
end Go.Proofs.YtcmohggnehkjeaaGreat
namespace Go.Proofs.YtcmohggnehkjeaaGreat
open Go.RowKit

/-- As many items as the kind and the names say. -/
def shp : TT → Prop
  | .bad => True
  | .mk k c _ m xs => (m = if k = 5 then 1 else if k = 6 then c else 0) ∧ ∀ i, i < m → shp (xs i)
/-- The type that both may be. -/
def joinP : TT → TT → Option TT
  | .bad, _ => none
  | .mk k c ns m xs, b => match b with
    | .bad => none
    | .mk k' c' ns' m' xs' => if k = 7 then some (.mk k' c' ns' m' xs') else if k' = 7 then some (.mk k c ns m xs)
      else if k = k' ∧ nmEq c c' ns ns' = true then
        (if (List.range m).all (fun i => (joinP (xs i) (xs' i)).isSome) = true then some (.mk k c ns m (fun i => (joinP (xs i) (xs' i)).getD .bad)) else none)
      else none
theorem list_range (l : List Value) : l = (List.range l.length).map fun j => l.getD j undef := by
  apply List.ext_getElem?
  intro i
  by_cases h : i < l.length
  · simp [h]
  · simp [h]
theorem list_range' (l : List Value) {n : Nat} (h : l.length = n) : ∃ F : Nat → Value, l = (List.range n).map F := ⟨_, by rw [← h]; exact list_range l⟩
theorem join_none {k : Int} {c c' m m' : Nat} {ns ns' : Nat → ByteArray} {xs xs' : Nat → TT} {i : Nat} (h7 : ¬ k = 7) (hn : nmEq c c' ns ns' = true) (hi : i < m) (hj : joinP (xs i) (xs' i) = none) : joinP (.mk k c ns m xs) (.mk k c' ns' m' xs') = none := by
  simp only [joinP]
  rw [if_neg h7, if_neg h7, if_pos ⟨trivial, hn⟩, if_neg]
  intro h
  have := List.all_eq_true.1 h i (List.mem_range.2 hi)
  rw [hj] at this
  cases this
theorem join_some {k : Int} {c c' m m' : Nat} {ns ns' : Nat → ByteArray} {xs xs' : Nat → TT} (h7 : ¬ k = 7) (hn : nmEq c c' ns ns' = true) (hj : ∀ i, i < m → (joinP (xs i) (xs' i)).isSome = true) : joinP (.mk k c ns m xs) (.mk k c' ns' m' xs') = some (.mk k c ns m (fun i => (joinP (xs i) (xs' i)).getD .bad)) := by
  simp only [joinP]
  rw [if_neg h7, if_neg h7, if_pos ⟨trivial, hn⟩, if_pos]
  exact List.all_eq_true.2 fun i hi => hj i (List.mem_range.1 hi)
/-- The row amid join: the first i are laid. -/
structure MidJ (Q : Nat → Prop) (B0 : Nat) (w wr : World) (g m cap i : Nat) (ts : Nat → TT) (F : Nat → Value) : Prop where
  own : wr.ownsRow B0 25 3 (.slice (some ⟨g, 0, none⟩) m cap) m ((List.range (m * 3)).map F)
  below : Below B0 w wr
  done : ∀ q, q < i → ∃ u : Array Value, TW wr (fun b => (Q b ∨ B0 ≤ b) ∧ b ≠ g) u (ts q) ∧ ∀ k, k < 3 → u[k]? = some (F (q * 3 + k))
theorem MidJ.step {Q : Nat → Prop} {B0 : Nat} {w wr w2 : World} {g m cap i : Nat} {ts : Nat → TT} {F : Nat → Value} (h : MidJ Q B0 w wr g m cap i ts F) (hB0 : B0 ≤ wr.heap.size) {W : World} (hb : Below wr.heap.size wr w2) {a0 a1 a2 : Value}
    (hu : TW w2 (fun b => (Q b ∨ B0 ≤ b) ∧ b ≠ g) #[a0, a1, a2] (ts i)) (hW : W = ((w2.setCell ⟨g, i * 3, none⟩ a0).setCell ⟨g, i * 3 + 1, none⟩ a1).setCell ⟨g, i * 3 + 2, none⟩ a2) :
    MidJ Q B0 w W g m cap (i + 1) ts (updF (updF (updF F (i * 3) a0) (i * 3 + 1) a1) (i * 3 + 2) a2) := by
  have hg := h.own.lt g rfl
  have hO2 := h.own.kept (w' := w2) (row := none) ⟨hb.os, hb.tape, hb.output, hb.size, fun k hk _ => hb.block k hk⟩ (.inr (by simp [Value.ownBlock]))
  have s0 := hO2.stored (i * 3) a0
  have s1 := s0.1.stored (i * 3 + 1) a1
  have s2 := s1.1.stored (i * 3 + 2) a2
  rw [← hW] at s2
  have hk : ∀ k, k ≠ g → W.heap[k]? = w2.heap[k]? := fun k hk => by
    rw [hW, Below.heap_setCell _ _ _ _ (by simpa using hk), Below.heap_setCell _ _ _ _ (by simpa using hk), Below.heap_setCell _ _ _ _ (by simpa using hk)]
  have hsz : W.heap.size = w2.heap.size := by rw [hW]; simp [World.setCell]
  have hb2 := h.below.trans (hb.mono hB0)
  refine ⟨?_, ?_, fun q hq => ?_⟩
  · rw [← range_set, ← range_set, ← range_set]
    exact s2.1
  · exact ⟨by rw [hW]; exact hb2.os, by rw [hW]; exact hb2.tape, by rw [hW]; exact hb2.output, by rw [hsz]; exact hb2.size, fun k hlt => (hk k (by omega)).trans (hb2.block k hlt)⟩
  · by_cases e : q = i
    · subst e
      refine ⟨#[a0, a1, a2], hu.keep (by omega) fun b hb' hl => hk b hb'.2, fun k hk' => ?_⟩
      match k, hk' with
      | 0, _ => simp [updF]
      | 1, _ => simp [updF]
      | 2, _ => simp [updF]
    · obtain ⟨u, hu1, hu2⟩ := h.done q (by omega)
      refine ⟨u, hu1.keep (by rw [hsz]; exact hb.size) fun b hb' hl => (hk b hb'.2).trans (hb.block b hl), fun k hk' => ?_⟩
      rw [hu2 k hk']
      simp only [updF]
      rw [if_neg (by omega), if_neg (by omega), if_neg (by omega)]
/-- Three boxes of types. -/
theorem join_boxes (w : World) (a b c : Array Value) : Below w.heap.size w (((w.alloc (.cells a 25)).alloc (.cells b 25)).alloc (.cells c 25)) ∧ TB (((w.alloc (.cells a 25)).alloc (.cells b 25)).alloc (.cells c 25)) w.heap.size a ∧ TB (((w.alloc (.cells a 25)).alloc (.cells b 25)).alloc (.cells c 25)) (w.heap.size + 1) b ∧ TB (((w.alloc (.cells a 25)).alloc (.cells b 25)).alloc (.cells c 25)) (w.heap.size + 1 + 1) c := by
  refine ⟨(((Below.refl _ _).alloc (Nat.le_refl _) _).alloc (by simp) _).alloc (by simp; omega) _, ((TB.new w _).of (Below.heap_alloc _ _ _ (by simp))).of (Below.heap_alloc _ _ _ (by simp; omega)), ?_, ?_⟩
  · have := (TB.new (w.alloc (.cells a 25)) b).of (Below.heap_alloc _ (.cells c 25) _ (by simp))
    rw [World.size_alloc] at this
    exact this
  · have := TB.new ((w.alloc (.cells a 25)).alloc (.cells b 25)) c
    rw [World.size_alloc, World.size_alloc] at this
    exact this
/-- How join ends. -/
def Joined (Q : Nat → Prop) (r : Option TT) (w : World) (e : Ending) (w' : World) : Prop :=
  Below w.heap.size w w' ∧ match r with
  | some t => ∃ x, e = .returned (.agg x) ∧ TW w' (fun g => Q g ∨ w.heap.size ≤ g) x t
  | none => e = .panicked (gaveP 6)
section
variable {ops : Array Oper} {Q : Exit → Act → World → Prop} {o : Oper} {a : Act} {w : World} {K : Act → World → Prop}
/-- A call that gives up, amid a region that draws its order. -/
theorem branchP (f : FuncId) (args : Array Value) (c : Int) (hw : Region.wanted o (yielded ops a.tmps) = true) (hrun : (execOp a.eval o).run Tryz.prog w = .ok (.enter f args) w)
    (hc : Calls Tryz.prog f args w fun e w' => e = .panicked (gaveP c) ∧ Q (.panic (gaveP c)) a w') : if Region.wanted o (yielded ops a.tmps) = true then Oper.wp Tryz.prog o a w K Q else K (a.put o.dst undef) w := by
  rw [if_pos hw]
  unfold Oper.wp
  rw [hrun, Oper.upon_enter]
  refine hc.mono ?_
  rintro e w' ⟨rfl, h⟩
  exact h
end
set_option maxRecDepth 20000 in
set_option maxHeartbeats 4000000 in
theorem join_any : ∀ (a b : TT) (v u : Array Value) (Q : Nat → Prop) (w : World), TW w Q v a → TW w Q u b → shp a → shp b → tfew a → Calls Tryz.prog 35 #[.agg v, .agg u] w (Joined Q (joinP a b) w) := by
  intro a
  induction a with
  | bad => intro b v u Q w hv; cases hv
  | mk k c ns m xs ih =>
    intro b v u Q w hv hu hsa hsb hfa
    cases b with
    | bad => cases hu
    | mk k' c' ns' m' xs' =>
      have hv0 := Lib.hid hv
      have hu0 := Lib.hid hu
      cases hv with
      | mk _ A _ ca B _ cb _ _ vs hk hc hm hA hB0 hns hB hxs =>
        cases hu with
        | mk _ A' _ ca' B' _ cb' _ _ us hk' hc' hm' hA' hB0' hns' hB' hxs' =>
          have HNM : Hid (NamesAt w Q A c ns ∧ NamesAt w Q A' c' ns') := Lib.hid ⟨hns, hns'⟩
          have KK := Lib.hid (And.intro hk hk')
          have HC := Lib.hid (And.intro hc (And.intro hm (And.intro hA hB0)))
          have HC' := Lib.hid (And.intro hc' (And.intro hm' (And.intro hA' hB0')))
          clear hA hB0 hA' hB0' hns hns' hk hk'
          by_cases h7 : k = 7
          · subst h7
            have HJ : Hid (joinP (.mk 7 c ns m xs) (.mk k' c' ns' m' xs') = some (.mk k' c' ns' m' xs')) := Lib.hid (by simp [joinP])
            rw [HJ.out]
            unfold tfields at *
            clear ih hsa hsb hfa hB hB' hxs hxs' hc hc' hm hm'
            go_enter Tryz.func35, Tryz.ntmps35
            go_wp2_with fail
            have hbF := join_boxes w #[.int .i64 7, .slice A c ca, .slice B m cb] #[.int .i64 k', .slice A' c' ca', .slice B' m' cb'] #[.int .i64 k', .slice A' c' ca', .slice B' m' cb']
            exact bodyPost_ret (results_typ rfl _ _ (w.heap.size + 1 + 1) _ rfl hbF.2.2.2 rfl) rfl ⟨hbF.1, _, rfl, (hu0.out.stay hbF.1).imp fun g hg _ => .inl hg⟩
          have tk7 : (k == 7) = false := by rw [beq_eq_false_iff_ne]; exact h7
          by_cases h7' : k' = 7
          · subst h7'
            have HJ : Hid (joinP (.mk k c ns m xs) (.mk 7 c' ns' m' xs') = some (.mk k c ns m xs)) := Lib.hid (by simp [joinP, h7])
            rw [HJ.out]
            unfold tfields at *
            clear ih hsa hsb hfa hB hB' hxs hxs' hc hc' hm hm' h7
            go_enter Tryz.func35, Tryz.ntmps35
            go_wp2_with fail
            have hbF := join_boxes w #[.int .i64 k, .slice A c ca, .slice B m cb] #[.int .i64 7, .slice A' c' ca', .slice B' m' cb'] #[.int .i64 k, .slice A c ca, .slice B m cb]
            exact bodyPost_ret (results_typ rfl _ _ (w.heap.size + 1 + 1) _ rfl hbF.2.2.2 rfl) rfl ⟨hbF.1, _, rfl, (hv0.out.stay hbF.1).imp fun g hg _ => .inl hg⟩
          have tk7' : (k' == 7) = false := by rw [beq_eq_false_iff_ne]; exact h7'
          have hbF := join_boxes w #[.int .i64 k, .slice A c ca, .slice B m cb] #[.int .i64 k', .slice A' c' ca', .slice B' m' cb'] #[.int .i64 0, .slice none 0 0, .slice none 0 0]
          by_cases hkk : ¬ k = k'
          · have HJ : Hid (joinP (.mk k c ns m xs) (.mk k' c' ns' m' xs') = none) := Lib.hid (by simp [joinP, h7, h7', hkk])
            rw [HJ.out]
            have tkk : (k == k') = false := by rw [beq_eq_false_iff_ne]; exact hkk
            have HB := Lib.hid hbF.1
            unfold tfields at *
            clear ih hsa hsb hfa hB hB' hxs hxs' hc hc' hm hm' h7 h7' hkk hbF
            go_enter Tryz.func35, Tryz.ntmps35
            go_wp2_with (go_at_call 72; refine (tinsist_no _).mono ?_; rintro e w2 ⟨rfl, rfl⟩)
            exact ⟨rfl, HB.out, rfl⟩
          have hkk' : k = k' := Decidable.not_not.1 hkk
          clear hkk
          subst hkk'
          have E := Lib.hid (eqnames_any (ca := ca) (ca' := ca') (HNM.out.1.stay hbF.1) (HNM.out.2.stay hbF.1) (by omega) (by omega))
          have tkk : (k == k) = true := beq_self_eq_true _
          have HB := Lib.hid hbF
          cases hnm : nmEq c c' ns ns' with
          | false =>
            have HJ : Hid (joinP (.mk k c ns m xs) (.mk k c' ns' m' xs') = none) := Lib.hid (by simp [joinP, h7, hnm])
            rw [HJ.out]
            rw [hnm] at E
            unfold tfields at *
            clear ih hsa hsb hfa hB hB' hxs hxs' hc hc' hm hm' h7 h7' hbF
            go_enter Tryz.func35, Tryz.ntmps35
            go_wp2_with (first
              | (go_at_call 36; refine E.out.mono ?_; rintro e w1 ⟨rfl, hb1⟩)
              | (go_at_call 72; refine (tinsist_no _).mono ?_; rintro e w2 ⟨rfl, rfl⟩))
            exact ⟨rfl, HB.out.1.trans (hb1.mono HB.out.1.size), rfl⟩
          | true =>
            rw [hnm] at E
            have hcc := (nmEq_iff.1 hnm).1
            have hmm : m' = m := by
              have h1 := hsa.1
              have h2 := hsb.1
              rw [hcc] at h1
              rw [h1, h2]
            have HX := Lib.hid (And.intro hB (And.intro hB' (And.intro hxs hxs')))
            have HS := Lib.hid (And.intro hsa.2 (And.intro hsb.2 hfa))
            have HNQ := Lib.hid (And.intro hnm h7)
            have IH := Lib.hid ih
            have hm1 : m ≤ 1000 := hfa.2.1
            obtain ⟨iT, hiT, hy0, hy1, hy2⟩ := info_parts infoT
            unfold tfields at *
            subst hmm
            have HCC := Lib.hid hcc
            clear ih hsa hsb hfa hB hB' hxs hxs' hc hc' hm hm' h7 h7' hbF hnm hcc
            go_enter Tryz.func35, Tryz.ntmps35
            go_wp2_with (first
              | (go_at_call 36; refine E.out.mono ?_; rintro e w1 ⟨rfl, hb1⟩)
              | (go_at_call 72; refine (tinsist_yes _).mono ?_; rintro e w2 ⟨rfl, rfl⟩; refine Hid.out ?_))
            refine Lib.hid ?_
            have R2 := HB.out.2.1.below hb1
            have R3 := HB.out.2.2.1.below hb1
            have R4 := HB.out.2.2.2.below hb1
            have HB1 := Lib.hid (HB.out.1.trans (hb1.mono HB.out.1.size))
            have hz1 := hb1.size
            rw [World.size_alloc, World.size_alloc, World.size_alloc] at hz1
            have TT2 := Lib.hid R2
            have TT3 := Lib.hid R3
            have TT4 := Lib.hid R4
            obtain ⟨x0, x1, x2, xf, xl⟩ := R2.cells
            obtain ⟨y0, y1, y2, yf, yl⟩ := R3.cells
            clear E HB hb1 R2 R3 R4
            go_wp2_with (at_make; refine wpList_make_full _ rfl (.tmp 33) (.tmp 33) 23 rfl w1.heap.size 25 iT (.agg #[.int .i64 0, .slice none 0 0, .slice none 0 0]) 3 Tryz.underlying23 hiT hy0 hy1 .i64 .i64 _ _ m' rfl rfl rfl rfl (by rw [hy2]; omega) (by unfold maxLen; omega) (Nat.le_refl _) ?_; intro w2 hown hgrow; refine Hid.out ?_)
            refine Lib.hid ?_
            have hlen := hown.1
            obtain ⟨F0, hF0⟩ := list_range' _ hlen
            rw [hF0] at hown
            clear hlen hF0
            obtain ⟨B0, hB0⟩ : ∃ B0, B0 = w1.heap.size := ⟨_, rfl⟩
            rw [← hB0] at hown hz1 ⊢
            have hMJ : MidJ (fun b => Q b ∧ b < w.heap.size) B0 w1 w2 B0 m' m' 0 (fun i => (joinP (xs i) (xs' i)).getD .bad) F0 := ⟨hown, hB0 ▸ (Below.refl _ _).grown hgrow (Nat.le_refl _) (fun k e => by cases e), fun q hq => absurd hq (Nat.not_lt_zero q)⟩
            have HMJ := Lib.hid hMJ
            have hb12 : Below B0 w1 w2 := hMJ.below
            have R2 := TT2.out.of (hb12.block _ (by omega))
            obtain ⟨p0, p1, p2, pf, pl⟩ := R2.cells
            have HZ1 := Lib.hid (And.intro hz1 hB0)
            clear hown hgrow hMJ R2 x0 x1 x2 xf y0 y1 y2 yf hb12 hB0 hz1
            go_wp2_with fail
            go_loopw [38] (fun iv wr => ∃ (i : Nat) (F : Nat → Value), i ≤ m' ∧ iv = .int .i64 i ∧ Hid (MidJ (fun b => Q b ∧ b < w.heap.size) B0 w1 wr B0 m' m' i (fun i => (joinP (xs i) (xs' i)).getD .bad) F) ∧ Hid (∀ j, j < i → (joinP (xs j) (xs' j)).isSome = true)) (fun iv _ => m' - (intOf iv).toNat)
            case atStart => exact ⟨0, F0, Nat.zero_le _, rfl, HMJ, Lib.hid fun j hj => absurd hj (Nat.not_lt_zero j)⟩
            case round =>
              obtain ⟨i, F, hi, rfl, hW, hA⟩ := hrel
              clear HMJ p0 p1 p2 pf
              have hz1 := HZ1.out.1
              have hBw : Below w.heap.size w wr := HB1.out.trans (hW.out.below.mono (by omega))
              have hlo : B0 < wr.heap.size := (hW.out.own.lt B0 rfl).2
              by_cases hlt : i < m'
              · obtain ⟨g, o, rfl, _, hg, hx⟩ := HX.out.1 (by omega)
                obtain ⟨g', o', rfl, _, hg', hx'⟩ := HX.out.2.1 (by omega)
                have hti := HX.out.2.2.1 i hlt
                have htj := HX.out.2.2.2 i hlt
                have ha := (hx i hlt).keep fun o => hBw.cell (p := ⟨g, o, none⟩) hg
                have hb := (hx' i hlt).keep fun o => hBw.cell (p := ⟨g', o, none⟩) hg'
                generalize vs i = vi at *
                generalize us i = ui at *
                obtain ⟨k1, A1, c1, ca1, B1, m1, cb1, rfl⟩ := hti.form
                obtain ⟨k2, A2, c2, ca2, B2, m2, cb2, rfl⟩ := htj.form
                obtain ⟨c0, c1', c2'⟩ := ha.cells
                obtain ⟨d0, d1, d2⟩ := hb.cells
                have hbz : Below wr.heap.size wr (wr.alloc (.cells #[.int .i64 k1, .slice A1 c1 ca1, .slice B1 m1 cb1] 25)) := (Below.refl _ _).alloc (Nat.le_refl _) _
                obtain ⟨wz, hwz⟩ : ∃ W, W = wr.alloc (.cells #[.int .i64 k1, .slice A1 c1 ca1, .slice B1 m1 cb1] 25) := ⟨_, rfl⟩
                rw [← hwz] at hbz
                have hTz : TB wz wr.heap.size #[.int .i64 k1, .slice A1 c1 ca1, .slice B1 m1 cb1] := by rw [hwz]; exact TB.new _ _
                have hBz : Below w.heap.size w wz := hBw.trans (hbz.mono hBw.size)
                have h3z : TB wz (w.heap.size + 1) #[.int .i64 k, .slice A' c' ca', .slice (some ⟨g', o', none⟩) m' cb'] := (TT3.out.of (hW.out.below.block _ (by omega))).below hbz
                have e4 := (hbz.cell (p := ⟨g', o' + i * 3, none⟩) (by simp; omega)).trans d0
                have e5 := (hbz.cell (p := ⟨g', o' + i * 3 + 1, none⟩) (by simp; omega)).trans d1
                have e6 := (hbz.cell (p := ⟨g', o' + i * 3 + 2, none⟩) (by simp; omega)).trans d2
                have HS0 : Hid (wz.drew.cell? ⟨wr.heap.size, 0, none⟩ = some (.int .i64 k1) ∧ wz.drew.cell? ⟨wr.heap.size, 1, none⟩ = some (.slice A1 c1 ca1) ∧ wz.drew.cell? ⟨wr.heap.size, 2, none⟩ = some (.slice B1 m1 cb1) ∧ wz.drew.cell? ⟨w.heap.size + 1, 2, none⟩ = some (.slice (some ⟨g', o', none⟩) m' cb') ∧ wz.drew.cell? ⟨g', o' + i * 3, none⟩ = some (.int .i64 k2) ∧ wz.drew.cell? ⟨g', o' + i * 3 + 1, none⟩ = some (.slice A2 c2 ca2) ∧ wz.drew.cell? ⟨g', o' + i * 3 + 2, none⟩ = some (.slice B2 m2 cb2)) := Lib.hid ⟨hTz.cells.1, hTz.cells.2.1, hTz.cells.2.2.1, h3z.cells.2.2.1, e4, e5, e6⟩
                have C := Lib.hid (IH.out i (xs' i) _ _ (fun b => Q b ∧ b < w.heap.size) wz.drew ((hti.imp fun b hb hl => ⟨hb, hl⟩).stay hBz.drew) ((htj.imp fun b hb hl => ⟨hb, hl⟩).stay hBz.drew) (HS.out.1 i hlt) (HS.out.2.1 i hlt) (HS.out.2.2.2.2.2 i hlt))
                have hk7' : ¬ k = 7 := HNQ.out.2
                have HBZ := Lib.hid hBz
                have HbZ := Lib.hid hbz
                have HT3 := Lib.hid h3z
                have HTZ := Lib.hid hTz
                have tlt : (i : Int) < m' := by omega
                have tge : (0 : Int) ≤ i := by omega
                clear hbz hTz hBz h3z hk7'
                cases hj : joinP (xs i) (xs' i) with
                | none =>
                  have HJ : Hid (joinP (.mk k c ns m' xs) (.mk k c' ns' m' xs') = none) := Lib.hid (join_none HNQ.out.2 HNQ.out.1 hlt hj)
                  rw [hj] at C
                  go_wp2_with fail
                  rw [← hwz]
                  clear hwz c0 c1' c2' d0 d1 d2 e4 e5 e6 hx hx' hti htj ha hb
                  refine wp_region_held_drew (S := fun W => W.cell? ⟨wr.heap.size, 0, none⟩ = some (.int .i64 k1) ∧ W.cell? ⟨wr.heap.size, 1, none⟩ = some (.slice A1 c1 ca1) ∧ W.cell? ⟨wr.heap.size, 2, none⟩ = some (.slice B1 m1 cb1) ∧ W.cell? ⟨w.heap.size + 1, 2, none⟩ = some (.slice (some ⟨g', o', none⟩) m' cb') ∧ W.cell? ⟨g', o' + i * 3, none⟩ = some (.int .i64 k2) ∧ W.cell? ⟨g', o' + i * 3 + 1, none⟩ = some (.slice A2 c2 ca2) ∧ W.cell? ⟨g', o' + i * 3 + 2, none⟩ = some (.slice B2 m2 cb2)) (by kernel_rfl) HS0.out (fun _ => ?_)
                  refine takeG (i := 0) (some 43) (.slice (some ⟨B0, 0, none⟩) m' m') rfl rfl (by kernel_rfl) (by kernel_rfl) (by kernel_rfl) (fun _ _ _ h => h) HS0.out (by kernel_rfl) (fun W hW => by obtain ⟨e0, e1, e2, e3, e4, e5, e6⟩ := hW; go_simp) ?_
                  simp only [Act.put, List.setIfInBounds_toArray, List.set_cons_zero, List.set_cons_succ]
                  refine takeG (i := 1) (some 44) (.int .i64 (i : Int)) rfl rfl (by kernel_rfl) (by kernel_rfl) (by kernel_rfl) (fun _ _ _ h => h) HS0.out (by kernel_rfl) (fun W hW => by obtain ⟨e0, e1, e2, e3, e4, e5, e6⟩ := hW; go_simp) ?_
                  simp only [Act.put, List.setIfInBounds_toArray, List.set_cons_zero, List.set_cons_succ]
                  refine takeG (i := 2) (some 45) (.agg #[.int .i64 k1, .slice A1 c1 ca1, .slice B1 m1 cb1]) rfl rfl (by kernel_rfl) (by kernel_rfl) (by kernel_rfl) (fun _ _ _ h => h) HS0.out (by kernel_rfl) (fun W hW => by obtain ⟨e0, e1, e2, e3, e4, e5, e6⟩ := hW; go_simp) ?_
                  simp only [Act.put, List.setIfInBounds_toArray, List.set_cons_zero, List.set_cons_succ]
                  refine takeG (i := 3) (some 46) (.pointer (some ⟨w.heap.size + 1, 2, none⟩)) rfl rfl (by kernel_rfl) (by kernel_rfl) (by kernel_rfl) (fun _ _ _ h => h) HS0.out (by kernel_rfl) (fun W hW => by obtain ⟨e0, e1, e2, e3, e4, e5, e6⟩ := hW; go_simp) ?_
                  simp only [Act.put, List.setIfInBounds_toArray, List.set_cons_zero, List.set_cons_succ]
                  refine takeG (i := 4) (some 47) (.slice (some ⟨g', o', none⟩) m' cb') rfl rfl (by kernel_rfl) (by kernel_rfl) (by kernel_rfl) (fun _ _ _ h => h) HS0.out (by kernel_rfl) (fun W hW => by obtain ⟨e0, e1, e2, e3, e4, e5, e6⟩ := hW; go_simp) ?_
                  simp only [Act.put, List.setIfInBounds_toArray, List.set_cons_zero, List.set_cons_succ]
                  refine takeG (i := 5) (some 48) (.int .i64 (i : Int)) rfl rfl (by kernel_rfl) (by kernel_rfl) (by kernel_rfl) (fun _ _ _ h => h) HS0.out (by kernel_rfl) (fun W hW => by obtain ⟨e0, e1, e2, e3, e4, e5, e6⟩ := hW; go_simp) ?_
                  simp only [Act.put, List.setIfInBounds_toArray, List.set_cons_zero, List.set_cons_succ]
                  refine takeG (i := 6) (some 49) (.pointer (some ⟨g', o' + i * 3, none⟩)) rfl rfl (by kernel_rfl) (by kernel_rfl) (by kernel_rfl) (fun _ _ _ h => h) HS0.out (by kernel_rfl) (fun W hW => by obtain ⟨e0, e1, e2, e3, e4, e5, e6⟩ := hW; go_simp) ?_
                  simp only [Act.put, List.setIfInBounds_toArray, List.set_cons_zero, List.set_cons_succ]
                  refine takeG (i := 7) (some 50) (.agg #[.int .i64 k2, .slice A2 c2 ca2, .slice B2 m2 cb2]) rfl rfl (by kernel_rfl) (by kernel_rfl) (by kernel_rfl) (fun _ _ _ h => h) HS0.out (by kernel_rfl) (fun W hW => by obtain ⟨e0, e1, e2, e3, e4, e5, e6⟩ := hW; go_simp) ?_
                  simp only [Act.put, List.setIfInBounds_toArray, List.set_cons_zero, List.set_cons_succ]
                  refine wpAnyH_ready (rs := [8]) (by kernel_rfl) (by simp) (AllReadyH.cons rfl (fun K1 hK1 => ?_) AllReadyH.nil)
                  refine branchP 35 #[.agg #[.int .i64 k1, .slice A1 c1 ca1, .slice B1 m1 cb1], .agg #[.int .i64 k2, .slice A2 c2 ca2, .slice B2 m2 cb2]] 6 (by kernel_rfl) (by go_simp) (C.out.mono ?_)
                  rintro e w3 ⟨hb3, rfl⟩
                  refine ⟨rfl, rfl, HBZ.out.trans ((Below.refl _ _).drew.trans hb3 |>.mono HBZ.out.size), ?_⟩
                  rw [HJ.out]
                | some t =>
                  rw [hj] at C
                  go_wp2_with fail
                  rw [← hwz]
                  clear hwz c0 c1' c2' d0 d1 d2 e4 e5 e6 hx hx' hti htj ha hb
                  refine wp_region_held_drew (S := fun W => W.cell? ⟨wr.heap.size, 0, none⟩ = some (.int .i64 k1) ∧ W.cell? ⟨wr.heap.size, 1, none⟩ = some (.slice A1 c1 ca1) ∧ W.cell? ⟨wr.heap.size, 2, none⟩ = some (.slice B1 m1 cb1) ∧ W.cell? ⟨w.heap.size + 1, 2, none⟩ = some (.slice (some ⟨g', o', none⟩) m' cb') ∧ W.cell? ⟨g', o' + i * 3, none⟩ = some (.int .i64 k2) ∧ W.cell? ⟨g', o' + i * 3 + 1, none⟩ = some (.slice A2 c2 ca2) ∧ W.cell? ⟨g', o' + i * 3 + 2, none⟩ = some (.slice B2 m2 cb2)) (by kernel_rfl) HS0.out (fun _ => ?_)
                  refine takeG (i := 0) (some 43) (.slice (some ⟨B0, 0, none⟩) m' m') rfl rfl (by kernel_rfl) (by kernel_rfl) (by kernel_rfl) (fun _ _ _ h => h) HS0.out (by kernel_rfl) (fun W hW => by obtain ⟨e0, e1, e2, e3, e4, e5, e6⟩ := hW; go_simp) ?_
                  simp only [Act.put, List.setIfInBounds_toArray, List.set_cons_zero, List.set_cons_succ]
                  refine takeG (i := 1) (some 44) (.int .i64 (i : Int)) rfl rfl (by kernel_rfl) (by kernel_rfl) (by kernel_rfl) (fun _ _ _ h => h) HS0.out (by kernel_rfl) (fun W hW => by obtain ⟨e0, e1, e2, e3, e4, e5, e6⟩ := hW; go_simp) ?_
                  simp only [Act.put, List.setIfInBounds_toArray, List.set_cons_zero, List.set_cons_succ]
                  refine takeG (i := 2) (some 45) (.agg #[.int .i64 k1, .slice A1 c1 ca1, .slice B1 m1 cb1]) rfl rfl (by kernel_rfl) (by kernel_rfl) (by kernel_rfl) (fun _ _ _ h => h) HS0.out (by kernel_rfl) (fun W hW => by obtain ⟨e0, e1, e2, e3, e4, e5, e6⟩ := hW; go_simp) ?_
                  simp only [Act.put, List.setIfInBounds_toArray, List.set_cons_zero, List.set_cons_succ]
                  refine takeG (i := 3) (some 46) (.pointer (some ⟨w.heap.size + 1, 2, none⟩)) rfl rfl (by kernel_rfl) (by kernel_rfl) (by kernel_rfl) (fun _ _ _ h => h) HS0.out (by kernel_rfl) (fun W hW => by obtain ⟨e0, e1, e2, e3, e4, e5, e6⟩ := hW; go_simp) ?_
                  simp only [Act.put, List.setIfInBounds_toArray, List.set_cons_zero, List.set_cons_succ]
                  refine takeG (i := 4) (some 47) (.slice (some ⟨g', o', none⟩) m' cb') rfl rfl (by kernel_rfl) (by kernel_rfl) (by kernel_rfl) (fun _ _ _ h => h) HS0.out (by kernel_rfl) (fun W hW => by obtain ⟨e0, e1, e2, e3, e4, e5, e6⟩ := hW; go_simp) ?_
                  simp only [Act.put, List.setIfInBounds_toArray, List.set_cons_zero, List.set_cons_succ]
                  refine takeG (i := 5) (some 48) (.int .i64 (i : Int)) rfl rfl (by kernel_rfl) (by kernel_rfl) (by kernel_rfl) (fun _ _ _ h => h) HS0.out (by kernel_rfl) (fun W hW => by obtain ⟨e0, e1, e2, e3, e4, e5, e6⟩ := hW; go_simp) ?_
                  simp only [Act.put, List.setIfInBounds_toArray, List.set_cons_zero, List.set_cons_succ]
                  refine takeG (i := 6) (some 49) (.pointer (some ⟨g', o' + i * 3, none⟩)) rfl rfl (by kernel_rfl) (by kernel_rfl) (by kernel_rfl) (fun _ _ _ h => h) HS0.out (by kernel_rfl) (fun W hW => by obtain ⟨e0, e1, e2, e3, e4, e5, e6⟩ := hW; go_simp) ?_
                  simp only [Act.put, List.setIfInBounds_toArray, List.set_cons_zero, List.set_cons_succ]
                  refine takeG (i := 7) (some 50) (.agg #[.int .i64 k2, .slice A2 c2 ca2, .slice B2 m2 cb2]) rfl rfl (by kernel_rfl) (by kernel_rfl) (by kernel_rfl) (fun _ _ _ h => h) HS0.out (by kernel_rfl) (fun W hW => by obtain ⟨e0, e1, e2, e3, e4, e5, e6⟩ := hW; go_simp) ?_
                  simp only [Act.put, List.setIfInBounds_toArray, List.set_cons_zero, List.set_cons_succ]
                  refine wpAnyH_ready (rs := [8]) (by kernel_rfl) (by simp) (AllReadyH.cons rfl (fun K1 hK1 => ?_) AllReadyH.nil)
                  refine branchC 35 #[.agg #[.int .i64 k1, .slice A1 c1 ca1, .slice B1 m1 cb1], .agg #[.int .i64 k2, .slice A2 c2 ca2, .slice B2 m2 cb2]] (some 51) rfl (by kernel_rfl) (by go_simp) (C.out.mono ?_)
                  rintro e w3 ⟨hb3, x, rfl, hx3⟩
                  refine ⟨_, rfl, ?_⟩
                  obtain ⟨k3, A3, c3, ca3, B3, m3, cb3, rfl⟩ := hx3.form
                  have hbz3 : Below wz.heap.size wz w3 := (Below.refl _ _).drew.trans hb3
                  have hbw3 : Below wr.heap.size wr w3 := HbZ.out.trans (hbz3.mono HbZ.out.size)
                  have hT3 := HTZ.out.below hbz3
                  have h33 := HT3.out.below hbz3
                  have hO3 := hW.out.own.kept (w' := w3) (row := none) ⟨hbw3.os, hbw3.tape, hbw3.output, hbw3.size, fun k hk _ => hbw3.block k hk⟩ (.inr (by simp [Value.ownBlock]))
                  obtain ⟨W4, hW4⟩ : ∃ W, W = ((w3.setCell ⟨B0, i * 3, none⟩ (.int .i64 k3)).setCell ⟨B0, i * 3 + 1, none⟩ (.slice A3 c3 ca3)).setCell ⟨B0, i * 3 + 2, none⟩ (.slice B3 m3 cb3) := ⟨_, rfl⟩
                  have hk4 : ∀ b, b ≠ B0 → W4.heap[b]? = w3.heap[b]? := fun b hb => by
                    rw [hW4, Below.heap_setCell _ _ _ _ (by simpa using hb), Below.heap_setCell _ _ _ _ (by simpa using hb), Below.heap_setCell _ _ _ _ (by simpa using hb)]
                  have s456 : ∀ b o, b < wz.heap.size → b ≠ B0 → W4.cell? ⟨b, o, none⟩ = wz.cell? ⟨b, o, none⟩ := fun b o hb hn => (World.cell?_of_block (w := w3) (a := ⟨b, o, none⟩) (hk4 b hn)).trans (hbz3.cell (p := ⟨b, o, none⟩) hb)
                  have HS3 : Hid (w3.cell? ⟨wr.heap.size, 0, none⟩ = some (.int .i64 k1) ∧ w3.cell? ⟨wr.heap.size, 1, none⟩ = some (.slice A1 c1 ca1) ∧ w3.cell? ⟨wr.heap.size, 2, none⟩ = some (.slice B1 m1 cb1) ∧ w3.cell? ⟨w.heap.size + 1, 2, none⟩ = some (.slice (some ⟨g', o', none⟩) m' cb') ∧ w3.cell? ⟨g', o' + i * 3, none⟩ = some (.int .i64 k2) ∧ w3.cell? ⟨g', o' + i * 3 + 1, none⟩ = some (.slice A2 c2 ca2) ∧ w3.cell? ⟨g', o' + i * 3 + 2, none⟩ = some (.slice B2 m2 cb2)) := Lib.hid ⟨hT3.cells.1, hT3.cells.2.1, hT3.cells.2.2.1, h33.cells.2.2.1, (hbz3.cell (p := ⟨g', o' + i * 3, none⟩) (by have := HBZ.out.size; simp; omega)).trans HS0.out.2.2.2.2.1, (hbz3.cell (p := ⟨g', o' + i * 3 + 1, none⟩) (by have := HBZ.out.size; simp; omega)).trans HS0.out.2.2.2.2.2.1, (hbz3.cell (p := ⟨g', o' + i * 3 + 2, none⟩) (by have := HBZ.out.size; simp; omega)).trans HS0.out.2.2.2.2.2.2⟩
                  have HS4 : Hid (W4.cell? ⟨wr.heap.size, 0, none⟩ = some (.int .i64 k1) ∧ W4.cell? ⟨wr.heap.size, 1, none⟩ = some (.slice A1 c1 ca1) ∧ W4.cell? ⟨wr.heap.size, 2, none⟩ = some (.slice B1 m1 cb1) ∧ W4.cell? ⟨w.heap.size + 1, 2, none⟩ = some (.slice (some ⟨g', o', none⟩) m' cb') ∧ W4.cell? ⟨g', o' + i * 3, none⟩ = some (.int .i64 k2) ∧ W4.cell? ⟨g', o' + i * 3 + 1, none⟩ = some (.slice A2 c2 ca2) ∧ W4.cell? ⟨g', o' + i * 3 + 2, none⟩ = some (.slice B2 m2 cb2)) := Lib.hid ⟨(s456 wr.heap.size 0 HTZ.out.lt (by omega)).trans HTZ.out.cells.1, (s456 wr.heap.size 1 HTZ.out.lt (by omega)).trans HTZ.out.cells.2.1, (s456 wr.heap.size 2 HTZ.out.lt (by omega)).trans HTZ.out.cells.2.2.1, (s456 (w.heap.size + 1) 2 HT3.out.lt (by omega)).trans HT3.out.cells.2.2.1, (s456 g' _ (by have := HBZ.out.size; omega) (by omega)).trans HS0.out.2.2.2.2.1, (s456 g' _ (by have := HBZ.out.size; omega) (by omega)).trans HS0.out.2.2.2.2.2.1, (s456 g' _ (by have := HBZ.out.size; omega) (by omega)).trans HS0.out.2.2.2.2.2.2⟩
                  have hst := hW.out.step (ts := fun i => (joinP (xs i) (xs' i)).getD .bad) (by omega) hbw3 (a0 := .int .i64 k3) (a1 := .slice A3 c3 ca3) (a2 := .slice B3 m3 cb3) (by
                    simp only [hj, Option.getD_some]
                    refine hx3.imp fun b hb hl => ?_
                    have := HBZ.out.size
                    have h5 : wz.drew.heap.size = wz.heap.size := rfl
                    have h6 := HTZ.out.lt
                    rw [h5] at hb
                    rcases hb with hb | hb
                    · exact ⟨.inl hb, by omega⟩
                    · exact ⟨.inr (by omega), by omega⟩) hW4
                  have HST := Lib.hid hst
                  obtain ⟨n0, hn0⟩ : ∃ x, w3.cell? ⟨B0, i * 3, none⟩ = some x := ⟨_, by rw [hO3.cellAt (i * 3) (by omega), range_at _ (by omega)]⟩
                  obtain ⟨n1, hn1⟩ : ∃ x, w3.cell? ⟨B0, i * 3 + 1, none⟩ = some x := ⟨_, by rw [hO3.cellAt (i * 3 + 1) (by omega), range_at _ (by omega)]⟩
                  obtain ⟨n2, hn2⟩ : ∃ x, w3.cell? ⟨B0, i * 3 + 2, none⟩ = some x := ⟨_, by rw [hO3.cellAt (i * 3 + 2) (by omega), range_at _ (by omega)]⟩
                  have NF := Lib.hid hO3.frozenAt
                  have HN := Lib.hid (And.intro hn0 (And.intro hn1 hn2))
                  have HL3 := Lib.hid (hO3.lt B0 rfl).2
                  have HA' : Hid (∀ j, j < i + 1 → (joinP (xs j) (xs' j)).isSome = true) := Lib.hid fun j hj' => by
                    by_cases e : j = i
                    · subst e; rw [hj]; rfl
                    · exact hA.out j (by omega)
                  have HW4 := Lib.hid hW4
                  clear hst hn0 hn1 hn2 hO3 hx3 hb3 hbz3 hbw3 hT3 h33 hk4 s456 hW4 hj
                  refine hK1.out _ _ HS3.out (fun _ => ?_)
                  simp only [Act.put, List.setIfInBounds_toArray, List.set_cons_zero, List.set_cons_succ]
                  refine takeG (i := 9) (some 52) (.pointer (some ⟨B0, i * 3, none⟩)) rfl rfl (by kernel_rfl) (by kernel_rfl) (by kernel_rfl) (fun _ _ _ h => h) HS3.out (by kernel_rfl) (fun W hW => by obtain ⟨e0, e1, e2, e3, e4, e5, e6⟩ := hW; go_simp) ?_
                  simp only [Act.put, List.setIfInBounds_toArray, List.set_cons_zero, List.set_cons_succ]
                  refine wpAnyH_ready (rs := [10]) (by kernel_rfl) (by simp) (AllReadyH.cons rfl (fun K2 hK2 => ?_) AllReadyH.nil)
                  refine branchS W4 rfl (by kernel_rfl) (by rw [HW4.out]; have hn0 := HN.out.1; have hn1 := HN.out.2.1; have hn2 := HN.out.2.2; have nf := NF.out; go_simp) ?_
                  refine hK2.out _ _ HS4.out (fun _ => ?_)
                  refine wpAnyH_done (by kernel_rfl) ?_ _
                  go_wp2_with fail
                  go_roundw
                  case rel => exact ⟨i + 1, _, by omega, by go_num, HST, HA'⟩
                  case measure => simp [intOf]; omega
              · have hend : i = m' := by omega
                subst hend
                have HJ : Hid (joinP (.mk k c ns i xs) (.mk k c' ns' i xs') = some (.mk k c ns i (fun q => (joinP (xs q) (xs' q)).getD .bad))) := Lib.hid (join_some HNQ.out.2 HNQ.out.1 hA.out)
                have q2 := TT2.out.of (hW.out.below.block _ (by omega))
                have q4 := TT4.out.of (hW.out.below.block _ (by omega))
                obtain ⟨p0, p1, p2, pf, pl⟩ := q2.cells
                obtain ⟨vs', hvs⟩ : ∃ vs' : Nat → Array Value, ∀ q, q < i → TW wr (fun b => ((Q b ∧ b < w.heap.size) ∨ B0 ≤ b) ∧ b ≠ B0) (vs' q) ((joinP (xs q) (xs' q)).getD .bad) ∧ ∀ k, k < 3 → (vs' q)[k]? = some (F (q * 3 + k)) :=
                  ⟨fun q => if h : q < i then (hW.out.done q h).choose else #[], fun q hq => by simp only [dif_pos hq]; exact (hW.out.done q hq).choose_spec⟩
                obtain ⟨wF, hwF⟩ : ∃ W, W = wr.setRow (w.heap.size + 1 + 1) #[.int .i64 k, .slice A c ca, .slice (some ⟨B0, 0, none⟩) i i] := ⟨_, rfl⟩
                have hbF : Below w.heap.size w wF := by rw [hwF]; exact ⟨hBw.os, hBw.tape, hBw.output, by simpa [World.setRow] using hBw.size, fun q hq => (setRow_other _ _ _ _ (by omega)).trans (hBw.block q hq)⟩
                have hkF : ∀ b, b ≠ w.heap.size + 1 + 1 → wF.heap[b]? = wr.heap[b]? := fun b hb => by rw [hwF]; exact setRow_other _ _ _ _ hb
                have hsF : wF.heap.size = wr.heap.size := by rw [hwF]; simp [World.setRow]
                have hTF : TW wF (fun g => Q g ∨ w.heap.size ≤ g) #[.int .i64 k, .slice A c ca, .slice (some ⟨B0, 0, none⟩) i i] (.mk k c ns i (fun q => (joinP (xs q) (xs' q)).getD .bad)) := by
                  refine .mk k A c ca (some ⟨B0, 0, none⟩) i i ns _ vs' KK.out.1 HC.out.1 ⟨Nat.le_refl _, by unfold maxLen; omega⟩ HC.out.2.2.1 (fun e => by cases e) (fun h0 => ?_) (fun h0 => ⟨B0, 0, rfl, .inr (by omega), by omega, fun q hq r hr => ?_⟩) (fun q hq => ?_)
                  · obtain ⟨g, o, e, hq, hg, hx⟩ := HNM.out.1 h0
                    refine ⟨g, o, e, .inl hq, by omega, fun r hr => ⟨?_, (hx r hr).2⟩⟩
                    exact (hbF.cell (p := ⟨g, o + r, none⟩) hg).trans (hx r hr).1
                  · rw [Nat.zero_add, (hvs q hq).2 r hr, ← range_at F (show q * 3 + r < i * 3 by omega), ← hW.out.own.cellAt (q * 3 + r) (by omega)]
                    exact World.cell?_of_block (w := wr) (a := ⟨B0, q * 3 + r, none⟩) (hkF B0 (by omega))
                  · refine ((hvs q hq).1.keep (by omega) fun g hg hl => hkF g ?_).imp fun g hg _ => ?_
                    · rcases hg.1 with h | h
                      · omega
                      · omega
                    · rcases hg.1 with h | h
                      · exact .inl h.1
                      · exact .inr (by omega)
                have hTBF : TB wF (w.heap.size + 1 + 1) #[.int .i64 k, .slice A c ca, .slice (some ⟨B0, 0, none⟩) i i] := by rw [hwF]; exact q4.put _
                have HFIN := Lib.hid (And.intro hTBF (And.intro hbF hTF))
                have HWF := Lib.hid hwF
                have Q4 := Lib.hid q4
                clear hTBF hbF hTF hkF hsF hwF q2 q4 hvs
                go_wp2_with (refine stT rfl (.tmp 4) (.tmp 59) rfl (w.heap.size + 1 + 1) #[.int .i64 k, .slice A c ca, .slice (some ⟨B0, 0, none⟩) i i] #[.int .i64 0, .slice none 0 0, .slice none 0 0] rfl rfl Q4.out rfl rfl HFIN.out.2.2.one ?_; refine Hid.out ?_)
                refine Lib.hid ?_
                rw [← HWF.out]
                go_wp2_with fail
                refine bodyPost_ret (results_typ rfl _ _ (w.heap.size + 1 + 1) #[.int .i64 k, .slice A c ca, .slice (some ⟨B0, 0, none⟩) i i] rfl HFIN.out.1 rfl) rfl ⟨HFIN.out.2.1, ?_⟩
                rw [HJ.out]
                exact ⟨_, rfl, HFIN.out.2.2⟩
end Go.Proofs.YtcmohggnehkjeaaGreat
