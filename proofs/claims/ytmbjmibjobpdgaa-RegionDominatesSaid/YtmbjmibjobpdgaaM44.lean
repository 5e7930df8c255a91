/-
  What pieces keeps, amid its first walk and amid its second.
-/
import Derived.Test.YtmbjmibjobpdgaaM43
namespace Go.Proofs.Ytmbjmibjobpdgaa
open Go.RowKit

theorem Run2.whole {Q : Nat → List Nat} {nd : Nat → Nat} {L : List Nat} {s : St} (h : Run2 Q nd L s) : ∀ x, s.met x = false → s.opn x = Q x := by
  induction h with
  | nil => exact fun _ _ => rfl
  | skip _ _ ih => exact ih
  | @walk pre s x k _ hm _ ih => exact (((Inv.start Q (fun v => s.met v = true) (fun v => v = nd x) s.met s.opn (fun _ => Iff.rfl) ih).push hm (.inl ⟨rfl, rfl⟩)).steps k).whole
theorem Run2.root {Q : Nat → List Nat} {nd : Nat → Nat} {L : List Nat} {s : St} (h : Run2 Q nd L s) {y k : Nat} (hm : s.met y = false) (hs : (steps (Ds.push ⟨s.met, s.opn, [], [], fun _ => 0⟩ y) k).stk = []) : y ∈ (steps (Ds.push ⟨s.met, s.opn, [], [], fun _ => 0⟩ y) k).lft := by
  have h2 := ((Inv.start Q (fun v => s.met v = true) (fun v => v = y) s.met s.opn (fun _ => Iff.rfl) h.whole).push hm (.inl ⟨rfl, rfl⟩)).steps k
  have h3 := (h2.met y).1 (met_steps (d := Ds.push ⟨s.met, s.opn, [], [], fun _ => 0⟩ y) (show fup s.met y true y = true from fup_same _ _ _) k)
  rw [hs] at h3
  rcases h3 with h3 | h3 | h3
  · rw [hm] at h3; cases h3
  · exact h3
  · cases h3
theorem Run2.in_n {Q : Nat → List Nat} {nd : Nat → Nat} {n : Nat} {L : List Nat} {s : St} (h : Run2 Q nd L s) (hn : ∀ x, nd x < n) : ∀ P ∈ s.ps, ∃ y ∈ P, y < n := by
  induction h with
  | nil => exact fun P h => by cases h
  | skip _ _ ih => exact ih
  | @walk pre s x k h hm hs ih =>
    intro P hP
    rcases List.mem_append.1 hP with hP | hP
    · exact ih P hP
    · rw [List.mem_singleton] at hP
      exact ⟨nd x, by rw [hP]; exact h.root hm hs, hn x⟩
theorem Run2.len {Q : Nat → List Nat} {nd : Nat → Nat} {L : List Nat} {s : St} (h : Run2 Q nd L s) : s.ps.length ≤ L.length := by
  induction h with
  | nil => exact Nat.le_refl _
  | skip _ _ ih => rw [List.length_append]; omega
  | walk _ _ _ ih => simp only [List.length_append, List.length_cons, List.length_nil]; omega
theorem OwnI.bu {w w' : World} {B g1 g2 m1 m2 : Nat} {v : Value} {L : List Int} {u1 u2 : Nat → Value} (h : OwnI w B v L) (hb : Bu w.heap.size g1 g2 w w') (h1 : CB w 4 g1 m1 u1) (h2 : CB w 30 g2 m2 u2) : OwnI w' B v L := by
  rcases id h.2 with ⟨a, b⟩ | ⟨g, cap, cur, e, hB, hh, c1, c2, c3, c4⟩
  · exact ⟨h.1, .inl ⟨a, b⟩⟩
  · exact ⟨h.1, .inr ⟨g, cap, cur, e, hB, (hb.block g (row_lt hh) (Ne.symm (h1.ne_row hh (by decide))) (Ne.symm (h2.ne_row hh (by decide)))).trans hh, c1, c2, c3, c4⟩⟩
/-- The ways that are left, behind a slice that may be of no nodes. -/
def OpA (W : World) (base lim n : Nat) (A : Option Addr) (opn : Nat → List Nat) : Prop := 0 < n → ∃ go, A = some ⟨go, 0, none⟩ ∧ base ≤ go ∧ OpnAt W lim go n opn
theorem OpA.keep {W W' : World} {base lim n : Nat} {A : Option Addr} {opn : Nat → List Nat} (h : OpA W base lim n A opn) (hl : lim ≤ base) (hb : ∀ k, k < W.heap.size → (∃ cs, W.heap[k]? = some (.cells cs 30 (0, 0)) ∧ A = some ⟨k, 0, none⟩) → W'.heap[k]? = W.heap[k]?) (hw : Below base W W') : OpA W' base lim n A opn := fun h0 => by
  obtain ⟨go, e, h1, h2⟩ := h h0
  obtain ⟨us, hc, _⟩ := id h2
  obtain ⟨cs, hcs, _⟩ := id hc
  exact ⟨go, e, h1, h2.keep (hb go hc.lt ⟨cs, hcs, e⟩) (hw.mono hl)⟩
structure Z1 (w W wr : World) (lim n : Nat) (Q : Nat → List Nat) (b4 b5 gm1 gm2 : Nat) (A1 A2 : Option Addr) (co1 co2 : Nat) (met : Nat → Bool) (opn : Nat → List Nat) (L : List Int) (lv : Value) : Prop where
  met : MetAt wr gm1 n met
  opn : OpA wr (w.heap.size + 1) lim n A1 opn
  met2 : MetAt wr gm2 n (fun _ => false)
  opn2 : OpA wr (w.heap.size + 1) lim n A2 Q
  r4 : wr.heap[b4]? = some (.cells #[.slice (some ⟨gm1, 0, none⟩) n n, .slice A1 n co1] 82 (0, 0))
  r5 : wr.heap[b5]? = some (.cells #[.slice (some ⟨gm2, 0, none⟩) n n, .slice A2 n co2] 82 (0, 0))
  own : OwnI wr W.heap.size lv L
  bel : Below w.heap.size w wr
  sz : w.heap.size + 1 ≤ W.heap.size ∧ W.heap.size ≤ wr.heap.size
section
variable {w W wr w' : World} {lim n b4 b5 gm1 gm2 co1 co2 : Nat} {Q : Nat → List Nat} {A1 A2 : Option Addr} {met met' : Nat → Bool} {opn opn' : Nat → List Nat} {L L' : List Int} {lv lv' : Value}
theorem Z1.below (h : Z1 w W wr lim n Q b4 b5 gm1 gm2 A1 A2 co1 co2 met opn L lv) (hlim : lim ≤ w.heap.size) (hb : Below wr.heap.size wr w') : Z1 w W w' lim n Q b4 b5 gm1 gm2 A1 A2 co1 co2 met opn L lv := by
  obtain ⟨s1, s2⟩ := h.sz
  exact ⟨CB.keep h.met hb, h.opn.keep (by omega) (fun k hk _ => hb.block k hk) (hb.mono (by omega)), CB.keep h.met2 hb, h.opn2.keep (by omega) (fun k hk _ => hb.block k hk) (hb.mono (by omega)), (hb.block b4 (row_lt h.r4)).trans h.r4, (hb.block b5 (row_lt h.r5)).trans h.r5, h.own.below hb, h.bel.trans (hb.mono (by omega)), s1, Nat.le_trans s2 hb.size⟩
theorem Z1.grow (h : Z1 w W wr lim n Q b4 b5 gm1 gm2 A1 A2 co1 co2 met opn L lv) (hlim : lim ≤ w.heap.size) (hg : wr.grownBy w' lv.ownBlock) (ho : OwnI w' W.heap.size lv' L') : Z1 w W w' lim n Q b4 b5 gm1 gm2 A1 A2 co1 co2 met opn L' lv' := by
  obtain ⟨s1, s2⟩ := h.sz
  have hne : ∀ {g : Nat} {cs : Array Value} {T : TypeId}, wr.heap[g]? = some (.cells cs T (0, 0)) → T ≠ 3 → w'.heap[g]? = wr.heap[g]? := fun hb hT => hg.block _ (row_lt hb) (h.own.ne hb hT)
  have hbl : Below W.heap.size wr w' := ⟨hg.os, hg.tape, hg.output, hg.size, fun k hk => hg.block k (by omega) (fun e => by have := (World.ownsRow.lt h.own k e.symm).1; omega)⟩
  have hm : ∀ {g : Nat} {m : Nat → Bool}, MetAt wr g n m → MetAt w' g n m := fun h => by
    obtain ⟨cs, hcs, _⟩ := id h
    exact CB.block h (hne hcs (by decide))
  exact ⟨hm h.met, h.opn.keep (by omega) (fun k _ ⟨cs, hcs, _⟩ => hne hcs (by decide)) (hbl.mono (by omega)), hm h.met2, h.opn2.keep (by omega) (fun k _ ⟨cs, hcs, _⟩ => hne hcs (by decide)) (hbl.mono (by omega)), (hne h.r4 (by decide)).trans h.r4, (hne h.r5 (by decide)).trans h.r5, ho, h.bel.trans (hbl.mono (by omega)), s1, Nat.le_trans s2 hg.size⟩
theorem Z1.walk (h : Z1 w W wr lim n Q b4 b5 gm1 gm2 A1 A2 co1 co2 met opn L lv) (hlim : lim ≤ w.heap.size) (hap : Apt n gm1 gm2 A1 A2) (h0 : 0 < n) {go : Nat} (hgo : A1 = some ⟨go, 0, none⟩) (hg1 : w.heap.size + 1 ≤ gm1) (hge : w.heap.size + 1 ≤ go) (hb : Bu wr.heap.size gm1 go wr w') (hm : MetAt w' gm1 n met') (ho : OpnAt w' lim go n opn') : Z1 w W w' lim n Q b4 b5 gm1 gm2 A1 A2 co1 co2 met' opn' L lv := by
  obtain ⟨s1, s2⟩ := h.sz
  obtain ⟨go1, e1, _, hop⟩ := h.opn h0
  rw [hgo] at e1
  injection e1 with e1; injection e1 with e1 _
  subst e1
  obtain ⟨us, hcb, _⟩ := id hop
  have hne : ∀ {g : Nat} {cs : Array Value} {T : TypeId}, wr.heap[g]? = some (.cells cs T (0, 0)) → T ≠ 4 → T ≠ 30 → w'.heap[g]? = wr.heap[g]? := fun hr h1 h2 => hb.block _ (row_lt hr) (Ne.symm (h.met.ne_row hr (Ne.symm h1))) (Ne.symm (hcb.ne_row hr (Ne.symm h2)))
  have hbl : Below (w.heap.size + 1) wr w' := (hb.mono (by omega)).below (Nat.le_refl _) hg1 hge
  refine ⟨hm, fun _ => ⟨go, hgo, hge, ho⟩, ?_, ?_, (hne h.r4 (by decide) (by decide)).trans h.r4, (hne h.r5 (by decide) (by decide)).trans h.r5, h.own.bu hb h.met hcb, h.bel.trans (hbl.mono (by omega)), s1, Nat.le_trans s2 hb.size⟩
  · obtain ⟨cs, hcs, _⟩ := id h.met2
    exact CB.block h.met2 (hb.block gm2 h.met2.lt (Ne.symm hap.1) (fun e => by
      obtain ⟨cs2, hcs2, _⟩ := id hcb
      rw [← e, hcs] at hcs2
      injection hcs2 with hcs2
      injection hcs2 with _ hcs2 _
      exact absurd hcs2 (by decide)))
  · refine h.opn2.keep (by omega) (fun k hk ⟨cs, hcs, e⟩ => hb.block k hk (fun e2 => ?_) (fun e2 => hap.2 h0 go k hgo e e2.symm)) hbl
    exact h.met.ne_row hcs (by decide) e2.symm
end
/-- Amid the second walk. -/
structure Z2 (W wr : World) (base lim n : Nat) (b5 b7 gm2 : Nat) (A2 : Option Addr) (co2 : Nat) (s : St) (pv : Value) (us : List Value) : Prop where
  met : MetAt wr gm2 n s.met
  opn : OpA wr base lim n A2 s.opn
  r5 : wr.heap[b5]? = some (.cells #[.slice (some ⟨gm2, 0, none⟩) n n, .slice A2 n co2] 82 (0, 0))
  box : wr.heap[b7]? = some (.cells #[pv] 38 (0, 0))
  row : wr.ownsRow W.heap.size 30 1 pv s.ps.length us
  pcs : ∀ t (ht : t < s.ps.length), ∃ u, us[t]? = some u ∧ OwnI wr W.heap.size u (ofNs s.ps[t])
  keep : ∀ k, k < W.heap.size → k ≠ gm2 → k ≠ b7 → (0 < n → A2 ≠ some ⟨k, 0, none⟩) → wr.heap[k]? = W.heap[k]?
  same : wr.os = W.os ∧ wr.tape = W.tape ∧ wr.output = W.output
  sz : W.heap.size ≤ wr.heap.size
/-- A row of anything, by its block: none, or a block of that type at B or above. -/
theorem row_block {w : World} {B e sz m : Nat} {v : Value} {xs : List Value} (h : w.ownsRow B e sz v m xs) {g : Nat} (hg : v.ownBlock = some g) : ∃ cs, w.heap[g]? = some (.cells cs e (0, 0)) := by
  rcases h.2 with ⟨rfl, _⟩ | ⟨g', cap, cur, rfl, _, hh, _⟩
  · cases hg
  · cases hg
    exact ⟨cur, hh⟩
theorem row_apart {w : World} {B B' e e' sz sz' m m' : Nat} {u v : Value} {xs ys : List Value} (h : w.ownsRow B e sz u m xs) (h' : w.ownsRow B' e' sz' v m' ys) (he : e ≠ e') : u.ownBlock = none ∨ u.ownBlock ≠ v.ownBlock := by
  cases hu : u.ownBlock with
  | none => exact .inl rfl
  | some g =>
    right
    intro hv
    obtain ⟨c1, h1⟩ := row_block h hu
    obtain ⟨c2, h2⟩ := row_block h' hv.symm
    rw [h1] at h2
    injection h2 with h2
    injection h2 with _ h2 _
    exact he h2
theorem row_low {w w' : World} {B e sz m : Nat} {v : Value} {xs : List Value} (h : w.ownsRow B e sz v m xs) (hk : ∀ k, B ≤ k → (∃ cs, w.heap[k]? = some (.cells cs e (0, 0))) → w'.heap[k]? = w.heap[k]?) : w'.ownsRow B e sz v m xs := by
  rcases id h.2 with ⟨a, b⟩ | ⟨g, cap, cur, e1, hB, hh, c1, c2, c3, c4⟩
  · exact ⟨h.1, .inl ⟨a, b⟩⟩
  · exact ⟨h.1, .inr ⟨g, cap, cur, e1, hB, (hk g hB ⟨cur, hh⟩).trans hh, c1, c2, c3, c4⟩⟩
section
variable {W wr w' : World} {base lim n b5 b7 gm2 co2 : Nat} {A2 : Option Addr} {s : St} {pv pv' : Value} {us : List Value}
/-- What isn't cells moved, or nothing but what lies above. -/
theorem Z2.turn (h : Z2 W wr base lim n b5 b7 gm2 A2 co2 s pv us) (hl : lim ≤ base) (hbs : base ≤ W.heap.size) (hos : w'.os = wr.os ∧ w'.tape = wr.tape ∧ w'.output = wr.output) (hsz : wr.heap.size ≤ w'.heap.size) (hlow : ∀ k, k < W.heap.size → w'.heap[k]? = wr.heap[k]?) (hc : ∀ (k : Nat) (cs : Array Value) (T : TypeId), wr.heap[k]? = some (.cells cs T (0, 0)) → w'.heap[k]? = wr.heap[k]?) : Z2 W w' base lim n b5 b7 gm2 A2 co2 s pv us := by
  refine ⟨?_, h.opn.keep hl (fun k _ ⟨cs, hcs, _⟩ => hc k cs _ hcs) ⟨hos.1, hos.2.1, hos.2.2, hsz, fun k hk => hlow k (by omega)⟩, (hc _ _ _ h.r5).trans h.r5, (hc _ _ _ h.box).trans h.box, row_low h.row (fun k _ ⟨cs, hcs⟩ => hc k cs _ hcs), fun t ht => ?_, fun k hk a b c => (hlow k hk).trans (h.keep k hk a b c), ⟨hos.1.trans h.same.1, hos.2.1.trans h.same.2.1, hos.2.2.trans h.same.2.2⟩, Nat.le_trans h.sz hsz⟩
  · obtain ⟨cs, hcs, _⟩ := id h.met
    exact CB.block h.met (hc _ _ _ hcs)
  · obtain ⟨u, e, ho⟩ := h.pcs t ht
    exact ⟨u, e, row_low ho (fun k _ ⟨cs, hcs⟩ => hc k cs _ hcs)⟩
theorem Z2.below (h : Z2 W wr base lim n b5 b7 gm2 A2 co2 s pv us) (hl : lim ≤ base) (hbs : base ≤ W.heap.size) (hb : Below wr.heap.size wr w') : Z2 W w' base lim n b5 b7 gm2 A2 co2 s pv us :=
  h.turn hl hbs ⟨hb.os, hb.tape, hb.output⟩ hb.size (fun k hk => hb.block k (by have := h.sz; omega)) (fun k _ _ hc => hb.block k (row_lt hc))
theorem Z2.from (h : Z2 W wr base lim n b5 b7 gm2 A2 co2 s pv us) (hl : lim ≤ base) (hbs : base ≤ W.heap.size) {row : Option Nat} (hg : wr.grownBy w' row) (hr : ∀ r, row = some r → W.heap.size ≤ r ∧ ∃ o : Obj, wr.heap[r]? = some o ∧ o.isCells = false) : Z2 W w' base lim n b5 b7 gm2 A2 co2 s pv us := by
  have hs := h.sz
  refine h.turn hl hbs ⟨hg.os, hg.tape, hg.output⟩ hg.size (fun k hk => hg.block k (by omega) (fun e => by have := (hr k e.symm).1; omega)) (fun k cs T hc => hg.block k (row_lt hc) (fun e => ?_))
  obtain ⟨_, o, ho, hn⟩ := hr k e.symm
  rw [hc] at ho
  injection ho with ho
  rw [← ho] at hn
  cases hn
/-- A walk from one more root. -/
theorem Z2.walk (h : Z2 W wr base lim n b5 b7 gm2 A2 co2 s pv us) (h0 : 0 < n) {go : Nat} (hgo : A2 = some ⟨go, 0, none⟩) (hge : base ≤ go) (hgl : go < W.heap.size) {met' : Nat → Bool} {opn' : Nat → List Nat} (hb : Bu wr.heap.size gm2 go wr w') (hm : MetAt w' gm2 n met') (ho : OpnAt w' lim go n opn') : Z2 W w' base lim n b5 b7 gm2 A2 co2 ⟨met', opn', s.ps⟩ pv us := by
  have hs := h.sz
  obtain ⟨go1, e1, _, hop⟩ := h.opn h0
  rw [hgo] at e1
  injection e1 with e1; injection e1 with e1 _
  subst e1
  obtain ⟨us2, hcb, _⟩ := id hop
  have hne : ∀ {g : Nat} {cs : Array Value} {T : TypeId}, wr.heap[g]? = some (.cells cs T (0, 0)) → T ≠ 4 → T ≠ 30 → w'.heap[g]? = wr.heap[g]? := fun hr h1 h2 => hb.block _ (row_lt hr) (Ne.symm (h.met.ne_row hr (Ne.symm h1))) (Ne.symm (hcb.ne_row hr (Ne.symm h2)))
  refine ⟨hm, fun _ => ⟨go, hgo, hge, ho⟩, (hne h.r5 (by decide) (by decide)).trans h.r5, (hne h.box (by decide) (by decide)).trans h.box, row_low h.row (fun k hk ⟨cs, hcs⟩ => hb.block k (row_lt hcs) (Ne.symm (h.met.ne_row hcs (by decide))) (by omega)), fun t ht => ?_, fun k hk a b c => (hb.block k (by omega) a (fun e => c h0 (by rw [hgo, e]))).trans (h.keep k hk a b c), ⟨hb.os.trans h.same.1, hb.tape.trans h.same.2.1, hb.output.trans h.same.2.2⟩, Nat.le_trans hs hb.size⟩
  obtain ⟨u, e, ho⟩ := h.pcs t ht
  exact ⟨u, e, row_low ho (fun k _ ⟨cs, hcs⟩ => hne hcs (by decide) (by decide))⟩
/-- One piece more. -/
theorem Z2.push (h : Z2 W wr base lim n b5 b7 gm2 A2 co2 s pv us) (hl : lim ≤ base) (hgl : ∀ g, A2 = some ⟨g, 0, none⟩ → g < W.heap.size) (hgm : gm2 < W.heap.size) (hb5 : b5 < W.heap.size) (hb7 : b7 < W.heap.size) (hge7 : base ≤ b7) (hg : wr.grownBy w' pv.ownBlock) {v : Value} {P : List Nat} (ho : w'.ownsRow W.heap.size 30 1 pv' (s.ps.length + 1) (us ++ [v])) (hv : OwnI wr W.heap.size v (ofNs P)) :
    (w'.cell? ⟨b7, 0, none⟩ = some pv ∧ w'.frozen? ⟨b7, 0, none⟩ = false) ∧ Z2 W (w'.setCell ⟨b7, 0, none⟩ pv') base lim n b5 b7 gm2 A2 co2 ⟨s.met, s.opn, s.ps ++ [P]⟩ pv' (us ++ [v]) := by
  have hs := h.sz
  have hlow : ∀ k, k < W.heap.size → w'.heap[k]? = wr.heap[k]? := fun k hk => hg.block k (by omega) (fun e => by have := (World.ownsRow.lt h.row k e.symm).1; omega)
  have hbox : w'.heap[b7]? = some (.cells #[pv] 38 (0, 0)) := (hlow b7 hb7).trans h.box
  have hset : ∀ k, k ≠ b7 → (w'.setCell ⟨b7, 0, none⟩ pv').heap[k]? = w'.heap[k]? := fun k hk => Below.heap_setCell _ ⟨b7, 0, none⟩ _ _ hk
  have hint : ∀ {u : Value} {L : List Int}, OwnI wr W.heap.size u L → OwnI (w'.setCell ⟨b7, 0, none⟩ pv') W.heap.size u L := fun hu =>
    row_low (World.ownsRow.kept hu hg (row_apart hu h.row (by decide))) (fun k hk _ => hset k (by omega))
  have hne7 : ∀ {g m : Nat} {T : TypeId} {cu : Nat → Value}, CB wr T g m cu → T ≠ 38 → g ≠ b7 := fun hc hT => hc.ne_row h.box hT
  refine ⟨⟨by rw [cell_of_row _ _ 0 _ _ (0, 0) hbox]; rfl, by simp [World.frozen?, hbox]⟩, ⟨?_, ?_, ?_, heap_set hbox 0 pv', ?_, fun t ht => ?_, fun k hk a b c => (hset k b).trans ((hlow k hk).trans (h.keep k hk a b c)), ⟨hg.os.trans h.same.1, hg.tape.trans h.same.2.1, hg.output.trans h.same.2.2⟩, by rw [World.size_setCell]; exact Nat.le_trans hs hg.size⟩⟩
  · exact CB.block h.met ((hset gm2 (hne7 h.met (by decide))).trans (hlow gm2 hgm))
  · intro h0
    obtain ⟨go, e, h1, h2⟩ := h.opn h0
    obtain ⟨u2, hc2, _⟩ := id h2
    refine ⟨go, e, h1, h2.keep ((hset go (hne7 hc2 (by decide))).trans (hlow go (hgl go e))) ?_⟩
    exact ⟨hg.os, hg.tape, hg.output, by rw [World.size_setCell]; exact hg.size, fun k hk => (hset k (by omega)).trans (hlow k (by omega))⟩
  · have hr := h.r5
    refine (hset b5 (fun e => ?_)).trans ((hlow b5 hb5).trans hr)
    rw [e, h.box] at hr
    injection hr with hr
    injection hr with _ hr _
    exact absurd hr (by decide)
  · rw [List.length_append]
    exact row_low ho (fun k hk _ => hset k (by omega))
  · by_cases ht2 : t < s.ps.length
    · obtain ⟨u, e, ho⟩ := h.pcs t ht2
      have hul : t < us.length := (List.getElem?_eq_some_iff.1 e).1
      refine ⟨u, by rw [List.getElem?_append_left hul]; exact e, ?_⟩
      have e2 : (s.ps ++ [P])[t]'ht = s.ps[t] := List.getElem_append_left ht2
      show OwnI _ _ u (ofNs ((s.ps ++ [P])[t]'ht))
      rw [e2]
      exact hint ho
    · have hul : us.length = s.ps.length := by have := h.row.1; omega
      have ht3 : t = s.ps.length := by
        have h9 : t < (s.ps ++ [P]).length := ht
        rw [List.length_append, List.length_singleton] at h9
        omega
      subst ht3
      refine ⟨v, by rw [← hul]; simp, ?_⟩
      have e2 : (s.ps ++ [P])[s.ps.length]'ht = P := by simp
      show OwnI _ _ v (ofNs ((s.ps ++ [P])[s.ps.length]'ht))
      rw [e2]
      exact hint hv
theorem Z2.lie (h : Z2 W wr base lim n b5 b7 gm2 A2 co2 s pv us) : ∃ A c, pv = .slice A s.ps.length c ∧ LieR wr wr.heap.size A s.ps.length (fun t => ofNs (s.ps.getD t [])) := by
  have hul : us.length = s.ps.length := by have := h.row.1; omega
  rcases id h.row.2 with ⟨e, h0⟩ | ⟨g, cap, cur, e, hB, hh, c1, c2, c3, c4⟩
  · refine ⟨none, 0, by rw [e, h0], fun h1 => by omega⟩
  · refine ⟨_, _, e, fun _ => ⟨g, 0, rfl, row_lt hh, fun t ht => ?_⟩⟩
    obtain ⟨u, e1, ho⟩ := h.pcs t ht
    obtain ⟨A, c, e2, hl⟩ := ho.lie
    have e3 : s.ps.getD t [] = s.ps[t] := by simp [List.getD, ht]
    show ∃ B c, wr.cell? ⟨g, 0 + t, none⟩ = some (.slice B (ofNs (s.ps.getD t [])).length c) ∧ LieI wr wr.heap.size B (ofNs (s.ps.getD t []))
    rw [e3]
    refine ⟨A, c, ?_, hl⟩
    have := World.ownsRow.cells h.row (g := g) (by rw [e]; rfl) t u e1
    rw [WideShapes.add_plain] at this
    rw [this, e2]
end
/-- Where a row lies: nowhere, or in a block of ints. -/
theorem OwnI.place2 {w : World} {B n c lb : Nat} {A : Option Addr} {L : List Int} (h : OwnI w B (.slice A n c) L) (hs : lb < w.heap.size) : ∃ gs, gs < w.heap.size ∧ (gs = lb ∨ ∃ cs, w.heap[gs]? = some (.cells cs 3 (0, 0))) ∧ (0 < n → A = some ⟨gs, 0, none⟩) ∧ n = L.length ∧ ∀ j (hj : j < L.length), w.cell? ⟨gs, 0 + j, none⟩ = some (.int .i64 L[j]) := by
  obtain ⟨h0, hl⟩ := h.lieAt
  rcases id h.2 with ⟨h1, h2⟩ | ⟨g, cap, cur, e, hb, hh, _⟩
  · rw [h2] at h0
    have : L.length = 0 := by omega
    exact ⟨lb, hs, .inl rfl, fun h => by omega, by omega, fun j hj => by omega⟩
  · injection e with e1 e2 e3
    subst e1
    refine ⟨g, row_lt hh, .inr ⟨cur, hh⟩, fun _ => rfl, h0, fun j hj => ?_⟩
    obtain ⟨g', o', e, _, hx⟩ := hl (by omega)
    injection e with e
    injection e with e1 e2
    subst e1 e2
    exact hx j hj
theorem keepsFrom_below {B : Nat} {A C : World} (h : Below A.heap.size A C) : KeepsFrom B A C := ⟨h.size, fun k _ _ ho _ => (h.block k (row_lt ho)).trans ho⟩
theorem keepsFrom_bu {B g1 g2 : Nat} {A C : World} (h : Bu A.heap.size g1 g2 A C) (h1 : g1 < B) (h2 : g2 < B) : KeepsFrom B A C := ⟨h.size, fun k _ hk ho _ => (h.block k (row_lt ho) (by omega) (by omega)).trans ho⟩
theorem keepsFrom_row {B base e sz m : Nat} {A C : World} {v : Value} {xs : List Value} (hv : A.ownsRow base e sz v m xs) (hg : A.grownBy C v.ownBlock) : KeepsFrom B A C := ⟨hg.size, fun k o _ ho hn => (hg.block k (row_lt ho) (fun he => by
  obtain ⟨cs, hcs⟩ := row_block hv he.symm
  rw [ho] at hcs
  injection hcs with hcs
  rw [hcs] at hn
  cases hn)).trans ho⟩
section
variable {l n : Nat} {ops : Array Oper} {rest : List Oper} {o : Oper} {a : Act} {w : World} {Q : Exit → Act → World → Prop}
/-- An operation in a round, walked as anywhere. -/
theorem wpListIn_round (hg : o.guard = none) (hd : ∀ c, o.op ≠ .defer c) (h : Oper.wp Try.prog o a w (fun a' w' => wpListIn (Fence.wide.inRound l) n Try.prog ops Q rest a' w') Q) : wpListIn (Fence.wide.inRound l) n Try.prog ops Q (o :: rest) a w :=
  wpListIn_plain hg fun _ hK => oper_round hd hK h
/-- A whole load of a walk, in a round. -/
theorem wpListIn_walk (hg : o.guard = none) (x : Operand) (ho : o.op = .load 82 x) (b : Nat) (hx : a.eval x = .pointer (some ⟨b, 0, none⟩)) (u v : Value) (hr : w.heap[b]? = some (.cells #[u, v] 82 (0, 0)))
    (h : wpListIn (Fence.wide.inRound l) n Try.prog ops Q rest (a.put o.dst (.agg #[u, v])) w) : wpListIn (Fence.wide.inRound l) n Try.prog ops Q (o :: rest) a w := by
  refine wpListIn_round hg (fun c e => by rw [ho] at e; cases e) ?_
  refine wp_load_mid 82 x ho b 0 hx [u, v] _ (fun j y hj => ?_) Try.underlying82 rfl (by kernel_rfl) h
  rw [Nat.zero_add, cell_of_row _ _ j _ _ (0, 0) hr]
  simpa using hj
/-- One row of ints behind rows of the call's own, in a round. -/
theorem wpListIn_rows (hgd : o.guard = none) (s x : Operand) (ho : o.op = .call { callee := .builtin .append, args := #[s, x], argTypes := #[38, 38] })
    (B : Nat) (v : Value) (m : Nat) (us : List Value) (hs : a.eval s = v) (hown : w.ownsRow B 30 1 v m us) (b : Nat) (y : Value) (hx : a.eval x = .slice (some ⟨b, 0, none⟩) 1 1)
    (h0 : w.cell? ⟨b, 0, none⟩ = some y) (h1 : y.oneCell' = true) (hm : m ≤ 10000) (hB : B ≤ w.heap.size)
    (h : ∀ v' w', w'.ownsRow B 30 1 v' (m + 1) (us ++ [y]) → w.grownBy w' v.ownBlock → wpListIn (Fence.wide.inRound l) n Try.prog ops Q rest (a.put o.dst v') w') : wpListIn (Fence.wide.inRound l) n Try.prog ops Q (o :: rest) a w := by
  obtain ⟨i0, hi, hz0, hz1, hz2⟩ := info_parts info30'
  refine wpListIn_round hgd (fun c e => by rw [ho] at e; cases e) ?_
  obtain ⟨v', w', hr, h2, h3, _, _⟩ := run_append_own_at (P := Try.prog) w B 38 o.type 30 i0 _ 1 24 Try.underlying38 hi hz0 hz1 hz2 rfl (by omega) v m us hown ⟨b, 0, none⟩ 1 1 [y] rfl (fun j u hj => by
    match j, hj with
    | 0, hj => cases hj; rw [WideShapes.add_plain]; exact h0) (fun u hu => by simp at hu; subst hu; exact h1) (by unfold maxLen; omega) (by omega) hB
  unfold Oper.wp execOp
  simp only [ho, resolve, invoke, builtin, Sem.run_bind, Sem.run_pure, Result.andThen_ok, List.map_toArray, List.map_cons, List.map_nil, hs, hx, hr]
  exact h v' w' h2 h3
end
/-- What pieces answers. -/
def PcEnds (w : World) (G : GT) (e : Ending) (w' : World) : Prop := ∃ A c Ps d met, e = .returned (.slice A Ps.length c) ∧ LieR w' w'.heap.size A Ps.length (fun t => ofNs (Ps.getD t [])) ∧ Below w.heap.size w w' ∧ Wk1 (outN G) G.n G.n d ∧ Pcs (outN G) d.lft 0 Ps met ∧ Ps.length ≤ G.n ∧ ∀ P ∈ Ps, ∃ y ∈ P, y < G.n
end Go.Proofs.Ytmbjmibjobpdgaa
