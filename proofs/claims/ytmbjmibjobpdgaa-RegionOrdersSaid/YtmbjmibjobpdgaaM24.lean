/-
  A walk through a graph in depth, plainly: what was met, the ways that weren't gone yet, the stack, what was left; and where in the list of those that were left each one began.
  What a walk in depth comes to: from one root; and the pieces of a graph whose nodes are reached from one another.
-/

namespace Go.Proofs.Ytmbjmibjobpdgaa

/-- The walk's state; 'beg' is how many had been left when a node was met. -/
structure Ds where
  met : Nat → Bool
  opn : Nat → List Nat
  stk : List Nat
  lft : List Nat
  beg : Nat → Nat
def fup {α : Type} (f : Nat → α) (i : Nat) (v : α) : Nat → α := fun j => if j = i then v else f j
theorem fup_same {α : Type} (f : Nat → α) (i : Nat) (v : α) : fup f i v i = v := if_pos rfl
theorem fup_far {α : Type} {f : Nat → α} {i j : Nat} {v : α} (h : j ≠ i) : fup f i v j = f j := if_neg h
/-- A node is met. -/
def Ds.push (d : Ds) (y : Nat) : Ds := ⟨fup d.met y true, d.opn, y :: d.stk, d.lft, fup d.beg y d.lft.length⟩
/-- The top is left. -/
def Ds.pop (d : Ds) (x : Nat) (s : List Nat) : Ds := ⟨d.met, d.opn, s, d.lft ++ [x], d.beg⟩
/-- A way is gone. -/
def Ds.go (d : Ds) (x : Nat) (r : List Nat) : Ds := ⟨d.met, fup d.opn x r, d.stk, d.lft, d.beg⟩
def Ds.step (d : Ds) : Ds := match d.stk with
  | [] => d
  | x :: s => match d.opn x with
    | [] => d.pop x s
    | y :: r => if d.met y = true then d.go x r else (d.go x r).push y

section
variable (R : Nat → List Nat) (old : Nat → Prop)
/-- y is reached from x over nodes that aren't old ones. -/
inductive Rch : Nat → Nat → Prop
  | refl (x : Nat) : Rch x x
  | snoc {x y z : Nat} (h : Rch x y) (e : z ∈ R y) (ho : ¬ old z) : Rch x z
variable {R old}
theorem Rch.trans {x y z : Nat} (h : Rch R old x y) (h' : Rch R old y z) : Rch R old x z := by
  induction h' with
  | refl => exact h
  | snoc _ e ho ih => exact .snoc ih e ho
variable (R old)
/-- Each on the stack was come to from the one below it. -/
def Chain : List Nat → Prop
  | [] => True
  | [_] => True
  | y :: x :: s => y ∈ R x ∧ Chain (x :: s)
/-- Those on the stack began one behind the other. -/
def Rising (b : Nat → Nat) : List Nat → Prop
  | [] => True
  | [_] => True
  | y :: x :: s => b x ≤ b y ∧ Rising b (x :: s)
variable {R old}
theorem Chain.tail {y : Nat} {s : List Nat} (h : Chain R (y :: s)) : Chain R s := by
  cases s with
  | nil => trivial
  | cons x s => exact h.2
theorem Rising.tail {b : Nat → Nat} {y : Nat} {s : List Nat} (h : Rising b (y :: s)) : Rising b s := by
  cases s with
  | nil => trivial
  | cons x s => exact h.2
theorem Rising.le {b : Nat → Nat} : ∀ {s : List Nat} {y : Nat}, Rising b (y :: s) → ∀ x ∈ s, b x ≤ b y := by
  intro s
  induction s with
  | nil => intro y _ x hx; cases hx
  | cons z s ih =>
    intro y h x hx
    rcases List.mem_cons.1 hx with rfl | hx
    · exact h.1
    · exact Nat.le_trans (ih h.2 x hx) h.1
theorem Rising.congr {b b' : Nat → Nat} : ∀ {s : List Nat}, (∀ x ∈ s, b' x = b x) → Rising b s → Rising b' s := by
  intro s
  induction s with
  | nil => intro _ _; trivial
  | cons y s ih =>
    intro he h
    cases s with
    | nil => trivial
    | cons x s => exact ⟨by rw [he y (by simp), he x (by simp)]; exact h.1, ih (fun z hz => he z (List.mem_cons_of_mem _ hz)) h.2⟩
theorem Chain.reach {s : List Nat} : ∀ {y : Nat}, Chain R (y :: s) → (∀ z ∈ y :: s, ¬ old z) → ∀ x ∈ s, Rch R old x y := by
  induction s with
  | nil => intro y _ _ x hx; cases hx
  | cons z s ih =>
    intro y h ho x hx
    have hz : Rch R old z y := .snoc (.refl z) h.1 (ho y (by simp))
    rcases List.mem_cons.1 hx with rfl | hx
    · exact hz
    · exact (ih h.2 (fun u hu => ho u (List.mem_cons_of_mem _ hu)) x hx).trans hz
end
/-- Where a node stands in a list. -/
def pos (l : List Nat) (x : Nat) : Nat := l.idxOf x
theorem pos_app {l : List Nat} {x : Nat} (h : x ∈ l) (y : Nat) : pos (l ++ [y]) x = pos l x := by
  unfold pos
  rw [List.idxOf_append, if_pos h]
theorem pos_new {l : List Nat} {x : Nat} (h : x ∉ l) : pos (l ++ [x]) x = l.length := by
  unfold pos
  rw [List.idxOf_append, if_neg h]
  simp
theorem pos_lt {l : List Nat} {x : Nat} (h : x ∈ l) : pos l x < l.length := List.idxOf_lt_length_of_mem h
theorem pos_at {l : List Nat} {x : Nat} (h : x ∈ l) : l[pos l x]? = some x := by
  have := pos_lt h
  rw [List.getElem?_eq_getElem this]
  unfold pos at *
  rw [List.getElem_idxOf]
theorem pos_of {l : List Nat} (hn : l.Nodup) {x j : Nat} (h : l[j]? = some x) : pos l x = j := by
  obtain ⟨hj, rfl⟩ := List.getElem?_eq_some_iff.1 h
  exact hn.idxOf_getElem j hj

/-- What a walk keeps: 'old' are those that were met before it began, 'roots' those that it began at. -/
structure Inv (R : Nat → List Nat) (old : Nat → Prop) (roots : Nat → Prop) (d : Ds) : Prop where
  nodup : (d.lft ++ d.stk).Nodup
  new : ∀ x, x ∈ d.lft ∨ x ∈ d.stk → d.met x = true ∧ ¬ old x
  met : ∀ x, d.met x = true ↔ old x ∨ x ∈ d.lft ∨ x ∈ d.stk
  whole : ∀ x, d.met x = false → d.opn x = R x
  chain : Chain R d.stk
  rise : Rising d.beg d.stk
  gone : ∀ x ∈ d.stk, ∃ pre, R x = pre ++ d.opn x ∧ ∀ v ∈ pre, d.met v = true
  begS : ∀ x ∈ d.stk, d.beg x ≤ d.lft.length
  begL : ∀ x ∈ d.lft, d.beg x ≤ pos d.lft x
  edge : ∀ x ∈ d.lft, ∀ v ∈ R x, old v ∨ ((v ∈ d.lft ∨ v ∈ d.stk) ∧ (pos d.lft v ≤ pos d.lft x ∨ d.beg v ≤ pos d.lft x))
  segS : ∀ x ∈ d.stk, ∀ j y, d.beg x ≤ j → d.lft[j]? = some y → Rch R old x y
  segL : ∀ x ∈ d.lft, ∀ j y, d.beg x ≤ j → j ≤ pos d.lft x → d.lft[j]? = some y → Rch R old x y
  lamS : ∀ x ∈ d.stk, ∀ y ∈ d.lft, d.beg x ≤ pos d.lft y → d.beg x ≤ d.beg y
  lamL : ∀ x ∈ d.lft, ∀ y ∈ d.lft, d.beg x ≤ pos d.lft y → pos d.lft y ≤ pos d.lft x → d.beg x ≤ d.beg y
  last : ∀ s y, d.stk = s ++ [y] → roots y
  over : ∀ x ∈ d.lft, roots x ∨ ∃ p, x ∈ R p ∧ (p ∈ d.stk ∨ (p ∈ d.lft ∧ pos d.lft x < pos d.lft p))

section
variable {R : Nat → List Nat} {old roots : Nat → Prop} {d : Ds}
theorem Inv.pop (h : Inv R old roots d) {x : Nat} {s : List Nat} (hs : d.stk = x :: s) (ho : d.opn x = []) : Inv R old roots (d.pop x s) := by
  have hxs : x ∈ d.stk := by rw [hs]; simp
  have hnd := h.nodup
  rw [hs] at hnd
  have hxl : x ∉ d.lft := fun hx => by
    have := (List.nodup_append.1 hnd).2.2 x hx x (by simp)
    exact this rfl
  have hxs' : x ∉ s := (List.nodup_cons.1 (List.nodup_append.1 hnd).2.1).1
  have hin : ∀ v, v ∈ s → v ∈ d.stk := fun v hv => by rw [hs]; exact List.mem_cons_of_mem _ hv
  have hmem : ∀ v, (v ∈ d.lft ++ [x] ∨ v ∈ s) ↔ (v ∈ d.lft ∨ v ∈ d.stk) := fun v => by
    rw [hs, List.mem_append, List.mem_singleton, List.mem_cons]
    constructor
    · rintro ((a | a) | a)
      · exact .inl a
      · exact .inr (.inl a)
      · exact .inr (.inr a)
    · rintro (a | a | a)
      · exact .inl (.inl a)
      · exact .inl (.inr a)
      · exact .inr a
  have hgone : ∀ v ∈ R x, d.met v = true := by
    obtain ⟨pre, e, hp⟩ := h.gone x hxs
    rw [ho, List.append_nil] at e
    rw [e]; exact hp
  have hpos : ∀ v, v ∈ d.lft → pos (d.lft ++ [x]) v = pos d.lft v := fun v hv => pos_app hv x
  have hposx : pos (d.lft ++ [x]) x = d.lft.length := pos_new hxl
  have hnew : ∀ z ∈ x :: s, ¬ old z := fun z hz => (h.new z (.inr (by rw [hs]; exact hz))).2
  have hch := h.chain
  rw [hs] at hch
  have hri := h.rise
  rw [hs] at hri
  have hget : ∀ j y, (d.lft ++ [x])[j]? = some y → (d.lft[j]? = some y ∧ j < d.lft.length) ∨ (j = d.lft.length ∧ y = x) := fun j y hj => by
    by_cases hlt : j < d.lft.length
    · rw [List.getElem?_append_left hlt] at hj
      exact .inl ⟨hj, hlt⟩
    · rw [List.getElem?_append_right (by omega)] at hj
      have hj0 : j - d.lft.length = 0 := by
        by_cases e : j - d.lft.length = 0
        · exact e
        · rw [List.getElem?_eq_none (by simp; omega)] at hj; cases hj
      rw [hj0] at hj
      simp at hj
      exact .inr ⟨by omega, hj.symm⟩
  have hle : ∀ v, v ∈ d.lft → pos d.lft v < d.lft.length := fun v hv => pos_lt hv
  refine ⟨?_, ?_, ?_, h.whole, hch.tail, hri.tail, ?_, ?_, ?_, ?_, ?_, ?_, ?_, ?_, ?_, ?_⟩
  · show (d.lft ++ [x] ++ s).Nodup
    rw [List.append_assoc]; exact hnd
  · intro v hv; exact h.new v ((hmem v).1 hv)
  · intro v
    show d.met v = true ↔ old v ∨ v ∈ d.lft ++ [x] ∨ v ∈ s
    rw [hmem v]; exact h.met v
  · intro v hv; exact h.gone v (hin v hv)
  · intro v hv
    show d.beg v ≤ (d.lft ++ [x]).length
    have := h.begS v (hin v hv)
    simp; omega
  · intro v hv
    show d.beg v ≤ pos (d.lft ++ [x]) v
    rcases List.mem_append.1 hv with hv | hv
    · rw [hpos v hv]; exact h.begL v hv
    · have e : v = x := by simpa using hv
      subst e
      rw [hposx]; exact h.begS v hxs
  · intro u hu v hv
    show old v ∨ ((v ∈ d.lft ++ [x] ∨ v ∈ s) ∧ (pos (d.lft ++ [x]) v ≤ pos (d.lft ++ [x]) u ∨ d.beg v ≤ pos (d.lft ++ [x]) u))
    rw [hmem v]
    rcases List.mem_append.1 hu with hu | hu
    · rcases h.edge u hu v hv with a | ⟨a, b⟩
      · exact .inl a
      · refine .inr ⟨a, ?_⟩
        rw [hpos u hu]
        rcases b with b | b
        · have hvl : v ∈ d.lft := by
            apply Classical.byContradiction
            intro hn
            have : pos d.lft v = d.lft.length := by unfold pos; exact List.idxOf_eq_length hn
            have := hle u hu
            omega
          rw [hpos v hvl]; exact .inl b
        · exact .inr b
    · have e : u = x := by simpa using hu
      subst e
      rw [hposx]
      rcases (h.met v).1 (hgone v hv) with a | a | a
      · exact .inl a
      · exact .inr ⟨.inl a, .inl (by rw [hpos v a]; exact Nat.le_of_lt (hle v a))⟩
      · exact .inr ⟨.inr a, .inr (h.begS v a)⟩
  · intro u hu j y hj hy
    rcases hget j y hy with ⟨hy, _⟩ | ⟨rfl, rfl⟩
    · exact h.segS u (hin u hu) j y hj hy
    · exact hch.reach hnew u hu
  · intro u hu0 j y hj hju hy
    rcases List.mem_append.1 hu0 with hu | hu
    · have hju' : j ≤ pos d.lft u := by rw [← hpos u hu]; exact hju
      rcases hget j y hy with ⟨hy, _⟩ | ⟨rfl, rfl⟩
      · exact h.segL u hu j y hj hju' hy
      · have := hle u hu; omega
    · have e : u = x := by simpa using hu
      subst e
      rcases hget j y hy with ⟨hy, _⟩ | ⟨rfl, rfl⟩
      · exact h.segS u hxs j y hj hy
      · exact .refl _
  · intro u hu v hv hb
    show d.beg u ≤ d.beg v
    have hb' : d.beg u ≤ pos (d.lft ++ [x]) v := hb
    rcases List.mem_append.1 hv with hv | hv
    · rw [hpos v hv] at hb'
      exact h.lamS u (hin u hu) v hv hb'
    · have e : v = x := by simpa using hv
      subst e
      exact hri.le u hu
  · intro u hu0 v hv hb hvu
    show d.beg u ≤ d.beg v
    have hb' : d.beg u ≤ pos (d.lft ++ [x]) v := hb
    have hvu' : pos (d.lft ++ [x]) v ≤ pos (d.lft ++ [x]) u := hvu
    rcases List.mem_append.1 hu0 with hu | hu
    · rw [hpos u hu] at hvu'
      rcases List.mem_append.1 hv with hv | hv
      · rw [hpos v hv] at hb' hvu'
        exact h.lamL u hu v hv hb' hvu'
      · have e : v = x := by simpa using hv
        subst e
        rw [hposx] at hvu'
        have := hle u hu; omega
    · have e : u = x := by simpa using hu
      subst e
      rcases List.mem_append.1 hv with hv | hv
      · rw [hpos v hv] at hb'
        exact h.lamS u hxs v hv hb'
      · have e : v = u := by simpa using hv
        subst e
        exact Nat.le_refl _
  · intro s' y e
    exact h.last (x :: s') y (by rw [hs, show s = s' ++ [y] from e]; rfl)
  · intro u hu0
    rcases List.mem_append.1 hu0 with hu | hu
    · rcases h.over u hu with a | ⟨p, hp, a⟩
      · exact .inl a
      · refine .inr ⟨p, hp, ?_⟩
        show p ∈ s ∨ (p ∈ d.lft ++ [x] ∧ pos (d.lft ++ [x]) u < pos (d.lft ++ [x]) p)
        rw [hpos u hu]
        rcases a with a | ⟨a, b⟩
        · rw [hs] at a
          rcases List.mem_cons.1 a with rfl | a
          · exact .inr ⟨by simp, by rw [hposx]; exact hle u hu⟩
          · exact .inl a
        · exact .inr ⟨by simp [a], by rw [hpos p a]; exact b⟩
    · have e : u = x := by simpa using hu
      subst e
      cases s with
      | nil => exact .inl (h.last [] u (by rw [hs]; rfl))
      | cons p s => exact .inr ⟨p, hch.1, .inl (by show p ∈ p :: s; simp)⟩
theorem Inv.go (h : Inv R old roots d) {x y : Nat} {s r : List Nat} (hs : d.stk = x :: s) (ho : d.opn x = y :: r) (hy : d.met y = true) : Inv R old roots (d.go x r) := by
  have hxs : x ∈ d.stk := by rw [hs]; simp
  have hmx := (h.new x (.inr hxs)).1
  refine ⟨h.nodup, h.new, h.met, ?_, h.chain, h.rise, ?_, h.begS, h.begL, h.edge, h.segS, h.segL, h.lamS, h.lamL, h.last, h.over⟩
  · intro v hv
    show fup d.opn x r v = R v
    rw [fup_far (fun e => by subst e; rw [show (d.go v r).met v = d.met v from rfl, hmx] at hv; cases hv)]
    exact h.whole v hv
  · intro v hv
    obtain ⟨pre, e, hp⟩ := h.gone v hv
    show ∃ pre, R v = pre ++ fup d.opn x r v ∧ ∀ u ∈ pre, d.met u = true
    by_cases hvx : v = x
    · subst hvx
      rw [fup_same]
      refine ⟨pre ++ [y], by rw [e, ho]; simp, fun u hu => ?_⟩
      rcases List.mem_append.1 hu with hu | hu
      · exact hp u hu
      · have : u = y := by simpa using hu
        subst this; exact hy
    · rw [fup_far hvx]
      exact ⟨pre, e, hp⟩
/-- A new root, where the stack is empty; or a way to one that wasn't met. -/
theorem Inv.push (h : Inv R old roots d) {y : Nat} (hy : d.met y = false) (hr : roots y ∧ d.stk = [] ∨ ∃ x s, d.stk = x :: s ∧ y ∈ R x) : Inv R old roots (d.push y) := by
  have hny : ∀ v, v ∈ d.lft ∨ v ∈ d.stk → v ≠ y := fun v hv e => by
    subst e
    have := (h.new v hv).1
    rw [hy] at this; cases this
  have hold : ¬ old y := fun ho => by
    have := (h.met y).2 (.inl ho)
    rw [hy] at this; cases this
  have hb : ∀ v, v ∈ d.lft ∨ v ∈ d.stk → fup d.beg y d.lft.length v = d.beg v := fun v hv => fup_far (hny v hv)
  have hle : ∀ v, v ∈ d.lft → pos d.lft v < d.lft.length := fun v hv => pos_lt hv
  have hpy : pos d.lft y = d.lft.length := by
    unfold pos
    exact List.idxOf_eq_length (fun hm => hny y (.inl hm) rfl)
  refine ⟨?_, ?_, ?_, ?_, ?_, ?_, ?_, ?_, ?_, ?_, ?_, ?_, ?_, ?_, ?_, ?_⟩
  · show (d.lft ++ (y :: d.stk)).Nodup
    have hn := List.nodup_append.1 h.nodup
    refine List.nodup_append.2 ⟨hn.1, List.nodup_cons.2 ⟨fun hm => hny y (.inr hm) rfl, hn.2.1⟩, fun a ha b hb => ?_⟩
    rcases List.mem_cons.1 hb with rfl | hb
    · exact hny a (.inl ha)
    · exact hn.2.2 a ha b hb
  · intro v hv
    show fup d.met y true v = true ∧ ¬ old v
    by_cases e : v = y
    · subst e; exact ⟨fup_same _ _ _, hold⟩
    · rw [fup_far e]
      exact h.new v (hv.imp id fun a => (List.mem_cons.1 a).resolve_left e)
  · intro v
    show fup d.met y true v = true ↔ old v ∨ v ∈ d.lft ∨ v ∈ y :: d.stk
    by_cases e : v = y
    · subst e
      rw [fup_same]
      exact ⟨fun _ => .inr (.inr (by simp)), fun _ => rfl⟩
    · rw [fup_far e, h.met v, List.mem_cons]
      constructor
      · rintro (a | a | a)
        · exact .inl a
        · exact .inr (.inl a)
        · exact .inr (.inr (.inr a))
      · rintro (a | a | a | a)
        · exact .inl a
        · exact .inr (.inl a)
        · exact absurd a e
        · exact .inr (.inr a)
  · intro v hv
    have hv' : fup d.met y true v = false := hv
    have e : v ≠ y := fun e => by subst e; rw [fup_same] at hv'; cases hv'
    rw [fup_far e] at hv'
    exact h.whole v hv'
  · show Chain R (y :: d.stk)
    rcases hr with ⟨_, e⟩ | ⟨x, s, e, hx⟩
    · rw [e]; trivial
    · have := h.chain
      rw [e] at this ⊢
      exact ⟨hx, this⟩
  · show Rising (fup d.beg y d.lft.length) (y :: d.stk)
    have h1 : Rising (fup d.beg y d.lft.length) d.stk := h.rise.congr (fun v hv => hb v (.inr hv))
    rcases hr with ⟨_, e⟩ | ⟨x, s, e, hx⟩
    · rw [e]; trivial
    · have hx' : x ∈ d.stk := by rw [e]; simp
      have h2 := h.begS x hx'
      rw [e] at h1 ⊢
      exact ⟨by rw [fup_same, hb x (.inr hx')]; exact h2, h1⟩
  · intro v hv
    show ∃ pre, R v = pre ++ d.opn v ∧ ∀ u ∈ pre, fup d.met y true u = true
    have key : ∀ u, d.met u = true → fup d.met y true u = true := fun u hu => by
      by_cases e : u = y
      · subst e; exact fup_same _ _ _
      · rw [fup_far e]; exact hu
    rcases List.mem_cons.1 hv with rfl | hv
    · exact ⟨[], by rw [h.whole v hy]; rfl, fun u hu => by cases hu⟩
    · obtain ⟨pre, e, hp⟩ := h.gone v hv
      exact ⟨pre, e, fun u hu => key u (hp u hu)⟩
  · intro v hv
    show fup d.beg y d.lft.length v ≤ d.lft.length
    rcases List.mem_cons.1 hv with rfl | hv
    · rw [fup_same]; exact Nat.le_refl _
    · rw [hb v (.inr hv)]; exact h.begS v hv
  · intro v hv
    show fup d.beg y d.lft.length v ≤ pos d.lft v
    rw [hb v (.inl hv)]; exact h.begL v hv
  · intro u hu v hv
    show old v ∨ ((v ∈ d.lft ∨ v ∈ y :: d.stk) ∧ (pos d.lft v ≤ pos d.lft u ∨ fup d.beg y d.lft.length v ≤ pos d.lft u))
    rcases h.edge u hu v hv with a | ⟨a, b⟩
    · exact .inl a
    · exact .inr ⟨a.imp id (List.mem_cons_of_mem _), by rw [hb v a]; exact b⟩
  · intro u hu j v hj hv
    have hj' : fup d.beg y d.lft.length u ≤ j := hj
    rcases List.mem_cons.1 hu with rfl | hu
    · rw [fup_same] at hj'
      have := (List.getElem?_eq_some_iff.1 hv).1
      exact absurd (show j < d.lft.length from this) (by omega)
    · rw [hb u (.inr hu)] at hj'
      exact h.segS u hu j v hj' hv
  · intro u hu j v hj hju hv
    have hj' : fup d.beg y d.lft.length u ≤ j := hj
    rw [hb u (.inl hu)] at hj'
    exact h.segL u hu j v hj' hju hv
  · intro u hu v hv hbv
    show fup d.beg y d.lft.length u ≤ fup d.beg y d.lft.length v
    have hbv' : fup d.beg y d.lft.length u ≤ pos d.lft v := hbv
    rw [hb v (.inl hv)]
    rcases List.mem_cons.1 hu with rfl | hu
    · rw [fup_same] at hbv'
      have := hle v hv
      omega
    · rw [hb u (.inr hu)] at hbv' ⊢
      exact h.lamS u hu v hv hbv'
  · intro u hu v hv hbv hvu
    show fup d.beg y d.lft.length u ≤ fup d.beg y d.lft.length v
    have hbv' : fup d.beg y d.lft.length u ≤ pos d.lft v := hbv
    rw [hb u (.inl hu)] at hbv' ⊢
    rw [hb v (.inl hv)]
    exact h.lamL u hu v hv hbv' hvu
  · intro s' z e
    have e' : y :: d.stk = s' ++ [z] := e
    cases s' with
    | nil =>
      simp at e'
      rcases hr with ⟨a, _⟩ | ⟨x, s, e2, _⟩
      · rw [← e'.1]; exact a
      · rw [e'.2] at e2; cases e2
    | cons a s' =>
      simp at e'
      exact h.last s' z e'.2
  · intro u hu
    rcases h.over u hu with a | ⟨p, hp, a⟩
    · exact .inl a
    · exact .inr ⟨p, hp, a.imp (List.mem_cons_of_mem _) id⟩
theorem Inv.step (h : Inv R old roots d) : Inv R old roots d.step := by
  unfold Ds.step
  cases hs : d.stk with
  | nil => exact h
  | cons x s =>
    dsimp only
    cases ho : d.opn x with
    | nil => exact h.pop hs ho
    | cons y r =>
      dsimp only
      by_cases hy : d.met y = true
      · rw [if_pos hy]; exact h.go hs ho hy
      · rw [if_neg hy]
        have hy' : d.met y = false := by simpa using hy
        have hyx : y ∈ R x := by
          obtain ⟨pre, e, _⟩ := h.gone x (by rw [hs]; simp)
          rw [e, ho]; simp
        -- the way is gone as the node is met
        have h2 := h.push hy' (.inr ⟨x, s, hs, hyx⟩)
        have hx2 : x ∈ (d.push y).stk := by show x ∈ y :: d.stk; rw [hs]; simp
        have hmx := (h2.new x (.inr hx2)).1
        have hxy : x ≠ y := fun e => by
          subst e
          have := (h.new x (.inr (by rw [hs]; simp))).1
          rw [hy'] at this; cases this
        refine ⟨h2.nodup, h2.new, h2.met, ?_, h2.chain, h2.rise, ?_, h2.begS, h2.begL, h2.edge, h2.segS, h2.segL, h2.lamS, h2.lamL, h2.last, h2.over⟩
        · intro v hv
          show fup d.opn x r v = R v
          rw [fup_far (fun e => by subst e; rw [show ((d.go v r).push y).met v = (d.push y).met v from rfl, hmx] at hv; cases hv)]
          exact h2.whole v hv
        · intro v hv
          obtain ⟨pre, e, hp⟩ := h2.gone v hv
          show ∃ pre, R v = pre ++ fup d.opn x r v ∧ ∀ u ∈ pre, (d.push y).met u = true
          by_cases hvx : v = x
          · subst hvx
            rw [fup_same]
            refine ⟨pre ++ [y], by rw [e, show (d.push y).opn v = d.opn v from rfl, ho]; simp, fun u hu => ?_⟩
            rcases List.mem_append.1 hu with hu | hu
            · exact hp u hu
            · have : u = y := by simpa using hu
              subst this; exact fup_same _ _ _
          · rw [fup_far hvx]
            exact ⟨pre, e, hp⟩
end
end Go.Proofs.Ytmbjmibjobpdgaa
namespace Go.Proofs.Ytmbjmibjobpdgaa

section
variable {R : Nat → List Nat} {old roots : Nat → Prop} {d : Ds}
/-- Before the walk. -/
theorem Inv.start (R : Nat → List Nat) (old roots : Nat → Prop) (met : Nat → Bool) (opn : Nat → List Nat) (hm : ∀ x, met x = true ↔ old x) (ho : ∀ x, met x = false → opn x = R x) : Inv R old roots ⟨met, opn, [], [], fun _ => 0⟩ := by
  refine ⟨List.nodup_nil, ?_, ?_, ho, trivial, trivial, ?_, ?_, ?_, ?_, ?_, ?_, ?_, ?_, ?_, ?_⟩
  · rintro x (h | h) <;> cases h
  · intro x
    rw [hm x]
    exact ⟨.inl, fun h => h.elim id fun h => h.elim (fun h => by cases h) (fun h => by cases h)⟩
  all_goals first
    | (intro x h; cases h; done)
    | (intro s y h; simp at h)
/-- What is left over nodes that aren't old ones. -/
theorem Inv.closed (h : Inv R old roots d) (hs : d.stk = []) {x y : Nat} (hx : x ∈ d.lft) (hr : Rch R old x y) : y ∈ d.lft := by
  induction hr with
  | refl => exact hx
  | snoc _ e ho ih =>
    rcases h.edge _ ih _ e with a | ⟨a, _⟩
    · exact absurd a ho
    · exact a.resolve_right (by rw [hs]; simp)
theorem Inv.above (h : Inv R old roots d) (hs : d.stk = []) : ∀ (m : Nat) (x : Nat), x ∈ d.lft → d.lft.length - pos d.lft x ≤ m → ∃ r, roots r ∧ r ∈ d.lft ∧ Rch R old r x ∧ pos d.lft x ≤ pos d.lft r := by
  intro m
  induction m with
  | zero => intro x hx hm; have := pos_lt hx; omega
  | succ m ih =>
    intro x hx hm
    rcases h.over x hx with a | ⟨p, hp, a⟩
    · exact ⟨x, a, hx, .refl x, Nat.le_refl _⟩
    · rcases a with a | ⟨a, b⟩
      · rw [hs] at a; cases a
      · obtain ⟨r, h1, h2, h3, h4⟩ := ih p a (by have := pos_lt a; omega)
        exact ⟨r, h1, h2, .snoc h3 hp (h.new x (.inl hx)).2, by omega⟩
/-- From one root: just what is reached from it. -/
theorem Inv.one {root : Nat} (h : Inv R old (fun x => x = root) d) (hs : d.stk = []) (hr : root ∈ d.lft) (y : Nat) : y ∈ d.lft ↔ Rch R old root y := by
  constructor
  · intro hy
    obtain ⟨r, rfl, _, h3, _⟩ := h.above hs _ y hy (Nat.le_refl _)
    exact h3
  · exact h.closed hs hr
theorem Inv.top {root : Nat} (h : Inv R old (fun x => x = root) d) (hs : d.stk = []) {y : Nat} (hy : y ∈ d.lft) : root ∈ d.lft ∧ pos d.lft y ≤ pos d.lft root := by
  obtain ⟨r, rfl, h2, _, h4⟩ := h.above hs _ y hy (Nat.le_refl _)
  exact ⟨h2, h4⟩
end

/-- Reached from one another. -/
def Eqv (R : Nat → List Nat) (x y : Nat) : Prop := Rch R (fun _ => False) x y ∧ Rch R (fun _ => False) y x
section
variable {R Q : Nat → List Nat} {old : Nat → Prop}
theorem Rch.any {x y : Nat} (h : Rch R old x y) : Rch R (fun _ => False) x y := by
  induction h with
  | refl => exact .refl _
  | snoc _ e _ ih => exact .snoc ih e (fun h => h)
theorem Rch.back {x y : Nat} (hQ : ∀ x y, y ∈ Q x ↔ x ∈ R y) (h : Rch Q old x y) : Rch R (fun _ => False) y x := by
  induction h with
  | refl => exact .refl _
  | snoc _ e _ ih => exact Rch.trans (.snoc (.refl _) ((hQ _ _).1 e) (fun h => h)) ih
theorem Eqv.symm {x y : Nat} (h : Eqv R x y) : Eqv R y x := ⟨h.2, h.1⟩
theorem Eqv.trans {x y z : Nat} (h : Eqv R x y) (h' : Eqv R y z) : Eqv R x z := ⟨Rch.trans h.1 h'.1, Rch.trans h'.2 h.2⟩
theorem Eqv.refl (x : Nat) : Eqv R x x := ⟨.refl x, .refl x⟩
/-- A way back within a class. -/
theorem Rch.turn {x v : Nat} (hQ : ∀ x y, y ∈ Q x ↔ x ∈ R y) (hold : ∀ u, Eqv R x u → ¬ old u) (h : Rch R (fun _ => False) v x) (hv : Rch R (fun _ => False) x v) : Rch Q old x v := by
  -- along the way from v to x, from its end
  have key : ∀ u, Rch R (fun _ => False) v u → Rch R (fun _ => False) u x → Rch Q old u v ∧ True := by
    intro u hvu
    induction hvu with
    | refl => intro _; exact ⟨.refl _, trivial⟩
    | @snoc y z hp e _ ih =>
      intro hzx
      have hyx : Rch R (fun _ => False) y x := Rch.trans (.snoc (.refl _) e (fun h => h)) hzx
      have hy : ¬ old y := hold y ⟨Rch.trans hv hp, hyx⟩
      refine ⟨Rch.trans (.snoc (.refl _) ((hQ _ _).2 e) hy) (ih hyx).1, trivial⟩
  exact (key x h (.refl x)).1
/-- The first walk's list: whoever comes to x over nodes that were left no later than x is reached from x. -/
theorem seg_back {roots : Nat → Prop} {d : Ds} (h : Inv R (fun _ => False) roots d) (hQ : ∀ x y, y ∈ Q x ↔ x ∈ R y) {x : Nat} (hx : x ∈ d.lft) (hold : ∀ z, ¬ old z → (∃ y, y ∈ R z) → z ∈ d.lft ∧ pos d.lft z ≤ pos d.lft x) {y : Nat} (hr : Rch Q old x y) : y ∈ d.lft ∧ d.beg x ≤ pos d.lft y ∧ pos d.lft y ≤ pos d.lft x := by
  induction hr with
  | refl => exact ⟨hx, h.begL x hx, Nat.le_refl _⟩
  | @snoc y z _ e ho ih =>
    obtain ⟨hy, h1, h2⟩ := ih
    have hyz : y ∈ R z := (hQ _ _).1 e
    obtain ⟨hz, h3⟩ := hold z ho ⟨y, hyz⟩
    refine ⟨hz, ?_, h3⟩
    rcases h.edge z hz y hyz with a | ⟨_, a | a⟩
    · exact a.elim
    · omega
    · have := h.lamL x hx y hy h1 h2
      omega
/-- What the second walk comes to from x: its class. -/
theorem piece_class {roots : Nat → Prop} {d d2 : Ds} (h : Inv R (fun _ => False) roots d) (hQ : ∀ x y, y ∈ Q x ↔ x ∈ R y) {x : Nat} (hx : x ∈ d.lft)
    (hold : ∀ z, ¬ old z → (∃ y, y ∈ R z) → z ∈ d.lft ∧ pos d.lft z ≤ pos d.lft x) (hfull : ∀ u, Eqv R x u → ¬ old u)
    (h2 : Inv Q old (fun y => y = x) d2) (hs2 : d2.stk = []) (hx2 : x ∈ d2.lft) (v : Nat) : v ∈ d2.lft ↔ Eqv R x v := by
  rw [h2.one hs2 hx2]
  constructor
  · intro hr
    obtain ⟨hv, h3, h4⟩ := seg_back h hQ hx hold hr
    exact ⟨(h.segL x hx _ v h3 h4 (pos_at hv)).any, hr.back hQ⟩
  · intro hv
    exact Rch.turn hQ hfull hv.2 hv.1
end
end Go.Proofs.Ytmbjmibjobpdgaa
