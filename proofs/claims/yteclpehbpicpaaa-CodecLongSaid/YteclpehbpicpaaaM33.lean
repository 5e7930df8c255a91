/-
  Contract of the program's readFields of types.
-/
import Derived.Test.YteclpehbpicpaaaM32
namespace Go.Proofs.Yteclpehbpicpaaa
open Go.RowKit

def TIts (w : World) (base : Nat) (P : Nat → Prop) (v : Value) (L : List (Array Value × TT)) : Prop :=
  w.ownsRow base 30 3 v L.length (L.map (·.1.toList)).flatten ∧ ∀ x ∈ L, TOwn w P x.1 x.2
def TRc (w : World) (base : Nat) (nv : Value) (N : List ByteArray) (itv : Value) (L : List (Array Value × TT)) : Prop :=
  Nms w base nv N ∧ TIts w base (fun b => base ≤ b ∧ itv.ownBlock ≠ some b ∧ nv.ownBlock ≠ some b) itv L ∧ ∀ k, itv.ownBlock = some k → nv.ownBlock ≠ some k
theorem info30z : (Try.prog.info? 30).map (fun i => (i.zero, i.size, i.bytes)) = some (some (.agg #[.int .i64 0, .slice none 0 0, .slice none 0 0]), 3, 56) := by kernel_rfl
theorem new3 (w : World) (b0 : Int) (b1 : Option Addr) (b2 b3 : Nat) (b4 : Option Addr) (b5 b6 : Nat) :
    ∀ (j : Nat) u, [Value.int .i64 b0, .slice b1 b2 b3, .slice b4 b5 b6][j]? = some u → (w.alloc (.cells #[.int .i64 b0, .slice b1 b2 b3, .slice b4 b5 b6] 30)).cell? ((⟨w.heap.size, 0, none⟩ : Addr).add j) = some u := fun j u hj => by
  rw [Addr.add_lit, Nat.zero_add, World.cell?_alloc_new, ← hj]
  simp
theorem flat3_at : ∀ (L : List (List Value)), (∀ x ∈ L, x.length = 3) → ∀ i j, i < L.length → j < 3 → L.flatten[i * 3 + j]? = (L.getD i [])[j]? := by
  intro L
  induction L with
  | nil => intro _ i j hi; exact absurd hi (Nat.not_lt_zero _)
  | cons x L ih =>
    intro h i j hi hj
    have hx : x.length = 3 := h x (by simp)
    rw [List.flatten_cons]
    cases i with
    | zero =>
      rw [List.getElem?_append_left (by omega)]
      simp
    | succ i =>
      rw [List.getElem?_append_right (by omega)]
      have := ih (fun y hy => h y (by simp [hy])) i j (by simpa using hi) hj
      rw [show (i + 1) * 3 + j - x.length = i * 3 + j by omega, this]
      simp
/-- A list, or a record, of what was gathered. -/
theorem TOwn.tree {w : World} {lo base : Nat} {P : Nat → Prop} {nv iv : Value} {N : List ByteArray} {L : List (Array Value × TT)} (hlo : lo ≤ base) (hP : ∀ b, P b → lo ≤ b) (hN : Nms w base nv N) (hL : TIts w base P iv L) (hl : N.length = L.length) (xs : List (ByteArray × TT))
    (h1 : xs.map (·.2) = L.map (·.2)) (h2 : xs.map (·.1) = N) : ∃ A c ca B m cb, nv = .slice A c ca ∧ iv = .slice B m cb ∧ TOwn w (fun b => lo ≤ b) (tfields 6 A c ca B m cb) (trec xs) := by
  obtain ⟨A, ca, rfl, hc1, hc2, hA⟩ := owns_form hN.1
  obtain ⟨B, cb, rfl, hm1, hm2, hB⟩ := owns_form hL.1
  have hlen : xs.length = L.length := by
    have := congrArg List.length h1
    simpa using this
  refine ⟨A, _, ca, B, _, cb, rfl, rfl, ?_⟩
  unfold trec
  have e1 : xs.length = N.length := by rw [hl, hlen]
  have e3 : TT.mk 6 xs.length (fun i => (xs.getD i (⟨#[]⟩, .bad)).1) xs.length (fun i => (xs.getD i (⟨#[]⟩, .bad)).2) = TT.mk 6 N.length (fun i => (xs.getD i (⟨#[]⟩, .bad)).1) L.length (fun i => (xs.getD i (⟨#[]⟩, .bad)).2) := by rw [← e1, ← hlen]
  rw [e3]
  refine .mk 6 A N.length ca B L.length cb _ _ (fun i => (L.getD i (#[], .bad)).1) (by decide) ⟨hc1, hc2⟩ ⟨hm1, hm2⟩ (fun h0 => ?_) (fun h0 => ?_) (fun i hi => ?_)
  · obtain ⟨g, rfl, hg, hlt, hx⟩ := hA h0
    refine ⟨g, 0, rfl, Nat.le_trans hlo hg, hlt, fun i hi => ?_⟩
    have hni : (xs.getD i (⟨#[]⟩, .bad)).1 = N[i] := by
      subst h2
      simp at hi
      simp [List.getD_eq_getElem?_getD, List.getElem?_eq_getElem hi]
    rw [hni]
    refine ⟨?_, hN.2 _ (List.getElem_mem _)⟩
    have := hx i (.string N[i]) (by simp [hi])
    simpa using this
  · obtain ⟨g, rfl, hg, hlt, hx⟩ := hB h0
    refine ⟨g, 0, rfl, Nat.le_trans hlo hg, hlt, fun i hi j hj => ?_⟩
    have hf := flat3_at (L.map (·.1.toList)) (fun x hx => by
      obtain ⟨y, hy, rfl⟩ := List.mem_map.1 hx
      have := (hL.2 _ hy).size
      simpa using this) i j (by simpa using hi) hj
    have hv : (L.getD i (#[], TT.bad)).1 = L[i].1 := by simp [List.getD_eq_getElem?_getD, List.getElem?_eq_getElem hi]
    have hsz := (hL.2 _ (List.getElem_mem hi)).size
    rw [hv]
    have e2 : ((L.map (·.1.toList)).getD i [])[j]? = some (L[i].1[j]'(by omega)) := by
      simp [List.getD_eq_getElem?_getD, hi, hsz, hj]
    rw [e2] at hf
    have := hx (i * 3 + j) _ hf
    rw [Nat.zero_add, this, Array.getElem?_eq_getElem]
  · have hv : L.getD i (#[], TT.bad) = L[i] := by simp [List.getD_eq_getElem?_getD, List.getElem?_eq_getElem hi]
    have hx : (xs.getD i (⟨#[]⟩, TT.bad)).2 = L[i].2 := by
      have hxi : i < xs.length := by omega
      have := congrArg (fun l => l[i]?) h1
      simp [List.getElem?_eq_getElem hxi, List.getElem?_eq_getElem hi] at this
      simp [List.getD_eq_getElem?_getD, List.getElem?_eq_getElem hxi, this]
    rw [hv, hx]
    exact (hL.2 _ (List.getElem_mem hi)).imp fun b hb _ => hP b hb
def tpre (xs : List (ByteArray × TT)) : Except Nat (List (ByteArray × TT) × Nat × List UInt8) → Except Nat (List (ByteArray × TT) × Nat × List UInt8)
  | .error c => .error c
  | .ok (ys, p, l) => .ok (xs ++ ys, p, l)
theorem tpre_pre (xs ys : List (ByteArray × TT)) (r : Except Nat (List (ByteArray × TT) × Nat × List UInt8)) : tpre xs (tpre ys r) = tpre (xs ++ ys) r := by
  cases r with
  | error c => rfl
  | ok q => obtain ⟨a, b, c⟩ := q; simp [tpre]
theorem tpre_nil (r : Except Nat (List (ByteArray × TT) × Nat × List UInt8)) : tpre [] r = r := by
  cases r with
  | error c => rfl
  | ok q => rfl
def tstepP (nm : ByteArray) (r : Except Nat (TT × Nat × List UInt8)) (K : Nat → List UInt8 → Except Nat (List (ByteArray × TT) × Nat × List UInt8)) : Except Nat (List (ByteArray × TT) × Nat × List UInt8) :=
  match r with
  | .error c => .error c
  | .ok (t, p1, l1) => tpre [(nm, t)] (K p1 l1)
theorem tstepP_ok {nm : ByteArray} {t : TT} {p1 : Nat} {l1 : List UInt8} {K : Nat → List UInt8 → Except Nat (List (ByteArray × TT) × Nat × List UInt8)} : tstepP nm (.ok (t, p1, l1)) K = tpre [(nm, t)] (K p1 l1) := rfl
theorem titemsP_ok {F : Nat → List UInt8 → Except Nat (TT × Nat × List UInt8)} {k p : Nat} {l l1 : List UInt8} {nm : ByteArray} (h : sP 30 l = .ok (nm, l1)) : titemsP F (k + 1) p l = tstepP nm (F p l1) (titemsP F k) := by
  rw [titemsP, h]
  unfold tstepP
  dsimp only
  cases F p l1 with
  | error c => rfl
  | ok q =>
    obtain ⟨t, p1, l2⟩ := q
    dsimp only
    cases titemsP F k p1 l2 <;> rfl
theorem titemsP_err {F : Nat → List UInt8 → Except Nat (TT × Nat × List UInt8)} {k p c : Nat} {l : List UInt8} (h : sP 30 l = .error c) (nm : ByteArray) : titemsP F (k + 1) p l = tstepP nm (.error c) (titemsP F k) := by
  rw [titemsP, h]
  rfl
theorem TRc.name0 {wr w4 w5 : World} {g base : Nat} {nv itv : Value} {N : List ByteArray} {L : List (Array Value × TT)} {t : ByteArray} {x : Obj} {nv5 : Value} (h : TRc wr base nv N itv L) (hp : Past g wr w4) (hg : g < base)
    (ht : t.size ≤ maxLen) (hown : w5.ownsRow base 9 1 nv5 (N.length + 1) (N.map Value.string ++ [.string t])) (hgrow : (w4.alloc x).grownBy w5 nv.ownBlock)
    (hat : nv5.ownBlock = nv.ownBlock ∨ nv5.ownBlock = some (w4.alloc x).heap.size) :
    TRc w5 base nv5 (N ++ [t]) itv L := by
  obtain ⟨⟨hN, hNs⟩, ⟨hI, hL⟩, hd⟩ := h
  have size4 := hp.size
  have hlt := hI.lt
  have fresh : ∀ b, b < w4.heap.size → nv.ownBlock ≠ some b → nv5.ownBlock ≠ some b := fun b hb hn => by
    rcases hat with e | e
    · rw [e]; exact hn
    · rw [e]; simp; omega
  refine ⟨⟨by simpa using hown, fun y hy => ?_⟩, ⟨?_, fun y hy => ?_⟩, fun k hk => fresh k (by have := (hlt k hk).2; omega) (hd k hk)⟩
  · rcases List.mem_append.1 hy with hy | hy
    · exact hNs y hy
    · obtain rfl : y = t := by simpa using hy
      exact ht
  · refine owns_keep hI fun k hk => ?_
    obtain ⟨h1, h2⟩ := hlt k hk
    exact (hgrow.block k (by simp; omega) (fun e => hd k hk e.symm)).trans ((Below.heap_alloc _ _ _ (by omega)).trans (hp.block k h2 (by omega)))
  · have ho := ((hL y hy).past hp (fun hh => by have := hh.1; omega)).imp (Q := fun b => (base ≤ b ∧ itv.ownBlock ≠ some b ∧ nv.ownBlock ≠ some b) ∧ b < w4.heap.size) fun b hb hl => ⟨hb, hl⟩
    refine (ho.keep (w' := w5) (by have := hgrow.size; simp at this; omega) fun k hk hl => ?_).imp fun b hb _ => ⟨hb.1.1, hb.1.2.1, fresh b hb.2 hb.1.2.2⟩
    rw [hgrow.block k (by simp; omega) (fun e => hk.1.2.2 e.symm), Below.heap_alloc _ _ _ hl]
theorem TRc.item0 {wr w4 w5 : World} {g base : Nat} {nv itv : Value} {N : List ByteArray} {L : List (Array Value × TT)} {v : Array Value} {t : TT} {x : Obj} {itv5 : Value} (h : TRc wr base nv N itv L) (hp : Past g wr w4) (hg : g < base) (hbr : base ≤ wr.heap.size)
    (hv : TOwn w4 (fun b => wr.heap.size ≤ b) v t) (hown : w5.ownsRow base 30 3 itv5 (L.length + 1) ((L.map (·.1.toList)).flatten ++ v.toList)) (hgrow : (w4.alloc x).grownBy w5 itv.ownBlock)
    (hat : itv5.ownBlock = itv.ownBlock ∨ itv5.ownBlock = some (w4.alloc x).heap.size) :
    TRc w5 base nv N itv5 (L ++ [(v, t)]) := by
  obtain ⟨⟨hN, hNs⟩, ⟨hI, hL⟩, hd⟩ := h
  have size4 := hp.size
  have hlt := hI.lt
  have hltN := hN.lt
  have fresh : ∀ b, b < w4.heap.size → itv.ownBlock ≠ some b → itv5.ownBlock ≠ some b := fun b hb hn => by
    rcases hat with e | e
    · rw [e]; exact hn
    · rw [e]; simp; omega
  have keep : ∀ {P : Nat → Prop} {v' : Array Value} {t' : TT}, TOwn w4 P v' t' → (∀ b, P b → itv.ownBlock ≠ some b) → TOwn w5 P v' t' := fun hh h1 =>
    hh.keep (by have := hgrow.size; simp at this; omega) fun k hk hlt => by
      rw [hgrow.block k (by simp; omega) (fun e => h1 k hk e.symm), Below.heap_alloc _ _ _ hlt]
  refine ⟨⟨?_, hNs⟩, ⟨by simpa using hown, fun y hy => ?_⟩, fun k hk hn => ?_⟩
  · refine owns_keep hN fun k hk => ?_
    obtain ⟨h1, h2⟩ := hltN k hk
    exact (hgrow.block k (by simp; omega) (fun e => hd k e.symm hk)).trans ((Below.heap_alloc _ _ _ (by omega)).trans (hp.block k h2 (by omega)))
  · rcases List.mem_append.1 hy with hy | hy
    · have ho := (hL y hy).past hp (fun hh => by have := hh.1; omega)
      refine ((keep (ho.imp (Q := fun b => (base ≤ b ∧ itv.ownBlock ≠ some b ∧ nv.ownBlock ≠ some b) ∧ b < w4.heap.size) fun b hb hl => ⟨hb, hl⟩) (fun b hb => hb.1.2.1))).imp fun b hb _ => ⟨hb.1.1, fresh b hb.2 hb.1.2.1, hb.1.2.2⟩
    · obtain rfl : y = (v, t) := by simpa using hy
      refine ((keep (hv.imp (Q := fun b => wr.heap.size ≤ b ∧ b < w4.heap.size) fun b hb hl => ⟨hb, hl⟩) (fun b hb e => by have := (hlt b e).2; omega))).imp fun b hb _ => ⟨by omega, fresh b hb.2 (fun e => by have := (hlt b e).2; omega), fun e => by have := (hltN b e).2; omega⟩
  · have h2 := (hltN k hn).2
    exact fresh k (by omega) (fun e => hd k e hn) hk
/-- How the program's reading of a record's fields ends. -/
def RTEnds (s : ByteArray) (w : World) (g : Nat) (r : Except Nat (List (ByteArray × TT) × Nat × List UInt8)) (x : Ending) (w' : World) : Prop :=
  Past g w w' ∧ match r with
  | .error c => x = .panicked (errL c)
  | .ok (xs, p, l) => (∃ nv itv N L, x = .returned (.tuple #[nv, itv]) ∧ (∃ B, w.heap.size ≤ B ∧ TRc w' B nv N itv L) ∧ N.length = xs.length ∧ L.length = xs.length ∧ xs.map (·.2) = L.map (·.2) ∧ xs.map (·.1) = N) ∧ ∃ a : Nat, a ≤ s.size ∧ l = left s a ∧ Dr w' g s a p
set_option maxRecDepth 20000 in
set_option maxHeartbeats 600000 in
theorem tf_ok {w : World} {g : Nat} {s : ByteArray} {a p n : Nat} {d : Int} {l0 : List UInt8} {F : Nat → List UInt8 → Except Nat (TT × Nat × List UInt8)} (hd : -1000 ≤ d ∧ d ≤ 1000) (hF : ∀ p l t p' r, F p l = .ok (t, p', r) → p' ≤ 200)
    (ih : ∀ (w : World) (a p : Nat), Dr w g s a p → a ≤ s.size → p ≤ 200 → Calls Try.prog 95 #[.pointer (some ⟨g, 0, none⟩), .int .i64 (d + 1)] w fun x w' => DTEnds s w g (F p (left s a)) x w')
    (hi : mP (left s a) = .ok (n, l0)) (hn2 : n ≤ 200) (h : Dr w g s a p) (hp : p ≤ 200) (ha : a ≤ s.size) (hs : s.size ≤ 1000000000) :
    Calls Try.prog 115 #[.pointer (some ⟨g, 0, none⟩), .int .i64 d, (.func (.func 95) #[] #[])] w fun x w' => RTEnds s w g (titemsP F n p l0) x w' := by
  have C := readCount_ok h ha hs
  rw [hi] at C
  have C' := C.mono fun e w1 h => DEnds.okay h
  have hg := h.lt
  have HG := Lib.hid hg
  have HIH := Lib.hid ih
  have HFF := Lib.hid hF
  have HPP := Lib.hid hp
  have hn3 : (n : Int) ≤ 200 := by omega
  obtain ⟨i0, hii, hz0, hz1, hz2⟩ := info_parts info30z
  obtain ⟨i9, hi9, hy0, hy1, hy2⟩ := info_parts info9z
  clear h hg C hi ih hF hp
  go_enter Try.func115, Try.ntmps115
  go_wp2_with (first
    | (go_at_call 113; refine C'.mono ?_; rintro x w3 ⟨rfl, hp3, a3, ha3, hl3, h3⟩; have hg3 : g < w3.heap.size := h3.lt))
  have HP3 := Lib.hid hp3
  have H3 := Lib.hid h3
  have HL3 := Lib.hid hl3
  have HA3 := Lib.hid ha3
  have hs3 := hp3.size
  clear hp3 h3 hl3 ha3 C'
  go_loopw [6, 7, 10] (fun nvv itvv iv wr => ∃ (i : Nat) (nv itv : Value), nv = nvv ∧ itv = itvv ∧ i ≤ n ∧ iv = .int .i64 i ∧ Past g w wr ∧ w3.heap.size ≤ wr.heap.size ∧
    (∃ (L : List (Array Value × TT)) (N : List ByteArray) (xs : List (ByteArray × TT)) (pp aa : Nat), L.length = i ∧ N.length = i ∧ xs.map (·.2) = L.map (·.2) ∧ xs.map (·.1) = N ∧ Hid (titemsP F n p l0 = tpre xs (titemsP F (n - i) pp (left s aa))) ∧ aa ≤ s.size ∧ pp ≤ 200 ∧ Dr wr g s aa pp ∧ TRc wr w3.heap.size nv N itv L)) (fun _ _ iv _ => n - (intOf iv).toNat)
  case atStart => exact ⟨0, _, _, rfl, rfl, by omega, rfl, HP3.out, Nat.le_refl _, [], [], [], p, a3, rfl, rfl, rfl, rfl, Lib.hid (by rw [← HL3.out, tpre_nil]; rfl), HA3.out, HPP.out, H3.out, ⟨⟨World.ownsRow_nil _ _ _ _, fun x hx => by cases hx⟩, ⟨World.ownsRow_nil _ _ _ _, fun x hx => by cases hx⟩, fun k hk => by cases hk⟩⟩
  case round =>
    obtain ⟨i, nv, itv, rfl, rfl, hile, rfl, hpr, hsz, L, N, xs, pp, aa, hLi, hNi, hx2, hx1, hit, haa, hpp, hr, hRec⟩ := hrel
    by_cases hlt : i < n
    · have S := readStr_ok (most := 30) hr haa hs (by omega)
      have hni : n - i = (n - (i + 1)) + 1 := by omega
      cases hsp : sP 30 (left s aa) with
      | error c =>
        rw [hsp] at S
        have S' := S.mono fun e w1 h => DEnds.error h
        have HRES := Lib.hid (show titemsP F n p l0 = .error c by rw [hit.out, hni, titemsP_err hsp ⟨#[]⟩]; rfl)
        have HPR := Lib.hid hpr
        clear S hit hpr hRec hr hx2 hx1 hsp
        go_wp2_with (first | (go_at_call 57; refine S'.mono ?_; rintro x w4 ⟨rfl, hp4⟩))
        refine ⟨rfl, ?_⟩
        show RTEnds s w g (titemsP F n p l0) _ _
        rw [HRES.out]
        exact ⟨HPR.out.trans hp4, rfl⟩
      | ok z =>
        obtain ⟨t4, l4⟩ := z
        rw [hsp] at S
        have S' := S.mono fun e w1 h => DEnds.okay h
        have ihc := HIH.out
        have hON := hRec.1.1
        have hOI := hRec.2.1.1
        have hN200 : N.length ≤ 200 := by omega
        have hL200 : L.length ≤ 200 := by omega
        have ht4 := sP_size hsp
        have hd1 : IntKind.i64.wrap (d + 1) = d + 1 := by rw [IntKind.wrap_i64]; omega
        have hstep := titemsP_ok (F := F) (k := n - (i + 1)) (p := pp) hsp
        have HST := Lib.hid hstep
        have HH := Lib.hid (And.intro hit (And.intro hx2 (And.intro hx1 (And.intro hLi hNi))))
        have HRec := Lib.hid hRec
        have HPR := Lib.hid hpr
        have HSZ := Lib.hid hsz
        have HT4 := Lib.hid ht4
        clear S hit hpr hRec hr hx2 hx1 hsp hstep hsz ht4 hLi hNi
        cases hFe : F pp l4 with
        | error c =>
          have HFE := Lib.hid hFe
          have C : ∀ W a4, l4 = left s a4 → a4 ≤ s.size → Dr W g s a4 pp → Calls Try.prog 95 #[.pointer (some ⟨g, 0, none⟩), .int .i64 (d + 1)] W fun x w' => x = .panicked (errL c) ∧ Past g W w' := fun W a4 e ha4 hW => by
            have := ihc W a4 pp hW ha4 hpp
            rw [← e, HFE.out] at this
            exact this.mono fun x w' h => h.error
          have HC := Lib.hid C
          clear hFe ihc C
          go_wp2_with (first
            | (at_builtin; refine wpList_append_lies _ rfl (.tmp 12) (.tmp 15) 24 rfl w3.heap.size 9 i9 _ 1 16 Try.underlying24 hi9 hy0 hy1 hy2 rfl (by decide) nv N.length _ rfl hO4 ⟨w4.heap.size, 0, none⟩ 1 1 [.string t4] rfl rfl hnews4 hone4 (by decide) (by unfold maxLen; omega) (by omega) hbase4 _ rfl ?_; intro g5 cap5 w5 hown5 hgrow5 hat5 hlt5; have hr5 := ((hgrow5.block g (by have := HD4.out.lt; simp; omega) (fun e => by have := (hO4.lt _ e.symm).1; omega)).trans (HD4.out.alloc (.cells #[.string t4] 9))); have C5 := HC.out w5 a4 HL4.out HA4.out hr5)
            | (go_at_call 57; refine S'.mono ?_; rintro x w4 ⟨rfl, hp4, a4, ha4, hl4, hr4⟩; have HL4 := Lib.hid hl4; have HA4 := Lib.hid ha4; have HD4 := Lib.hid hr4; have hO4 := (owns_past hON hp4 (by omega)).alloc (.cells #[.string t4] 9); have hnews4 := new1 w4 t4; have hone4 : ∀ u ∈ [Value.string t4], u.oneCell' = true := (by simp [Value.oneCell']); have hbase4 : w3.heap.size ≤ (w4.alloc (.cells #[.string t4] 9)).heap.size := Nat.le_trans (Nat.le_trans HSZ.out hp4.size) (by simp); clear hl4 ha4 hr4)
            | (go_at_call 95; refine C5.mono ?_; rintro x w6 ⟨rfl, hp6⟩))
          refine ⟨rfl, ?_⟩
          show RTEnds s w g (titemsP F n p l0) _ _
          rw [HH.out.1.out, hni, HST.out, HFE.out]
          exact ⟨(((HPR.out.trans hp4).alloc (.cells #[.string t4] 9)).grown hgrow5 (fun k e => Nat.le_trans hs3 (hON.lt k e).1)).trans hp6, rfl⟩
        | ok z =>
          obtain ⟨t, p1, l1⟩ := z
          have HFE := Lib.hid hFe
          have C : ∀ W a4, l4 = left s a4 → a4 ≤ s.size → Dr W g s a4 pp → Calls Try.prog 95 #[.pointer (some ⟨g, 0, none⟩), .int .i64 (d + 1)] W fun x w' => DTEnds s W g (.ok (t, p1, l1)) x w' := fun W a4 e ha4 hW => by
            have := ihc W a4 pp hW ha4 hpp
            rw [← e, HFE.out] at this
            exact this
          have HC := Lib.hid C
          clear hFe ihc C
          go_wp2_with (first
            | (at_builtin; refine wpList_append_lies _ rfl (.tmp 12) (.tmp 15) 24 rfl w3.heap.size 9 i9 _ 1 16 Try.underlying24 hi9 hy0 hy1 hy2 rfl (by decide) nv N.length _ rfl hO4 ⟨w4.heap.size, 0, none⟩ 1 1 [.string t4] rfl rfl hnews4 hone4 (by decide) (by unfold maxLen; omega) (by omega) hbase4 _ rfl ?_; intro g5 cap5 w5 hown5 hgrow5 hat5 hlt5; have hr5 := ((hgrow5.block g (by have := HD4.out.lt; simp; omega) (fun e => by have := (hO4.lt _ e.symm).1; omega)).trans (HD4.out.alloc (.cells #[.string t4] 9))); have C5 := HC.out w5 a4 HL4.out HA4.out hr5; have hRec5 := HRec.out.name0 hp4 (by omega) HT4.out hown5 hgrow5 (hat5.imp (fun e => e.symm) (fun e => by rw [← e]; rfl)); have HP5 := Lib.hid (((HPR.out.trans hp4).alloc (.cells #[.string t4] 9)).grown hgrow5 (fun k e => Nat.le_trans hs3 (hON.lt k e).1)); have HS5 := Lib.hid (show w3.heap.size ≤ w5.heap.size from Nat.le_trans hbase4 hgrow5.size); have HRec5 := Lib.hid hRec5; clear hr5 hRec5 hO4 hnews4 hone4 hbase4 hat5 hgrow5 hown5)
            | (at_builtin; refine wpList_append_lies _ rfl (.tmp 17) (.tmp 23) 28 rfl w3.heap.size 30 i0 _ 3 56 Try.underlying28 hii hz0 hz1 hz2 rfl (by decide) itv L.length _ rfl hO7 ⟨w7.heap.size, 0, none⟩ 1 1 [.int .i64 b0, .slice b1 b2 b3, .slice b4 b5 b6] rfl rfl hnews7 hone7 (by decide) (by unfold maxLen; omega) (by omega) hbase7 _ rfl ?_; intro g8 cap8 w8 hown8 hgrow8 hat8 hlt8; have HG8 := Lib.hid (And.intro hown8 (And.intro hgrow8 hat8)); clear hown8 hgrow8 hat8 hO7 hnews7 hone7 hbase7)
            | (go_at_call 57; refine S'.mono ?_; rintro x w4 ⟨rfl, hp4, a4, ha4, hl4, hr4⟩; have HL4 := Lib.hid hl4; have HA4 := Lib.hid ha4; have HD4 := Lib.hid hr4; have hO4 := (owns_past hON hp4 (by omega)).alloc (.cells #[.string t4] 9); have hnews4 := new1 w4 t4; have hone4 : ∀ u ∈ [Value.string t4], u.oneCell' = true := (by simp [Value.oneCell']); have hbase4 : w3.heap.size ≤ (w4.alloc (.cells #[.string t4] 9)).heap.size := Nat.le_trans (Nat.le_trans HSZ.out hp4.size) (by simp); clear hl4 ha4 hr4)
            | (go_at_call 95; refine C5.mono ?_; intro x w7 hE7; obtain ⟨b0, b1, b2, b3, b4, b5, b6, rfl, hp7, hE7⟩ := hE7.okay; have hO7 := (owns_past HRec5.out.2.1.1 hp7 (by omega)).alloc (.cells #[.int .i64 b0, .slice b1 b2 b3, .slice b4 b5 b6] 30); have hnews7 := new3 w7 b0 b1 b2 b3 b4 b5 b6; have hone7 : ∀ u ∈ [Value.int .i64 b0, .slice b1 b2 b3, .slice b4 b5 b6], u.oneCell' = true := (by simp [Value.oneCell']); have hbase7 : w3.heap.size ≤ (w7.alloc (.cells #[.int .i64 b0, .slice b1 b2 b3, .slice b4 b5 b6] 30)).heap.size := Nat.le_trans (Nat.le_trans HS5.out hp7.size) (by simp); have HE7 := Lib.hid hE7; clear hE7))
          go_roundw
          case measure => simp [intOf]; omega
          case rel =>
            obtain ⟨hv, a7, ha7, hl7, h7⟩ := HE7.out
            obtain ⟨hown8, hgrow8, hat8⟩ := HG8.out
            obtain ⟨hit, hx2, hx1, hLi, hNi⟩ := HH.out
            have hI5 := HRec5.out.2.1.1
            have hlow : ∀ k, itv.ownBlock = some k → w3.heap.size ≤ k := fun k e => (hI5.lt k e).1
            have hP8 := ((HP5.out.trans hp7).alloc (.cells #[.int .i64 b0, .slice b1 b2 b3, .slice b4 b5 b6] 30)).grown hgrow8 (fun k e => Nat.le_trans hs3 (hlow k e))
            have h7a := h7.alloc (.cells #[.int .i64 b0, .slice b1 b2 b3, .slice b4 b5 b6] 30)
            have hr8 := (hgrow8.block g h7a.lt (fun e => by have := hlow _ e.symm; omega)).trans h7a
            have hS8 : w3.heap.size ≤ w8.heap.size := by have := hgrow8.size; have := hp7.size; have := HS5.out; simp at *; omega
            refine ⟨i + 1, _, _, rfl, rfl, by omega, by go_num, hP8, hS8, L ++ [(#[.int .i64 b0, .slice b1 b2 b3, .slice b4 b5 b6], t)], N ++ [t4], xs ++ [(t4, t)], p1, a7, by simp [hLi], by simp [hNi], by simp [hx2], by simp [hx1], Lib.hid ?_, ha7, HFF.out _ _ _ _ _ HFE.out, hr8, ?_⟩
            · rw [hit.out, hni, HST.out, HFE.out, tstepP_ok, tpre_pre, hl7]
            · exact HRec5.out.item0 hp7 (by omega) HS5.out hv hown8 hgrow8 (hat8.imp (fun e => e.symm) (fun e => by rw [← e]; rfl))
    · obtain rfl : i = n := by omega
      have hres : titemsP F i p l0 = .ok (xs, pp, left s aa) := by
        rw [hit.out, Nat.sub_self, titemsP]
        simp [tpre]
      have HRES := Lib.hid hres
      have HPR := Lib.hid hpr
      have HRec := Lib.hid hRec
      have HR0 := Lib.hid hr
      have HH := Lib.hid (And.intro hx2 (And.intro hx1 (And.intro hLi hNi)))
      clear hres hpr hRec hr hx2 hx1 hit
      go_wp2_with fail
      refine bodyPost_ret (v := .tuple #[nv, itv]) (by simp [results, Try.results115, go_sem]) rfl ?_
      show RTEnds s w g (titemsP F i p l0) _ _
      rw [HRES.out]
      obtain ⟨hx2, hx1, hLi, hNi⟩ := HH.out
      have e1 := congrArg List.length hx2
      have e2 := congrArg List.length hx1
      rw [List.length_map, List.length_map] at e1
      rw [List.length_map] at e2
      exact ⟨HPR.out, ⟨_, _, N, L, rfl, ⟨_, hs3, HRec.out⟩, e2.symm, e1.symm, hx2, hx1⟩, aa, haa, rfl, HR0.out⟩
set_option maxRecDepth 20000 in
theorem tf_err {w : World} {g : Nat} {s : ByteArray} {a p c : Nat} {d : Int} (hi : mP (left s a) = .error c) (h : Dr w g s a p) (ha : a ≤ s.size) (hs : s.size ≤ 1000000000) :
    Calls Try.prog 115 #[.pointer (some ⟨g, 0, none⟩), .int .i64 d, (.func (.func 95) #[] #[])] w fun x w' => RTEnds s w g (.error c) x w' := by
  have C := readCount_ok h ha hs
  rw [hi] at C
  have C' := C.mono fun e w1 h => DEnds.error h
  clear h C hi
  go_enter Try.func115, Try.ntmps115
  go_wp2_with (first | (go_at_call 113; refine C'.mono ?_; rintro x w3 ⟨rfl, hp3⟩))
  exact ⟨rfl, hp3, rfl⟩
end Go.Proofs.Yteclpehbpicpaaa
