/-
  Contract of the program's readFields of values.
  Contract of the program's readValue: records, and whole.
-/
import Derived.Test.YteclpehbpicpaaaM27
namespace Go.Proofs.Yteclpehbpicpaaa
open Go.RowKit

theorem Rec.name0 {wr w4 w5 : World} {g base : Nat} {nv itv : Value} {N : List ByteArray} {L : List (Array Value × VT)} {t : ByteArray} {x : Obj} {nv5 : Value} (h : Rec wr base nv N itv L) (hp : Past g wr w4) (hg : g < base)
    (ht : t.size ≤ maxLen) (hown : w5.ownsRow base 9 1 nv5 (N.length + 1) (N.map Value.string ++ [.string t])) (hgrow : (w4.alloc x).grownBy w5 nv.ownBlock)
    (hat : nv5.ownBlock = nv.ownBlock ∨ nv5.ownBlock = some (w4.alloc x).heap.size) :
    Rec w5 base nv5 (N ++ [t]) itv L := by
  obtain ⟨⟨hN, hNs⟩, ⟨hI, hL⟩, hd⟩ := h
  have size4 := hp.size
  have hlt := hI.lt
  have fresh : ∀ b, b < w4.heap.size → nv.ownBlock ≠ some b → nv5.ownBlock ≠ some b := fun b hb hn => by
    rcases hat with e | e
    · rw [e]; exact hn
    · rw [e]; simp; omega
  refine ⟨⟨by simpa using hown, fun y hy => ?_⟩, ⟨?_, fun y hy => ?_⟩, fun k hk => fresh k (by have := (hlt k hk).2; omega) (hd k hk)⟩
  · rcases List.mem_append.1 hy with hy | hy
    · exact hNs y hy
    · obtain rfl : y = t := by simpa using hy
      exact ht
  · refine owns_keep hI fun k hk => ?_
    obtain ⟨h1, h2⟩ := hlt k hk
    exact (hgrow.block k (by simp; omega) (fun e => hd k hk e.symm)).trans ((Below.heap_alloc _ _ _ (by omega)).trans (hp.block k h2 (by omega)))
  · have ho := ((hL y hy).past hp (fun hh => by have := hh.1; omega)).imp (Q := fun b => (base ≤ b ∧ itv.ownBlock ≠ some b ∧ nv.ownBlock ≠ some b) ∧ b < w4.heap.size) fun b hb hl => ⟨hb, hl⟩
    refine (ho.keep (w' := w5) (by have := hgrow.size; simp at this; omega) fun k hk hl => ?_).imp fun b hb _ => ⟨hb.1.1, hb.1.2.1, fresh b hb.2 hb.1.2.2⟩
    rw [hgrow.block k (by simp; omega) (fun e => hk.1.2.2 e.symm), Below.heap_alloc _ _ _ hl]
theorem Rec.item0 {wr w4 w5 : World} {g base : Nat} {nv itv : Value} {N : List ByteArray} {L : List (Array Value × VT)} {v : Array Value} {t : VT} {x : Obj} {itv5 : Value} (h : Rec wr base nv N itv L) (hp : Past g wr w4) (hg : g < base) (hbr : base ≤ wr.heap.size)
    (hv : VOwn w4 (fun b => wr.heap.size ≤ b) v t) (hown : w5.ownsRow base 27 6 itv5 (L.length + 1) ((L.map (·.1.toList)).flatten ++ v.toList)) (hgrow : (w4.alloc x).grownBy w5 itv.ownBlock)
    (hat : itv5.ownBlock = itv.ownBlock ∨ itv5.ownBlock = some (w4.alloc x).heap.size) :
    Rec w5 base nv N itv5 (L ++ [(v, t)]) := by
  obtain ⟨⟨hN, hNs⟩, ⟨hI, hL⟩, hd⟩ := h
  have size4 := hp.size
  have hlt := hI.lt
  have hltN := hN.lt
  have fresh : ∀ b, b < w4.heap.size → itv.ownBlock ≠ some b → itv5.ownBlock ≠ some b := fun b hb hn => by
    rcases hat with e | e
    · rw [e]; exact hn
    · rw [e]; simp; omega
  have keep : ∀ {P : Nat → Prop} {v' : Array Value} {t' : VT}, VOwn w4 P v' t' → (∀ b, P b → itv.ownBlock ≠ some b) → VOwn w5 P v' t' := fun hh h1 =>
    hh.keep (by have := hgrow.size; simp at this; omega) fun k hk hlt => by
      rw [hgrow.block k (by simp; omega) (fun e => h1 k hk e.symm), Below.heap_alloc _ _ _ hlt]
  refine ⟨⟨?_, hNs⟩, ⟨by simpa using hown, fun y hy => ?_⟩, fun k hk hn => ?_⟩
  · refine owns_keep hN fun k hk => ?_
    obtain ⟨h1, h2⟩ := hltN k hk
    exact (hgrow.block k (by simp; omega) (fun e => hd k e.symm hk)).trans ((Below.heap_alloc _ _ _ (by omega)).trans (hp.block k h2 (by omega)))
  · rcases List.mem_append.1 hy with hy | hy
    · have ho := (hL y hy).past hp (fun hh => by have := hh.1; omega)
      refine ((keep (ho.imp (Q := fun b => (base ≤ b ∧ itv.ownBlock ≠ some b ∧ nv.ownBlock ≠ some b) ∧ b < w4.heap.size) fun b hb hl => ⟨hb, hl⟩) (fun b hb => hb.1.2.1))).imp fun b hb _ => ⟨hb.1.1, fresh b hb.2 hb.1.2.1, hb.1.2.2⟩
    · obtain rfl : y = (v, t) := by simpa using hy
      refine ((keep (hv.imp (Q := fun b => wr.heap.size ≤ b ∧ b < w4.heap.size) fun b hb hl => ⟨hb, hl⟩) (fun b hb e => by have := (hlt b e).2; omega))).imp fun b hb _ => ⟨by omega, fresh b hb.2 (fun e => by have := (hlt b e).2; omega), fun e => by have := (hltN b e).2; omega⟩
  · have h2 := (hltN k hn).2
    exact fresh k (by omega) (fun e => hd k e hn) hk
/-- How the program's reading of a record's fields ends. -/
def RFEnds (s : ByteArray) (w : World) (g : Nat) (r : Except Nat (List (ByteArray × VT) × Nat × List UInt8)) (x : Ending) (w' : World) : Prop :=
  Past g w w' ∧ match r with
  | .error c => x = .panicked (errL c)
  | .ok (xs, p, l) => (∃ nv itv N L, x = .returned (.tuple #[nv, itv]) ∧ (∃ B, w.heap.size ≤ B ∧ Rec w' B nv N itv L) ∧ N.length = xs.length ∧ L.length = xs.length ∧ xs.map (·.2) = L.map (·.2) ∧ xs.map (·.1) = N) ∧ ∃ a : Nat, a ≤ s.size ∧ l = left s a ∧ Dr w' g s a p
set_option maxRecDepth 20000 in
set_option maxHeartbeats 600000 in
theorem rf_ok {w : World} {g : Nat} {s : ByteArray} {a p n : Nat} {d : Int} {l0 : List UInt8} {F : Nat → List UInt8 → Except Nat (VT × Nat × List UInt8)} (hd : -1000 ≤ d ∧ d ≤ 1000) (hF : ∀ p l t p' r, F p l = .ok (t, p', r) → p' ≤ 200)
    (ih : ∀ (w : World) (a p : Nat), Dr w g s a p → a ≤ s.size → p ≤ 200 → Calls Try.prog 91 #[.pointer (some ⟨g, 0, none⟩), .int .i64 (d + 1)] w fun x w' => DVEnds s w g (F p (left s a)) x w')
    (hi : mP (left s a) = .ok (n, l0)) (hn2 : n ≤ 200) (h : Dr w g s a p) (hp : p ≤ 200) (ha : a ≤ s.size) (hs : s.size ≤ 1000000000) :
    Calls Try.prog 114 #[.pointer (some ⟨g, 0, none⟩), .int .i64 d, (.func (.func 91) #[] #[])] w fun x w' => RFEnds s w g (itemsP F 6 n p l0) x w' := by
  have C := readCount_ok h ha hs
  rw [hi] at C
  have C' := C.mono fun e w1 h => DEnds.okay h
  have hg := h.lt
  have HG := Lib.hid hg
  have HIH := Lib.hid ih
  have HFF := Lib.hid hF
  have HPP := Lib.hid hp
  have hn3 : (n : Int) ≤ 200 := by omega
  obtain ⟨i0, hii, hz0, hz1, hz2⟩ := info_parts info27z
  obtain ⟨i9, hi9, hy0, hy1, hy2⟩ := info_parts info9z
  clear h hg C hi ih hF hp
  go_enter Try.func114, Try.ntmps114
  go_wp2_with (first
    | (go_at_call 113; refine C'.mono ?_; rintro x w3 ⟨rfl, hp3, a3, ha3, hl3, h3⟩; have hg3 : g < w3.heap.size := h3.lt))
  have HP3 := Lib.hid hp3
  have H3 := Lib.hid h3
  have HL3 := Lib.hid hl3
  have HA3 := Lib.hid ha3
  have hs3 := hp3.size
  clear hp3 h3 hl3 ha3 C'
  go_loopw [6, 7, 10] (fun nvv itvv iv wr => ∃ (i : Nat) (nv itv : Value), nv = nvv ∧ itv = itvv ∧ i ≤ n ∧ iv = .int .i64 i ∧ Past g w wr ∧ w3.heap.size ≤ wr.heap.size ∧
    (∃ (L : List (Array Value × VT)) (N : List ByteArray) (xs : List (ByteArray × VT)) (pp aa : Nat), L.length = i ∧ N.length = i ∧ xs.map (·.2) = L.map (·.2) ∧ xs.map (·.1) = N ∧ Hid (itemsP F 6 n p l0 = pre xs (itemsP F 6 (n - i) pp (left s aa))) ∧ aa ≤ s.size ∧ pp ≤ 200 ∧ Dr wr g s aa pp ∧ Rec wr w3.heap.size nv N itv L)) (fun _ _ iv _ => n - (intOf iv).toNat)
  case atStart => exact ⟨0, _, _, rfl, rfl, by omega, rfl, HP3.out, Nat.le_refl _, [], [], [], p, a3, rfl, rfl, rfl, rfl, Lib.hid (by rw [← HL3.out, pre_nil]; rfl), HA3.out, HPP.out, H3.out, ⟨⟨World.ownsRow_nil _ _ _ _, fun x hx => by cases hx⟩, ⟨World.ownsRow_nil _ _ _ _, fun x hx => by cases hx⟩, fun k hk => by cases hk⟩⟩
  case round =>
    obtain ⟨i, nv, itv, rfl, rfl, hile, rfl, hpr, hsz, L, N, xs, pp, aa, hLi, hNi, hx2, hx1, hit, haa, hpp, hr, hRec⟩ := hrel
    by_cases hlt : i < n
    · have S := readStr_ok (most := 30) hr haa hs (by omega)
      have hni : n - i = (n - (i + 1)) + 1 := by omega
      cases hsp : sP 30 (left s aa) with
      | error c =>
        rw [hsp] at S
        have S' := S.mono fun e w1 h => DEnds.error h
        have HRES := Lib.hid (show itemsP F 6 n p l0 = .error c by rw [hit.out, hni, itemsP6_err hsp ⟨#[]⟩]; rfl)
        have HPR := Lib.hid hpr
        clear S hit hpr hRec hr hx2 hx1 hsp
        go_wp2_with (first | (go_at_call 57; refine S'.mono ?_; rintro x w4 ⟨rfl, hp4⟩))
        refine ⟨rfl, ?_⟩
        show RFEnds s w g (itemsP F 6 n p l0) _ _
        rw [HRES.out]
        exact ⟨HPR.out.trans hp4, rfl⟩
      | ok z =>
        obtain ⟨t4, l4⟩ := z
        rw [hsp] at S
        have S' := S.mono fun e w1 h => DEnds.okay h
        have ihc := HIH.out
        have hON := hRec.1.1
        have hOI := hRec.2.1.1
        have hN200 : N.length ≤ 200 := by omega
        have hL200 : L.length ≤ 200 := by omega
        have ht4 := sP_size hsp
        have hd1 : IntKind.i64.wrap (d + 1) = d + 1 := by rw [IntKind.wrap_i64]; omega
        have hstep := itemsP6_ok (F := F) (k := n - (i + 1)) (p := pp) hsp
        have HST := Lib.hid hstep
        have HH := Lib.hid (And.intro hit (And.intro hx2 (And.intro hx1 (And.intro hLi hNi))))
        have HRec := Lib.hid hRec
        have HPR := Lib.hid hpr
        have HSZ := Lib.hid hsz
        have HT4 := Lib.hid ht4
        clear S hit hpr hRec hr hx2 hx1 hsp hstep hsz ht4 hLi hNi
        cases hFe : F pp l4 with
        | error c =>
          have HFE := Lib.hid hFe
          have C : ∀ W a4, l4 = left s a4 → a4 ≤ s.size → Dr W g s a4 pp → Calls Try.prog 91 #[.pointer (some ⟨g, 0, none⟩), .int .i64 (d + 1)] W fun x w' => x = .panicked (errL c) ∧ Past g W w' := fun W a4 e ha4 hW => by
            have := ihc W a4 pp hW ha4 hpp
            rw [← e, HFE.out] at this
            exact this.mono fun x w' h => h.error
          have HC := Lib.hid C
          clear hFe ihc C
          go_wp2_with (first
            | (at_builtin; refine wpList_append_lies _ rfl (.tmp 12) (.tmp 15) 24 rfl w3.heap.size 9 i9 _ 1 16 Try.underlying24 hi9 hy0 hy1 hy2 rfl (by decide) nv N.length _ rfl hO4 ⟨w4.heap.size, 0, none⟩ 1 1 [.string t4] rfl rfl hnews4 hone4 (by decide) (by unfold maxLen; omega) (by omega) hbase4 _ rfl ?_; intro g5 cap5 w5 hown5 hgrow5 hat5 hlt5; have hr5 := ((hgrow5.block g (by have := HD4.out.lt; simp; omega) (fun e => by have := (hO4.lt _ e.symm).1; omega)).trans (HD4.out.alloc (.cells #[.string t4] 9))); have C5 := HC.out w5 a4 HL4.out HA4.out hr5)
            | (go_at_call 57; refine S'.mono ?_; rintro x w4 ⟨rfl, hp4, a4, ha4, hl4, hr4⟩; have HL4 := Lib.hid hl4; have HA4 := Lib.hid ha4; have HD4 := Lib.hid hr4; have hO4 := (owns_past hON hp4 (by omega)).alloc (.cells #[.string t4] 9); have hnews4 := new1 w4 t4; have hone4 : ∀ u ∈ [Value.string t4], u.oneCell' = true := (by simp [Value.oneCell']); have hbase4 : w3.heap.size ≤ (w4.alloc (.cells #[.string t4] 9)).heap.size := Nat.le_trans (Nat.le_trans HSZ.out hp4.size) (by simp); clear hl4 ha4 hr4)
            | (go_at_call 91; refine C5.mono ?_; rintro x w6 ⟨rfl, hp6⟩))
          refine ⟨rfl, ?_⟩
          show RFEnds s w g (itemsP F 6 n p l0) _ _
          rw [HH.out.1.out, hni, HST.out, HFE.out]
          exact ⟨(((HPR.out.trans hp4).alloc (.cells #[.string t4] 9)).grown hgrow5 (fun k e => Nat.le_trans hs3 (hON.lt k e).1)).trans hp6, rfl⟩
        | ok z =>
          obtain ⟨t, p1, l1⟩ := z
          have HFE := Lib.hid hFe
          have C : ∀ W a4, l4 = left s a4 → a4 ≤ s.size → Dr W g s a4 pp → Calls Try.prog 91 #[.pointer (some ⟨g, 0, none⟩), .int .i64 (d + 1)] W fun x w' => DVEnds s W g (.ok (t, p1, l1)) x w' := fun W a4 e ha4 hW => by
            have := ihc W a4 pp hW ha4 hpp
            rw [← e, HFE.out] at this
            exact this
          have HC := Lib.hid C
          clear hFe ihc C
          go_wp2_with (first
            | (at_builtin; refine wpList_append_lies _ rfl (.tmp 12) (.tmp 15) 24 rfl w3.heap.size 9 i9 _ 1 16 Try.underlying24 hi9 hy0 hy1 hy2 rfl (by decide) nv N.length _ rfl hO4 ⟨w4.heap.size, 0, none⟩ 1 1 [.string t4] rfl rfl hnews4 hone4 (by decide) (by unfold maxLen; omega) (by omega) hbase4 _ rfl ?_; intro g5 cap5 w5 hown5 hgrow5 hat5 hlt5; have hr5 := ((hgrow5.block g (by have := HD4.out.lt; simp; omega) (fun e => by have := (hO4.lt _ e.symm).1; omega)).trans (HD4.out.alloc (.cells #[.string t4] 9))); have C5 := HC.out w5 a4 HL4.out HA4.out hr5; have hRec5 := HRec.out.name0 hp4 (by omega) HT4.out hown5 hgrow5 (hat5.imp (fun e => e.symm) (fun e => by rw [← e]; rfl)); have HP5 := Lib.hid (((HPR.out.trans hp4).alloc (.cells #[.string t4] 9)).grown hgrow5 (fun k e => Nat.le_trans hs3 (hON.lt k e).1)); have HS5 := Lib.hid (show w3.heap.size ≤ w5.heap.size from Nat.le_trans hbase4 hgrow5.size); have HRec5 := Lib.hid hRec5; clear hr5 hRec5 hO4 hnews4 hone4 hbase4 hat5 hgrow5 hown5)
            | (at_builtin; refine wpList_append_lies _ rfl (.tmp 17) (.tmp 23) 25 rfl w3.heap.size 27 i0 _ 6 88 Try.underlying25 hii hz0 hz1 hz2 rfl (by decide) itv L.length _ rfl hO7 ⟨w7.heap.size, 0, none⟩ 1 1 [.int .i64 b0, .int .i64 b1, .float .f64 b2, .string b3, .slice b4 b5 b6, .slice b7 b8 b9] rfl rfl hnews7 hone7 (by decide) (by unfold maxLen; omega) (by omega) hbase7 _ rfl ?_; intro g8 cap8 w8 hown8 hgrow8 hat8 hlt8; have HG8 := Lib.hid (And.intro hown8 (And.intro hgrow8 hat8)); clear hown8 hgrow8 hat8 hO7 hnews7 hone7 hbase7)
            | (go_at_call 57; refine S'.mono ?_; rintro x w4 ⟨rfl, hp4, a4, ha4, hl4, hr4⟩; have HL4 := Lib.hid hl4; have HA4 := Lib.hid ha4; have HD4 := Lib.hid hr4; have hO4 := (owns_past hON hp4 (by omega)).alloc (.cells #[.string t4] 9); have hnews4 := new1 w4 t4; have hone4 : ∀ u ∈ [Value.string t4], u.oneCell' = true := (by simp [Value.oneCell']); have hbase4 : w3.heap.size ≤ (w4.alloc (.cells #[.string t4] 9)).heap.size := Nat.le_trans (Nat.le_trans HSZ.out hp4.size) (by simp); clear hl4 ha4 hr4)
            | (go_at_call 91; refine C5.mono ?_; intro x w7 hE7; obtain ⟨b0, b1, b2, b3, b4, b5, b6, b7, b8, b9, rfl, hp7, hE7⟩ := hE7.okay; have hO7 := (owns_past HRec5.out.2.1.1 hp7 (by omega)).alloc (.cells #[.int .i64 b0, .int .i64 b1, .float .f64 b2, .string b3, .slice b4 b5 b6, .slice b7 b8 b9] 27); have hnews7 := new6 w7 b0 b1 b2 b3 b4 b5 b6 b7 b8 b9; have hone7 : ∀ u ∈ [Value.int .i64 b0, .int .i64 b1, .float .f64 b2, .string b3, .slice b4 b5 b6, .slice b7 b8 b9], u.oneCell' = true := (by simp [Value.oneCell']); have hbase7 : w3.heap.size ≤ (w7.alloc (.cells #[.int .i64 b0, .int .i64 b1, .float .f64 b2, .string b3, .slice b4 b5 b6, .slice b7 b8 b9] 27)).heap.size := Nat.le_trans (Nat.le_trans HS5.out hp7.size) (by simp); have HE7 := Lib.hid hE7; clear hE7))
          go_roundw
          case measure => simp [intOf]; omega
          case rel =>
            obtain ⟨hv, a7, ha7, hl7, h7⟩ := HE7.out
            obtain ⟨hown8, hgrow8, hat8⟩ := HG8.out
            obtain ⟨hit, hx2, hx1, hLi, hNi⟩ := HH.out
            have hI5 := HRec5.out.2.1.1
            have hlow : ∀ k, itv.ownBlock = some k → w3.heap.size ≤ k := fun k e => (hI5.lt k e).1
            have hP8 := ((HP5.out.trans hp7).alloc (.cells #[.int .i64 b0, .int .i64 b1, .float .f64 b2, .string b3, .slice b4 b5 b6, .slice b7 b8 b9] 27)).grown hgrow8 (fun k e => Nat.le_trans hs3 (hlow k e))
            have h7a := h7.alloc (.cells #[.int .i64 b0, .int .i64 b1, .float .f64 b2, .string b3, .slice b4 b5 b6, .slice b7 b8 b9] 27)
            have hr8 := (hgrow8.block g h7a.lt (fun e => by have := hlow _ e.symm; omega)).trans h7a
            have hS8 : w3.heap.size ≤ w8.heap.size := by have := hgrow8.size; have := hp7.size; have := HS5.out; simp at *; omega
            refine ⟨i + 1, _, _, rfl, rfl, by omega, by go_num, hP8, hS8, L ++ [(#[.int .i64 b0, .int .i64 b1, .float .f64 b2, .string b3, .slice b4 b5 b6, .slice b7 b8 b9], t)], N ++ [t4], xs ++ [(t4, t)], p1, a7, by simp [hLi], by simp [hNi], by simp [hx2], by simp [hx1], Lib.hid ?_, ha7, HFF.out _ _ _ _ _ HFE.out, hr8, ?_⟩
            · rw [hit.out, hni, HST.out, HFE.out, stepP_ok, pre_pre, hl7]
            · exact HRec5.out.item0 hp7 (by omega) HS5.out hv hown8 hgrow8 (hat8.imp (fun e => e.symm) (fun e => by rw [← e]; rfl))
    · obtain rfl : i = n := by omega
      have hres : itemsP F 6 i p l0 = .ok (xs, pp, left s aa) := by
        rw [hit.out, Nat.sub_self, itemsP]
        simp [pre]
      have HRES := Lib.hid hres
      have HPR := Lib.hid hpr
      have HRec := Lib.hid hRec
      have HR0 := Lib.hid hr
      have HH := Lib.hid (And.intro hx2 (And.intro hx1 (And.intro hLi hNi)))
      clear hres hpr hRec hr hx2 hx1 hit
      go_wp2_with fail
      refine bodyPost_ret (v := .tuple #[nv, itv]) (by simp [results, Try.results114, go_sem]) rfl ?_
      show RFEnds s w g (itemsP F 6 i p l0) _ _
      rw [HRES.out]
      obtain ⟨hx2, hx1, hLi, hNi⟩ := HH.out
      have e1 := congrArg List.length hx2
      have e2 := congrArg List.length hx1
      rw [List.length_map, List.length_map] at e1
      rw [List.length_map] at e2
      exact ⟨HPR.out, ⟨_, _, N, L, rfl, ⟨_, hs3, HRec.out⟩, e2.symm, e1.symm, hx2, hx1⟩, aa, haa, rfl, HR0.out⟩
set_option maxRecDepth 20000 in
theorem rf_err {w : World} {g : Nat} {s : ByteArray} {a p c : Nat} {d : Int} (hi : mP (left s a) = .error c) (h : Dr w g s a p) (ha : a ≤ s.size) (hs : s.size ≤ 1000000000) :
    Calls Try.prog 114 #[.pointer (some ⟨g, 0, none⟩), .int .i64 d, (.func (.func 91) #[] #[])] w fun x w' => RFEnds s w g (.error c) x w' := by
  have C := readCount_ok h ha hs
  rw [hi] at C
  have C' := C.mono fun e w1 h => DEnds.error h
  clear h C hi
  go_enter Try.func114, Try.ntmps114
  go_wp2_with (first | (go_at_call 113; refine C'.mono ?_; rintro x w3 ⟨rfl, hp3⟩))
  exact ⟨rfl, hp3, rfl⟩
end Go.Proofs.Yteclpehbpicpaaa
namespace Go.Proofs.Yteclpehbpicpaaa
open Go.RowKit

theorem RFEnds.error {s : ByteArray} {w : World} {g : Nat} {c : Nat} {x : Ending} {w' : World} (h : RFEnds s w g (.error c) x w') : x = .panicked (errL c) ∧ Past g w w' := ⟨h.2, h.1⟩
theorem RFEnds.okay {s : ByteArray} {w : World} {g : Nat} {xs : List (ByteArray × VT)} {p : Nat} {l : List UInt8} {x : Ending} {w' : World} (h : RFEnds s w g (.ok (xs, p, l)) x w') :
    ∃ A c ca B m cb, x = .returned (.tuple #[.slice A c ca, .slice B m cb]) ∧ Past g w w' ∧ VOwn w' (fun b => w.heap.size ≤ b) (fields 6 0 0 ⟨#[]⟩ A c ca B m cb) (treeOf 6 xs) ∧ ∃ a : Nat, a ≤ s.size ∧ l = left s a ∧ Dr w' g s a p := by
  obtain ⟨hp, ⟨nv, itv, N, L, rfl, ⟨B, hB, hRec⟩, hN, hL, hx2, hx1⟩, hr⟩ := h
  obtain ⟨A, c, ca, B', m, cb, rfl, rfl, hvo⟩ := VOwn.tree (w := w') (lo := B) (base := B) (k := 6) (.inr rfl) (Nat.le_refl _) (fun b hb => hb.1) hRec.1 hRec.2.1 (by rw [if_pos rfl, hN, hL]) xs hx2 (fun _ => hx1)
  exact ⟨A, c, ca, B', m, cb, rfl, hp, hvo.imp fun b hb _ => Nat.le_trans hB hb, hr⟩
set_option maxRecDepth 20000 in
set_option maxHeartbeats 1000000 in
theorem rv_6e {w : World} {g : Nat} {s : ByteArray} {a p a1 : Nat} {d : Int} {c : Nat} (hk : kindP d p (left s a) = .ok (6, left s a1)) (S : ∀ W a2, left s a1 = left s a2 → a2 ≤ s.size → Dr W g s a2 ((p + 1 : Nat) : Int) → Calls Try.prog 114 #[.pointer (some ⟨g, 0, none⟩), .int .i64 d, (.func (.func 91) #[] #[])] W fun x w' => RFEnds s W g (.error c) x w') (h : Dr w g s a p) (hp : p ≤ 200) (ha : a ≤ s.size) (hs : s.size ≤ 1000000000) :
    Calls Try.prog 91 #[.pointer (some ⟨g, 0, none⟩), .int .i64 d] w fun x w' => DVEnds s w g (.error c) x w' := by
  have hW : Past g w (w.alloc (.cells #[.int .i64 0, .int .i64 0, .float .f64 0, .string ⟨#[]⟩, .slice none 0 0, .slice none 0 0] 27)) := (Past.refl g w).alloc _
  have K := kind_any (d := d) (h.alloc (.cells #[.int .i64 0, .int .i64 0, .float .f64 0, .string ⟨#[]⟩, .slice none 0 0, .slice none 0 0] 27)) (by omega) ha hs
  rw [hk] at K
  have K' := K.mono fun e w1 h => DEnds.okay h
  have HW := Lib.hid hW
  have HS := Lib.hid S
  have SF := float_store
  clear h hW K hk S
  go_enter Try.func91, Try.ntmps91
  go_wp2_with (first
    | (go_at_call 110; refine K'.mono ?_; rintro x w1 ⟨rfl, hp1, a2, ha2, hl2, h1⟩; have hP2 := (Past.refl g w1).alloc (.cells #[.int .i64 6, .int .i64 0, .float .f64 0, .string ⟨#[]⟩, .slice none 0 0, .slice none 0 0] 27); have h2 := h1.alloc (.cells #[.int .i64 6, .int .i64 0, .float .f64 0, .string ⟨#[]⟩, .slice none 0 0, .slice none 0 0] 27); have C := (HS.out _ a2 hl2 ha2 h2).mono fun e w1 h => RFEnds.error h)
    | (go_at_call 114; refine C.mono ?_; rintro x w3 ⟨rfl, hp3⟩))
  exact ⟨rfl, HW.out.trans (hp1.trans (hP2.trans hp3)), rfl⟩
set_option maxRecDepth 20000 in
set_option maxHeartbeats 1000000 in
theorem rv_6 {w : World} {g : Nat} {s : ByteArray} {a p a1 p' : Nat} {d : Int} {xs : List (ByteArray × VT)} {l : List UInt8} (hk : kindP d p (left s a) = .ok (6, left s a1)) (S : ∀ W a2, left s a1 = left s a2 → a2 ≤ s.size → Dr W g s a2 ((p + 1 : Nat) : Int) → Calls Try.prog 114 #[.pointer (some ⟨g, 0, none⟩), .int .i64 d, (.func (.func 91) #[] #[])] W fun x w' => RFEnds s W g (.ok (xs, p', l)) x w') (h : Dr w g s a p) (hp : p ≤ 200) (ha : a ≤ s.size) (hs : s.size ≤ 1000000000) :
    Calls Try.prog 91 #[.pointer (some ⟨g, 0, none⟩), .int .i64 d] w fun x w' => DVEnds s w g (.ok (treeOf 6 xs, p', l)) x w' := by
  have hW : Past g w (w.alloc (.cells #[.int .i64 0, .int .i64 0, .float .f64 0, .string ⟨#[]⟩, .slice none 0 0, .slice none 0 0] 27)) := (Past.refl g w).alloc _
  have hR := Bx.new w #[.int .i64 0, .int .i64 0, .float .f64 0, .string ⟨#[]⟩, .slice none 0 0, .slice none 0 0]
  have K := kind_any (d := d) (h.alloc (.cells #[.int .i64 0, .int .i64 0, .float .f64 0, .string ⟨#[]⟩, .slice none 0 0, .slice none 0 0] 27)) (by omega) ha hs
  rw [hk] at K
  have K' := K.mono fun e w1 h => DEnds.okay h
  have hg := h.lt
  have HR := Lib.hid hR
  have HW := Lib.hid hW
  have HG := Lib.hid hg
  have HS := Lib.hid S
  have SF := float_store
  clear h hR hW K hk S
  go_enter Try.func91, Try.ntmps91
  go_wp2_with (first
    | (go_at_call 110; refine K'.mono ?_; rintro x w1 ⟨rfl, hp1, a2, ha2, hl2, h1⟩; have HP1 := Lib.hid hp1; have hP2 := (Past.refl g w1).alloc (.cells #[.int .i64 6, .int .i64 0, .float .f64 0, .string ⟨#[]⟩, .slice none 0 0, .slice none 0 0] 27); have h2 := h1.alloc (.cells #[.int .i64 6, .int .i64 0, .float .f64 0, .string ⟨#[]⟩, .slice none 0 0, .slice none 0 0] 27); have hlt1 := h1.lt; have C := (HS.out _ a2 hl2 ha2 h2).mono fun e w1 h => RFEnds.okay h; clear hl2 ha2 h1 h2 hp1)
    | (go_at_call 114; refine C.mono ?_; rintro x w3 ⟨A, c, ca, B, m, cb, rfl, hp3, hv3, a3, ha3, hl3, h3⟩; have hgw : g ≠ w.heap.size := (by have := HG.out; omega); have hR1 := HR.out.past HP1.out hgw.symm; have hlt := hR1.lt; have hR3 := (hR1.alloc (.cells #[.int .i64 6, .int .i64 0, .float .f64 0, .string ⟨#[]⟩, .slice none 0 0, .slice none 0 0] 27)).past hp3 hgw.symm; obtain ⟨q0, q1, q2, q3, q4, q5, qf, ql⟩ := hR3.cells; have hV3 := (Bx.new w1 #[.int .i64 6, .int .i64 0, .float .f64 0, .string ⟨#[]⟩, .slice none 0 0, .slice none 0 0]).past hp3 (by omega); obtain ⟨v0, v1, v2, v3, v4, v5, vf, vl⟩ := hV3.cells; have HR3 := Lib.hid hR3; have HV3 := Lib.hid hV3; have H3 := Lib.hid h3; have HL3 := Lib.hid hl3; have HA3 := Lib.hid ha3; have HVO := Lib.hid hv3; clear hR1 hR3 hV3 h3 hl3 ha3 hv3))
  have hgw := HG.out
  refine bodyPost_ret (results_six rfl _ _ w.heap.size (.int .i64 6) (.int .i64 0) (.float .f64 0) (.string ⟨#[]⟩) (.slice A c ca) (.slice B m cb) rfl (((HR3.out.other (S := w1.heap.size) (by omega) _ _).other (S := w1.heap.size) (by omega) _ _).six _ _ _ _ _ _)) rfl ⟨?_, ⟨_, rfl, ?_⟩, a3, HA3.out, HL3.out, ?_⟩
  · exact ((((HW.out.trans (HP1.out.trans (hP2.trans hp3))).setNew (by omega) _ _).setNew (by omega) _ _).six (Nat.le_refl _) _ _ _ _ _ _)
  · have hv := HVO.out
    have hz : w1.heap.size < (w1.alloc (.cells #[.int .i64 6, .int .i64 0, .float .f64 0, .string ⟨#[]⟩, .slice none 0 0, .slice none 0 0] 27)).heap.size := by simp
    generalize hW1 : (w1.alloc (.cells #[.int .i64 6, .int .i64 0, .float .f64 0, .string ⟨#[]⟩, .slice none 0 0, .slice none 0 0] 27)).heap.size = B1 at hv hz
    exact ((hv.keep (w' := (w3.setCell ⟨w1.heap.size, 4, none⟩ (.slice A c ca)).setCell ⟨w1.heap.size, 5, none⟩ (.slice B m cb)) (by simp [World.setCell]) (fun k hk hl => by
      rw [Below.heap_setCell _ _ _ _ (by simp; omega), Below.heap_setCell _ _ _ _ (by simp; omega)])).six (by omega) _ _ _ _ _ _).imp fun b hb _ => by omega
  · exact (((H3.out.other (R := w1.heap.size) (by omega) _ _).other (R := w1.heap.size) (by omega) _ _).six (by omega) _ _ _ _ _ _)
theorem kind_err {d : Int} {p : Nat} {l : List UInt8} (h : 12 ≤ d ∨ 200 < p + 1) : kindP d p l = .error 5 := by
  unfold kindP
  exact if_pos (h.imp id fun h => by omega)
theorem kind_nil {d : Int} {p : Nat} (h : ¬ (12 ≤ d ∨ 200 < p + 1)) : kindP d p [] = .error 14 := by
  unfold kindP
  rw [if_neg (fun hh => h (hh.imp id fun h => by omega))]
theorem kind_cons {d : Int} {p : Nat} {b : UInt8} {l : List UInt8} (h : ¬ (12 ≤ d ∨ 200 < p + 1)) : kindP d p (b :: l) = .ok (b.toNat, l) := by
  unfold kindP
  rw [if_neg (fun hh => h (hh.imp id fun h => by omega))]
theorem plain_1 (l : List UInt8) : plainP 1 l = (match truthP l with | .error c => .error c | .ok (n, r) => .ok (leaf 1 n 0 ⟨#[]⟩, r)) := by
  rw [plainP_1]
  cases l with
  | nil => rfl
  | cons c l =>
    unfold truthP
    dsimp only
    by_cases h : 1 < c.toNat
    · rw [if_pos h, if_pos h]
    · rw [if_neg h, if_neg h]
theorem truth_le {l r : List UInt8} {n : Nat} (h : truthP l = .ok (n, r)) : n ≤ 1 := by
  cases l with
  | nil => cases h
  | cons c l =>
    unfold truthP at h
    dsimp only at h
    by_cases h1 : 1 < c.toNat
    · rw [if_pos h1] at h; cases h
    · rw [if_neg h1] at h; cases h; omega
theorem plain_3 (l : List UInt8) : plainP 3 l = (match floatP l with | .error c => .error c | .ok (b, r) => .ok (leaf 3 0 b ⟨#[]⟩, r)) := by
  rw [plainP_3]
  unfold floatP
  cases wP 8 0 l with
  | error c => rfl
  | ok z =>
    obtain ⟨b, r⟩ := z
    dsimp only
    by_cases h : canonW b = b
    · rw [if_pos h, if_pos h]
    · rw [if_neg h, if_neg h]
theorem float_lt {l r : List UInt8} {b : Nat} (h : floatP l = .ok (b, r)) : b < 18446744073709551616 := by
  unfold floatP at h
  cases hw : wP 8 0 l with
  | error c => rw [hw] at h; cases h
  | ok z =>
    obtain ⟨b', r'⟩ := z
    rw [hw] at h
    dsimp only at h
    have := wP_lt 8 0 b' l r' 0 rfl (by decide) hw
    by_cases h1 : canonW b' = b'
    · rw [if_pos h1] at h; cases h; exact this
    · rw [if_neg h1] at h; cases h
theorem rv_plain {w : World} {g : Nat} {s : ByteArray} {a p a1 k : Nat} {d : Int} (hk : kindP d p (left s a) = .ok (k, left s a1)) (h1 : 1 ≤ k) (h4 : k ≤ 4) (h : Dr w g s a p) (hp : p ≤ 200) (ha : a ≤ s.size) (hs : s.size ≤ 1000000000) :
    Calls Try.prog 91 #[.pointer (some ⟨g, 0, none⟩), .int .i64 d] w fun x w' => DVEnds s w g (match plainP k (left s a1) with | .error c => .error c | .ok (t, r) => .ok (t, p + 1, r)) x w' := by
  obtain rfl | rfl | rfl | rfl : k = 1 ∨ k = 2 ∨ k = 3 ∨ k = 4 := by omega
  · rw [plain_1]
    cases hi : truthP (left s a1) with
    | error c => exact rv_1e hk hi h hp ha hs
    | ok z => obtain ⟨n, r⟩ := z; exact rv_1 hk hi (truth_le hi) h hp ha hs
  · rw [plainP_2]
    cases hi : iP (left s a1) with
    | error c => exact rv_2e hk hi h hp ha hs
    | ok z => obtain ⟨n, r⟩ := z; exact rv_2 hk hi (iP_bound hi) h hp ha hs
  · rw [plain_3]
    cases hi : floatP (left s a1) with
    | error c => exact rv_3e hk hi h hp ha hs
    | ok z => obtain ⟨n, r⟩ := z; exact rv_3 hk hi (Lib.hid (float_lt hi)) h hp ha hs
  · rw [plainP_4]
    cases hi : sP 200 (left s a1) with
    | error c => exact rv_4e hk hi h hp ha hs
    | ok z => obtain ⟨n, r⟩ := z; exact rv_4 hk hi (sP_size200 hi) h hp ha hs
/-- The program's reader of a value answers vP. -/
theorem rv_any {g : Nat} {s : ByteArray} (hs : s.size ≤ 1000000000) : ∀ (q : Nat) (w : World) (a p : Nat), q ≤ 12 → Dr w g s a p → a ≤ s.size → p ≤ 200 →
    Calls Try.prog 91 #[.pointer (some ⟨g, 0, none⟩), .int .i64 (12 - (q : Int))] w fun x w' => DVEnds s w g (vP q p (left s a)) x w' := by
  intro q
  induction q with
  | zero =>
    intro w a p hq h ha hp
    exact rv_kind (kind_err (.inl (by omega))) h hp ha hs
  | succ q ih =>
    intro w a p hq h ha hp
    have hd : (12 - ((q + 1 : Nat) : Int)) + 1 = 12 - (q : Int) := by omega
    by_cases h1 : 200 < p + 1
    · have e : vP (q + 1) p (left s a) = .error 5 := by
        cases left s a with
        | nil => rw [vP_nil, if_pos h1]
        | cons b l => rw [vP_cons, if_pos h1]
      rw [e]
      exact rv_kind (kind_err (.inr h1)) h hp ha hs
    · have hb : ¬ (12 ≤ 12 - ((q + 1 : Nat) : Int) ∨ 200 < p + 1) := by omega
      by_cases ha' : a < s.size
      · rw [left_cons ha', vP_cons, if_neg h1]
        have hk := kind_cons (b := s[a]) (l := left s (a + 1)) hb
        rw [← left_cons ha'] at hk
        generalize s[a].toNat = k at hk
        by_cases h2 : k < 1 ∨ 6 < k
        · rw [if_pos h2]
          exact rv_no hk h2 h hp ha hs
        · rw [if_neg h2]
          by_cases h3 : k ≤ 4
          · rw [if_pos h3]
            exact rv_plain hk (by omega) h3 h hp ha hs
          · rw [if_neg h3]
            have ih' : ∀ (w : World) (a p : Nat), Dr w g s a p → a ≤ s.size → p ≤ 200 → Calls Try.prog 91 #[.pointer (some ⟨g, 0, none⟩), .int .i64 ((12 - ((q + 1 : Nat) : Int)) + 1)] w fun x w' => DVEnds s w g (vP q p (left s a)) x w' := fun w a p h1 h2 h3 => by rw [hd]; exact ih w a p (by omega) h1 h2 h3
            obtain rfl | rfl : k = 5 ∨ k = 6 := by omega
            · cases hm : mP (left s (a + 1)) with
              | error c => exact rv_5e hk hm h hp ha hs
              | ok z =>
                obtain ⟨n, l0⟩ := z
                have := rv_5 (F := vP q) (by omega) (vP_parts q) ih' hk hm (mP_le hm) h (by omega) ha hs
                rw [endP_eq] at this
                exact this
            · cases hm : mP (left s (a + 1)) with
              | error c => exact rv_6e hk (fun W a2 e ha2 hW => rf_err (e ▸ hm) hW ha2 hs) h hp ha hs
              | ok z =>
                obtain ⟨n, l0⟩ := z
                have S : ∀ W a2, left s (a + 1) = left s a2 → a2 ≤ s.size → Dr W g s a2 ((p + 1 : Nat) : Int) → Calls Try.prog 114 #[.pointer (some ⟨g, 0, none⟩), .int .i64 (12 - ((q + 1 : Nat) : Int)), (.func (.func 91) #[] #[])] W fun x w' => RFEnds s W g (itemsP (vP q) 6 n (p + 1) l0) x w' :=
                  fun W a2 e ha2 hW => rf_ok (F := vP q) (by omega) (vP_parts q) ih' (e ▸ hm) (mP_le hm) hW (by omega) ha2 hs
                dsimp only
                cases hi : itemsP (vP q) 6 n (p + 1) l0 with
                | error c => rw [hi] at S; exact rv_6e hk S h hp ha hs
                | ok z => obtain ⟨xs, p', r⟩ := z; rw [hi] at S; exact rv_6 hk S h hp ha hs
      · rw [left_nil (by omega), vP_nil, if_neg h1]
        have hk := kind_nil hb
        rw [← left_nil (s := s) (a := a) (by omega)] at hk
        exact rv_kind hk h hp ha hs
end Go.Proofs.Yteclpehbpicpaaa
