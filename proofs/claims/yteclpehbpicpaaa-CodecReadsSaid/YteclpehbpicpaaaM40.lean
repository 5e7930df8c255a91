/-
  A type that came in, opened: the tree that it is; and read again behind the call.
  The face of the program's reader of a string, and ReadStr.
  The document's reader: Begin.
-/
import Derived.Test.YteclpehbpicpaaaM39
import Derived.Test.YteclpehbpicpaaaM30
import Derived.Test.YteclpehbpicpaaaM37
import Derived.Test.YteclpehbpicpaaaM20
namespace Go.Proofs.Yteclpehbpicpaaa
open Go.ChangeShapes Go.WideShapes Go.ChangeAt Go.RowKit

section
variable {H : Type} {enc : TypeId × Value → H} {w : World} {base : Nat} {spare : Nat → Bool} {held : Bool}
set_option maxRecDepth 20000 in
theorem open_ttree {W : World} : ∀ (fuel : Nat) (cs : List Value) (x : DataW H × List MemPlace), DataW.trod enc Try.prog W 0 (fun _ => true) held fuel 30 cs = some x → (∀ p ∈ x.2, p.block < W.heap.size) →
    ∃ t, TVal W W.heap.size cs.toArray t := by
  intro fuel
  induction fuel using Nat.strongRecOn with
  | ind fuel ih =>
    intro cs x h hlt
    obtain ⟨xs, n, hfu, hx, hl, hlen, hf⟩ := DataW.trod_struct Try.underlying30 h
    subst hfu
    rw [cells39] at hl
    match cs, hl with
    | [v0, v4, v5], _ =>
      have f0 := hf 0 _ rfl
      have f4 := hf 1 _ rfl
      have f5 := hf 2 _ rfl
      match xs, hlen with
      | [x0, x4, x5], _ =>
        have e0 : DataW.trod enc Try.prog W 0 (fun _ => true) held n 3 [v0] = some x0 := f0
        have e4 : DataW.trod enc Try.prog W 0 (fun _ => true) held n 24 [v4] = some x4 := f4
        have e5 : DataW.trod enc Try.prog W 0 (fun _ => true) held n 28 [v5] = some x5 := f5
        clear hf f0 f4 f5
        obtain ⟨k, h0, _, w0⟩ := DataW.trod_int Try.underlying3 e0
        have hlt4 : ∀ p ∈ x4.2, p.block < W.heap.size := fun p hp => hlt p (by rw [hx]; simp [hp])
        have hlt5 : ∀ p ∈ x5.2, p.block < W.heap.size := fun p hp => hlt p (by rw [hx]; simp [hp])
        obtain ⟨A, c, ca, ns, h4, hc1, hc2, hstr⟩ := open_strs e4 hlt4
        have g0 : v0 = .int .i64 k := by simpa using h0
        have g4 : v4 = .slice A c ca := by simpa using h4
        subst g0 g4
        have b0 : -9223372036854775808 ≤ k ∧ k ≤ 9223372036854775807 := by simpa [Lit.wf, IntKind.min, IntKind.max, IntKind.signed, IntKind.bits] using w0
        rcases DataW.trod_slice Try.underlying28 e5 with ⟨h5, _⟩ | ⟨a, len, cap, elems, rest, n2, hn2, h5, hx5, _, hm1, hm2, hel, hat, _, _⟩
        · have g5 : v5 = .slice none 0 0 := by simpa using h5
          subst g5
          exact ⟨_, .mk k A c ca none 0 0 ns (fun _ => .bad) (fun _ => #[]) b0 ⟨hc1, hc2⟩ ⟨Nat.le_refl _, Nat.zero_le _⟩ hstr (fun h => absurd h (Nat.lt_irrefl 0)) (fun i h => absurd h (by omega))⟩
        · have g5 : v5 = .slice (some a) len cap := by simpa using h5
          subst g5
          subst hn2
          rw [cells39] at hat
          have each : ∀ i, i < len → ∃ cs', W.cells? 0 (a.add (i * 3)) 3 = some cs' ∧ ∃ t, TVal W W.heap.size cs'.toArray t := by
            intro i hi
            have h6 := hat i hi
            have hlti : i < elems.length := by omega
            rw [List.getElem?_eq_getElem hlti] at h6
            obtain ⟨cs', hc6, ht6⟩ := Option.bind_eq_some_iff.1 h6
            refine ⟨cs', hc6, ih n2 (by omega) cs' _ ht6 (fun p hp => hlt5 p ?_)⟩
            rw [hx5]
            refine List.mem_append_right _ (List.mem_flatMap.2 ⟨elems[i], List.mem_append_left _ (List.getElem_mem hlti), hp⟩)
          let vs : Nat → Array Value := fun i => if h : i < len then (each i h).choose.toArray else #[]
          let xs' : Nat → TT := fun i => if h : i < len then (each i h).choose_spec.2.choose else .bad
          have hvs : ∀ i (h : i < len), vs i = (each i h).choose.toArray := fun i h => dif_pos h
          have hxs : ∀ i (h : i < len), xs' i = (each i h).choose_spec.2.choose := fun i h => dif_pos h
          refine ⟨_, .mk k A c ca (some a) len cap ns xs' vs b0 ⟨hc1, hc2⟩ ⟨hm1, hm2⟩ hstr (fun hpos => ?_) (fun i hi => ?_)⟩
          · have hat0 : ∀ i, i < len → ∀ j, j < 3 → W.cell? ((a.add (i * 3)).add j) = (vs i)[j]? := by
              intro i hi j hj
              obtain ⟨_, hln, hc7⟩ := World.cells?_some (each i hi).choose_spec.1
              rw [hvs i hi]
              have := hc7 j (by omega)
              rw [this]
              simp
            obtain ⟨g, off, spot⟩ := a
            have h00 := hat0 0 hpos 0 (by omega)
            have hsz : ∃ u, (vs 0)[0]? = some u := by
              obtain ⟨_, hln, _⟩ := World.cells?_some (each 0 hpos).choose_spec.1
              rw [hvs 0 hpos]
              exact ⟨_, Array.getElem?_eq_getElem (by simp [hln])⟩
            obtain ⟨u, hu⟩ := hsz
            rw [hu] at h00
            have hspot : spot = none := by simpa [Addr.add] using World.cell?_spot h00
            subst hspot
            refine ⟨g, off, rfl, hlt5 (.cell g off) ?_, fun i hi j hj => ?_⟩
            · rw [hx5]
              exact List.mem_append_left _ (MemPlace.mem_row.2 ⟨0, by rw [cells39]; omega, by simp⟩)
            · have := hat0 i hi j hj
              rwa [add_plain, add_plain] at this
          · rw [hvs i hi, hxs i hi]
            exact (each i hi).choose_spec.2.choose_spec
set_option maxRecDepth 20000 in
theorem open_typ {W : World} {base : Nat} {v : Value} {d : DataW H} {ps : List MemPlace} (ho : Value.okWide Try.prog W .any base 30 v) (h : DataW.Trod enc Try.prog W 0 (fun _ => true) true 30 v d ps) (hlt : ∀ x ∈ ps, x.block < W.heap.size) :
    ∃ a t, v = .agg a ∧ TVal W W.heap.size a t := by
  obtain ⟨fuel, hf⟩ := h
  obtain ⟨a, rfl, _⟩ := okWide_struct Try.underlying30 ho
  obtain ⟨t, ht⟩ := open_ttree fuel a.toList _ hf hlt
  exact ⟨a, t, rfl, by simpa using ht⟩
/-- It reads behind the call as it read before. -/
theorem stays_typ {W W' : World} {v : Value} {d : DataW H} {ps : List MemPlace} (h : DataW.Trod enc Try.prog W 0 (fun _ => true) true 30 v d ps) (hb : Below W.heap.size W W') (hlt : ∀ x ∈ ps, x.block < W.heap.size) :
    DataW.Trod enc Try.prog W' 0 (fun b => decide (b < W.heap.size)) true 30 v d ps :=
  Below.trod laidOut (by kernel_rfl) (of_decide_eq_true (by kernel_rfl)) h hb hlt
end
end Go.Proofs.Yteclpehbpicpaaa
namespace Go.Proofs.Yteclpehbpicpaaa
open Go.RowKit

theorem lam_ok {w : World} {g : Nat} {s : ByteArray} {a k : Nat} {p most : Int} (h : Dr w g s a p) (ha : a ≤ s.size) (hs : s.size ≤ 1000000000) (hm : -9223372036854775808 ≤ most ∧ most ≤ 9223372036854775807) (hq : w.cell? ⟨k, 0, none⟩ = some (.int .i64 most)) :
    Calls Try.prog 56 #[.pointer (some ⟨g, 0, none⟩), .pointer (some ⟨k, 0, none⟩)] w fun x w' => DEnds s w g p (sP most (left s a)) x w' (fun t => .string t) := by
  have C := readStr_ok h ha hs hm
  generalize sP most (left s a) = r at *
  cases r with
  | error c =>
    have C1 : Calls Try.prog 57 #[.pointer (some ⟨g, 0, none⟩), .int .i64 most] w fun x w' => x = .panicked (errL c) ∧ Past g w w' := C.mono fun e w1 h => ⟨h.2, h.1⟩
    unfold errL at C1
    have HC := Lib.hid C1
    clear h C C1 hm
    go_enter Try.func56, Try.ntmps56
    go_wp2_with (go_at_call 57; refine HC.out.mono ?_; rintro e w1 ⟨rfl, hp1⟩)
    exact ⟨rfl, hp1, rfl⟩
  | ok z =>
    obtain ⟨t, l⟩ := z
    have C1 : Calls Try.prog 57 #[.pointer (some ⟨g, 0, none⟩), .int .i64 most] w fun x w' => x = .returned (.string t) ∧ DEnds s w g p (.ok (t, l)) (.returned (.string t)) w' (fun t => .string t) := C.mono fun e w1 h => ⟨h.2.1, h.1, rfl, h.2.2⟩
    have HC := Lib.hid C1
    clear h C C1 hm
    go_enter Try.func56, Try.ntmps56
    go_wp2_with (go_at_call 57; refine HC.out.mono ?_; rintro e w1 ⟨rfl, hp1⟩)
    go_ret
    exact hp1
theorem catchS_idle (q : Addr) (w : World) : CallsD Try.prog 87 #[.pointer (some q)] .returning w fun e u' w' => e = .returned (.tuple #[]) ∧ u' = .returning ∧ w' = w := by
  refine callsD_of_wpS Try.func87 rfl fun c₀ cs hu => ?_
  apply wpS_seq
  apply wpS_region
  simp [wpOpsS, go_sem, recoverD, hu, Try.ntmps87, Exit.thenS]
  refine wpS_of_wp ?_
  go_wp2_with fail
  cases c₀
  simp_all [bodyPostS, results, Try.results87]
set_option maxRecDepth 100000 in
theorem catchS_panics (q : Addr) (x c : Int) (older : List PanicEntry) (w : World) (hc : w.cell? q = some (.int .i64 x)) (hz : w.frozen? q = false) :
    CallsD Try.prog 87 #[.pointer (some q)] (.panicking ({ v := .iface 34 (.int .i64 c), recovered := false } :: older)) w fun e u' w' => e = .returned (.tuple #[]) ∧ u' = .panicking ({ v := .iface 34 (.int .i64 c), recovered := true } :: older) ∧ w' = w.setCell q (.int .i64 c) := by
  have TA := assert_errno c w
  refine callsD_of_wpS Try.func87 rfl fun c₀ cs hu => ?_
  apply wpS_seq
  apply wpS_region
  simp [wpOpsS, go_sem, recoverD, hu, Try.ntmps87, Exit.thenS]
  have hf : #[Value.pointer (some q)] ++ (Array.replicate 10 undef).setIfInBounds 3 (Value.iface 34 (Value.int IntKind.i64 c)) = #[.pointer (some q), undef, undef, undef, .iface 34 (.int .i64 c), undef, undef, undef, undef, undef, undef] := rfl
  rw [hf]
  refine wpS_of_wp ?_
  go_wp2_with fail
  simp [bodyPostS, results, Try.results87]
theorem readS_range {s : ByteArray} {a : Int} {f : Value} {w : World} (ha : a < 0 ∨ (s.size : Int) < a) :
    Calls Try.prog 55 #[.string s, .int .i64 a, f] w fun e w' => e = .returned (.tuple #[.string ⟨#[]⟩, .int .i64 0, .int .i64 3]) ∧ Below w.heap.size w w' := by
  have hbW : Below w.heap.size w (w.alloc (.cells #[.int .i64 3] 34)) := (Below.refl _ _).alloc (Nat.le_refl _) _
  by_cases h : a < 0
  · go_enter_defers Try.func55, Try.ntmps55
    go_wp2_with fail
    simp [bodyPostD, Leaves, results, Try.results55, go_sem, hbW]
  · have h2 : (s.size : Int) < a := by omega
    go_enter_defers Try.func55, Try.ntmps55
    go_wp2_with fail
    simp [bodyPostD, Leaves, results, Try.results55, go_sem, hbW]
set_option maxRecDepth 100000 in
set_option maxHeartbeats 1000000 in
theorem readS_ok {s : ByteArray} {a k : Nat} {most : Int} {w : World} (ha : a ≤ s.size) (hs : s.size ≤ 1000000000) (hm : -9223372036854775808 ≤ most ∧ most ≤ 9223372036854775807) (hk : k < w.heap.size) (hq : w.cell? ⟨k, 0, none⟩ = some (.int .i64 most)) :
    Calls Try.prog 55 #[.string s, .int .i64 a, .func (.func 56) #[] #[.pointer (some ⟨k, 0, none⟩)]] w fun e w' => e = .returned (faceV s (fun t : ByteArray => .string t) (.string ⟨#[]⟩) (sP most (left s a))) ∧ Below w.heap.size w w' := by
  obtain ⟨W1, hW1⟩ : ∃ W1, W1 = (w.alloc (.cells #[.int .i64 0] 34)).alloc (.cells #[.string s, .int .i64 a, .int .i64 0] 116) := ⟨_, rfl⟩
  obtain ⟨hD, hbW, hE, hlt⟩ := face_world hW1
  have R := lam_ok hD ha hs hm (k := k) (by rw [hbW.cell (by simpa using hk)]; exact hq)
  have MF := makeFunc_run
  have t1 : decide ((s.size : Int) < (a : Int)) = false := by simp; omega
  generalize sP most (left s a) = r at *
  have HB := Lib.hid hbW
  have HE := Lib.hid hE
  have HL := Lib.hid hlt
  clear hD hbW hE hlt hm hk hq
  cases r with
  | error c =>
    have R1 : Calls Try.prog 56 #[.pointer (some ⟨w.heap.size + 1, 0, none⟩), .pointer (some ⟨k, 0, none⟩)] W1 fun e w1 => e = .panicked (errL c) ∧ Past (w.heap.size + 1) W1 w1 := R.mono fun e w1 h => ⟨h.2, h.1⟩
    unfold errL at R1
    have HR := Lib.hid R1
    have HW := Lib.hid hW1
    clear R R1 hW1
    go_enter_defers Try.func55, Try.ntmps55
    rw [HW.out] at HR
    go_wp2_with (go_at_call 56; refine HR.out.mono ?_; rintro e w1 ⟨rfl, hp1⟩; rw [← HW.out] at hp1)
    obtain ⟨q0, q1⟩ := face_cell HE.out HL.out hp1
    have hb1 := face_below HB.out HL.out hp1
    refine leaves_cons (f := 87) (args := #[.pointer (some ⟨w.heap.size, 0, none⟩)]) (by simp) (by simp [go_sem]) ?_
    refine (catchS_panics ⟨w.heap.size, 0, none⟩ 0 c [] _ q0 q1).mono ?_
    rintro e u' w2 ⟨rfl, rfl, rfl⟩
    have hfin : Below w.heap.size w (w1.setCell ⟨w.heap.size, 0, none⟩ (.int .i64 c)) := hb1.setCell (Nat.le_refl _) _
    simp [Leaves, settle, results, Try.results55, go_sem, q0, faceV, hfin]
  | ok z =>
    obtain ⟨n, l⟩ := z
    have R1 : Calls Try.prog 56 #[.pointer (some ⟨w.heap.size + 1, 0, none⟩), .pointer (some ⟨k, 0, none⟩)] W1 fun e w1 => e = .returned (.string n) ∧ Past (w.heap.size + 1) W1 w1 ∧ Dr w1 (w.heap.size + 1) s ((s.size - l.length : Nat) : Int) 0 := R.mono fun e w1 h => by
      obtain ⟨hp, hx, a', ha', hl, hr⟩ := h
      refine ⟨hx, hp, ?_⟩
      rw [hl, left_at ha']; exact hr
    have e : faceV s (fun t : ByteArray => .string t) (.string ⟨#[]⟩) (.ok (n, l)) = .tuple #[.string n, .int .i64 ((s.size - l.length : Nat) : Int), .int .i64 0] := rfl
    rw [e]
    clear e
    have HR := Lib.hid R1
    have HW := Lib.hid hW1
    generalize s.size - l.length = nx at *
    clear R R1 hW1
    go_enter_defers Try.func55, Try.ntmps55
    rw [HW.out] at HR
    go_wp2_with (go_at_call 56; refine HR.out.mono ?_; rintro e w1 ⟨rfl, hp1, hr1⟩; rw [← HW.out] at hp1)
    obtain ⟨q0, q1⟩ := face_cell HE.out HL.out hp1
    obtain ⟨d0, d1, d2, df⟩ := hr1.cells
    have hb1 := Lib.hid (face_below HB.out HL.out hp1)
    clear hp1 hr1 d0 d2
    go_region
    go_wp2_with fail
    obtain ⟨w2, hw2⟩ : ∃ w2, w2 = (w1.setCell ⟨w.heap.size, 0, none⟩ (.int .i64 0)).drew := ⟨_, rfl⟩
    have hb2 : Below w.heap.size w w2 := by rw [hw2]; exact (hb1.out.setCell (Nat.le_refl _) _).drew
    have q2 : w2.cell? ⟨w.heap.size, 0, none⟩ = some (.int .i64 0) := by
      rw [hw2, World.cell?_drew]; exact World.cell?_setCell_same _ _ _ q0
    rw [← hw2]
    clear hw2 q0 q1
    refine leaves_cons (f := 87) (args := #[.pointer (some ⟨w.heap.size, 0, none⟩)]) (by simp) (by simp [go_sem]) ?_
    refine (catchS_idle ⟨w.heap.size, 0, none⟩ _).mono ?_
    rintro e u' w3 ⟨rfl, rfl, rfl⟩
    simp [Leaves, settle, results, Try.results55, go_sem, q2, hb2]
/-- What ReadStr answers. -/
def rdS (s : ByteArray) (a most : Int) : Value := if a < 0 ∨ (s.size : Int) < a then .tuple #[.string ⟨#[]⟩, .int .i64 0, .int .i64 3] else faceV s (fun t : ByteArray => .string t) (.string ⟨#[]⟩) (sP most (left s a.toNat))
theorem face_str (s : ByteArray) (r : Except Nat (ByteArray × List UInt8)) : ∃ x y z, faceV s (fun t : ByteArray => .string t) (.string ⟨#[]⟩) r = .tuple #[.string x, .int .i64 y, .int .i64 z] := by
  cases r with
  | error c => exact ⟨_, _, _, rfl⟩
  | ok z => obtain ⟨n, l⟩ := z; exact ⟨_, _, _, rfl⟩
theorem ReadStr_f {s : ByteArray} {a most : Int} {w : World} (hs : s.size ≤ 1000000000) (hm : -9223372036854775808 ≤ most ∧ most ≤ 9223372036854775807) :
    Calls Try.prog 26 #[.string s, .int .i64 a, .int .i64 most] w fun e w' => e = .returned (rdS s a most) ∧ Below w.heap.size w w' := by
  have hW : Below w.heap.size w (w.alloc (.cells #[.int .i64 most] 3)) := (Below.refl _ _).alloc (Nat.le_refl _) _
  have HW := Lib.hid hW
  have MF := makeFunc_run
  by_cases h : a < 0 ∨ (s.size : Int) < a
  · have F := readS_range (f := .func (.func 56) #[] #[.pointer (some ⟨w.heap.size, 0, none⟩)]) (w := w.alloc (.cells #[.int .i64 most] 3)) h
    unfold rdS
    rw [if_pos h]
    have HF := Lib.hid F
    clear h hW hm F
    go_enter Try.func26, Try.ntmps26
    go_wp2_with (go_at_call 55; refine HF.out.mono ?_; rintro e w1 ⟨rfl, hb1⟩)
    go_ret3
    exact ⟨rfl, HW.out.trans (hb1.mono HW.out.size)⟩
  · have F := readS_ok (a := a.toNat) (most := most) (k := w.heap.size) (w := w.alloc (.cells #[.int .i64 most] 3)) (show a.toNat ≤ s.size by omega) hs hm (by simp) (by have h := heap_alloc_new w (.cells #[.int .i64 most] 3); unfold World.cell?; rw [h]; rfl)
    have e : ((a.toNat : Nat) : Int) = a := by omega
    rw [e] at F
    unfold rdS
    rw [if_neg h]
    obtain ⟨x, y, z, hv⟩ := face_str s (sP most (left s a.toNat))
    rw [hv] at F ⊢
    have HF := Lib.hid F
    clear h e hv hW hm F
    go_enter Try.func26, Try.ntmps26
    go_wp2_with (go_at_call 55; refine HF.out.mono ?_; rintro e w1 ⟨rfl, hb1⟩)
    go_ret3
    exact ⟨rfl, HW.out.trans (hb1.mono HW.out.size)⟩
end Go.Proofs.Yteclpehbpicpaaa
namespace Go.Proofs.Yteclpehbpicpaaa
open Go.RowKit

theorem Begin_any {s : ByteArray} {i : Int} (w : World) :
    Calls Try.prog 27 #[.string s, .int .i64 i] w fun x w' => x = .returned (.pointer (some ⟨w.heap.size, 0, none⟩)) ∧ Rdr w' w.heap.size s i (if i < 0 ∨ (s.size : Int) < i then 3 else 0) 0 ∧ Below w.heap.size w w' := by
  by_cases h1 : i < 0
  · rw [if_pos (.inl h1)]
    go_enter Try.func27, Try.ntmps27
    go_wp2_with fail
    go_ret
    exact ⟨rfl, heap_alloc_new w _, (Below.refl _ _).alloc (Nat.le_refl _) _⟩
  · by_cases h2 : (s.size : Int) < i
    · rw [if_pos (.inr h2)]
      go_enter Try.func27, Try.ntmps27
      go_wp2_with fail
      go_ret
      exact ⟨rfl, heap_alloc_new w _, (Below.refl _ _).alloc (Nat.le_refl _) _⟩
    · rw [if_neg (by omega)]
      go_enter Try.func27, Try.ntmps27
      go_wp2_with fail
      go_ret
      exact ⟨rfl, heap_alloc_new w _, (Below.refl _ _).alloc (Nat.le_refl _) _⟩
end Go.Proofs.Yteclpehbpicpaaa
