/-
  The landed lex's skipBlanks, tokenAt, Next and Word.
-/
import Derived.Test.YtfkjehgbghckhaaGreatDoorZe
namespace Go.Proofs.YtfkjehgbghckhaaGreatDoor
open Go.RowKit

theorem blk_set (c : UInt8) : [(32 : UInt8), 9, 10, 13].contains c = blkB c := by
  rw [Bool.eq_iff_iff]
  unfold blkB
  simp only [List.contains_eq_mem, List.mem_cons, List.not_mem_nil, or_false, decide_eq_true_eq, Bool.or_eq_true]
  rw [u8_eq, u8_eq, u8_eq, u8_eq]
  show (c.toNat = 32 ∨ c.toNat = 9 ∨ c.toNat = 10 ∨ c.toNat = 13) ↔ _
  omega
theorem drop_len : ∀ (l : List UInt8) (p : UInt8 → Bool), (l.dropWhile p).length + (l.takeWhile p).length = l.length
  | [], _ => rfl
  | c :: l, p => by
    have := drop_len l p
    cases h : p c with
    | true => rw [List.dropWhile_cons_of_pos h, List.takeWhile_cons_of_pos h]; simp; omega
    | false => rw [List.dropWhile_cons_of_neg (by rw [h]; exact Bool.false_ne_true), List.takeWhile_cons_of_neg (by rw [h]; exact Bool.false_ne_true)]; simp
theorem trim_len (l : List UInt8) : (Lib.trimLeftS l [32, 9, 10, 13]).length + blkN l = l.length := by
  have e : (fun c : UInt8 => [(32 : UInt8), 9, 10, 13].contains c) = blkB := funext blk_set
  unfold Lib.trimLeftS blkN
  rw [e]
  exact drop_len l blkB
set_option maxHeartbeats 1000000 in
theorem lskip_any {s : ByteArray} {a : Nat} (hs : s.size ≤ 100000) (ha : a ≤ s.size) (w : World) :
    Calls Tryz.prog 15 #[.string s, .int .i64 a] w fun e w' => e = .returned (.int .i64 ((a + blkN (left s a) : Nat) : Int)) ∧ Below w.heap.size w w' := by
  have C := fun W => lib_strings_TrimLeft (s.extract a s.size) ⟨#[32, 9, 10, 13]⟩ W (by decide) (ascii_of_all (by decide))
  rw [rest_list, show (⟨#[32, 9, 10, 13]⟩ : ByteArray).data.toList = [32, 9, 10, 13] from rfl] at C
  have hl := trim_len (left s a)
  rw [left_len] at hl
  obtain ⟨u, hu⟩ : ∃ u : ByteArray, (⟨(Lib.trimLeftS (left s a) [32, 9, 10, 13]).toArray⟩ : ByteArray) = u := ⟨_, rfl⟩
  have hus : u.size = (Lib.trimLeftS (left s a) [32, 9, 10, 13]).length := by rw [← hu]; rfl
  rw [hu] at C
  obtain ⟨v, hv⟩ : ∃ v, s.extract a s.size = v := ⟨_, rfl⟩
  rw [hv] at C
  have hle : u.size ≤ s.size := by omega
  have HE : Hid ((s.size : Int) - (u.size : Int) = ((a + blkN (left s a) : Nat) : Int)) := Lib.hid (by omega)
  clear hl hu hus
  go_enter Tryz.func15, Tryz.ntmps15
  go_wp2_with (go_at_call 25; refine (C _).mono ?_; rintro e w1 ⟨rfl, hb1⟩)
  go_ret
  exact ⟨by rw [← HE.out]; rfl, hb1⟩
def lanV : Nx → Value
  | .range => .tuple #[.agg zeroT, .int .i64 3]
  | .tok b t => .tuple #[.agg (tkV b t), .int .i64 0]
  | .err _ e => .tuple #[.agg zeroT, .int .i64 e]
set_option maxRecDepth 20000 in
set_option maxHeartbeats 2000000 in
theorem ltat_any {s : ByteArray} {b : Nat} (hs : s.size ≤ 100000) (hb : b ≤ s.size) {w : World} (ht : Tabs w) :
    Calls Tryz.prog 14 #[.string s, .int .i64 b] w fun e w' => e = .returned (lanV (nxOf b (headT (left s b)))) ∧ Below w.heap.size w w' := by
  have SF := float_store
  have C0 := fun (W : World) (hT : Tabs W) => ltok_any (s := s.extract b s.size) (by have := rest_size s b; omega) hT
  rw [rest_0] at C0
  obtain ⟨v1, hv1⟩ : ∃ v, s.extract b s.size = v := ⟨_, rfl⟩
  rw [hv1] at C0
  cases hH : headT (left s b) with
  | err y =>
    rw [hH] at C0
    have hy := headT_err hH
    have ty : (y == 0) = false := by rw [beq_eq_false_iff_ne]; exact hy
    have ty2 : (y != 0) = true := by rw [bne, ty]; rfl
    have C : ∀ W, Tabs W → Calls Tryz.prog 24 #[.string v1] W fun e w' => (∃ k i b n f s, e = .returned (.tuple #[.agg #[.int .i64 k, .int .i64 i, .int .i64 b, .int .i64 n, .float .f64 f, .string s], .int .i64 y])) ∧ Below W.heap.size W w' := C0
    unfold nxOf lanV zeroT tokV
    dsimp only
    clear hH hy C0
    go_enter Tryz.func14, Tryz.ntmps14
    go_wp2_with (go_at_call 24; refine (C _ (tabs_box ht _)).mono ?_; rintro e w4 ⟨⟨k, i, b, n, f, v, rfl⟩, hb4⟩; refine Hid.out ?_)
    refine Lib.hid ?_
    have hR := (RB.start w (.int .i64 0) (.int .i64 0) (.int .i64 0) (.int .i64 0) (.float .f64 0) (.string ⟨#[]⟩)).step hb4
    have hX := hR.step ((Below.refl _ _).alloc (Nat.le_refl _) (.cells #[.int .i64 k, .int .i64 i, .int .i64 b, .int .i64 n, .float .f64 f, .string v] 25))
    obtain ⟨a0, a1, a2, a3, a4, a5, c0, c1, c2, c3, c4, c5, cf⟩ := hR.cells
    obtain ⟨b0, b1, b2, b3, b4, b5, d0, d1, d2, d3, d4, d5, df⟩ := hX.cells
    have hne : ¬ w.heap.size = w4.heap.size := by have := hR.lt; omega
    have hR0 := Lib.hid hR
    have HX := Lib.hid hX
    clear hR hX hb4 C
    go_wp2_with fail
    have hG := HX.out.done (.int .i64 0) (.int .i64 0) (.int .i64 0) (.int .i64 0) (.float .f64 0) (.string ⟨#[]⟩)
    first
      | exact bodyPost_ret (results_tokq (p := 4) (q := 5) (y := .int .i64 y) rfl _ _ w.heap.size _ _ _ _ _ _ rfl rfl hG.1) rfl ⟨rfl, hG.2⟩
      | (have hG2 := hR0.out.done (.int .i64 0) (.int .i64 0) (.int .i64 0) (.int .i64 0) (.float .f64 0) (.string ⟨#[]⟩)
         exact bodyPost_ret (results_tokq (p := 4) (q := 5) (y := .int .i64 y) rfl _ _ w.heap.size _ _ _ _ _ _ rfl rfl (hG2.1.alloc _)) rfl ⟨rfl, hG2.2.alloc (by simp [six, World.setCell]; have := hR0.out.lt; omega) _⟩)
  | ok t =>
    rw [hH] at C0
    have hl := (headT_len hH).1
    rw [left_len] at hl
    obtain ⟨q, hq⟩ : ∃ q, b + t.len = q := ⟨_, rfl⟩
    have hqs : q ≤ s.size := by omega
    have C : ∀ W, Tabs W → Calls Tryz.prog 24 #[.string v1] W fun e w' => e = .returned (.tuple #[.agg #[.int .i64 t.k, .int .i64 0, .int .i64 ((0 + t.len : Nat) : Int), .int .i64 t.n, .float .f64 t.f, .string (strL t.s)], .int .i64 0]) ∧ Below W.heap.size W w' := C0
    rw [Nat.zero_add] at C
    unfold nxOf lanV tkV tokV
    dsimp only
    rw [hq]
    obtain ⟨m, hm⟩ : ∃ m, t.len = m := ⟨_, rfl⟩
    rw [hm] at C hq
    generalize strL t.s = ss at C ⊢
    generalize (t.k : Int) = kk at C ⊢
    generalize (t.n : Int) = nn at C ⊢
    generalize t.f = ff at C ⊢
    have e1 : (m : Int) + (b : Int) = (q : Int) := by omega
    have e0 : (0 : Int) + (b : Int) = (b : Int) := by omega
    have hms : m ≤ s.size := by omega
    clear hH hl C0 hm hq
    go_enter Tryz.func14, Tryz.ntmps14
    go_wp2_with (go_at_call 24; refine (C _ (tabs_box ht _)).mono ?_; rintro e w4 ⟨rfl, hb4⟩; refine Hid.out ?_)
    refine Lib.hid ?_
    have hR := (RB.start w (.int .i64 0) (.int .i64 0) (.int .i64 0) (.int .i64 0) (.float .f64 0) (.string ⟨#[]⟩)).step hb4
    have hX := fun (o : Obj) => hR.step ((Below.refl _ _).alloc (Nat.le_refl _) o)
    obtain ⟨b0, b1, b2, b3, b4, b5, d0, d1, d2, d3, d4, d5, df⟩ := (hX (.cells #[.int .i64 kk, .int .i64 b, .int .i64 q, .int .i64 nn, .float .f64 ff, .string ss] 25)).cells
    have hne : ¬ w.heap.size = w4.heap.size := by have := hR.lt; omega
    have HX := Lib.hid hX
    clear hR hX hb4 C
    go_wp2_with fail
    have hG := (HX.out (.cells #[.int .i64 kk, .int .i64 b, .int .i64 q, .int .i64 nn, .float .f64 ff, .string ss] 25)).done (.int .i64 kk) (.int .i64 b) (.int .i64 q) (.int .i64 nn) (.float .f64 ff) (.string ss)
    exact bodyPost_ret (results_tokq (p := 4) (q := 5) (y := .int .i64 0) rfl _ _ w.heap.size _ _ _ _ _ _ rfl rfl hG.1) rfl ⟨rfl, hG.2⟩
theorem lan_form (N : Nx) : ∃ k i b n f s y, lanV N = .tuple #[.agg #[.int .i64 k, .int .i64 i, .int .i64 b, .int .i64 n, .float .f64 f, .string s], .int .i64 y] := by
  cases N <;> exact ⟨_, _, _, _, _, _, _, rfl⟩
set_option maxRecDepth 20000 in
set_option maxHeartbeats 2000000 in
theorem lnext_range {s : ByteArray} {a : Int} (h : a < 0 ∨ (s.size : Int) < a ∨ 2000 < s.size) (w : World) : Calls Tryz.prog 6 #[.string s, .int .i64 a] w fun e w' => e = .returned (lanV .range) ∧ Below w.heap.size w w' := by
  have SF := float_store
  unfold lanV zeroT tokV
  have hG : ∀ v, Bx (w.alloc (.cells v 25)) w.heap.size v ∧ Below w.heap.size w (w.alloc (.cells v 25)) := fun v => ⟨Bx.new w v, (Below.refl _ _).alloc (Nat.le_refl _) _⟩
  by_cases h3 : 2000 < s.size
  · clear h
    go_enter Tryz.func6, Tryz.ntmps6
    go_wp2_with fail
    exact bodyPost_ret (results_tokq (p := 4) (q := 5) (y := .int .i64 3) rfl _ _ w.heap.size _ _ _ _ _ _ rfl rfl (hG _).1) rfl ⟨rfl, (hG _).2⟩
  · by_cases h1 : a < 0
    · clear h
      go_enter Tryz.func6, Tryz.ntmps6
      go_wp2_with fail
      exact bodyPost_ret (results_tokq (p := 4) (q := 5) (y := .int .i64 3) rfl _ _ w.heap.size _ _ _ _ _ _ rfl rfl (hG _).1) rfl ⟨rfl, (hG _).2⟩
    · have h2 : (s.size : Int) < a := by omega
      clear h
      go_enter Tryz.func6, Tryz.ntmps6
      go_wp2_with fail
      exact bodyPost_ret (results_tokq (p := 4) (q := 5) (y := .int .i64 3) rfl _ _ w.heap.size _ _ _ _ _ _ rfl rfl (hG _).1) rfl ⟨rfl, (hG _).2⟩
set_option maxRecDepth 20000 in
set_option maxHeartbeats 2000000 in
theorem lnext_in {s : ByteArray} {a : Nat} (ha : a ≤ s.size) (hs2 : s.size ≤ 2000) {w : World} (ht : Tabs w) : Calls Tryz.prog 6 #[.string s, .int .i64 a] w fun e w' => e = .returned (lanV (nextN s a)) ∧ Below w.heap.size w w' := by
  have SF := float_store
  have hnx : nextN s a = nxOf (a + blkN (left s a)) (headT (left s (a + blkN (left s a)))) := by
    unfold nextN
    rw [if_neg (by omega)]; rfl
  rw [hnx]
  have hbl : blkN (left s a) ≤ (left s a).length := blkN_le _
  rw [left_len] at hbl
  have SK := fun W => lskip_any (show s.size ≤ 100000 by omega) ha W
  have TA := fun (W : World) (hT : Tabs W) => ltat_any (show s.size ≤ 100000 by omega) (show a + blkN (left s a) ≤ s.size by omega) hT
  generalize a + blkN (left s a) = b at SK TA ⊢
  generalize nxOf b (headT (left s b)) = N at TA ⊢
  obtain ⟨k, i, b', n, f, v, y, hN⟩ := lan_form N
  rw [hN] at TA ⊢
  have t1 : ¬ (a : Int) < 0 := by omega
  have t2 : ¬ s.size < a := by omega
  have t3 : ¬ 2000 < s.size := by omega
  clear hnx hbl hN
  go_enter Tryz.func6, Tryz.ntmps6
  go_wp2_with (first | (go_at_call 15; refine (SK _).mono ?_; rintro e w1 ⟨rfl, hb1⟩; have ht1 := (tabs_box ht (.cells #[.int .i64 0, .int .i64 0, .int .i64 0, .int .i64 0, .float .f64 0, .string ⟨#[]⟩] 25)).below hb1) | (go_at_call 14; refine (TA _ ht1).mono ?_; rintro e w4 ⟨rfl, hb4⟩; refine Hid.out ?_))
  refine Lib.hid ?_
  have hR := ((RB.start w (.int .i64 0) (.int .i64 0) (.int .i64 0) (.int .i64 0) (.float .f64 0) (.string ⟨#[]⟩)).step hb1).step hb4
  obtain ⟨a0, a1, a2, a3, a4, a5, d0, d1, d2, d3, d4, d5, df⟩ := hR.cells
  have HR := Lib.hid hR
  clear hR hb1 hb4 SK TA
  go_wp2_with fail
  have hG := HR.out.done (.int .i64 k) (.int .i64 i) (.int .i64 b') (.int .i64 n) (.float .f64 f) (.string v)
  exact bodyPost_ret (results_tokq (p := 4) (q := 5) (y := .int .i64 y) rfl _ _ w.heap.size _ _ _ _ _ _ rfl rfl hG.1) rfl ⟨rfl, hG.2⟩
theorem LNext_any {s : ByteArray} {a : Int} (_hs : s.size ≤ 100000) {w : World} (ht : Tabs w) : Calls Tryz.prog 6 #[.string s, .int .i64 a] w fun e w' => e = .returned (lanV (nextN s a)) ∧ Below w.heap.size w w' := by
  by_cases h : a < 0 ∨ (s.size : Int) < a ∨ 2000 < s.size
  · have hn : nextN s a = .range := by unfold nextN; rw [if_pos h]
    rw [hn]
    exact lnext_range h w
  · obtain ⟨i, rfl⟩ : ∃ i : Nat, a = i := ⟨a.toNat, by omega⟩
    exact lnext_in (by omega) (by omega) ht
set_option maxRecDepth 20000 in
theorem LWord_any (s : ByteArray) (w : World) : Calls Tryz.prog 12 #[.string s] w fun e w' => e = .returned (.bool (wordB s.data.toList)) ∧ Below w.heap.size w w' := by
  obtain ⟨r, hr⟩ : ∃ r, r = wordB s.data.toList := ⟨_, rfl⟩
  rw [← hr]
  have HR := Lib.hid hr
  clear hr
  by_cases h0 : s.toList = [116, 114, 117, 101]
  · have t0 := beq_yes h0
    have HC := Lib.hid (show r = true by rw [HR.out, ← str_is, h0]; decide)
    clear h0
    go_enter Tryz.func12, Tryz.ntmps12
    go_wp2_with fail
    go_ret
    exact ⟨by rw [HC.out]; rfl, Below.refl _ _⟩
  have t0 := beq_no h0
  by_cases h1 : s.toList = [102, 97, 108, 115, 101]
  · have t1 := beq_yes h1
    have HC := Lib.hid (show r = true by rw [HR.out, ← str_is, h1]; decide)
    clear h1 h0
    go_enter Tryz.func12, Tryz.ntmps12
    go_wp2_with fail
    go_ret
    exact ⟨by rw [HC.out]; rfl, Below.refl _ _⟩
  have t1 := beq_no h1
  by_cases h2 : s.toList = [110, 97, 110]
  · have t2 := beq_yes h2
    have HC := Lib.hid (show r = true by rw [HR.out, ← str_is, h2]; decide)
    clear h2 h1 h0
    go_enter Tryz.func12, Tryz.ntmps12
    go_wp2_with fail
    go_ret
    exact ⟨by rw [HC.out]; rfl, Below.refl _ _⟩
  have t2 := beq_no h2
  by_cases h3 : s.toList = [105, 110, 102]
  · have t3 := beq_yes h3
    have HC := Lib.hid (show r = true by rw [HR.out, ← str_is, h3]; decide)
    clear h3 h2 h1 h0
    go_enter Tryz.func12, Tryz.ntmps12
    go_wp2_with fail
    go_ret
    exact ⟨by rw [HC.out]; rfl, Below.refl _ _⟩
  have t3 := beq_no h3
  by_cases h4 : s.toList = [108, 101, 110]
  · have t4 := beq_yes h4
    have HC := Lib.hid (show r = true by rw [HR.out, ← str_is, h4]; decide)
    clear h4 h3 h2 h1 h0
    go_enter Tryz.func12, Tryz.ntmps12
    go_wp2_with fail
    go_ret
    exact ⟨by rw [HC.out]; rfl, Below.refl _ _⟩
  have t4 := beq_no h4
  by_cases h5 : s.toList = [102, 108, 111, 97, 116]
  · have t5 := beq_yes h5
    have HC := Lib.hid (show r = true by rw [HR.out, ← str_is, h5]; decide)
    clear h5 h4 h3 h2 h1 h0
    go_enter Tryz.func12, Tryz.ntmps12
    go_wp2_with fail
    go_ret
    exact ⟨by rw [HC.out]; rfl, Below.refl _ _⟩
  have t5 := beq_no h5
  by_cases h6 : s.toList = [105, 110, 116]
  · have t6 := beq_yes h6
    have HC := Lib.hid (show r = true by rw [HR.out, ← str_is, h6]; decide)
    clear h6 h5 h4 h3 h2 h1 h0
    go_enter Tryz.func12, Tryz.ntmps12
    go_wp2_with fail
    go_ret
    exact ⟨by rw [HC.out]; rfl, Below.refl _ _⟩
  have t6 := beq_no h6
  by_cases h7 : s.toList = [115, 116, 114]
  · have t7 := beq_yes h7
    have HC := Lib.hid (show r = true by rw [HR.out, ← str_is, h7]; decide)
    clear h7 h6 h5 h4 h3 h2 h1 h0
    go_enter Tryz.func12, Tryz.ntmps12
    go_wp2_with fail
    go_ret
    exact ⟨by rw [HC.out]; rfl, Below.refl _ _⟩
  have t7 := beq_no h7
  have HC := Lib.hid (show r = false by
    rw [HR.out, ← str_is]
    unfold wordB wordsL
    rw [decide_eq_false_iff_not]
    simp only [List.mem_cons, List.not_mem_nil, or_false, not_or]
    exact ⟨h0, h1, h2, h3, h4, h5, h6, h7⟩)
  clear h7 h6 h5 h4 h3 h2 h1 h0
  go_enter Tryz.func12, Tryz.ntmps12
  go_wp2_with fail
  go_ret
  exact ⟨by rw [HC.out]; rfl, Below.refl _ _⟩
end Go.Proofs.YtfkjehgbghckhaaGreatDoor
