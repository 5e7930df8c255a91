/-
  The document's All.
-/
import Derived.Test.YtcmohggnehkjeaaGreatUk
import Derived.Deep.AppendLies
namespace Go.Proofs.YtcmohggnehkjeaaGreat
open Go.RowKit

theorem info25z : (Tryz.prog.info? 174).map (fun i => (i.zero, i.size, i.bytes)) = some (some (.agg zeroT), 6, 56) := by kernel_rfl
/-- The cells of a list of tokens. -/
def toksV : List (Nat × Tk) → List Value
  | [] => []
  | (b, t) :: ts => (tkV b t).toList ++ toksV ts
theorem toksV_append : ∀ (a b : List (Nat × Tk)), toksV (a ++ b) = toksV a ++ toksV b
  | [], _ => rfl
  | (i, t) :: a, b => by
    show (tkV i t).toList ++ toksV (a ++ b) = (tkV i t).toList ++ toksV a ++ toksV b
    rw [toksV_append a b, List.append_assoc]
theorem toksV_len : ∀ (a : List (Nat × Tk)), (toksV a).length = a.length * 6
  | [] => rfl
  | (i, t) :: a => by
    show ((tkV i t).toList ++ toksV a).length = _
    rw [List.length_append, toksV_len a, List.length_cons]
    show 6 + _ = _
    omega
/-- What All answers. -/
def AllEnds (s : ByteArray) (w : World) (e : Ending) (w' : World) : Prop :=
  ∃ ts o, Lx s 0 ts o ∧ Below w.heap.size w w' ∧ match o with
    | none => ∃ v, e = .returned (.tuple #[v, .int .i64 0, .int .i64 0]) ∧ w'.ownsRow w.heap.size 174 6 v ts.length (toksV ts)
    | some (b, y) => e = .returned (.tuple #[.slice none 0 0, .int .i64 (b : Nat), .int .i64 y])
theorem owns_below {w w' : World} {base : Nat} {e : TypeId} {size : Nat} {v : Value} {n : Nat} {xs : List Value} (h : w.ownsRow base e size v n xs) (hb : Below w.heap.size w w') : w'.ownsRow base e size v n xs := by
  have h0 := h
  obtain ⟨h1, h2⟩ := h
  refine ⟨h1, ?_⟩
  rcases h2 with h2 | ⟨k, cap, cur, hv, hbk, hh, r⟩
  · exact .inl h2
  · exact .inr ⟨k, cap, cur, hv, hbk, by rw [hb.block k (by subst hv; exact (h0.lt k rfl).2)]; exact hh, r⟩
theorem new6 (w : World) (a0 a1 a2 a3 a4 a5 : Value) : ∀ (j : Nat) u, [a0, a1, a2, a3, a4, a5][j]? = some u → (w.alloc (.cells #[a0, a1, a2, a3, a4, a5] 174)).cell? ((⟨w.heap.size, 0, none⟩ : Addr).add j) = some u := fun j u hj => by
  rw [Addr.add_lit, Nat.zero_add, World.cell?_alloc_new, ← hj]
  simp
set_option maxRecDepth 20000 in
set_option maxHeartbeats 4000000 in
theorem Allr_any {s : ByteArray} (hs : s.size ≤ 1000000000) (w : World) : Calls Tryz.prog 104 #[.string s] w fun e w' => AllEnds s w e w' := by
  have NX := fun (i : Nat) W => Nextr_any (s := s) (a := i) W
  obtain ⟨i9, hi9, hy0, hy1, hy2⟩ := info_parts info25z
  have SF := float_store
  go_enter Tryz.func104, Tryz.ntmps104
  go_wp2_with fail
  go_loopw [5, 6] (fun v iv wr => ∃ (N : List (Nat × Tk)) (i : Nat), i ≤ s.size ∧ N.length ≤ i ∧ iv = .int .i64 i ∧ wr.ownsRow w.heap.size 174 6 v N.length (toksV N) ∧ Below w.heap.size w wr ∧ Hid (∀ ts o, Lx s i ts o → Lx s 0 (N ++ ts) o)) (fun _ iv _ => s.size - (intOf iv).toNat)
  case atStart => exact ⟨[], 0, Nat.zero_le _, Nat.le_refl _, rfl, World.ownsRow_nil _ _ _ _, Below.refl _ _, Lib.hid (fun ts o h => h)⟩
  case round =>
    obtain ⟨N, i, hi, hN, rfl, hO, hb, hF⟩ := hrel
    have C := NX i
    have HB := Lib.hid hb
    have hbs := hb.size
    cases hn : nextN s i with
    | range =>
      rw [hn] at C
      unfold refV zeroT ktokV at C
      dsimp only at C
      have HFr := Lib.hid (hF.out [] _ (.range hn))
      clear hF hn hO hb
      go_wp2_with (go_at_call 141; refine (C _).mono ?_; rintro e w1 ⟨rfl, hb1⟩)
      go_ret3
      refine ⟨N ++ [], some (0, 3), HFr.out, ?_, rfl⟩
      exact (HB.out.trans (hb1.mono hbs)).alloc (Nat.le_trans hbs hb1.size) _
    | err b y =>
      rw [hn] at C
      unfold refV zeroT ktokV at C
      dsimp only at C
      have HFr := Lib.hid (hF.out [] _ (.bad hn))
      have hy : y ≠ 0 := by
        unfold nextN at hn
        split at hn
        · cases hn
        · cases hT : headT (left s ((i : Int).toNat + blkN (left s (i : Int).toNat))) with
          | ok t => rw [hT] at hn; cases hn
          | err e => rw [hT] at hn; injection hn with _ h2; rw [← h2]; exact headT_err hT
      have ty : (y == 0) = false := by rw [beq_eq_false_iff_ne]; exact hy
      have ty2 : (y != 0) = true := by rw [bne, ty]; rfl
      clear hF hn hO hb hy
      go_wp2_with (go_at_call 141; refine (C _).mono ?_; rintro e w1 ⟨rfl, hb1⟩)
      go_ret3
      refine ⟨N ++ [], some (b, y), HFr.out, ?_, rfl⟩
      exact (HB.out.trans (hb1.mono hbs)).alloc (Nat.le_trans hbs hb1.size) _
    | tok b t =>
      rw [hn] at C
      obtain ⟨n1, n2, n3, n4, n5, n6⟩ := nextN_tok hn
      obtain ⟨l1, l2, l3, l4, l5⟩ := headT_len n4
      unfold refV tkV ktokV at C
      dsimp only at C
      have HO := Lib.hid hO
      by_cases hk : t.k = 1
      · have HFr := Lib.hid (hF.out [] _ (.stop hn hk))
        rw [hk] at C
        generalize ((b + t.len : Nat) : Int) = nx at C
        generalize strL t.s = ss at C
        generalize t.f = ff at C
        generalize (t.n : Int) = nn at C
        clear hF hn hO hb l1 l2 l3 l4 l5 n1 n3 n4 n6
        go_wp2_with (go_at_call 141; refine (C _).mono ?_; rintro e w1 ⟨rfl, hb1⟩)
        go_ret3
        refine ⟨N ++ [], none, HFr.out, ?_, _, rfl, ?_⟩
        · exact (HB.out.trans (hb1.mono hbs)).alloc (Nat.le_trans hbs hb1.size) _
        · rw [List.append_nil]
          exact (owns_below HO.out hb1).alloc _
      · have hF' := Lib.hid fun ts o (h : Lx s (b + t.len) ts o) => hF.out ((b, t) :: ts) o (.next hn hk h)
        have l3' := l3 hk
        have tk : ((t.k : Int) == 1) = false := by rw [beq_eq_false_iff_ne]; omega
        obtain ⟨nx, hnx⟩ : ∃ nx, b + t.len = nx := ⟨_, rfl⟩
        obtain ⟨ss, hss⟩ : ∃ ss, strL t.s = ss := ⟨_, rfl⟩
        rw [hnx, hss] at C
        have HT := Lib.hid (show (tkV b t).toList = [.int .i64 t.k, .int .i64 b, .int .i64 nx, .int .i64 t.n, .float .f64 t.f, .string ss] by rw [← hnx, ← hss]; rfl)
        have hnx1 : i < nx := by omega
        have hnx2 : nx ≤ s.size := by omega
        rw [hnx] at hF'
        clear hF hn hO hb l1 l2 l3 l4 l5 n1 n3 n4 n6 hk l3' hnx hss
        go_wp2_with (first
          | (go_at_call 141; refine (C _).mono ?_; rintro e w1 ⟨rfl, hb1⟩; have HB1 := Lib.hid (HB.out.trans (hb1.mono hbs)); have hO1 := owns_below HO.out hb1; have hs1 := hb1.size; clear hb1)
          | (at_builtin; refine wpList_append_own _ rfl _ _ 139 rfl w.heap.size 174 i9 (.agg zeroT) 6 56 Tryz.underlying139 hi9 hy0 hy1 hy2 rfl (by decide) _ N.length _ rfl ((hO1.alloc _).alloc _) ⟨w1.heap.size + 1, 0, none⟩ 1 1 [.int .i64 t.k, .int .i64 b, .int .i64 nx, .int .i64 t.n, .float .f64 t.f, .string ss] rfl rfl (by have h6 := new6 (w1.alloc (.cells #[.int .i64 t.k, .int .i64 b, .int .i64 nx, .int .i64 t.n, .float .f64 t.f, .string ss] 174)) (.int .i64 t.k) (.int .i64 b) (.int .i64 nx) (.int .i64 t.n) (.float .f64 t.f) (.string ss); simpa using h6) (by intro u hu; simp at hu; rcases hu with h | h | h | h | h | h <;> subst h <;> rfl) (by unfold maxLen; omega) (by omega) (by simp; omega) ?_; intro v2 w2 hown2 hgrow2 _; refine Hid.out ?_))
        refine Lib.hid ?_
        have hbox : w2.cell? ⟨w1.heap.size, 2, none⟩ = some (.int .i64 nx) := by
          have h0 := heap_alloc_new w1 (.cells #[.int .i64 t.k, .int .i64 b, .int .i64 nx, .int .i64 t.n, .float .f64 t.f, .string ss] 174)
          have h1 := (Below.heap_alloc (w1.alloc (.cells #[.int .i64 t.k, .int .i64 b, .int .i64 nx, .int .i64 t.n, .float .f64 t.f, .string ss] 174)) (.cells #[.int .i64 t.k, .int .i64 b, .int .i64 nx, .int .i64 t.n, .float .f64 t.f, .string ss] 174) w1.heap.size (by simp)).trans h0
          have h2 := (hgrow2.block w1.heap.size (by simp; omega) (fun e => by have := (hO1.lt w1.heap.size e.symm).2; omega)).trans h1
          exact cell_of_row w2 w1.heap.size 2 _ 174 (0, 0) h2
        have HBX := Lib.hid ((((HB1.out.alloc (by omega) _).alloc (by simp; omega) _).grown hgrow2 (by simp; omega) (fun k e => (HO.out.lt k e).1)))
        have HO2 := Lib.hid hown2
        clear hown2 hgrow2 hO1 C
        go_wp2_with fail
        go_roundw
        case rel =>
          refine ⟨N ++ [(b, t)], nx, by omega, by simp; omega, rfl, ?_, HBX.out, Lib.hid fun ts o h => ?_⟩
          · rw [List.length_append, toksV_append]
            have := HO2.out
            rw [← HT.out] at this
            simpa [toksV] using this
          · have := hF'.out ts o h
            rw [List.append_assoc]
            exact this
        case measure => simp [intOf]; omega
end Go.Proofs.YtcmohggnehkjeaaGreat
