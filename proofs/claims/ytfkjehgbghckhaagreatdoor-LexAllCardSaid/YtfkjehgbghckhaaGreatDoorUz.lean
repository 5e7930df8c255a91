/-
  The landed package's All; plain facts.
-/
import Derived.Test.YtfkjehgbghckhaaGreatDoorZf
import Derived.Deep.RegionLaw
namespace Go.Proofs.YtfkjehgbghckhaaGreatDoor
open Go.RowKit

def whereO : Option (Nat × Int) → Nat
  | none => 0
  | some (b, _) => b
def errO : Option (Nat × Int) → Int
  | none => 0
  | some (_, y) => y
def keepO (ts : List (Nat × Tk)) : Option (Nat × Int) → List (Nat × Tk)
  | none => ts
  | some _ => []
/-- What the landed All answers. -/
def LAllEnds (s : ByteArray) (w : World) (e : Ending) (w' : World) : Prop :=
  ∃ ts o v, Lx s 0 ts o ∧ Below w.heap.size w w' ∧ e = .returned (.tuple #[v, .int .i64 (whereO o), .int .i64 (errO o)]) ∧ w'.ownsRow w.heap.size 25 6 v (keepO ts o).length (toksV (keepO ts o))
theorem Lx.err_ne {s : ByteArray} {i : Nat} {ts : List (Nat × Tk)} {o : Option (Nat × Int)} (h : Lx s i ts o) : ∀ b y, o = some (b, y) → y ≠ 0 := by
  induction h with
  | range h => intro b y e; injection e with e; injection e with _ e; omega
  | stop _ _ => intro b y e; cases e
  | @bad i b' e' hn =>
    intro b y e
    injection e with e
    injection e with _ e
    rw [← e]
    unfold nextN at hn
    split at hn
    · cases hn
    · cases hT : headT (left s ((i : Int).toNat + blkN (left s (i : Int).toNat))) with
      | ok t => rw [hT] at hn; cases hn
      | err e => rw [hT] at hn; injection hn with _ h2; rw [← h2]; exact headT_err hT
  | next _ _ _ ih => exact ih
/-- A float's token is read once more as it was. -/
theorem flo_again {l : List UInt8} {t : Tk} (h : headT l = .ok t) (hk : t.k = 3) : parseV (l.take t.len) = .tuple #[.float .f64 t.f, .int .i64 0] ∧ t.n = 0 ∧ t.s = [] := by
  cases l with
  | nil => injection h with h; subst h; cases hk
  | cons c R =>
    rw [headT_cons] at h
    split at h
    · unfold numT at h
      split at h
      · obtain ⟨_, e2, e3, e4, e5, e6, _⟩ := floT_ok h
        rw [e2, parse_pair, e6, ← e4]
        exact ⟨rfl, e3, e5⟩
      · obtain ⟨rfl, -, -⟩ := intT_ok h
        cases hk
    · split at h
      · unfold nameT at h
        have hp : (c :: R).take ((c :: R).takeWhile namB).length = (c :: R).takeWhile namB := (List.prefix_iff_eq_take.1 (List.takeWhile_prefix namB)).symm
        rcases wrdT_ok h with ⟨h1, rfl⟩ | ⟨_, _, rfl⟩
        · show parseV ((c :: R).take ((c :: R).takeWhile namB).length) = _ ∧ _
          rw [hp]
          have e := parse_pair ((c :: R).takeWhile namB)
          have e0 : errW (parseV ((c :: R).takeWhile namB)) = 0 := by rcases h1 with h1 | h1 <;> rw [h1] <;> rfl
          exact ⟨e.trans (by rw [e0]), rfl, rfl⟩
        · cases hk
      · split at h
        · obtain ⟨m, k, _, _, rfl⟩ := strH_ok h
          cases hk
        · rcases signT_ok h with ⟨_, rfl⟩ | ⟨_, _, rfl⟩ <;> cases hk
theorem nextN_err {s : ByteArray} {a : Int} {b : Nat} {e : Int} (hn : nextN s a = .err b e) : e ≠ 0 := by
  unfold nextN at hn
  split at hn
  · cases hn
  · cases hT : headT (left s (a.toNat + blkN (left s a.toNat))) with
    | ok t => rw [hT] at hn; cases hn
    | err e => rw [hT] at hn; injection hn with _ h2; rw [← h2]; exact headT_err hT
theorem nextN_tokI {s : ByteArray} {a : Int} {b : Nat} {t : Tk} (h : nextN s a = .tok b t) : ∃ i : Nat, a = i := by
  unfold nextN at h
  split at h
  · cases h
  · exact ⟨a.toNat, by omega⟩
theorem Allr_uni {s : ByteArray} (hs : s.size ≤ 1000000000) (w : World) : Calls Tryz.prog 10 #[.string s] w fun e w' => LAllEnds s w e w' := by
  refine (Allr_any hs w).mono ?_
  rintro e w1 ⟨ts, o, hL, hb, hv⟩
  cases o with
  | none =>
    obtain ⟨v, rfl, hO⟩ := hv
    exact ⟨ts, none, v, hL, hb, rfl, hO⟩
  | some p =>
    obtain ⟨b, y⟩ := p
    exact ⟨ts, some (b, y), .slice none 0 0, hL, hb, hv, World.ownsRow_nil _ _ _ _⟩
theorem LAll_far {s : ByteArray} (h : 2000 < s.size) (w : World) : Calls Tryz.prog 9 #[.string s] w fun e w' => LAllEnds s w e w' := by
  go_enter Tryz.func9, Tryz.ntmps9
  go_wp2_with fail
  go_ret3
  exact ⟨[], some (0, 3), .slice none 0 0, .range (by unfold nextN; rw [if_pos (.inr (.inr h))]), Below.refl _ _, rfl, World.ownsRow_nil _ _ _ _⟩
set_option maxRecDepth 20000 in
set_option maxHeartbeats 4000000 in
theorem LAll_in {s : ByteArray} (hs2 : s.size ≤ 2000) {w : World} (ht : Tabs w) : Calls Tryz.prog 9 #[.string s] w fun e w' => LAllEnds s w e w' := by
  have hs : s.size ≤ 100000 := by omega
  obtain ⟨i9, hi9, hy0, hy1, hy2⟩ := info_parts info25z
  have SF := float_store
  go_enter Tryz.func9, Tryz.ntmps9
  go_wp2_with fail
  go_loopw [2, 3] (fun v iv wr => ∃ (N : List (Nat × Tk)) (i : Nat), i ≤ s.size ∧ N.length ≤ i ∧ iv = .int .i64 i ∧ wr.ownsRow w.heap.size 25 6 v N.length (toksV N) ∧ Below w.heap.size w wr ∧ Hid (∀ ts o, Lx s i ts o → Lx s 0 (N ++ ts) o)) (fun _ iv _ => s.size - (intOf iv).toNat)
  case atStart => exact ⟨[], 0, Nat.zero_le _, Nat.le_refl _, by go_num, World.ownsRow_nil _ _ _ _, Below.refl _ _, Lib.hid (fun ts o h => h)⟩
  case round =>
    obtain ⟨N, i, hi, hN, rfl, hO, hb, hF⟩ := hrel
    have SK := fun W => lskip_any hs hi W
    have hbl : blkN (left s i) ≤ (left s i).length := blkN_le _
    rw [left_len] at hbl
    have hnx : nextN s i = nxOf (i + blkN (left s i)) (headT (left s (i + blkN (left s i)))) := by
      unfold nextN
      rw [if_neg (by omega)]; rfl
    obtain ⟨b, hbb⟩ : ∃ b, i + blkN (left s i) = b := ⟨_, rfl⟩
    rw [hbb] at SK hnx
    have hbs2 : b ≤ s.size := by omega
    have hib : i ≤ b := by omega
    have TA := fun (W : World) (hT : Tabs W) => ltat_any hs hbs2 hT
    have HB := Lib.hid hb
    have hbs := hb.size
    have htr := ht.below hb
    clear hbl hbb
    cases hn : headT (left s b) with
    | err y =>
      rw [hn] at TA hnx
      have hnx : nextN s i = .err b y := hnx
      have hy := headT_err hn
      have ty : (y == 0) = false := by rw [beq_eq_false_iff_ne]; exact hy
      have ty2 : (y != 0) = true := by rw [bne, ty]; rfl
      unfold nxOf lanV zeroT tokV at TA
      dsimp only at TA
      have HFr := Lib.hid (hF.out [] _ (.bad hnx))
      clear hF hn hnx hO hb hy
      go_wp2_with (first | (go_at_call 15; refine (SK _).mono ?_; rintro e w1 ⟨rfl, hb1⟩; have ht1 := htr.below hb1) | (go_at_call 14; refine (TA _ ht1).mono ?_; rintro e w4 ⟨rfl, hb4⟩))
      go_ret3
      refine ⟨N ++ [], some (b, y), .slice none 0 0, HFr.out, ?_, rfl, World.ownsRow_nil _ _ _ _⟩
      exact ((HB.out.trans (hb1.mono hbs)).trans (hb4.mono (Nat.le_trans hbs hb1.size))).alloc (Nat.le_trans hbs (Nat.le_trans hb1.size hb4.size)) _
    | ok t =>
      rw [hn] at TA hnx
      have hnx : nextN s i = .tok b t := hnx
      obtain ⟨n1, n2, n3, n4, n5, n6⟩ := nextN_tok hnx
      obtain ⟨l1, l2, l3, l4, l5⟩ := headT_len n4
      unfold nxOf lanV tkV tokV at TA
      dsimp only at TA
      have HO := Lib.hid hO
      by_cases hk : t.k = 1
      · have HFr := Lib.hid (hF.out [] _ (.stop hnx hk))
        rw [hk] at TA
        generalize ((b + t.len : Nat) : Int) = nx at TA
        generalize strL t.s = ss at TA
        generalize t.f = ff at TA
        generalize (t.n : Int) = nn at TA
        clear hF hn hnx hO hb l1 l2 l3 l4 l5 n1 n3 n4 n6
        go_wp2_with (first | (go_at_call 15; refine (SK _).mono ?_; rintro e w1 ⟨rfl, hb1⟩; have ht1 := htr.below hb1) | (go_at_call 14; refine (TA _ ht1).mono ?_; rintro e w4 ⟨rfl, hb4⟩))
        go_ret3
        refine ⟨N ++ [], none, _, HFr.out, ?_, rfl, ?_⟩
        · exact ((HB.out.trans (hb1.mono hbs)).trans (hb4.mono (Nat.le_trans hbs hb1.size))).alloc (Nat.le_trans hbs (Nat.le_trans hb1.size hb4.size)) _
        · show World.ownsRow _ _ _ _ _ (N ++ []).length (toksV (N ++ []))
          rw [List.append_nil]
          exact (owns_below (owns_below HO.out hb1) hb4).alloc _
      · have hF' := Lib.hid fun ts o (h : Lx s (b + t.len) ts o) => hF.out ((b, t) :: ts) o (.next hnx hk h)
        have l3' := l3 hk
        have tk : ((t.k : Int) == 1) = false := by rw [beq_eq_false_iff_ne]; omega
        obtain ⟨nx, hnx2⟩ : ∃ nx, b + t.len = nx := ⟨_, rfl⟩
        obtain ⟨ss, hss⟩ : ∃ ss, strL t.s = ss := ⟨_, rfl⟩
        rw [hnx2, hss] at TA
        have HT := Lib.hid (show (tkV b t).toList = [.int .i64 t.k, .int .i64 b, .int .i64 nx, .int .i64 t.n, .float .f64 t.f, .string ss] by rw [← hnx2, ← hss]; rfl)
        have hx1 : i < nx := by omega
        have hx2 : nx ≤ s.size := by omega
        rw [hnx2] at hF'
        clear hF hn hnx hO hb l1 l2 l3 l4 l5 n1 n3 n4 n6 hk l3' hnx2 hss
        go_wp2_with (first
          | (go_at_call 15; refine (SK _).mono ?_; rintro e w1 ⟨rfl, hb1⟩; have ht1 := htr.below hb1)
          | (go_at_call 14; refine (TA _ ht1).mono ?_; rintro e w4 ⟨rfl, hb4⟩; refine Hid.out ?_))
        refine Lib.hid ?_
        have HB4 := Lib.hid ((HB.out.trans (hb1.mono hbs)).trans (hb4.mono (Nat.le_trans hbs hb1.size)))
        have hO4 := owns_below (owns_below HO.out hb1) hb4
        have hs4 : w.heap.size ≤ w4.heap.size := Nat.le_trans hbs (Nat.le_trans hb1.size hb4.size)
        clear hb1 hb4 ht1 SK TA
        go_wp2_with fail
        obtain ⟨W, hW⟩ : ∃ W, (w4.alloc (.cells #[.int .i64 t.k, .int .i64 b, .int .i64 nx, .int .i64 t.n, .float .f64 t.f, .string ss] 25)) = W := ⟨_, rfl⟩
        have hWb : Below w4.heap.size w4 W := by rw [← hW]; exact (Below.refl _ _).alloc (Nat.le_refl _) _
        have hWs : W.heap.size = w4.heap.size + 1 := by rw [← hW]; simp
        have hWx : Bx W w4.heap.size #[.int .i64 t.k, .int .i64 b, .int .i64 nx, .int .i64 t.n, .float .f64 t.f, .string ss] := by rw [← hW]; exact Bx.new w4 _
        rw [hW]
        clear hW
        have hX1 : Bx W.drew w4.heap.size #[.int .i64 t.k, .int .i64 b, .int .i64 nx, .int .i64 t.n, .float .f64 t.f, .string ss] := hWx
        have hX2 := hX1.alloc (.cells #[.int .i64 t.k, .int .i64 b, .int .i64 nx, .int .i64 t.n, .float .f64 t.f, .string ss] 25)
        have hO5 := owns_below (owns_below hO4 hWb) (((Below.refl _ _).drew).alloc (Nat.le_refl _) (.cells #[.int .i64 t.k, .int .i64 b, .int .i64 nx, .int .i64 t.n, .float .f64 t.f, .string ss] 25))
        have hn5 := new6 W.drew (.int .i64 t.k) (.int .i64 b) (.int .i64 nx) (.int .i64 t.n) (.float .f64 t.f) (.string ss)
        have ho5 : ∀ u ∈ [Value.int .i64 t.k, .int .i64 b, .int .i64 nx, .int .i64 t.n, .float .f64 t.f, .string ss], u.oneCell' = true := by
          intro u hu; simp at hu; rcases hu with h | h | h | h | h | h <;> subst h <;> rfl
        have hm5 : N.length + 1 ≤ maxLen := by unfold maxLen; omega
        have hy5 : (N.length + 1) * 56 ≤ 140737488355328 := by omega
        have hb5 : w.heap.size ≤ (W.drew.alloc (.cells #[.int .i64 t.k, .int .i64 b, .int .i64 nx, .int .i64 t.n, .float .f64 t.f, .string ss] 25)).heap.size := by simp; omega
        have hne : ∀ k, u2.ownBlock = some k → k ≠ w4.heap.size := fun k e => by have := (hO4.lt k e).2; omega
        obtain ⟨c0, c1, c2, c3, c4, c5, cf⟩ := hWx.cells
        obtain ⟨d0, d1, d2, d3, d4, d5, df⟩ := hX1.cells
        obtain ⟨e0, e1, e2, e3, e4, e5, ef⟩ := hX2.cells
        go_region_law (refine step_append_lies _ rfl (.tmp 27) (.tmp 29) 33 rfl w.heap.size 25 i9 (.agg zeroT) 6 56 Tryz.underlying33 hi9 hy0 hy1 hy2 rfl (by decide) u2 N.length _ (by simp [Act.eval]) hO5 ⟨W.heap.size, 0, none⟩ 1 1 [.int .i64 t.k, .int .i64 b, .int .i64 nx, .int .i64 t.n, .float .f64 t.f, .string ss] (by simp [Act.eval]) rfl hn5 ho5 (by decide) hm5 hy5 hb5 _ rfl ?_; intro g5 cap5 w5 hown5 hgrow5 hat5 hlt5; have hX5 := (hgrow5.block w4.heap.size hX2.lt (fun e => hne _ e.symm rfl)).trans hX2; obtain ⟨z0, z1, z2, z3, z4, z5, zf⟩ := Bx.cells hX5)
        all_goals
          have HBX := Lib.hid (((HB4.out.trans (hWb.mono hs4)).trans (((Below.refl _ _).drew).mono (by omega))).alloc (by have := HB4.out.size; show w.heap.size ≤ W.heap.size; omega) (.cells #[.int .i64 t.k, .int .i64 b, .int .i64 nx, .int .i64 t.n, .float .f64 t.f, .string ss] 25))
          have HBY := Lib.hid (HBX.out.grown hgrow5 hb5 (fun k e => (hO4.lt k e).1))
          have HO6 := Lib.hid hown5
          clear hX1 hX2 hO5 hn5 ho5 hm5 hy5 hb5 hne c0 c1 c2 c3 c4 c5 cf d0 d1 d2 d3 d4 d5 df e0 e1 e2 e3 e4 e5 ef z0 z1 z2 z3 z4 z5 zf hX5 hat5 hlt5 hgrow5 hown5 hO4 hWx HBX
          go_simp
          go_wp2_with fail
          go_roundw
          case rel =>
            refine ⟨N ++ [(b, t)], nx, by omega, by simp; omega, rfl, ?_, HBY.out, Lib.hid fun ts o h => ?_⟩
            · rw [List.length_append, toksV_append]
              have := HO6.out
              rw [← HT.out] at this
              simpa [toksV] using this
            · have := hF'.out ts o h
              rw [List.append_assoc]
              exact this
          case measure => simp [intOf]; omega
theorem LAll_any {s : ByteArray} (_hs : s.size ≤ 1000000000) {w : World} (ht : Tabs w) : Calls Tryz.prog 9 #[.string s] w fun e w' => LAllEnds s w e w' := by
  by_cases h : 2000 < s.size
  · exact LAll_far h w
  · exact LAll_in (by omega) ht
end Go.Proofs.YtfkjehgbghckhaaGreatDoor
