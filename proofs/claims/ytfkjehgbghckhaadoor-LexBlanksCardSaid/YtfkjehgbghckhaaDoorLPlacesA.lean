/-
  The law LexPlaces' walk: tokens lie one behind the other, none empty; between them there are blanks alone.
-/
import Derived.Test.YtfkjehgbghckhaaDoorLNextA
namespace Go.Proofs.YtfkjehgbghckhaaDoor
open Go.RowKit

/-- Tokens behind one another, from a place on. -/
def PC (s : ByteArray) : Nat → List (Nat × Tk) → Prop
  | _, [] => True
  | i, (b, t) :: ts => i ≤ b ∧ 1 ≤ t.len ∧ b ≤ s.size ∧ (∀ j, i ≤ j → (h : j < b) → ∃ (hj : j < s.size), blkB s[j] = true) ∧ PC s (b + t.len) ts
def endT : Tk := ⟨0, 1, 0, 0, []⟩
theorem blk_all {s : ByteArray} {i b : Nat} (hb : b = i + blkN (left s i)) (hs : b ≤ s.size) : ∀ j, i ≤ j → (h : j < b) → ∃ (hj : j < s.size), blkB s[j] = true := fun j h1 h2 => by
  have hj : j < s.size := by omega
  refine ⟨hj, ?_⟩
  obtain ⟨r, hr⟩ : ∃ r, (left s i).takeWhile blkB ++ r = left s i := List.takeWhile_prefix blkB
  have hlen : j - i < ((left s i).takeWhile blkB).length := by unfold blkN at hb; omega
  have h3 : (left s i)[j - i]? = some s[j] := by
    rw [left_at, show i + (j - i) = j by omega]; exact byte_some hj
  rw [← hr, List.getElem?_append_left hlen] at h3
  have h4 := List.all_takeWhile (l := left s i) (p := blkB)
  rw [List.all_eq_true] at h4
  exact h4 _ (List.mem_of_getElem? h3)
theorem Lx.places {s : ByteArray} {i : Nat} {ts : List (Nat × Tk)} {o : Option (Nat × Int)} (h : Lx s i ts o) : o = none → PC s i (ts ++ [(s.size, endT)]) := by
  induction h with
  | range h => intro e; cases e
  | @stop i b t h hk =>
    intro _
    obtain ⟨h1, h2, h3, h4, h5, h6⟩ := nextN_tok h
    have h7 := (headT_len h4).2.1 hk
    have h8 : b = s.size := by
      have := left_len s b
      rw [h7] at this
      have h0 : ([] : List UInt8).length = 0 := rfl
      omega
    subst h8
    exact ⟨by omega, Nat.le_refl _, Nat.le_refl _, blk_all h3 (Nat.le_refl _), trivial⟩
  | bad h => intro e; cases e
  | @next i b t ts o h hk r ih =>
    intro e
    obtain ⟨h1, h2, h3, h4, h5, h6⟩ := nextN_tok h
    have h7 := (headT_len h4).2.2.1 hk
    exact ⟨by omega, h7, h5, blk_all h3 h5, ih e⟩
theorem blk_four {c : UInt8} (h : blkB c = true) : c.toNat = 32 ∨ c.toNat = 9 ∨ c.toNat = 10 ∨ c.toNat = 13 := by
  unfold blkB at h
  simp only [Bool.or_eq_true, decide_eq_true_eq] at h
  omega
theorem Lx.len {s : ByteArray} {i : Nat} {ts : List (Nat × Tk)} {o : Option (Nat × Int)} (h : Lx s i ts o) : ts.length ≤ s.size - i := by
  induction h with
  | range h => exact Nat.zero_le _
  | stop _ _ => exact Nat.zero_le _
  | bad _ => exact Nat.zero_le _
  | @next i b t ts o h hk r ih =>
    obtain ⟨h1, h2, h3, h4, h5, h6⟩ := nextN_tok h
    have h7 := (headT_len h4).2.2.1 hk
    rw [List.length_cons]
    omega
theorem six_one (a b c d : Int) (f : Nat) (s : ByteArray) : ∀ u ∈ [Value.int .i64 a, .int .i64 b, .int .i64 c, .int .i64 d, .float .f64 f, .string s], u.oneCell' = true := by
  simp [Value.oneCell']
theorem toks_end (s : ByteArray) (ts : List (Nat × Tk)) : toksV (ts ++ [(s.size, endT)]) = toksV ts ++ [.int .i64 0, .int .i64 s.size, .int .i64 ((s.size : Int) + 1), .int .i64 0, .float .f64 0, .string ⟨#[]⟩] := by
  rw [toksV_append]; rfl
namespace lexPlaces
theorem walk_big {s : ByteArray} (h : 2000 < s.size) {w : World} (ht : Tabs w) : Calls Tryd.prog 5 #[.string s] w (Yes w) := by
  have A := awake_any ht
  have A2 := fun (W : World) (hT : Tabs W) => awake_any hT
  have t1 : (2000 : Int) < (s.size : Int) := by omega
  clear h
  go_enter Tryd.func5, Tryd.ntmps5
  go_wp2_with (go_at_call 6; refine A.mono ?_; rintro e w1 ⟨rfl, hb1⟩; refine Hid.out ?_)
  refine Lib.hid ?_
  have ht1 := ht.below hb1
  go_wp2_with (go_at_call 6; refine (A2 _ ht1).mono ?_; rintro e w2 ⟨rfl, hb2⟩)
  go_ret
  exact ⟨rfl, hb1.trans (hb2.mono hb1.size)⟩
set_option maxRecDepth 20000 in
set_option maxHeartbeats 4000000 in
theorem walk_all {s : ByteArray} (h : ¬ 2000 < s.size) {w : World} (ht : Tabs w) : Calls Tryd.prog 5 #[.string s] w (Yes w) := by
  have A := awake_any ht
  have L := fun (W : World) (hT : Tabs W) => LAll_any (s := s) (by omega) hT
  have t1 : ¬ (2000 : Int) < (s.size : Int) := by omega
  have SF := float_store
  obtain ⟨i9, hi9, hy0, hy1, hy2⟩ := info_parts info25z
  have hs2 : s.size ≤ 2000 := by omega
  clear h
  go_enter Tryd.func5, Tryd.ntmps5
  go_wp2_with (go_at_call 6; refine A.mono ?_; rintro e w1 ⟨rfl, hb1⟩; refine Hid.out ?_)
  refine Lib.hid ?_
  have ht1 := ht.below hb1
  go_wp2_with (go_at_call 7; refine (L _ ht1).mono ?_; rintro e w2 ⟨ts, o, v, hL, hb2, rfl, hO⟩; refine Hid.out ?_)
  refine Lib.hid ?_
  have hB2 := hb1.trans (hb2.mono hb1.size)
  cases o with
  | some p =>
    obtain ⟨b, y⟩ := p
    have hy := hL.err_ne b y rfl
    have ty : (y == 0) = false := by rw [beq_eq_false_iff_ne]; exact hy
    have ty2 : (y != 0) = true := by rw [bne, ty]; rfl
    have hT := TAt.of_own hO
    obtain ⟨Aa, cap, e, -, -, -⟩ := hT
    have e' : v = .slice Aa 0 cap := e
    subst e'
    have HB := Lib.hid hB2
    have e3 : errO (some (b, y)) = y := rfl
    rw [e3]
    clear hO hL hy hb1 hb2 hB2 L A e3 e
    go_wp2_with fail
    go_ret
    exact ⟨rfl, HB.out⟩
  | none =>
    have hP := Lib.hid (hL.places rfl)
    have hO' : w2.ownsRow w1.heap.size 30 6 v ts.length (toksV ts) := hO
    have e3 : errO none = 0 := rfl
    rw [e3]
    have hlen : ts.length ≤ 3000 := by have := hL.len; omega
    clear hO hL e3
    go_wp2_with (at_builtin; refine wpList_append_own _ rfl _ _ 24 rfl w1.heap.size 30 i9 (.agg zeroT) 6 56 Tryd.underlying24 hi9 hy0 hy1 hy2 rfl (by decide) _ ts.length _ rfl (hO'.alloc _) ⟨w2.heap.size, 0, none⟩ 1 1 [.int .i64 0, .int .i64 s.size, .int .i64 ((s.size : Int) + 1), .int .i64 0, .float .f64 0, .string ⟨#[]⟩] rfl rfl (new6 w2 _ _ _ _ _ _) (six_one _ _ _ _ _ _) (by unfold maxLen; omega) (by omega) (by simp; have := hb2.size; omega) ?_; intro v3 w3 hown3 hgrow3 _; refine Hid.out ?_)
    refine Lib.hid ?_
    rw [← toks_end] at hown3
    obtain ⟨us, hus⟩ : ∃ us, ts ++ [(s.size, endT)] = us := ⟨_, rfl⟩
    have hul : us.length = ts.length + 1 := by rw [← hus]; simp
    rw [hus, ← hul] at hown3
    have hP' := hP.out
    rw [hus] at hP'
    have hT := TAt.of_own hown3
    have hB3 : Below w.heap.size w w3 := by
      have g1 := hB2.alloc hB2.size (.cells #[.int .i64 0, .int .i64 s.size, .int .i64 ((s.size : Int) + 1), .int .i64 0, .float .f64 0, .string ⟨#[]⟩] 30)
      exact g1.grown hgrow3 (by simp; have := hB2.size; omega) (fun k e => Nat.le_trans hb1.size (hO'.lt k e).1)
    have HUL := Lib.hid hul
    obtain ⟨Aa, cap, rfl, hc1, hc2, hx⟩ := hT
    have HX := Lib.hid hx
    have HB3 := Lib.hid hB3
    have HP := Lib.hid hP'
    have hmx : us.length ≤ 9223372036854775807 := by unfold maxLen at hc2; omega
    clear hown3 hgrow3 hO' hx hP' hP hus hB2 hB3 hul hc1 hc2 hb1 hb2 hlen A L
    go_wp2_with fail
    go_loopw [6, 39] (fun av jv wr => ∃ j at_ : Nat, j ≤ us.length ∧ av = .int .i64 at_ ∧ jv = .int .i64 j ∧ Hid (PC s at_ (us.drop j)) ∧ Below w3.heap.size w3 wr) (fun _ jv _ => us.length - (intOf jv).toNat)
    case atStart => exact ⟨0, 0, Nat.zero_le _, rfl, rfl, HP, Below.refl _ _⟩
    case round =>
      obtain ⟨j, at_, hj, rfl, rfl, hF, hb⟩ := hrel
      by_cases hlt : j < us.length
      · obtain ⟨g, rfl, hg, hx⟩ := HX.out (by omega)
        obtain ⟨c0, c1, c2, c3, c4, c5⟩ := (hx j hlt).keep hb hg
        have hF' := hF.out
        rw [List.drop_eq_getElem_cons hlt] at hF'
        obtain ⟨p, hp⟩ : ∃ p, us[j] = p := ⟨_, rfl⟩
        rw [hp] at c0 c1 c2 c3 c4 c5 hF'
        obtain ⟨b, t⟩ := p
        obtain ⟨q1, q2, q3, q4, q5⟩ := hF'
        dsimp only at c0 c1 c2 c3 c4 c5
        obtain ⟨nx, hnx⟩ : ∃ nx, b + t.len = nx := ⟨_, rfl⟩
        rw [hnx] at c2 q5
        have hnb : ¬ nx ≤ b := by omega
        generalize (t.k : Int) = kk at *
        generalize (t.n : Int) = nn at *
        generalize t.f = ff at *
        generalize strL t.s = ss at *
        have HF := Lib.hid q5
        have HQ := Lib.hid q4
        have HB := Lib.hid hb
        clear hF hx hp hb q5 q4 hnx q2
        go_wp2_with fail
        go_loopw [9] (fun iv wq => ∃ i : Nat, at_ ≤ i ∧ i ≤ b ∧ iv = .int .i64 i ∧ wq = wr.alloc (.cells #[.int .i64 kk, .int .i64 b, .int .i64 nx, .int .i64 nn, .float .f64 ff, .string ss] 30)) (fun iv _ => b - (intOf iv).toNat)
        case atStart => exact ⟨at_, Nat.le_refl _, q1, rfl, rfl⟩
        case round =>
          obtain ⟨i, hai, hib, rfl, rfl⟩ := hrel
          by_cases hlt2 : i < b
          · obtain ⟨hj2, hblk⟩ := HQ.out i hai hlt2
            obtain ⟨c, hc⟩ : ∃ c, s[i] = c := ⟨_, rfl⟩
            rw [hc] at hblk
            rcases blk_four hblk with hb4 | hb4 | hb4 | hb4
            · clear hblk
              have e32 : ((c.toNat : Int) == 32) = true := by rw [hb4]; rfl
              have f32 : ((c.toNat : Int) != 32) = false := by rw [bne, e32]; rfl
              clear hb4
              go_wp2_with fail
              go_roundw
              case rel => exact ⟨i + 1, by omega, by omega, by go_num, trivial⟩
              case measure => simp [intOf]; omega
            · clear hblk
              have e32 : ((c.toNat : Int) == 32) = false := by rw [hb4]; rfl
              have f32 : ((c.toNat : Int) != 32) = true := by rw [bne, e32]; rfl
              have e9 : ((c.toNat : Int) == 9) = true := by rw [hb4]; rfl
              have f9 : ((c.toNat : Int) != 9) = false := by rw [bne, e9]; rfl
              clear hb4
              go_wp2_with fail
              go_roundw
              case rel => exact ⟨i + 1, by omega, by omega, by go_num, trivial⟩
              case measure => simp [intOf]; omega
            · clear hblk
              have e32 : ((c.toNat : Int) == 32) = false := by rw [hb4]; rfl
              have f32 : ((c.toNat : Int) != 32) = true := by rw [bne, e32]; rfl
              have e9 : ((c.toNat : Int) == 9) = false := by rw [hb4]; rfl
              have f9 : ((c.toNat : Int) != 9) = true := by rw [bne, e9]; rfl
              have e10 : ((c.toNat : Int) == 10) = true := by rw [hb4]; rfl
              have f10 : ((c.toNat : Int) != 10) = false := by rw [bne, e10]; rfl
              clear hb4
              go_wp2_with fail
              go_roundw
              case rel => exact ⟨i + 1, by omega, by omega, by go_num, trivial⟩
              case measure => simp [intOf]; omega
            · clear hblk
              have e32 : ((c.toNat : Int) == 32) = false := by rw [hb4]; rfl
              have f32 : ((c.toNat : Int) != 32) = true := by rw [bne, e32]; rfl
              have e9 : ((c.toNat : Int) == 9) = false := by rw [hb4]; rfl
              have f9 : ((c.toNat : Int) != 9) = true := by rw [bne, e9]; rfl
              have e10 : ((c.toNat : Int) == 10) = false := by rw [hb4]; rfl
              have f10 : ((c.toNat : Int) != 10) = true := by rw [bne, e10]; rfl
              have e13 : ((c.toNat : Int) == 13) = true := by rw [hb4]; rfl
              have f13 : ((c.toNat : Int) != 13) = false := by rw [bne, e13]; rfl
              clear hb4
              go_wp2_with fail
              go_roundw
              case rel => exact ⟨i + 1, by omega, by omega, by go_num, trivial⟩
              case measure => simp [intOf]; omega
          · go_wp2_with fail
            go_roundw
            case rel => exact ⟨j + 1, nx, by omega, rfl, by go_num, HF, HB.out.alloc HB.out.size _⟩
            case measure => simp [intOf]; omega
      · have HB := Lib.hid hb
        clear hF hb
        go_wp2_with fail
        go_ret
        exact ⟨rfl, HB3.out.trans (HB.out.mono HB3.out.size)⟩
theorem walk (s : ByteArray) {w : World} (ht : Tabs w) : Calls Tryd.prog 5 #[.string s] w (Yes w) := by
  by_cases h : 2000 < s.size
  · exact walk_big h ht
  · exact walk_all h ht
end lexPlaces
end Go.Proofs.YtfkjehgbghckhaaDoor
