/-
  Tokens, plainly: no walk.
-/
import Derived.Test.YtcmohggnehkjeaaGreatRefPb
namespace Go.Proofs.YtcmohggnehkjeaaGreat
open Go.RowKit

def blkB (c : UInt8) : Bool := decide (c.toNat = 32) || decide (c.toNat = 9) || decide (c.toNat = 10) || decide (c.toNat = 13)
def letB (c : UInt8) : Bool := decide (97 ≤ c.toNat) && decide (c.toNat ≤ 122)
def namB (c : UInt8) : Bool := letB c || isD c || decide (c.toNat = 95)
/-- A token: its kind, how many bytes it has, and what it holds. -/
structure Tk where
  k : Nat
  len : Nat
  n : Nat
  f : Nat
  s : List UInt8
inductive Hd
  | ok (t : Tk)
  | err (e : Int)
def floW : Value → Nat
  | .tuple a => match (a[0]? : Option Value) with
    | some (Value.float _ b) => b
    | _ => 0
  | _ => 0
def errW : Value → Int
  | .tuple a => match (a[1]? : Option Value) with
    | some (Value.int _ y) => y
    | _ => 0
  | _ => 0
theorem parse_pair (l : List UInt8) : parseV l = .tuple #[.float .f64 (floW (parseV l)), .int .i64 (errW (parseV l))] := by
  have H : ∃ x y, parseV l = .tuple #[.float .f64 x, .int .i64 y] := by
    unfold parseV
    split
    · exact ⟨_, _, rfl⟩
    · unfold sizeV
      split
      · exact ⟨_, _, rfl⟩
      · unfold bodyV
        split
        · obtain ⟨x, y, h⟩ := made_pair (Lib.hasPrefix l [45]) (capN (leftL (Lib.trimPrefix l [45]))) (sgnI (belowB (Lib.trimPrefix l [45])) (capN (bodyL (Lib.trimPrefix l [45]))))
          exact ⟨x, y, h⟩
        · exact ⟨_, _, rfl⟩
  obtain ⟨x, y, h⟩ := H
  rw [h]; rfl
/-- A minus behind the p. -/
def expM (r : List UInt8) : Nat := if r[0]? = some 45 then 1 else 0
/-- How long a float's text is: so many digits ahead of the p, and what is behind it. -/
def floL (d : Nat) (r : List UInt8) : Nat := d + 1 + expM r + (dig (r.drop (expM r))).length
def floT (R r : List UInt8) (d : Nat) : Hd :=
  if (dig (r.drop (expM r))).length = 0 then .err 5
  else if errW (parseV (R.take (floL d r))) = 0 then .ok ⟨3, floL d r, 0, floW (parseV (R.take (floL d r))), []⟩
  else .err (errW (parseV (R.take (floL d r))))
def intT (d : List UInt8) : Hd := if 19 < d.length then .err 3 else if 9223372036854775808 ≤ numN d then .err 3 else .ok ⟨2, d.length, numN d, 0, []⟩
def numT (R : List UInt8) : Hd := if R[(dig R).length]? = some 112 then floT R (R.drop ((dig R).length + 1)) (dig R).length else intT (dig R)
def nanL : List UInt8 := [110, 97, 110]
def infL : List UInt8 := [105, 110, 102]
def wrdT (w : List UInt8) : Hd := if w = nanL ∨ w = infL then .ok ⟨3, w.length, 0, floW (parseV w), []⟩ else if 30 < w.length then .err 3 else .ok ⟨5, w.length, 0, 0, w⟩
def nameT (R : List UInt8) : Hd := wrdT (R.takeWhile namB)
inductive Hs
  | ok (l : List UInt8) (k : Nat)
  | err (e : Int)
def Hs.add (l : List UInt8) (k : Nat) : Hs → Hs
  | .ok m j => .ok (l ++ m) (k + j)
  | .err e => .err e
/-- What stands behind the first mark: the string, and how many bytes up to the other mark. -/
def strR : List UInt8 → Hs
  | [] => .err 14
  | [c] => if c = 34 then .ok [] 1 else .err 14
  | c :: x :: r => if c = 34 then .ok [] 1 else if c = 92 then (if x = 92 ∨ x = 34 then Hs.add [x] 2 (strR r) else .err 5) else Hs.add [c] 1 (strR (x :: r))
def strH : Hs → Hd
  | .ok l k => if 200 < l.length then .err 3 else .ok ⟨4, k + 1, 0, 0, l⟩
  | .err e => .err e
def strT (R : List UInt8) : Hd := strH (strR (R.drop 1))
def twoB (l : List UInt8) : Bool := decide (l = [61, 61]) || decide (l = [60, 61]) || decide (l = [38, 38]) || decide (l = [124, 124])
def onesL : List UInt8 := [40, 41, 91, 93, 123, 125, 44, 58, 46, 63, 43, 45, 42, 47, 37, 33, 60]
def oneT (c : UInt8) : Hd := if c ∈ onesL then .ok ⟨6, 1, 0, 0, [c]⟩ else .err 5
def signT (R : List UInt8) (c : UInt8) : Hd := if twoB (R.take 2) = true then .ok ⟨6, 2, 0, 0, R.take 2⟩ else oneT c
/-- The token that begins a text without a blank ahead. -/
def headT : List UInt8 → Hd
  | [] => .ok ⟨1, 0, 0, 0, []⟩
  | c :: R => if isD c = true then numT (c :: R) else if letB c = true then nameT (c :: R) else if c = 34 then strT (c :: R) else signT (c :: R) c

def left (s : ByteArray) (a : Nat) : List UInt8 := s.data.toList.drop a
theorem left_nil {s : ByteArray} {a : Nat} (h : s.size ≤ a) : left s a = [] := by
  unfold left
  rw [List.drop_eq_nil_iff]; simpa using h
theorem left_cons {s : ByteArray} {a : Nat} (h : a < s.size) : left s a = s[a] :: left s (a + 1) := by
  unfold left
  rw [List.drop_eq_getElem_cons (by simpa using h)]
  rfl
theorem left_len (s : ByteArray) (a : Nat) : (left s a).length = s.size - a := by
  unfold left; simp
theorem left_0 (s : ByteArray) : left s 0 = s.data.toList := List.drop_zero
theorem left_drop (s : ByteArray) (i k : Nat) : left s (i + k) = (left s i).drop k := by unfold left; rw [List.drop_drop]
theorem ext_cut (s : ByteArray) (a b : Nat) : (s.extract a b).data.toList = (left s a).take (b - a) := by
  unfold left
  rw [ByteArray.data_extract]; simp
theorem ext_self (s : ByteArray) (a b : Nat) : s.extract a b = strL ((left s a).take (b - a)) := by
  apply ByteArray.ext
  apply Array.ext'
  rw [ext_cut s a b]
  rfl
def blkN (l : List UInt8) : Nat := (l.takeWhile blkB).length
theorem u8_lt (b : UInt8) : b.toNat < 256 := b.toNat_lt
theorem u8_of {c : UInt8} {n : Nat} (h : c.toNat = n) : c = UInt8.ofNat n := by
  apply UInt8.toNat_inj.1
  have := u8_lt c
  simp
  omega
theorem u8_eq {c d : UInt8} : c = d ↔ c.toNat = d.toNat := UInt8.toNat_inj.symm
end Go.Proofs.YtcmohggnehkjeaaGreat
