/- Parts of elder texts that this layer needs, joined: XYViM. -/
import Derived.Test.YtjladeiecokpfaaGreatDoorZBase
import Derived.Laws.BitsAllLaws
namespace Go.Proofs.YtjladeiecokpfaaGreatDoor.Vi
open Go.RowKit

/-- A number of 64 bits. -/
def I64 (n : Int) : Prop := -9223372036854775808 ≤ n ∧ n ≤ 9223372036854775807
/-- The bytes of a number, at most 'f + 1' of them. -/
def encF : Nat → Int → List Nat
  | 0, n => [(n % 128).toNat]
  | f + 1, n => if -64 ≤ n ∧ n < 64 then [(n % 128).toNat] else (n % 128 + 128).toNat :: encF f (n / 128)
def enc (n : Int) : List Nat := encF 9 n
/-- The number of bytes, the last group signed. -/
def sval : List Nat → Int
  | [] => 0
  | [x] => if x % 128 < 64 then ((x % 128 : Nat) : Int) else ((x % 128 : Nat) : Int) - 128
  | x :: y :: r => ((x % 128 : Nat) : Int) + 128 * sval (y :: r)
theorem encF_len (f : Nat) (n : Int) : 1 ≤ (encF f n).length ∧ (encF f n).length ≤ f + 1 := by
  induction f generalizing n with
  | zero => simp [encF]
  | succ f ih =>
    unfold encF
    split
    · simp
    · have := ih (n / 128)
      simp only [List.length_cons]
      omega
theorem enc_len (n : Int) : 1 ≤ (enc n).length ∧ (enc n).length ≤ 10 := encF_len 9 n
/-- The value as a number of 64 bits. -/
def val (l : List Nat) : Int := wrap64 (sval l)
/-- What of the first 'f' bytes goes as far as the first one below 128. -/
def cut : Nat → List Nat → Option (List Nat)
  | 0, _ => none
  | _ + 1, [] => none
  | f + 1, x :: r => if x < 128 then some [x] else (cut f r).map (x :: ·)
theorem cut_low {f x : Nat} {r : List Nat} (h : x < 128) : cut (f + 1) (x :: r) = some [x] := by unfold cut; rw [if_pos h]
theorem cut_high {f x : Nat} {r : List Nat} (h : 128 ≤ x) : cut (f + 1) (x :: r) = (cut f r).map (x :: ·) := by
  conv => lhs; unfold cut
  rw [if_neg (by omega)]
theorem cut_prefix : ∀ (f : Nat) (b l : List Nat), cut f b = some l → l <+: b
  | 0, b, l, h => by simp [cut] at h
  | f + 1, [], l, h => by simp [cut] at h
  | f + 1, x :: r, l, h => by
    by_cases hx : x < 128
    · rw [cut_low hx] at h
      obtain rfl := (Option.some.inj h).symm
      exact ⟨r, rfl⟩
    · rw [cut_high (by omega)] at h
      obtain ⟨l', h1, rfl⟩ := Option.map_eq_some_iff.1 h
      obtain ⟨t, ht⟩ := cut_prefix f r l' h1
      exact ⟨t, by rw [List.cons_append, ht]⟩
/-- The encoding that bytes begin with, or nothing. -/
def getL (b : List Nat) : List Nat := match cut 10 b with
  | none => []
  | some l => if enc (val l) = l then l else []
def getN (b : List Nat) : Int := if getL b = [] then 0 else val (getL b)
def getE (b : List Nat) : Nat := if getL b = [] then 2 else 0
theorem getL_none {b : List Nat} (h : cut 10 b = none) : getL b = [] := by unfold getL; rw [h]
theorem getL_yes {b l : List Nat} (h : cut 10 b = some l) (he : enc (val l) = l) : getL b = l := by unfold getL; rw [h]; exact if_pos he
theorem getL_no {b l : List Nat} (h : cut 10 b = some l) (he : enc (val l) ≠ l) : getL b = [] := by unfold getL; rw [h]; exact if_neg he
end Go.Proofs.YtjladeiecokpfaaGreatDoor.Vi
namespace Go.Proofs.YtjladeiecokpfaaGreatDoor.Pk
open Go.RowKit

/-- Encodings one behind the other. -/
def encs (l : List Int) : List Nat := l.flatMap Vi.enc
theorem encs_cons (x : Int) (l : List Int) : encs (x :: l) = Vi.enc x ++ encs l := by simp [encs]
theorem encs_snoc (l : List Int) (x : Int) : encs (l ++ [x]) = encs l ++ Vi.enc x := by simp [encs]
/-- The bytes of a text. -/
def natsOf (s : ByteArray) : List Nat := s.data.toList.map UInt8.toNat
theorem natsOf_len (s : ByteArray) : (natsOf s).length = s.size := by
  unfold natsOf
  rw [List.length_map, Array.length_toList]
  rfl
/-- A field, or how it is read. -/
structure Fd where
  kind : Nat
  n : Int
  l : List Int
  s : ByteArray
  many : Int
  lo : Int
  hi : Int
/-- PK1: the bytes of a field. -/
def put (f : Fd) : List Nat := if f.kind = 0 then Vi.enc f.n else if f.kind = 1 then Vi.enc (f.l.length : Int) ++ encs f.l else Vi.enc (f.s.size : Int) ++ natsOf f.s
/-- A number from 'a' to 'b', and what stands behind it. -/
def num (r : List Nat) (a b : Int) : Option (Int × List Nat) :=
  if Vi.getE r = 0 ∧ a ≤ Vi.getN r ∧ Vi.getN r ≤ b then some (Vi.getN r, r.drop (Vi.getL r).length) else none
/-- A Reader's state: the bytes that are left; none: a call failed. -/
abbrev St := Option (List Nat)
def rest (st : St) : List Nat := st.getD []
def int (st : St) (a b : Int) : Int × St := match st.bind (num · a b) with
  | some (n, r) => (n, some r)
  | none => (0, none)
def count (st : St) (many : Int) : Int × St := match int st 0 many with
  | (n, some r) => if (r.length : Int) < n then (0, none) else (n, some r)
  | (_, none) => (0, none)
def many : Nat → List Nat → Int → Int → Option (List Int × List Nat)
  | 0, r, _, _ => some ([], r)
  | k + 1, r, a, b => (num r a b).bind fun x => (many k x.2 a b).map fun y => (x.1 :: y.1, y.2)
def ints (st : St) (m a b : Int) : List Int × St := match count st m with
  | (n, some r) => match many n.toNat r a b with
    | some (l, r') => (l, some r')
    | none => ([], none)
  | (_, none) => ([], none)
def text (st : St) (m : Int) : List Nat × St := match count st m with
  | (n, some r) => (r.take n.toNat, some (r.drop n.toNat))
  | (_, none) => ([], none)
/-- The string of bytes. -/
def strB (l : List Nat) : ByteArray := ⟨(l.map UInt8.ofNat).toArray⟩
/-- PK2: a field read. -/
def take (st : St) (f : Fd) : Fd × St :=
  if f.kind = 0 then ({ kind := f.kind, n := (int st f.lo f.hi).1, l := [], s := ⟨#[]⟩, many := 0, lo := 0, hi := 0 }, (int st f.lo f.hi).2)
  else if f.kind = 1 then ({ kind := f.kind, n := 0, l := (ints st f.many f.lo f.hi).1, s := ⟨#[]⟩, many := 0, lo := 0, hi := 0 }, (ints st f.many f.lo f.hi).2)
  else ({ kind := f.kind, n := 0, l := [], s := strB (text st f.many).1, many := 0, lo := 0, hi := 0 }, (text st f.many).2)

theorem num_drop {r r' : List Nat} {a b n : Int} (h : num r a b = some (n, r')) : ∃ k, r' = r.drop k ∧ k ≤ r.length ∧ a ≤ n ∧ n ≤ b := by
  unfold num at h
  split at h
  · rename_i hc
    simp only [Option.some.injEq, Prod.mk.injEq] at h
    refine ⟨_, h.2.symm, ?_, by omega, by omega⟩
    have : Vi.getL r <+: r := by
      unfold Vi.getL
      split
      · exact List.nil_prefix
      · rename_i l hl
        split
        · exact Vi.cut_prefix _ _ _ hl
        · exact List.nil_prefix
    exact this.length_le
  · cases h
theorem count_range {st : St} {m n : Int} {r : List Nat} (h : count st m = (n, some r)) : 0 ≤ n ∧ n ≤ m ∧ n ≤ r.length := by
  unfold count at h
  split at h
  · rename_i n' r' he
    split at h
    · cases h
    · simp only [Prod.mk.injEq, Option.some.injEq] at h
      obtain ⟨rfl, rfl⟩ := h
      unfold int at he
      split at he
      · rename_i n2 r2 hb
        simp only [Prod.mk.injEq, Option.some.injEq] at he
        obtain ⟨rfl, rfl⟩ := he
        obtain ⟨r0, _, h1⟩ := Option.bind_eq_some_iff.1 hb
        obtain ⟨_, _, _, h2, h3⟩ := num_drop h1
        omega
      · cases he
  · cases h
def I64 (n : Int) : Prop := Vi.I64 n
/-- A field that may be: its numbers are of 64 bits, its list and its text not too long. -/
structure Ok (f : Fd) : Prop where
  n : Vi.I64 f.n
  l : ∀ x ∈ f.l, Vi.I64 x
  ll : f.l.length ≤ 300
  sl : f.s.size ≤ 300
/-- How it is read back. -/
def wide (f : Fd) : Fd := { f with many := 300, lo := -9223372036854775808, hi := 9223372036854775807 }
theorem getL_prefix (r : List Nat) : Vi.getL r <+: r := by
  unfold Vi.getL
  split
  · exact List.nil_prefix
  · rename_i l hl
    split
    · exact Vi.cut_prefix _ _ _ hl
    · exact List.nil_prefix
/-- Fields read one behind the other. -/
def takes (st : St) : List Fd → St
  | [] => st
  | f :: l => takes (take st f).2 l
end Go.Proofs.YtjladeiecokpfaaGreatDoor.Pk
namespace Go.Proofs.YtjladeiecokpfaaGreatDoor
open Go.RowKit

namespace Vi
/-- The last group, signed. -/
def top (c : Nat) : Int := if c % 128 < 64 then ((c % 128 : Nat) : Int) else ((c % 128 : Nat) : Int) - 128
theorem wrap64_bounds (n : Int) : -9223372036854775808 ≤ wrap64 n ∧ wrap64 n ≤ 9223372036854775807 := by unfold wrap64; omega
end Vi
end Go.Proofs.YtjladeiecokpfaaGreatDoor
