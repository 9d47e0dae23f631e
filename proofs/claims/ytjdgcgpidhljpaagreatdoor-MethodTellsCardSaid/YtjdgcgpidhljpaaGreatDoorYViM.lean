/- Parts of elder texts that this layer needs, joined: XViP XPkP XViQ. -/
import Derived.Test.YtjdgcgpidhljpaaGreatDoorYBase
import Derived.Laws.BitsAllLaws
namespace Go.Proofs.YtjdgcgpidhljpaaGreatDoor.Vi
open Go.RowKit

/-- A number of 64 bits. -/
def I64 (n : Int) : Prop := -9223372036854775808 ≤ n ∧ n ≤ 9223372036854775807
/-- At most 'f + 1' groups of seven bits, the sign counted. -/
def Fits (f : Nat) (n : Int) : Prop := -(64 * 128 ^ f) ≤ n ∧ n < 64 * 128 ^ f
/-- The bytes of a number, at most 'f + 1' of them. -/
def encF : Nat → Int → List Nat
  | 0, n => [(n % 128).toNat]
  | f + 1, n => if -64 ≤ n ∧ n < 64 then [(n % 128).toNat] else (n % 128 + 128).toNat :: encF f (n / 128)
def enc (n : Int) : List Nat := encF 9 n
/-- The number of bytes, the last group signed. -/
def sval : List Nat → Int
  | [] => 0
  | [x] => if x % 128 < 64 then ((x % 128 : Nat) : Int) else ((x % 128 : Nat) : Int) - 128
  | x :: y :: r => ((x % 128 : Nat) : Int) + 128 * sval (y :: r)
/-- All bytes but the last one have 128 added. -/
def Sh : List Nat → Prop
  | [] => False
  | [x] => x < 128
  | x :: y :: r => 128 ≤ x ∧ x < 256 ∧ Sh (y :: r)

theorem fits_zero {n : Int} : Fits 0 n ↔ -64 ≤ n ∧ n < 64 := by unfold Fits; simp
theorem fits_succ {f : Nat} {n : Int} (h : Fits (f + 1) n) : Fits f (n / 128) := by
  unfold Fits at h ⊢
  rw [Int.pow_succ] at h
  generalize (128 : Int) ^ f = p at *
  omega
theorem fits_nine {n : Int} (h : I64 n) : Fits 9 n := by
  unfold I64 at h; unfold Fits
  rw [show (128 : Int) ^ 9 = 9223372036854775808 by decide]
  omega

theorem encF_low {n : Int} (f : Nat) (h : -64 ≤ n ∧ n < 64) : encF f n = [(n % 128).toNat] := by
  cases f with
  | zero => rfl
  | succ f => unfold encF; rw [if_pos h]
theorem encF_high {n : Int} (f : Nat) (h : ¬ (-64 ≤ n ∧ n < 64)) : encF (f + 1) n = (n % 128 + 128).toNat :: encF f (n / 128) := by
  conv => lhs; unfold encF
  rw [if_neg h]
theorem encF_ne (f : Nat) (n : Int) : encF f n ≠ [] := by
  cases f <;> unfold encF
  · simp
  · split <;> simp
theorem encF_len (f : Nat) (n : Int) : 1 ≤ (encF f n).length ∧ (encF f n).length ≤ f + 1 := by
  induction f generalizing n with
  | zero => simp [encF]
  | succ f ih =>
    unfold encF
    split
    · simp
    · have := ih (n / 128)
      simp only [List.length_cons]
      omega
theorem sh_cons {x : Nat} {l : List Nat} (hx : 128 ≤ x) (hx2 : x < 256) (h : Sh l) : Sh (x :: l) := by
  cases l with
  | nil => exact absurd h (by simp [Sh])
  | cons y r => exact ⟨hx, hx2, h⟩
theorem sval_cons {x : Nat} {l : List Nat} (h : l ≠ []) : sval (x :: l) = ((x % 128 : Nat) : Int) + 128 * sval l := by
  cases l with
  | nil => exact absurd rfl h
  | cons y r => rfl
theorem encF_sh {f : Nat} {n : Int} (h : Fits f n) : Sh (encF f n) := by
  induction f generalizing n with
  | zero => show (n % 128).toNat < 128; omega
  | succ f ih =>
    by_cases hn : -64 ≤ n ∧ n < 64
    · rw [encF_low _ hn]; show (n % 128).toNat < 128; omega
    · rw [encF_high _ hn]
      exact sh_cons (by omega) (by omega) (ih (fits_succ h))
theorem sval_one {n : Int} (h : -64 ≤ n ∧ n < 64) : sval [(n % 128).toNat] = n := by
  unfold sval
  have : (n % 128).toNat % 128 = (n % 128).toNat := by omega
  rw [this]
  split <;> omega
theorem sval_encF {f : Nat} {n : Int} (h : Fits f n) : sval (encF f n) = n := by
  induction f generalizing n with
  | zero => exact sval_one (fits_zero.1 h)
  | succ f ih =>
    by_cases hn : -64 ≤ n ∧ n < 64
    · rw [encF_low _ hn]; exact sval_one hn
    · rw [encF_high _ hn, sval_cons (encF_ne _ _), ih (fits_succ h)]
      omega
theorem encF_byte (f : Nat) (n : Int) : ∀ x ∈ encF f n, x < 256 := by
  induction f generalizing n with
  | zero => intro x hx; simp [encF] at hx; omega
  | succ f ih =>
    intro x hx
    unfold encF at hx
    split at hx
    · simp at hx; omega
    · rcases List.mem_cons.1 hx with rfl | hx
      · omega
      · exact ih _ x hx
theorem enc_byte (n : Int) : ∀ x ∈ enc n, x < 256 := encF_byte 9 n
theorem enc_len (n : Int) : 1 ≤ (enc n).length ∧ (enc n).length ≤ 10 := encF_len 9 n
theorem enc_sh {n : Int} (h : I64 n) : Sh (enc n) := encF_sh (fits_nine h)
theorem sval_enc {n : Int} (h : I64 n) : sval (enc n) = n := sval_encF (fits_nine h)
theorem enc_inj {n m : Int} (hn : I64 n) (hm : I64 m) (h : enc n = enc m) : n = m := by rw [← sval_enc hn, ← sval_enc hm, h]

/-- The value as a number of 64 bits. -/
def val (l : List Nat) : Int := wrap64 (sval l)
theorem val_enc {n : Int} (h : I64 n) : val (enc n) = n := by
  unfold val
  rw [sval_enc h]
  exact IntWalk.wrap64_in n h

/-- What of the first 'f' bytes goes as far as the first one below 128. -/
def cut : Nat → List Nat → Option (List Nat)
  | 0, _ => none
  | _ + 1, [] => none
  | f + 1, x :: r => if x < 128 then some [x] else (cut f r).map (x :: ·)
theorem cut_low {f x : Nat} {r : List Nat} (h : x < 128) : cut (f + 1) (x :: r) = some [x] := by unfold cut; rw [if_pos h]
theorem cut_high {f x : Nat} {r : List Nat} (h : 128 ≤ x) : cut (f + 1) (x :: r) = (cut f r).map (x :: ·) := by
  conv => lhs; unfold cut
  rw [if_neg (by omega)]
theorem cut_sh : ∀ (f : Nat) (l r : List Nat), Sh l → l.length ≤ f → cut f (l ++ r) = some l
  | 0, l, r, h, hl => by cases l with | nil => exact absurd h (by simp [Sh]) | cons x l => simp at hl
  | f + 1, [], r, h, _ => absurd h (by simp [Sh])
  | f + 1, [x], r, h, _ => cut_low h
  | f + 1, x :: y :: l, r, h, hl => by
    show cut (f + 1) (x :: ((y :: l) ++ r)) = _
    rw [cut_high h.1, cut_sh f (y :: l) r h.2.2 (by simpa using hl)]
    rfl
theorem cut_prefix : ∀ (f : Nat) (b l : List Nat), cut f b = some l → l <+: b
  | 0, b, l, h => by simp [cut] at h
  | f + 1, [], l, h => by simp [cut] at h
  | f + 1, x :: r, l, h => by
    by_cases hx : x < 128
    · rw [cut_low hx] at h
      obtain rfl := (Option.some.inj h).symm
      exact ⟨r, rfl⟩
    · rw [cut_high (by omega)] at h
      obtain ⟨l', h1, rfl⟩ := Option.map_eq_some_iff.1 h
      obtain ⟨t, ht⟩ := cut_prefix f r l' h1
      exact ⟨t, by rw [List.cons_append, ht]⟩
theorem cut_all : ∀ (f : Nat) (b : List Nat), (∀ x ∈ b, 128 ≤ x) → cut f b = none
  | 0, b, _ => rfl
  | f + 1, [], _ => rfl
  | f + 1, x :: r, h => by
    rw [cut_high (h x (by simp)), cut_all f r (fun y hy => h y (by simp [hy]))]
    rfl
theorem sh_front : ∀ (l : List Nat), Sh l → ∀ x ∈ l.take (l.length - 1), 128 ≤ x
  | [], h => absurd h (by simp [Sh])
  | [x], _ => by simp
  | x :: y :: r, h => by
    intro z hz
    have e : (x :: y :: r).take ((x :: y :: r).length - 1) = x :: (y :: r).take ((y :: r).length - 1) := by simp
    rw [e] at hz
    rcases List.mem_cons.1 hz with rfl | hz
    · exact h.1
    · exact sh_front (y :: r) h.2.2 z hz

/-- The encoding that bytes begin with, or nothing. -/
def getL (b : List Nat) : List Nat := match cut 10 b with
  | none => []
  | some l => if enc (val l) = l then l else []
def getN (b : List Nat) : Int := if getL b = [] then 0 else val (getL b)
def getE (b : List Nat) : Nat := if getL b = [] then 2 else 0
theorem getL_none {b : List Nat} (h : cut 10 b = none) : getL b = [] := by unfold getL; rw [h]
theorem getL_yes {b l : List Nat} (h : cut 10 b = some l) (he : enc (val l) = l) : getL b = l := by unfold getL; rw [h]; exact if_pos he
theorem getL_no {b l : List Nat} (h : cut 10 b = some l) (he : enc (val l) ≠ l) : getL b = [] := by unfold getL; rw [h]; exact if_neg he
theorem getL_enc {n : Int} (h : I64 n) (r : List Nat) : getL (enc n ++ r) = enc n := by
  have h1 := cut_sh 10 (enc n) r (enc_sh h) (enc_len n).2
  exact getL_yes h1 (by rw [val_enc h])
theorem enc_ne (n : Int) : enc n ≠ [] := encF_ne 9 n
theorem getN_enc {n : Int} (h : I64 n) (r : List Nat) : getN (enc n ++ r) = n := by
  unfold getN
  rw [getL_enc h, if_neg (enc_ne n), val_enc h]
theorem getE_enc {n : Int} (h : I64 n) (r : List Nat) : getE (enc n ++ r) = 0 := by
  unfold getE
  rw [getL_enc h, if_neg (enc_ne n)]
theorem getL_short {n : Int} (h : I64 n) : getL ((enc n).take ((enc n).length - 1)) = [] := getL_none (cut_all _ _ (sh_front _ (enc_sh h)))
/-- Whoever has a number that is the right one wherever there is one finds the encoding, or none, by looking for that number's. -/
theorem getL_found {b : List Nat} {v : Int} (hv : I64 v) (h : enc v <+: b) : getL b = enc v := by
  obtain ⟨t, rfl⟩ := h
  exact getL_enc hv t
theorem getL_lost {b : List Nat} {v : Int} (hb : ∀ l, cut 10 b = some l → v = val l) (h : ¬ enc v <+: b) : getL b = [] := by
  cases hc : cut 10 b with
  | none => exact getL_none hc
  | some l =>
    by_cases he : enc (val l) = l
    · exact absurd (by rw [hb l hc, he]; exact cut_prefix _ _ _ hc) h
    · exact getL_no hc he

/-- How many bytes a number has. -/
theorem encF_span {f : Nat} {n : Int} (h : Fits f n) : Fits ((encF f n).length - 1) n ∧ (1 < (encF f n).length → ¬ Fits ((encF f n).length - 2) n) := by
  induction f generalizing n with
  | zero => exact ⟨h, fun h1 => by simp [encF] at h1⟩
  | succ f ih =>
    by_cases hn : -64 ≤ n ∧ n < 64
    · rw [encF_low _ hn]
      exact ⟨fits_zero.2 hn, fun h1 => by simp at h1⟩
    · rw [encF_high _ hn]
      have := ih (fits_succ h)
      have hl := encF_len f (n / 128)
      simp only [List.length_cons]
      generalize (encF f (n / 128)).length = k at *
      obtain ⟨j, rfl⟩ : ∃ j, k = j + 1 := ⟨k - 1, by omega⟩
      refine ⟨?_, fun _ => ?_⟩
      · have h1 := this.1
        unfold Fits at h1 ⊢
        rw [show j + 1 - 1 = j by omega] at h1
        rw [show j + 1 + 1 - 1 = j + 1 by omega, Int.pow_succ]
        generalize (128 : Int) ^ j = p at *
        omega
      · cases j with
        | zero => exact fun h2 => hn (fits_zero.1 h2)
        | succ j =>
          have h1 := this.2 (by omega)
          intro h2
          apply h1
          unfold Fits at h2 ⊢
          rw [show j + 1 + 1 - 2 = j by omega]
          rw [show j + 1 + 1 + 1 - 2 = j + 1 by omega, Int.pow_succ] at h2
          generalize (128 : Int) ^ j = p at *
          omega
end Go.Proofs.YtjdgcgpidhljpaaGreatDoor.Vi
namespace Go.Proofs.YtjdgcgpidhljpaaGreatDoor.Pk
open Go.RowKit

/-- Encodings one behind the other. -/
def encs (l : List Int) : List Nat := l.flatMap Vi.enc
theorem encs_nil : encs [] = [] := rfl
theorem encs_cons (x : Int) (l : List Int) : encs (x :: l) = Vi.enc x ++ encs l := by simp [encs]
theorem encs_snoc (l : List Int) (x : Int) : encs (l ++ [x]) = encs l ++ Vi.enc x := by simp [encs]
theorem encs_len : ∀ (l : List Int), l.length ≤ (encs l).length ∧ (encs l).length ≤ 10 * l.length
  | [] => by simp [encs]
  | x :: r => by
    have := encs_len r
    have := Vi.enc_len x
    rw [encs_cons, List.length_append, List.length_cons]
    omega
theorem encs_byte (l : List Int) : ∀ x ∈ encs l, x < 256 := by
  intro x hx
  obtain ⟨n, _, h⟩ := List.mem_flatMap.1 hx
  exact Vi.enc_byte n x h

/-- The bytes of a text. -/
def natsOf (s : ByteArray) : List Nat := s.data.toList.map UInt8.toNat
theorem natsOf_len (s : ByteArray) : (natsOf s).length = s.size := by
  unfold natsOf
  rw [List.length_map, Array.length_toList]
  rfl
theorem natsOf_byte (s : ByteArray) : ∀ x ∈ natsOf s, x < 256 := by
  intro x hx
  obtain ⟨u, _, rfl⟩ := List.mem_map.1 hx
  exact UInt8.toNat_lt u

/-- A field, or how it is read. -/
structure Fd where
  kind : Nat
  n : Int
  l : List Int
  s : ByteArray
  many : Int
  lo : Int
  hi : Int
/-- PK1: the bytes of a field. -/
def put (f : Fd) : List Nat := if f.kind = 0 then Vi.enc f.n else if f.kind = 1 then Vi.enc (f.l.length : Int) ++ encs f.l else Vi.enc (f.s.size : Int) ++ natsOf f.s
def puts (l : List Fd) : List Nat := l.flatMap put
theorem puts_nil : puts [] = [] := rfl
theorem puts_cons (x : Fd) (l : List Fd) : puts (x :: l) = put x ++ puts l := by simp [puts]
theorem puts_snoc (l : List Fd) (x : Fd) : puts (l ++ [x]) = puts l ++ put x := by simp [puts]
theorem put_byte (f : Fd) : ∀ x ∈ put f, x < 256 := by
  intro x hx
  unfold put at hx
  split at hx
  · exact Vi.enc_byte _ x hx
  · split at hx
    · rcases List.mem_append.1 hx with h | h
      · exact Vi.enc_byte _ x h
      · exact encs_byte _ x h
    · rcases List.mem_append.1 hx with h | h
      · exact Vi.enc_byte _ x h
      · exact natsOf_byte _ x h
theorem puts_byte (l : List Fd) : ∀ x ∈ puts l, x < 256 := by
  intro x hx
  obtain ⟨f, _, h⟩ := List.mem_flatMap.1 hx
  exact put_byte f x h
theorem put_len (f : Fd) : 1 ≤ (put f).length ∧ (put f).length ≤ 10 + 10 * f.l.length + f.s.size := by
  have h1 := Vi.enc_len f.n
  have h2 := Vi.enc_len (f.l.length : Int)
  have h3 := Vi.enc_len (f.s.size : Int)
  have h4 := encs_len f.l
  have h5 := natsOf_len f.s
  unfold put
  split
  · omega
  · split
    · rw [List.length_append]; omega
    · rw [List.length_append]; omega

/-- A number from 'a' to 'b', and what stands behind it. -/
def num (r : List Nat) (a b : Int) : Option (Int × List Nat) :=
  if Vi.getE r = 0 ∧ a ≤ Vi.getN r ∧ Vi.getN r ≤ b then some (Vi.getN r, r.drop (Vi.getL r).length) else none
/-- A Reader's state: the bytes that are left; none: a call failed. -/
abbrev St := Option (List Nat)
def rest (st : St) : List Nat := st.getD []
def int (st : St) (a b : Int) : Int × St := match st.bind (num · a b) with
  | some (n, r) => (n, some r)
  | none => (0, none)
def count (st : St) (many : Int) : Int × St := match int st 0 many with
  | (n, some r) => if (r.length : Int) < n then (0, none) else (n, some r)
  | (_, none) => (0, none)
def many : Nat → List Nat → Int → Int → Option (List Int × List Nat)
  | 0, r, _, _ => some ([], r)
  | k + 1, r, a, b => (num r a b).bind fun x => (many k x.2 a b).map fun y => (x.1 :: y.1, y.2)
def ints (st : St) (m a b : Int) : List Int × St := match count st m with
  | (n, some r) => match many n.toNat r a b with
    | some (l, r') => (l, some r')
    | none => ([], none)
  | (_, none) => ([], none)
def text (st : St) (m : Int) : List Nat × St := match count st m with
  | (n, some r) => (r.take n.toNat, some (r.drop n.toNat))
  | (_, none) => ([], none)
/-- The string of bytes. -/
def strB (l : List Nat) : ByteArray := ⟨(l.map UInt8.ofNat).toArray⟩
/-- PK2: a field read. -/
def take (st : St) (f : Fd) : Fd × St :=
  if f.kind = 0 then ({ kind := f.kind, n := (int st f.lo f.hi).1, l := [], s := ⟨#[]⟩, many := 0, lo := 0, hi := 0 }, (int st f.lo f.hi).2)
  else if f.kind = 1 then ({ kind := f.kind, n := 0, l := (ints st f.many f.lo f.hi).1, s := ⟨#[]⟩, many := 0, lo := 0, hi := 0 }, (ints st f.many f.lo f.hi).2)
  else ({ kind := f.kind, n := 0, l := [], s := strB (text st f.many).1, many := 0, lo := 0, hi := 0 }, (text st f.many).2)

theorem num_len {r r' : List Nat} {a b n : Int} (h : num r a b = some (n, r')) : r'.length ≤ r.length := by
  unfold num at h
  split at h
  · simp only [Option.some.injEq, Prod.mk.injEq] at h
    rw [← h.2, List.length_drop]; omega
  · cases h
theorem num_drop {r r' : List Nat} {a b n : Int} (h : num r a b = some (n, r')) : ∃ k, r' = r.drop k ∧ k ≤ r.length ∧ a ≤ n ∧ n ≤ b := by
  unfold num at h
  split at h
  · rename_i hc
    simp only [Option.some.injEq, Prod.mk.injEq] at h
    refine ⟨_, h.2.symm, ?_, by omega, by omega⟩
    have : Vi.getL r <+: r := by
      unfold Vi.getL
      split
      · exact List.nil_prefix
      · rename_i l hl
        split
        · exact Vi.cut_prefix _ _ _ hl
        · exact List.nil_prefix
    exact this.length_le
  · cases h
theorem count_range {st : St} {m n : Int} {r : List Nat} (h : count st m = (n, some r)) : 0 ≤ n ∧ n ≤ m ∧ n ≤ r.length := by
  unfold count at h
  split at h
  · rename_i n' r' he
    split at h
    · cases h
    · simp only [Prod.mk.injEq, Option.some.injEq] at h
      obtain ⟨rfl, rfl⟩ := h
      unfold int at he
      split at he
      · rename_i n2 r2 hb
        simp only [Prod.mk.injEq, Option.some.injEq] at he
        obtain ⟨rfl, rfl⟩ := he
        obtain ⟨r0, _, h1⟩ := Option.bind_eq_some_iff.1 hb
        obtain ⟨_, _, _, h2, h3⟩ := num_drop h1
        omega
      · cases he
  · cases h
theorem many_len : ∀ (k : Nat) {r r' : List Nat} {a b : Int} {l : List Int}, many k r a b = some (l, r') → l.length = k ∧ r'.length ≤ r.length
  | 0, r, r', a, b, l, h => by
    simp only [many, Option.some.injEq, Prod.mk.injEq] at h
    obtain ⟨rfl, rfl⟩ := h
    exact ⟨rfl, Nat.le_refl _⟩
  | k + 1, r, r', a, b, l, h => by
    unfold many at h
    obtain ⟨x, h1, h2⟩ := Option.bind_eq_some_iff.1 h
    obtain ⟨y, h3, h4⟩ := Option.map_eq_some_iff.1 h2
    simp only [Prod.mk.injEq] at h4
    obtain ⟨rfl, rfl⟩ := h4
    have := many_len k h3
    have := num_len h1
    simp only [List.length_cons]
    omega

def I64 (n : Int) : Prop := Vi.I64 n
theorem num_enc {n : Int} (h : Vi.I64 n) (r : List Nat) {a b : Int} (ha : a ≤ n) (hb : n ≤ b) : num (Vi.enc n ++ r) a b = some (n, r) := by
  unfold num
  rw [Vi.getE_enc h, Vi.getN_enc h, Vi.getL_enc h, if_pos ⟨rfl, ha, hb⟩, List.drop_left]
theorem many_enc : ∀ (l : List Int), (∀ x ∈ l, Vi.I64 x) → ∀ (r : List Nat), many l.length (encs l ++ r) (-9223372036854775808) 9223372036854775807 = some (l, r)
  | [], _, r => rfl
  | x :: l, h, r => by
    have hx := h x (by simp)
    rw [encs_cons, List.length_cons, List.append_assoc]
    unfold many
    rw [num_enc hx _ hx.1 hx.2, Option.bind_some, many_enc l (fun y hy => h y (by simp [hy])) r]
    rfl
theorem nats_back (s : ByteArray) : strB (natsOf s) = s := by
  unfold strB natsOf
  have : (s.data.toList.map UInt8.toNat).map UInt8.ofNat = s.data.toList := by
    rw [List.map_map]
    conv => rhs; rw [← List.map_id s.data.toList]
    apply List.map_congr_left
    intro u _
    simp
  rw [this]
/-- A field that may be: its numbers are of 64 bits, its list and its text not too long. -/
structure Ok (f : Fd) : Prop where
  n : Vi.I64 f.n
  l : ∀ x ∈ f.l, Vi.I64 x
  ll : f.l.length ≤ 300
  sl : f.s.size ≤ 300
/-- How it is read back. -/
def wide (f : Fd) : Fd := { f with many := 300, lo := -9223372036854775808, hi := 9223372036854775807 }
theorem count_enc {k : Nat} (h : k ≤ 300) (r : List Nat) (hr : k ≤ r.length) : count (some (Vi.enc (k : Int) ++ r)) 300 = ((k : Int), some r) := by
  have e : int (some (Vi.enc (k : Int) ++ r)) 0 300 = ((k : Int), some r) := by
    unfold int
    rw [Option.bind_some, num_enc (show Vi.I64 (k : Int) by unfold Vi.I64; omega) r (by omega) (by omega)]
  unfold count
  rw [e]
  simp only
  rw [if_neg (by omega)]
/-- PK3: field by field. -/
theorem take_put {f : Fd} (h : Ok f) (r : List Nat) : ∃ g, take (some (put f ++ r)) (wide f) = (g, some r) ∧ (f.kind = 0 → g.n = f.n) ∧ (f.kind = 1 → g.l = f.l) ∧ (f.kind ≠ 0 → f.kind ≠ 1 → g.s = f.s) := by
  unfold take put wide
  simp only
  by_cases h0 : f.kind = 0
  · rw [if_pos h0, if_pos h0]
    unfold int
    rw [Option.bind_some, num_enc h.n r h.n.1 h.n.2]
    exact ⟨_, rfl, fun _ => rfl, fun h1 => by omega, fun h1 => absurd h0 h1⟩
  · rw [if_neg h0, if_neg h0]
    by_cases h1 : f.kind = 1
    · rw [if_pos h1, if_pos h1, List.append_assoc]
      unfold ints
      rw [count_enc h.ll _ (by rw [List.length_append]; have := (encs_len f.l).1; omega)]
      simp only [Int.toNat_natCast]
      rw [many_enc f.l h.l r]
      exact ⟨_, rfl, fun h2 => absurd h2 h0, fun _ => rfl, fun _ h2 => absurd h1 h2⟩
    · rw [if_neg h1, if_neg h1, List.append_assoc]
      unfold text
      rw [count_enc h.sl _ (by rw [List.length_append, natsOf_len]; omega)]
      simp only [Int.toNat_natCast]
      rw [← natsOf_len, List.take_left, List.drop_left, nats_back]
      exact ⟨_, rfl, fun h2 => absurd h2 h0, fun h2 => absurd h2 h1, fun _ _ => rfl⟩

theorem cut_more : ∀ (f : Nat) (p q l : List Nat), Vi.cut f p = some l → Vi.cut f (p ++ q) = some l
  | 0, p, q, l, h => by simp [Vi.cut] at h
  | f + 1, [], q, l, h => by simp [Vi.cut] at h
  | f + 1, x :: p, q, l, h => by
    rw [List.cons_append]
    by_cases hx : x < 128
    · rw [Vi.cut_low hx] at h ⊢; exact h
    · rw [Vi.cut_high (by omega)] at h ⊢
      obtain ⟨l', h1, rfl⟩ := Option.map_eq_some_iff.1 h
      rw [cut_more f p q l' h1]
      rfl
theorem getL_more {p q : List Nat} (h : Vi.getL p ≠ []) : Vi.getL (p ++ q) = Vi.getL p := by
  cases hc : Vi.cut 10 p with
  | none => exact absurd (Vi.getL_none hc) h
  | some l =>
    by_cases he : Vi.enc (Vi.val l) = l
    · rw [Vi.getL_yes hc he, Vi.getL_yes (cut_more 10 p q l hc) he]
    · exact absurd (Vi.getL_no hc he) h
theorem getL_prefix (r : List Nat) : Vi.getL r <+: r := by
  unfold Vi.getL
  split
  · exact List.nil_prefix
  · rename_i l hl
    split
    · exact Vi.cut_prefix _ _ _ hl
    · exact List.nil_prefix
theorem num_more {p q r : List Nat} {a b n : Int} (h : num p a b = some (n, r)) : num (p ++ q) a b = some (n, r ++ q) := by
  unfold num at h
  split at h
  · rename_i hc
    have hne : Vi.getL p ≠ [] := by
      intro h0
      have := hc.1
      unfold Vi.getE at this
      rw [if_pos h0] at this
      omega
    have e := getL_more (q := q) hne
    have hN : Vi.getN (p ++ q) = Vi.getN p := by unfold Vi.getN; rw [e]
    have hE : Vi.getE (p ++ q) = Vi.getE p := by unfold Vi.getE; rw [e]
    simp only [Option.some.injEq, Prod.mk.injEq] at h
    unfold num
    rw [hN, hE, if_pos hc, e, List.drop_append_of_le_length (getL_prefix p).length_le]
    rw [h.1, h.2]
  · cases h
theorem int_more {p q : List Nat} {a b n : Int} {r : List Nat} (h : int (some p) a b = (n, some r)) : int (some (p ++ q)) a b = (n, some (r ++ q)) := by
  unfold int at h ⊢
  rw [Option.bind_some] at h ⊢
  cases hn : num p a b with
  | none => rw [hn] at h; cases h
  | some x =>
    obtain ⟨n', r'⟩ := x
    rw [hn] at h
    simp only [Prod.mk.injEq, Option.some.injEq] at h
    obtain ⟨rfl, rfl⟩ := h
    rw [num_more hn]
theorem count_more {p q : List Nat} {m n : Int} {r : List Nat} (h : count (some p) m = (n, some r)) : count (some (p ++ q)) m = (n, some (r ++ q)) := by
  unfold count at h ⊢
  split at h
  · rename_i n' r' he
    rw [int_more he]
    split at h
    · cases h
    · simp only [Prod.mk.injEq, Option.some.injEq] at h
      obtain ⟨rfl, rfl⟩ := h
      simp only
      rw [if_neg (by rw [List.length_append]; omega)]
  · cases h
theorem many_more : ∀ (k : Nat) {p q r : List Nat} {a b : Int} {l : List Int}, many k p a b = some (l, r) → many k (p ++ q) a b = some (l, r ++ q)
  | 0, p, q, r, a, b, l, h => by
    simp only [many, Option.some.injEq, Prod.mk.injEq] at h
    obtain ⟨rfl, rfl⟩ := h
    rfl
  | k + 1, p, q, r, a, b, l, h => by
    unfold many at h ⊢
    obtain ⟨x, h1, h2⟩ := Option.bind_eq_some_iff.1 h
    obtain ⟨y, h3, h4⟩ := Option.map_eq_some_iff.1 h2
    obtain ⟨x1, x2⟩ := x
    obtain ⟨y1, y2⟩ := y
    simp only [Prod.mk.injEq] at h4
    obtain ⟨rfl, rfl⟩ := h4
    rw [num_more h1, Option.bind_some, many_more k h3]
    rfl
theorem take_more {p q : List Nat} {f g : Fd} {r : List Nat} (h : take (some p) f = (g, some r)) : take (some (p ++ q)) f = (g, some (r ++ q)) := by
  unfold take at h ⊢
  by_cases h0 : f.kind = 0
  · rw [if_pos h0] at h ⊢
    generalize hi : int (some p) f.lo f.hi = x at *
    obtain ⟨n, st⟩ := x
    simp only [Prod.mk.injEq] at h
    obtain ⟨rfl, rfl⟩ := h
    rw [int_more hi]
  · rw [if_neg h0] at h ⊢
    by_cases h1 : f.kind = 1
    · rw [if_pos h1] at h ⊢
      unfold ints at h ⊢
      cases hc : count (some p) f.many with
      | mk n st =>
        rw [hc] at h
        cases st with
        | none => simp at h
        | some r0 =>
          rw [count_more hc]
          simp only at h ⊢
          cases hm : many n.toNat r0 f.lo f.hi with
          | none => rw [hm] at h; simp at h
          | some y =>
            obtain ⟨l, r1⟩ := y
            rw [hm] at h
            rw [many_more _ hm]
            simp only [Prod.mk.injEq, Option.some.injEq] at h ⊢
            exact ⟨h.1, by rw [h.2]⟩
    · rw [if_neg h1] at h ⊢
      unfold text at h ⊢
      cases hc : count (some p) f.many with
      | mk n st =>
        rw [hc] at h
        cases st with
        | none => simp at h
        | some r0 =>
          have hr := count_range hc
          rw [count_more hc]
          simp only [Prod.mk.injEq, Option.some.injEq] at h ⊢
          rw [List.take_append_of_le_length (by omega), List.drop_append_of_le_length (by omega)]
          exact ⟨h.1, by rw [h.2]⟩
/-- Fields read one behind the other. -/
def takes (st : St) : List Fd → St
  | [] => st
  | f :: l => takes (take st f).2 l
theorem takes_snoc : ∀ (l : List Fd) (st : St) (f : Fd), takes st (l ++ [f]) = (take (takes st l) f).2
  | [], _, _ => rfl
  | _ :: l, _, f => takes_snoc l _ f
theorem take_none (f : Fd) : (take none f).2 = none := by
  unfold take
  split
  · rfl
  · split <;> rfl
theorem takes_more : ∀ (l : List Fd) {p q r : List Nat}, takes (some p) l = some r → takes (some (p ++ q)) l = some (r ++ q)
  | [], p, q, r, h => by
    simp only [takes, Option.some.injEq] at h ⊢
    rw [h]
  | f :: l, p, q, r, h => by
    unfold takes at h ⊢
    cases hx : take (some p) f with
    | mk g st =>
      rw [hx] at h
      cases st with
      | none =>
        have : ∀ l, takes none l = none := by
          intro l
          induction l with
          | nil => rfl
          | cons f l ih => unfold takes; rw [take_none]; exact ih
        rw [this] at h; cases h
      | some r0 =>
        rw [take_more hx]
        exact takes_more l h
theorem takes_puts : ∀ (l : List Fd), (∀ f ∈ l, Ok f) → ∀ (r : List Nat), takes (some (puts l ++ r)) (l.map wide) = some r
  | [], _, r => rfl
  | f :: l, h, r => by
    rw [puts_cons, List.append_assoc, List.map_cons]
    unfold takes
    obtain ⟨g, hg, _⟩ := take_put (h f (by simp)) (puts l ++ r)
    rw [hg]
    exact takes_puts l (fun x hx => h x (by simp [hx])) r
/-- Cut short: a field fails, or bytes remain. -/
theorem takes_cut {l : List Fd} (h : ∀ f ∈ l, Ok f) {k : Nat} (hk : k < (puts l).length) : takes (some ((puts l).take k)) (l.map wide) ≠ some [] := by
  intro h1
  have h2 := takes_more (q := (puts l).drop k) _ h1
  rw [List.take_append_drop] at h2
  have h3 := takes_puts l h []
  rw [List.append_nil] at h3
  rw [h3] at h2
  simp only [List.nil_append, Option.some.injEq] at h2
  have := congrArg List.length h2
  rw [List.length_drop, List.length_nil] at this
  omega
theorem int_none (a b : Int) : int none a b = (0, none) := rfl
theorem int_bad (st : St) : int st 1 0 = (0, none) := by
  unfold int
  cases st with
  | none => rfl
  | some r =>
    rw [Option.bind_some]
    have : num r 1 0 = none := by
      unfold num
      rw [if_neg (by omega)]
    rw [this]
theorem ints_none (m a b : Int) : ints none m a b = ([], none) := rfl
theorem text_none (m : Int) : text none m = ([], none) := rfl
end Go.Proofs.YtjdgcgpidhljpaaGreatDoor.Pk
namespace Go.Proofs.YtjdgcgpidhljpaaGreatDoor
open Go.RowKit

theorem wrap64_ofV (n : Int) : IntKind.i64.wrap n = wrap64 n := by
  rw [IntKind.wrap_i64]; unfold wrap64; omega
theorem ofInt_i64V (n : Int) : (BitVec.ofInt 64 n).toNat = (n % 18446744073709551616).toNat := by
  simp [BitVec.toNat_ofInt]
theorem i64_and (a b : Int) : bits .and .i64 a b = wrap64 (((a % 18446744073709551616).toNat &&& (b % 18446744073709551616).toNat : Nat) : Int) := by
  show IntKind.i64.wrap ((BitVec.ofInt 64 a &&& BitVec.ofInt 64 b).toNat : Int) = _
  rw [BitVec.toNat_and, ofInt_i64V, ofInt_i64V, wrap64_ofV]
theorem i64_orV (a b : Int) : bits .or .i64 a b = wrap64 (((a % 18446744073709551616).toNat ||| (b % 18446744073709551616).toNat : Nat) : Int) := by
  show IntKind.i64.wrap ((BitVec.ofInt 64 a ||| BitVec.ofInt 64 b).toNat : Int) = _
  rw [BitVec.toNat_or, ofInt_i64V, ofInt_i64V, wrap64_ofV]
theorem and_127 (n : Int) : bits .and .i64 n 127 = n % 128 := by
  rw [i64_and, show ((127 : Int) % 18446744073709551616).toNat = 127 from rfl, nat_mask7]
  unfold wrap64
  omega
theorem or_128 {n : Int} (h0 : 0 ≤ n) (h1 : n < 128) : bits .or .i64 n 128 = n + 128 := by
  rw [i64_orV, show ((128 : Int) % 18446744073709551616).toNat = 128 from rfl, Nat.or_comm, nat_join 7 128 _ (by decide) (by omega)]
  unfold wrap64
  omega
theorem wrap64_mod (a b : Int) (h : a % 18446744073709551616 = b % 18446744073709551616) : wrap64 a = wrap64 b := by
  unfold wrap64; omega
theorem wrap64_emod (a : Int) : wrap64 a % 18446744073709551616 = a % 18446744073709551616 := by
  unfold wrap64; omega
/-- What is shifted past a number is put to it. -/
theorem or_shift {n x : Int} {k : Nat} (hk : k ≤ 64) (h0 : 0 ≤ n) (h1 : n < 2 ^ k) : bits .or .i64 n (wrap64 (x * 2 ^ k)) = wrap64 (n + x * 2 ^ k) := by
  obtain ⟨N, rfl⟩ := Int.eq_ofNat_of_zero_le h0
  have hp : (2 : Nat) ^ k * 2 ^ (64 - k) = 18446744073709551616 := by
    rw [← Nat.pow_add, show k + (64 - k) = 64 by omega]
  have hN : N < 2 ^ k := by
    have : ((N : Nat) : Int) < ((2 ^ k : Nat) : Int) := by rw [Int.natCast_pow]; exact h1
    exact Int.ofNat_lt.1 this
  have hle : (2 : Nat) ^ k ≤ 18446744073709551616 := by
    rw [← hp]; exact Nat.le_mul_of_pos_right _ (Nat.pow_pos (by decide))
  rw [i64_orV, wrap64_emod]
  have e1 : (((N : Nat) : Int) % 18446744073709551616).toNat = N := by omega
  obtain ⟨Y, hY⟩ : ∃ Y, Y = ((x * 2 ^ k) % 18446744073709551616).toNat := ⟨_, rfl⟩
  have hYi : (Y : Int) = (x * 2 ^ k) % 18446744073709551616 := by omega
  have hYm : Y % 2 ^ k = 0 := by
    have h3 : ((Y % 2 ^ k : Nat) : Int) = 0 := by
      rw [Int.natCast_emod, hYi, Int.natCast_pow]
      have h4 : ((2 : Int) ^ k) ∣ 18446744073709551616 := ⟨2 ^ (64 - k), by rw [← Int.pow_add, show k + (64 - k) = 64 by omega]; decide⟩
      exact (Int.emod_emod_of_dvd _ h4).trans (Int.mul_emod_left x _)
    omega
  rw [e1, ← hY, Nat.or_comm, nat_join k Y N hYm hN]
  apply wrap64_mod
  rw [Int.natCast_add, hYi]
  generalize x * 2 ^ k = z at *
  omega

namespace Vi
/-- The groups put together, all bits counted. -/
def uv : List Nat → Nat
  | [] => 0
  | x :: r => x % 128 + 128 * uv r
theorem uv_snoc : ∀ (l : List Nat) (c : Nat), uv (l ++ [c]) = uv l + 128 ^ l.length * (c % 128)
  | [], c => by simp [uv]
  | x :: r, c => by
    have := uv_snoc r c
    simp only [List.cons_append, uv, List.length_cons, this, Nat.pow_succ]
    rw [Nat.mul_add, ← Nat.mul_assoc, Nat.mul_comm 128 (128 ^ r.length)]
    omega
theorem uv_lt : ∀ (l : List Nat), uv l < 128 ^ l.length
  | [] => by simp [uv]
  | x :: r => by
    have := uv_lt r
    have h2 : x % 128 < 128 := Nat.mod_lt _ (by decide)
    simp only [uv, List.length_cons, Nat.pow_succ]
    omega
/-- The last group, signed. -/
def top (c : Nat) : Int := if c % 128 < 64 then ((c % 128 : Nat) : Int) else ((c % 128 : Nat) : Int) - 128
theorem sval_snoc : ∀ (l : List Nat) (c : Nat), sval (l ++ [c]) = (uv l : Int) + 128 ^ l.length * top c
  | [], c => by simp [uv, sval, top]
  | x :: r, c => by
    have := sval_snoc r c
    rw [List.cons_append, sval_cons (by simp), this]
    simp only [uv, List.length_cons, Int.pow_succ]
    rw [Int.mul_add, ← Int.mul_assoc, Int.mul_comm 128 ((128 : Int) ^ r.length)]
    push_cast
    omega
theorem cut_at : ∀ (f : Nat) (b : List Nat) (i : Nat), (∀ x ∈ b.take i, 128 ≤ x) → i < f → (h : i < b.length) → b[i] < 128 → cut f b = some (b.take (i + 1))
  | 0, _, _, _, h, _, _ => absurd h (by omega)
  | f + 1, [], _, _, _, h, _ => absurd h (by simp)
  | f + 1, x :: r, 0, _, _, _, h => by rw [cut_low (by simpa using h)]; simp
  | f + 1, x :: r, i + 1, ha, hf, hl, h => by
    rw [cut_high (ha x (by simp)), cut_at f r i (fun y hy => ha y (by simp [hy])) (by omega) (by simpa using hl) (by simpa using h)]
    simp
theorem cut_no : ∀ (f : Nat) (b : List Nat), (∀ x ∈ b.take f, 128 ≤ x) → cut f b = none
  | 0, b, _ => rfl
  | f + 1, [], _ => rfl
  | f + 1, x :: r, h => by
    rw [cut_high (h x (by simp)), cut_no f r (fun y hy => h y (by simp [hy]))]
    rfl
theorem pow_seven (i : Nat) : (128 : Int) ^ i = 2 ^ (7 * i) := by
  rw [Int.pow_mul]; rfl
theorem pow_seven_nat (i : Nat) : (128 : Nat) ^ i = 2 ^ (7 * i) := by
  rw [Nat.pow_mul]
theorem pow_le_sixty_three {i : Nat} (h : i ≤ 9) : (128 : Int) ^ i ≤ 9223372036854775808 := by
  have : (128 : Nat) ^ i ≤ 128 ^ 9 := Nat.pow_le_pow_right (by decide) h
  have h2 : ((128 ^ i : Nat) : Int) ≤ ((128 ^ 9 : Nat) : Int) := Int.ofNat_le.2 this
  rw [Int.natCast_pow] at h2
  exact h2

/-- So far: the value of the first 'i' bytes, none of which is the last one. -/
def Run (b : List Nat) (i : Nat) (n : Int) : Prop := (∀ x ∈ b.take i, 128 ≤ x) ∧ (i ≤ 9 → n = ((uv (b.take i) : Nat) : Int)) ∧ -9223372036854775808 ≤ n ∧ n ≤ 9223372036854775807
theorem Run.start (b : List Nat) : Run b 0 0 := ⟨by simp, fun _ => by simp [uv], by omega, by omega⟩
theorem Run.lt {b : List Nat} {i : Nat} {n : Int} (h : Run b i n) (hi : i ≤ 9) (hl : i ≤ b.length) : 0 ≤ n ∧ n < 2 ^ (7 * i) := by
  have h1 := uv_lt (b.take i)
  rw [List.length_take, Nat.min_eq_left hl] at h1
  have h2 : ((uv (b.take i) : Nat) : Int) < ((128 ^ i : Nat) : Int) := Int.ofNat_lt.2 h1
  rw [h.2.1 hi, ← pow_seven]
  rw [Int.natCast_pow] at h2
  exact ⟨Int.natCast_nonneg _, h2⟩
theorem take_snoc {b : List Nat} {i : Nat} (h : i < b.length) : b.take (i + 1) = b.take i ++ [b.getD i 0] := by
  rw [List.take_succ_eq_append_getElem h]
  simp [List.getD_eq_getElem?_getD, List.getElem?_eq_getElem h]
/-- The next group is put to it. -/
theorem Run.put {b : List Nat} {i : Nat} {n : Int} (h : Run b i n) (hi : i ≤ 9) (hl : i < b.length) :
    bits .or .i64 n (wrap64 (((b.getD i 0 % 128 : Nat) : Int) * 2 ^ (7 * i))) = wrap64 ((uv (b.take (i + 1)) : Nat) : Int) := by
  have hb := h.lt hi (Nat.le_of_lt hl)
  rw [or_shift (by omega) hb.1 hb.2, h.2.1 hi, take_snoc hl, uv_snoc, List.length_take, Nat.min_eq_left (Nat.le_of_lt hl)]
  congr 1
  rw [← pow_seven]
  push_cast
  rw [Int.mul_comm]
theorem wrap64_uv {b : List Nat} {i : Nat} (hi : i + 1 ≤ 9) (hl : i < b.length) : wrap64 ((uv (b.take (i + 1)) : Nat) : Int) = ((uv (b.take (i + 1)) : Nat) : Int) ∧ ((uv (b.take (i + 1)) : Nat) : Int) < 2 ^ (7 * (i + 1)) := by
  have h1 := uv_lt (b.take (i + 1))
  rw [List.length_take, Nat.min_eq_left (by omega)] at h1
  have h2 : ((uv (b.take (i + 1)) : Nat) : Int) < ((128 ^ (i + 1) : Nat) : Int) := Int.ofNat_lt.2 h1
  rw [Int.natCast_pow] at h2
  have h3 := pow_le_sixty_three hi
  rw [← pow_seven]
  refine ⟨IntWalk.wrap64_in _ ⟨?_, ?_⟩, h2⟩
  · have := Int.natCast_nonneg (uv (b.take (i + 1))); omega
  · have h4 : (((128 : Nat) : Int)) ^ (i + 1) ≤ 9223372036854775808 := h3
    omega
theorem wrap64_bounds (n : Int) : -9223372036854775808 ≤ wrap64 n ∧ wrap64 n ≤ 9223372036854775807 := by unfold wrap64; omega
theorem Run.more {b : List Nat} {i : Nat} {n : Int} (h : Run b i n) (hl : i < b.length) (hc : 128 ≤ b.getD i 0) : Run b (i + 1) (wrap64 ((uv (b.take (i + 1)) : Nat) : Int)) := by
  refine ⟨fun x hx => ?_, fun h9 => (wrap64_uv h9 hl).1, wrap64_bounds _⟩
  rw [take_snoc hl] at hx
  rcases List.mem_append.1 hx with hx | hx
  · exact h.1 x hx
  · have : x = b.getD i 0 := by simpa using hx
    omega
/-- The last group is one of a number that is not negative. -/
theorem Run.low {b : List Nat} {i : Nat} {n : Int} (h : Run b i n) (hi : i ≤ 9) (hl : i < b.length) (hc : b.getD i 0 < 64) : cut 10 b = some (b.take (i + 1)) ∧ wrap64 ((uv (b.take (i + 1)) : Nat) : Int) = val (b.take (i + 1)) := by
  have e : b.getD i 0 = b[i] := by simp [List.getD_eq_getElem?_getD, List.getElem?_eq_getElem hl]
  refine ⟨cut_at 10 b i h.1 (by omega) hl (by omega), ?_⟩
  unfold val
  rw [take_snoc hl, sval_snoc, uv_snoc, top, if_pos (by omega), List.length_take, Nat.min_eq_left (Nat.le_of_lt hl)]
  push_cast
  rfl
theorem Run.high {b : List Nat} {i : Nat} {n : Int} (h : Run b i n) (hi : i ≤ 9) (hl : i < b.length) (hc : 64 ≤ b.getD i 0) (hc2 : b.getD i 0 < 128) : cut 10 b = some (b.take (i + 1)) ∧ bits .or .i64 (wrap64 ((uv (b.take (i + 1)) : Nat) : Int)) (wrap64 (-2 ^ (min (7 * (i + 1)) 64))) = val (b.take (i + 1)) := by
  have e : b.getD i 0 = b[i] := by simp [List.getD_eq_getElem?_getD, List.getElem?_eq_getElem hl]
  refine ⟨cut_at 10 b i h.1 (by omega) hl (by omega), ?_⟩
  have hv : val (b.take (i + 1)) = wrap64 (((uv (b.take (i + 1)) : Nat) : Int) - 128 ^ (i + 1)) := by
    unfold val
    rw [take_snoc hl, sval_snoc, uv_snoc, top, if_neg (by omega), List.length_take, Nat.min_eq_left (Nat.le_of_lt hl)]
    congr 1
    push_cast
    rw [Int.pow_succ, Int.mul_sub]
    omega
  rw [hv]
  rcases Nat.lt_or_ge i 9 with h9 | h9
  · have h1 := wrap64_uv (b := b) (i := i) (by omega) hl
    have h2 := or_shift (x := -1) (by omega) (Int.natCast_nonneg _) h1.2
    rw [Int.neg_one_mul] at h2
    rw [h1.1, Nat.min_eq_left (by omega), h2, pow_seven]
    rfl
  · obtain rfl : i = 9 := by omega
    have hz : wrap64 (-2 ^ (min (7 * (9 + 1)) 64)) = 0 := by decide +kernel
    rw [hz, i64_orV]
    have e0 : ((0 : Int) % 18446744073709551616).toNat = 0 := rfl
    rw [e0, Nat.or_zero]
    apply wrap64_mod
    have h2 := wrap64_emod ((uv (b.take (9 + 1)) : Nat) : Int)
    rw [show (128 : Int) ^ (9 + 1) = 1180591620717411303424 by decide]
    generalize wrap64 ((uv (b.take (9 + 1)) : Nat) : Int) = z at *
    omega
theorem Run.none {b : List Nat} {n : Int} (h : Run b (min b.length 10) n) : cut 10 b = none := by
  refine cut_no 10 b ?_
  rcases Nat.le_total b.length 10 with h1 | h1
  · rw [List.take_of_length_le h1]
    have := h.1
    rwa [Nat.min_eq_left h1, List.take_of_length_le (Nat.le_refl _)] at this
  · have := h.1
    rwa [Nat.min_eq_right h1] at this
end Vi
end Go.Proofs.YtjdgcgpidhljpaaGreatDoor
