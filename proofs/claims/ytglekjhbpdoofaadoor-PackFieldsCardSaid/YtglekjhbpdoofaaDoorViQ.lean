/- Plain mathematics of signed LEB128: groups of bits put together. No program is named here. -/
import Derived.Test.YtglekjhbpdoofaaDoorViP
import Derived.Laws.BitsAllLaws
namespace Go.Proofs.YtglekjhbpdoofaaDoor
open Go.RowKit

/-! ### Bits of 64 -/
theorem wrap64_of (n : Int) : IntKind.i64.wrap n = wrap64 n := by
  rw [IntKind.wrap_i64]; unfold wrap64; omega
theorem ofInt_i64 (n : Int) : (BitVec.ofInt 64 n).toNat = (n % 18446744073709551616).toNat := by
  simp [BitVec.toNat_ofInt]
theorem i64_and (a b : Int) : bits .and .i64 a b = wrap64 (((a % 18446744073709551616).toNat &&& (b % 18446744073709551616).toNat : Nat) : Int) := by
  show IntKind.i64.wrap ((BitVec.ofInt 64 a &&& BitVec.ofInt 64 b).toNat : Int) = _
  rw [BitVec.toNat_and, ofInt_i64, ofInt_i64, wrap64_of]
theorem i64_or (a b : Int) : bits .or .i64 a b = wrap64 (((a % 18446744073709551616).toNat ||| (b % 18446744073709551616).toNat : Nat) : Int) := by
  show IntKind.i64.wrap ((BitVec.ofInt 64 a ||| BitVec.ofInt 64 b).toNat : Int) = _
  rw [BitVec.toNat_or, ofInt_i64, ofInt_i64, wrap64_of]
theorem and_127 (n : Int) : bits .and .i64 n 127 = n % 128 := by
  rw [i64_and, show ((127 : Int) % 18446744073709551616).toNat = 127 from rfl, nat_mask7]
  unfold wrap64
  omega
theorem or_128 {n : Int} (h0 : 0 ≤ n) (h1 : n < 128) : bits .or .i64 n 128 = n + 128 := by
  rw [i64_or, show ((128 : Int) % 18446744073709551616).toNat = 128 from rfl, Nat.or_comm, nat_join 7 128 _ (by decide) (by omega)]
  unfold wrap64
  omega
theorem wrap64_mod (a b : Int) (h : a % 18446744073709551616 = b % 18446744073709551616) : wrap64 a = wrap64 b := by
  unfold wrap64; omega
theorem wrap64_emod (a : Int) : wrap64 a % 18446744073709551616 = a % 18446744073709551616 := by
  unfold wrap64; omega
/-- What is shifted past a number is put to it. -/
theorem or_shift {n x : Int} {k : Nat} (hk : k ≤ 64) (h0 : 0 ≤ n) (h1 : n < 2 ^ k) : bits .or .i64 n (wrap64 (x * 2 ^ k)) = wrap64 (n + x * 2 ^ k) := by
  obtain ⟨N, rfl⟩ := Int.eq_ofNat_of_zero_le h0
  have hp : (2 : Nat) ^ k * 2 ^ (64 - k) = 18446744073709551616 := by
    rw [← Nat.pow_add, show k + (64 - k) = 64 by omega]
  have hN : N < 2 ^ k := by
    have : ((N : Nat) : Int) < ((2 ^ k : Nat) : Int) := by rw [Int.natCast_pow]; exact h1
    exact Int.ofNat_lt.1 this
  have hle : (2 : Nat) ^ k ≤ 18446744073709551616 := by
    rw [← hp]; exact Nat.le_mul_of_pos_right _ (Nat.pow_pos (by decide))
  rw [i64_or, wrap64_emod]
  have e1 : (((N : Nat) : Int) % 18446744073709551616).toNat = N := by omega
  obtain ⟨Y, hY⟩ : ∃ Y, Y = ((x * 2 ^ k) % 18446744073709551616).toNat := ⟨_, rfl⟩
  have hYi : (Y : Int) = (x * 2 ^ k) % 18446744073709551616 := by omega
  have hYm : Y % 2 ^ k = 0 := by
    have h3 : ((Y % 2 ^ k : Nat) : Int) = 0 := by
      rw [Int.natCast_emod, hYi, Int.natCast_pow]
      have h4 : ((2 : Int) ^ k) ∣ 18446744073709551616 := ⟨2 ^ (64 - k), by rw [← Int.pow_add, show k + (64 - k) = 64 by omega]; decide⟩
      exact (Int.emod_emod_of_dvd _ h4).trans (Int.mul_emod_left x _)
    omega
  rw [e1, ← hY, Nat.or_comm, nat_join k Y N hYm hN]
  apply wrap64_mod
  rw [Int.natCast_add, hYi]
  generalize x * 2 ^ k = z at *
  omega

namespace Vi
/-- The groups put together, all bits counted. -/
def uv : List Nat → Nat
  | [] => 0
  | x :: r => x % 128 + 128 * uv r
theorem uv_snoc : ∀ (l : List Nat) (c : Nat), uv (l ++ [c]) = uv l + 128 ^ l.length * (c % 128)
  | [], c => by simp [uv]
  | x :: r, c => by
    have := uv_snoc r c
    simp only [List.cons_append, uv, List.length_cons, this, Nat.pow_succ]
    rw [Nat.mul_add, ← Nat.mul_assoc, Nat.mul_comm 128 (128 ^ r.length)]
    omega
theorem uv_lt : ∀ (l : List Nat), uv l < 128 ^ l.length
  | [] => by simp [uv]
  | x :: r => by
    have := uv_lt r
    have h2 : x % 128 < 128 := Nat.mod_lt _ (by decide)
    simp only [uv, List.length_cons, Nat.pow_succ]
    omega
/-- The last group, signed. -/
def top (c : Nat) : Int := if c % 128 < 64 then ((c % 128 : Nat) : Int) else ((c % 128 : Nat) : Int) - 128
theorem sval_snoc : ∀ (l : List Nat) (c : Nat), sval (l ++ [c]) = (uv l : Int) + 128 ^ l.length * top c
  | [], c => by simp [uv, sval, top]
  | x :: r, c => by
    have := sval_snoc r c
    rw [List.cons_append, sval_cons (by simp), this]
    simp only [uv, List.length_cons, Int.pow_succ]
    rw [Int.mul_add, ← Int.mul_assoc, Int.mul_comm 128 ((128 : Int) ^ r.length)]
    push_cast
    omega
theorem cut_at : ∀ (f : Nat) (b : List Nat) (i : Nat), (∀ x ∈ b.take i, 128 ≤ x) → i < f → (h : i < b.length) → b[i] < 128 → cut f b = some (b.take (i + 1))
  | 0, _, _, _, h, _, _ => absurd h (by omega)
  | f + 1, [], _, _, _, h, _ => absurd h (by simp)
  | f + 1, x :: r, 0, _, _, _, h => by rw [cut_low (by simpa using h)]; simp
  | f + 1, x :: r, i + 1, ha, hf, hl, h => by
    rw [cut_high (ha x (by simp)), cut_at f r i (fun y hy => ha y (by simp [hy])) (by omega) (by simpa using hl) (by simpa using h)]
    simp
theorem cut_no : ∀ (f : Nat) (b : List Nat), (∀ x ∈ b.take f, 128 ≤ x) → cut f b = none
  | 0, b, _ => rfl
  | f + 1, [], _ => rfl
  | f + 1, x :: r, h => by
    rw [cut_high (h x (by simp)), cut_no f r (fun y hy => h y (by simp [hy]))]
    rfl
theorem pow_seven (i : Nat) : (128 : Int) ^ i = 2 ^ (7 * i) := by
  rw [Int.pow_mul]; rfl
theorem pow_seven_nat (i : Nat) : (128 : Nat) ^ i = 2 ^ (7 * i) := by
  rw [Nat.pow_mul]
theorem pow_le_sixty_three {i : Nat} (h : i ≤ 9) : (128 : Int) ^ i ≤ 9223372036854775808 := by
  have : (128 : Nat) ^ i ≤ 128 ^ 9 := Nat.pow_le_pow_right (by decide) h
  have h2 : ((128 ^ i : Nat) : Int) ≤ ((128 ^ 9 : Nat) : Int) := Int.ofNat_le.2 this
  rw [Int.natCast_pow] at h2
  exact h2

/-- So far: the value of the first 'i' bytes, none of which is the last one. -/
def Run (b : List Nat) (i : Nat) (n : Int) : Prop := (∀ x ∈ b.take i, 128 ≤ x) ∧ (i ≤ 9 → n = ((uv (b.take i) : Nat) : Int)) ∧ -9223372036854775808 ≤ n ∧ n ≤ 9223372036854775807
theorem Run.start (b : List Nat) : Run b 0 0 := ⟨by simp, fun _ => by simp [uv], by omega, by omega⟩
theorem Run.lt {b : List Nat} {i : Nat} {n : Int} (h : Run b i n) (hi : i ≤ 9) (hl : i ≤ b.length) : 0 ≤ n ∧ n < 2 ^ (7 * i) := by
  have h1 := uv_lt (b.take i)
  rw [List.length_take, Nat.min_eq_left hl] at h1
  have h2 : ((uv (b.take i) : Nat) : Int) < ((128 ^ i : Nat) : Int) := Int.ofNat_lt.2 h1
  rw [h.2.1 hi, ← pow_seven]
  rw [Int.natCast_pow] at h2
  exact ⟨Int.natCast_nonneg _, h2⟩
theorem take_snoc {b : List Nat} {i : Nat} (h : i < b.length) : b.take (i + 1) = b.take i ++ [b.getD i 0] := by
  rw [List.take_succ_eq_append_getElem h]
  simp [List.getD_eq_getElem?_getD, List.getElem?_eq_getElem h]
/-- The next group is put to it. -/
theorem Run.put {b : List Nat} {i : Nat} {n : Int} (h : Run b i n) (hi : i ≤ 9) (hl : i < b.length) :
    bits .or .i64 n (wrap64 (((b.getD i 0 % 128 : Nat) : Int) * 2 ^ (7 * i))) = wrap64 ((uv (b.take (i + 1)) : Nat) : Int) := by
  have hb := h.lt hi (Nat.le_of_lt hl)
  rw [or_shift (by omega) hb.1 hb.2, h.2.1 hi, take_snoc hl, uv_snoc, List.length_take, Nat.min_eq_left (Nat.le_of_lt hl)]
  congr 1
  rw [← pow_seven]
  push_cast
  rw [Int.mul_comm]
theorem wrap64_uv {b : List Nat} {i : Nat} (hi : i + 1 ≤ 9) (hl : i < b.length) : wrap64 ((uv (b.take (i + 1)) : Nat) : Int) = ((uv (b.take (i + 1)) : Nat) : Int) ∧ ((uv (b.take (i + 1)) : Nat) : Int) < 2 ^ (7 * (i + 1)) := by
  have h1 := uv_lt (b.take (i + 1))
  rw [List.length_take, Nat.min_eq_left (by omega)] at h1
  have h2 : ((uv (b.take (i + 1)) : Nat) : Int) < ((128 ^ (i + 1) : Nat) : Int) := Int.ofNat_lt.2 h1
  rw [Int.natCast_pow] at h2
  have h3 := pow_le_sixty_three hi
  rw [← pow_seven]
  refine ⟨IntWalk.wrap64_in _ ⟨?_, ?_⟩, h2⟩
  · have := Int.natCast_nonneg (uv (b.take (i + 1))); omega
  · have h4 : (((128 : Nat) : Int)) ^ (i + 1) ≤ 9223372036854775808 := h3
    omega
theorem wrap64_bounds (n : Int) : -9223372036854775808 ≤ wrap64 n ∧ wrap64 n ≤ 9223372036854775807 := by unfold wrap64; omega
theorem Run.more {b : List Nat} {i : Nat} {n : Int} (h : Run b i n) (hl : i < b.length) (hc : 128 ≤ b.getD i 0) : Run b (i + 1) (wrap64 ((uv (b.take (i + 1)) : Nat) : Int)) := by
  refine ⟨fun x hx => ?_, fun h9 => (wrap64_uv h9 hl).1, wrap64_bounds _⟩
  rw [take_snoc hl] at hx
  rcases List.mem_append.1 hx with hx | hx
  · exact h.1 x hx
  · have : x = b.getD i 0 := by simpa using hx
    omega
/-- The last group is one of a number that is not negative. -/
theorem Run.low {b : List Nat} {i : Nat} {n : Int} (h : Run b i n) (hi : i ≤ 9) (hl : i < b.length) (hc : b.getD i 0 < 64) : cut 10 b = some (b.take (i + 1)) ∧ wrap64 ((uv (b.take (i + 1)) : Nat) : Int) = val (b.take (i + 1)) := by
  have e : b.getD i 0 = b[i] := by simp [List.getD_eq_getElem?_getD, List.getElem?_eq_getElem hl]
  refine ⟨cut_at 10 b i h.1 (by omega) hl (by omega), ?_⟩
  unfold val
  rw [take_snoc hl, sval_snoc, uv_snoc, top, if_pos (by omega), List.length_take, Nat.min_eq_left (Nat.le_of_lt hl)]
  push_cast
  rfl
theorem Run.high {b : List Nat} {i : Nat} {n : Int} (h : Run b i n) (hi : i ≤ 9) (hl : i < b.length) (hc : 64 ≤ b.getD i 0) (hc2 : b.getD i 0 < 128) : cut 10 b = some (b.take (i + 1)) ∧ bits .or .i64 (wrap64 ((uv (b.take (i + 1)) : Nat) : Int)) (wrap64 (-2 ^ (min (7 * (i + 1)) 64))) = val (b.take (i + 1)) := by
  have e : b.getD i 0 = b[i] := by simp [List.getD_eq_getElem?_getD, List.getElem?_eq_getElem hl]
  refine ⟨cut_at 10 b i h.1 (by omega) hl (by omega), ?_⟩
  have hv : val (b.take (i + 1)) = wrap64 (((uv (b.take (i + 1)) : Nat) : Int) - 128 ^ (i + 1)) := by
    unfold val
    rw [take_snoc hl, sval_snoc, uv_snoc, top, if_neg (by omega), List.length_take, Nat.min_eq_left (Nat.le_of_lt hl)]
    congr 1
    push_cast
    rw [Int.pow_succ, Int.mul_sub]
    omega
  rw [hv]
  rcases Nat.lt_or_ge i 9 with h9 | h9
  · have h1 := wrap64_uv (b := b) (i := i) (by omega) hl
    have h2 := or_shift (x := -1) (by omega) (Int.natCast_nonneg _) h1.2
    rw [Int.neg_one_mul] at h2
    rw [h1.1, Nat.min_eq_left (by omega), h2, pow_seven]
    rfl
  · obtain rfl : i = 9 := by omega
    have hz : wrap64 (-2 ^ (min (7 * (9 + 1)) 64)) = 0 := by decide +kernel
    rw [hz, i64_or]
    have e0 : ((0 : Int) % 18446744073709551616).toNat = 0 := rfl
    rw [e0, Nat.or_zero]
    apply wrap64_mod
    have h2 := wrap64_emod ((uv (b.take (9 + 1)) : Nat) : Int)
    rw [show (128 : Int) ^ (9 + 1) = 1180591620717411303424 by decide]
    generalize wrap64 ((uv (b.take (9 + 1)) : Nat) : Int) = z at *
    omega
theorem Run.none {b : List Nat} {n : Int} (h : Run b (min b.length 10) n) : cut 10 b = none := by
  refine cut_no 10 b ?_
  rcases Nat.le_total b.length 10 with h1 | h1
  · rw [List.take_of_length_le h1]
    have := h.1
    rwa [Nat.min_eq_left h1, List.take_of_length_le (Nat.le_refl _)] at this
  · have := h.1
    rwa [Nat.min_eq_right h1] at this
end Vi
end Go.Proofs.YtglekjhbpdoofaaDoor
