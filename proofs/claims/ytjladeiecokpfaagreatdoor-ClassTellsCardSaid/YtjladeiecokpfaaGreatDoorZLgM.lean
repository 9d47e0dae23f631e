/- Parts of elder texts that this layer needs, joined: XYLgM. -/
import Derived.Test.YtjladeiecokpfaaGreatDoorZBase
import Derived.Laws.BytesArg
namespace Go.Proofs.YtjladeiecokpfaaGreatDoor
namespace Lg
open Dg
/-- The number of a sign and a magnitude. -/
def sgn (neg : Bool) (n : Nat) : Int := if neg = true then -(n : Int) else (n : Int)
theorem sgn_abs (neg : Bool) (n : Nat) : (sgn neg n).natAbs = n := by cases neg <;> simp [sgn]
/-- A sign and words stand for 'z', in the one way in which they may. -/
structure Rep (neg : Bool) (xs : List Nat) (z : Int) : Prop where
  low : Low 4294967296 xs
  top : Top xs
  val : val 4294967296 xs = z.natAbs
  neg : neg = decide (z < 0)
theorem Rep.inj {n m : Bool} {xs ys : List Nat} {z : Int} (h : Rep n xs z) (k : Rep m ys z) : n = m ∧ xs = ys :=
  ⟨h.neg.trans k.neg.symm, val_inj (by decide) h.low k.low h.top k.top (h.val.trans k.val.symm)⟩
theorem Rep.zero : Rep false [] 0 := ⟨Low.nil _, Top.nil, rfl, rfl⟩
/-- The number that words stand for with a sign, if there may be one. -/
def num (neg : Bool) (xs : List Nat) : Int := sgn neg (Dg.val 4294967296 xs)
/-- May there be one? -/
def may (neg : Bool) (xs : List Nat) : Bool := decide (xs.length ≤ 64) && (decide (xs.length = 0) || decide (0 < xs.getD (xs.length - 1) 0)) && (decide (0 < xs.length) || !neg)
theorem may_iff {neg : Bool} {xs : List Nat} : may neg xs = true ↔ xs.length ≤ 64 ∧ (xs.length = 0 ∨ 0 < xs.getD (xs.length - 1) 0) ∧ (0 < xs.length ∨ neg = false) := by
  unfold may
  simp only [Bool.and_eq_true, Bool.or_eq_true, decide_eq_true_eq, Bool.not_eq_true', and_assoc]
/-- Has it at most 64 words? -/
def small (z : Int) : Prop := z.natAbs < 4294967296 ^ 64
instance small.dec (z : Int) : Decidable (small z) := by unfold small; exact inferInstance
theorem Rep.len {neg : Bool} {xs : List Nat} {z : Int} (h : Rep neg xs z) : xs.length ≤ 64 ↔ small z := by
  unfold small
  rw [← h.val]
  constructor
  · intro hl
    exact Nat.lt_of_lt_of_le (val_lt h.low) (Nat.pow_le_pow_right (by decide) hl)
  · intro hv
    rcases Nat.lt_or_ge 64 xs.length with hlt | hge
    · exfalso
      have hne : xs ≠ [] := by rintro rfl; simp at hlt
      have h1 := val_ge (B := 4294967296) h.top hne
      have h2 : (4294967296 : Nat) ^ 64 ≤ 4294967296 ^ (xs.length - 1) := Nat.pow_le_pow_right (by decide) (by omega)
      exact absurd (Nat.le_trans h2 h1) (Nat.not_le_of_lt hv)
    · exact hge
theorem Rep.may {neg : Bool} {xs : List Nat} {z : Int} (h : Rep neg xs z) (hz : small z) : Lg.may neg xs = true := by
  refine may_iff.2 ⟨h.len.2 hz, ?_, ?_⟩
  · rcases Nat.eq_zero_or_pos xs.length with h0 | h0
    · exact .inl h0
    · refine .inr ?_
      rcases List.eq_nil_or_concat xs with rfl | ⟨r, x, rfl⟩
      · simp at h0
      · have := h.top
        rw [List.concat_eq_append] at this ⊢
        have hx : x ≠ 0 := by simpa [Top] using this
        simp [List.getD_eq_getElem?_getD]
        omega
  · rcases Nat.eq_zero_or_pos xs.length with h0 | h0
    · refine .inr ?_
      have e := List.eq_nil_of_length_eq_zero h0
      have hv := h.val
      rw [e] at hv
      have : z = 0 := by simp at hv; omega
      rw [h.neg, this]; rfl
    · exact .inl h0
theorem Rep.num {neg : Bool} {xs : List Nat} {z : Int} (h : Rep neg xs z) : Lg.num neg xs = z := by
  unfold Lg.num sgn
  rw [h.val, h.neg]
  by_cases hz : z < 0
  · rw [decide_eq_true hz, if_pos rfl]; omega
  · rw [decide_eq_false hz, if_neg (by decide)]; omega
/-- What comes of an operation whose result is 'z': its words, or the error's number and nothing. -/
structure Out (z : Int) (neg : Bool) (xs : List Nat) (e : Nat) : Prop where
  yes : small z → e = 0 ∧ Rep neg xs z
  no : ¬ small z → e = 4 ∧ neg = false ∧ xs = []
theorem Out.of_rep {z : Int} {neg : Bool} {xs : List Nat} (h : Rep neg xs z) (hl : xs.length ≤ 64) : Out z neg xs 0 :=
  ⟨fun _ => ⟨rfl, h⟩, fun hz => absurd (h.len.1 hl) hz⟩
theorem Out.of_long {z : Int} {neg : Bool} {xs : List Nat} (h : Rep neg xs z) (hl : 64 < xs.length) : Out z false [] 4 :=
  ⟨fun hz => absurd (h.len.2 hz) (by omega), fun _ => ⟨rfl, rfl, rfl⟩⟩
theorem Out.inj {n m : Bool} {xs ys : List Nat} {z : Int} {e f : Nat} (h : Out z n xs e) (k : Out z m ys f) : n = m ∧ xs = ys ∧ e = f := by
  by_cases hz : small z
  · have h1 := h.yes hz
    have h2 := k.yes hz
    have h3 := h1.2.inj h2.2
    exact ⟨h3.1, h3.2, h1.1.trans h2.1.symm⟩
  · have h1 := h.no hz
    have h2 := k.no hz
    exact ⟨h1.2.1.trans h2.2.1.symm, h1.2.2.trans h2.2.2.symm, h1.1.trans h2.1.symm⟩
theorem sgn_neg (neg : Bool) (n : Nat) : (neg && decide (n ≠ 0)) = decide (sgn neg n < 0) := by
  cases neg with
  | false => simp [sgn]
  | true =>
    rw [sgn, if_pos rfl, Bool.true_and, decide_eq_decide]
    omega
end Lg
end Go.Proofs.YtjladeiecokpfaaGreatDoor
namespace Go.Proofs.YtjladeiecokpfaaGreatDoor
namespace Lg
open Dg
end Lg
end Go.Proofs.YtjladeiecokpfaaGreatDoor
namespace Go.Proofs.YtjladeiecokpfaaGreatDoor
namespace Lg
open Dg
/-- The value of decimal digits, the highest first. -/
def dv (l : List Nat) : Nat := val 10 l.reverse
theorem dv_nil : dv [] = 0 := rfl
theorem dv_snoc (l : List Nat) (x : Nat) : dv (l ++ [x]) = 10 * dv l + x := by simp [dv]; omega
theorem dv_lt {l : List Nat} (h : Low 10 l) : dv l < 10 ^ l.length := by
  have := val_lt (B := 10) (xs := l.reverse) (fun x hx => h x (List.mem_reverse.1 hx))
  rwa [List.length_reverse] at this
theorem dv_pos {l : List Nat} (h0 : l.head? ≠ some 0) (hne : l ≠ []) : 0 < dv l := by
  refine val_pos (by decide) ?_ (by simpa using hne)
  simpa [Top] using h0
/-- A text's bytes. -/
def bytes (t : ByteArray) : List Nat := t.data.toList.map fun b => b.toNat
theorem bytes_len (t : ByteArray) : (bytes t).length = t.size := by rw [bytes, List.length_map, Array.length_toList]; rfl
theorem bytes_at (t : ByteArray) (k : Nat) (h : k < t.size) : (t[k]'h).toNat = (bytes t).getD k 0 := by
  have h' : k < t.data.size := h
  rw [bytes, List.getD_eq_getElem?_getD, List.getElem?_map, Array.getElem?_toList, Array.getElem?_eq_getElem h']
  rfl
theorem bytes_lt (t : ByteArray) : Low 256 (bytes t) := by
  intro x hx
  obtain ⟨b, _, rfl⟩ := List.mem_map.1 hx
  exact b.toNat_lt
def isDigit (x : Nat) : Bool := decide (48 ≤ x) && decide (x ≤ 57)
/-- Is what stands behind the sign as it must be? -/
def formOk (neg : Bool) (l : List Nat) : Bool := decide (1 ≤ l.length) && decide (l.length ≤ 700) && !(decide (1 < l.length) && decide (l.getD 0 0 = 48)) && !(neg && decide (l = [48])) && l.all isDigit
/-- The sign, and what stands behind it. -/
def signOf (l : List Nat) : Bool := decide (0 < l.length) && decide (l.getD 0 0 = 45)
def restOf (l : List Nat) : List Nat := if signOf l = true then l.drop 1 else l
def numOf (l : List Nat) : Int := sgn (signOf l) (dv ((restOf l).map (· - 48)))
/-- What comes of reading a text as a number. -/
structure ParseOut (l : List Nat) (neg : Bool) (xs : List Nat) (k : Nat) : Prop where
  no : formOk (signOf l) (restOf l) = false → k = 2 ∧ neg = false ∧ xs = []
  yes : formOk (signOf l) (restOf l) = true → Out (numOf l) neg xs k
theorem ParseOut.inj {l : List Nat} {n m : Bool} {xs ys : List Nat} {k j : Nat} (h : ParseOut l n xs k) (g : ParseOut l m ys j) : n = m ∧ xs = ys ∧ k = j := by
  cases hf : formOk (signOf l) (restOf l)
  · have h1 := h.no hf
    have g1 := g.no hf
    exact ⟨h1.2.1.trans g1.2.1.symm, h1.2.2.trans g1.2.2.symm, h1.1.trans g1.1.symm⟩
  · exact (h.yes hf).inj (g.yes hf)

/-- One decimal digit halved. -/
theorem half_round {D H : List Nat} {m c t : Nat} (hm : m < D.length) (hv : 2 * dv H + c = dv (D.take m)) (ht : t = 10 * c + D.getD m 0) :
    (2 * dv (H ++ [t / 2]) + t % 2 = dv (D.take (m + 1))) ∧ (H = [] → t / 2 = 0 → 2 * dv H + t % 2 = dv (D.take (m + 1))) := by
  have e := Dg.take_succ hm
  rw [e]
  simp only [dv_snoc]
  refine ⟨?_, fun h1 h2 => ?_⟩
  · omega
  · subst h1
    rw [dv_nil] at hv ⊢
    omega
theorem pow_le2 (b k m n : Nat) (hb : 0 < b) (h : n ≤ k * m) : b ^ n ≤ (b ^ k) ^ m := by
  rw [← Nat.pow_mul]
  exact Nat.pow_le_pow_right hb h
theorem pow_ge2 (b k m n : Nat) (hb : 0 < b) (h : k * m ≤ n) : (b ^ k) ^ m ≤ b ^ n := by
  rw [← Nat.pow_mul]
  exact Nat.pow_le_pow_right hb h
theorem dv_700 {l : List Nat} (h : Low 10 l) (hl : l.length ≤ 700) : dv l < (10 ^ 7) ^ 100 := by
  exact Nat.lt_of_lt_of_le (dv_lt h) (pow_le2 10 7 100 _ (by decide) (by omega))
/-- So many bits are enough. -/
theorem bits_bound {B : List Nat} {n N : Nat} (h : val 2 B + 2 ^ B.length * n = N) (hN : N < (10 ^ 7) ^ 100) (hn : 0 < n) : B.length < 2400 := by
  rcases Nat.lt_or_ge B.length 2400 with h1 | h1
  · exact h1
  · exfalso
    have h4 : ((10 : Nat) ^ 7) ^ 100 < (2 ^ 24) ^ 100 := Nat.pow_lt_pow_left (by decide) (by decide)
    have h2 : ((2 : Nat) ^ 24) ^ 100 ≤ 2 ^ B.length := pow_ge2 2 24 100 _ (by decide) (by omega)
    have h3 : 2 ^ B.length * 1 ≤ 2 ^ B.length * n := Nat.mul_le_mul_left _ hn
    generalize ((2 : Nat) ^ 24) ^ 100 = X at *
    generalize ((10 : Nat) ^ 7) ^ 100 = Y at *
    omega
end Lg
end Go.Proofs.YtjladeiecokpfaaGreatDoor
