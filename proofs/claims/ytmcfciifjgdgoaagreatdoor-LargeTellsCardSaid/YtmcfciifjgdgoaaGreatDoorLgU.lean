/- Texts that are numerals, and what they stand for. No program is named here. -/
import Derived.Test.YtmcfciifjgdgoaaGreatDoorLgP
namespace Go.Proofs.YtmcfciifjgdgoaaGreatDoor
namespace Lg
open Dg
/-- The value of decimal digits, the highest first. -/
def dv (l : List Nat) : Nat := val 10 l.reverse
theorem dv_nil : dv [] = 0 := rfl
theorem dv_snoc (l : List Nat) (x : Nat) : dv (l ++ [x]) = 10 * dv l + x := by simp [dv]; omega
theorem dv_lt {l : List Nat} (h : Low 10 l) : dv l < 10 ^ l.length := by
  have := val_lt (B := 10) (xs := l.reverse) (fun x hx => h x (List.mem_reverse.1 hx))
  rwa [List.length_reverse] at this
theorem dv_pos {l : List Nat} (h0 : l.head? ≠ some 0) (hne : l ≠ []) : 0 < dv l := by
  refine val_pos (by decide) ?_ (by simpa using hne)
  simpa [Top] using h0
/-- A text's bytes. -/
def bytes (t : ByteArray) : List Nat := t.data.toList.map fun b => b.toNat
theorem bytes_len (t : ByteArray) : (bytes t).length = t.size := by rw [bytes, List.length_map, Array.length_toList]; rfl
theorem bytes_at (t : ByteArray) (k : Nat) (h : k < t.size) : (t[k]'h).toNat = (bytes t).getD k 0 := by
  have h' : k < t.data.size := h
  rw [bytes, List.getD_eq_getElem?_getD, List.getElem?_map, Array.getElem?_toList, Array.getElem?_eq_getElem h']
  rfl
theorem bytes_lt (t : ByteArray) : Low 256 (bytes t) := by
  intro x hx
  obtain ⟨b, _, rfl⟩ := List.mem_map.1 hx
  exact b.toNat_lt
def isDigit (x : Nat) : Bool := decide (48 ≤ x) && decide (x ≤ 57)
/-- Is what stands behind the sign as it must be? -/
def formOk (neg : Bool) (l : List Nat) : Bool := decide (1 ≤ l.length) && decide (l.length ≤ 700) && !(decide (1 < l.length) && decide (l.getD 0 0 = 48)) && !(neg && decide (l = [48])) && l.all isDigit
/-- The sign, and what stands behind it. -/
def signOf (l : List Nat) : Bool := decide (0 < l.length) && decide (l.getD 0 0 = 45)
def restOf (l : List Nat) : List Nat := if signOf l = true then l.drop 1 else l
def numOf (l : List Nat) : Int := sgn (signOf l) (dv ((restOf l).map (· - 48)))
/-- What comes of reading a text as a number. -/
structure ParseOut (l : List Nat) (neg : Bool) (xs : List Nat) (k : Nat) : Prop where
  no : formOk (signOf l) (restOf l) = false → k = 2 ∧ neg = false ∧ xs = []
  yes : formOk (signOf l) (restOf l) = true → Out (numOf l) neg xs k
theorem ParseOut.inj {l : List Nat} {n m : Bool} {xs ys : List Nat} {k j : Nat} (h : ParseOut l n xs k) (g : ParseOut l m ys j) : n = m ∧ xs = ys ∧ k = j := by
  cases hf : formOk (signOf l) (restOf l)
  · have h1 := h.no hf
    have g1 := g.no hf
    exact ⟨h1.2.1.trans g1.2.1.symm, h1.2.2.trans g1.2.2.symm, h1.1.trans g1.1.symm⟩
  · exact (h.yes hf).inj (g.yes hf)

/-- One decimal digit halved. -/
theorem half_round {D H : List Nat} {m c t : Nat} (hm : m < D.length) (hv : 2 * dv H + c = dv (D.take m)) (ht : t = 10 * c + D.getD m 0) :
    (2 * dv (H ++ [t / 2]) + t % 2 = dv (D.take (m + 1))) ∧ (H = [] → t / 2 = 0 → 2 * dv H + t % 2 = dv (D.take (m + 1))) := by
  have e := Dg.take_succ hm
  rw [e]
  simp only [dv_snoc]
  refine ⟨?_, fun h1 h2 => ?_⟩
  · omega
  · subst h1
    rw [dv_nil] at hv ⊢
    omega
theorem pow_le2 (b k m n : Nat) (hb : 0 < b) (h : n ≤ k * m) : b ^ n ≤ (b ^ k) ^ m := by
  rw [← Nat.pow_mul]
  exact Nat.pow_le_pow_right hb h
theorem pow_ge2 (b k m n : Nat) (hb : 0 < b) (h : k * m ≤ n) : (b ^ k) ^ m ≤ b ^ n := by
  rw [← Nat.pow_mul]
  exact Nat.pow_le_pow_right hb h
theorem dv_700 {l : List Nat} (h : Low 10 l) (hl : l.length ≤ 700) : dv l < (10 ^ 7) ^ 100 := by
  exact Nat.lt_of_lt_of_le (dv_lt h) (pow_le2 10 7 100 _ (by decide) (by omega))
/-- So many bits are enough. -/
theorem bits_bound {B : List Nat} {n N : Nat} (h : val 2 B + 2 ^ B.length * n = N) (hN : N < (10 ^ 7) ^ 100) (hn : 0 < n) : B.length < 2400 := by
  rcases Nat.lt_or_ge B.length 2400 with h1 | h1
  · exact h1
  · exfalso
    have h4 : ((10 : Nat) ^ 7) ^ 100 < (2 ^ 24) ^ 100 := Nat.pow_lt_pow_left (by decide) (by decide)
    have h2 : ((2 : Nat) ^ 24) ^ 100 ≤ 2 ^ B.length := pow_ge2 2 24 100 _ (by decide) (by omega)
    have h3 : 2 ^ B.length * 1 ≤ 2 ^ B.length * n := Nat.mul_le_mul_left _ hn
    generalize ((2 : Nat) ^ 24) ^ 100 = X at *
    generalize ((10 : Nat) ^ 7) ^ 100 = Y at *
    omega
end Lg
end Go.Proofs.YtmcfciifjgdgoaaGreatDoor
