/- Texts of this claim in one: Rf6 Rf7 Rf8 LgU. -/
import Derived.Test.YtmcfciifjgdgoaaDoorMg10
import Derived.Deep.DeepCutAuto
import Derived.Deep.RegionHeld3
import Derived.Test.YtmcfciifjgdgoaaDoorMg6
section
/- The walks of the document's own large numbers, part 6: sums and differences, and which is more. -/
namespace Go.Proofs.YtmcfciifjgdgoaaDoor
open Go.RowKit

end Go.Proofs.YtmcfciifjgdgoaaDoor
end

section
/- The walks of the document's own large numbers, part 7: which is less, products. -/
namespace Go.Proofs.YtmcfciifjgdgoaaDoor
open Go.RowKit

theorem sgnOf_long {na nb : Bool} {xs ys : List Nat} (lx : Dg.Low 4294967296 xs) (ly : Dg.Low 4294967296 ys) (ha : Lg.may na xs = true) (hb : Lg.may nb ys = true) (h : ¬ Lg.small (Lg.num na xs + flip true (Lg.num nb ys))) : sgnOf (Lg.num na xs + flip true (Lg.num nb ys)) = if na = true then -1 else 1 := by
  have ra := Lg.Rep.of_may lx ha
  have rb := Lg.Rep.of_may ly hb
  have sa := ra.len.1 (Lg.may_iff.1 ha).1
  have sb := rb.len.1 (Lg.may_iff.1 hb).1
  have na' := ra.neg
  generalize Lg.num na xs = x at *
  generalize Lg.num nb ys = y at *
  unfold Lg.small at *
  simp only [flip, if_true] at *
  generalize (4294967296 : Nat) ^ 64 = M at *
  unfold sgnOf
  by_cases hx : x < 0
  · rw [decide_eq_true hx] at na'
    rw [na', if_pos (show x + -y < 0 by omega), if_pos rfl]
  · rw [decide_eq_false hx] at na'
    have h1 : ¬ x + -y < 0 := by omega
    have h2 : ¬ x + -y = 0 := by omega
    rw [na', if_neg h1, if_neg h2]
    rfl

end Go.Proofs.YtmcfciifjgdgoaaDoor
end

section
/- The walks of the document's own large numbers, part 8: products. -/
namespace Go.Proofs.YtmcfciifjgdgoaaDoor
open Go.RowKit

theorem OwnNums.made1 (k : IntKind) (w0 w : World) (e : TypeId) (x : Nat) (hg : Grew w0 w) : OwnNums k w0 (w.alloc (.cells #[.int k ((x : Nat) : Int)] e)) e (some ⟨w.heap.size, 0, none⟩) 1 [x] := by
  refine ⟨by simp [numCells], .inr ⟨w.heap.size, 1, #[.int k ((x : Nat) : Int)], rfl, hg.below.size, heap_alloc_new w _, Nat.le_refl _, by decide, rfl, by simp [numCells]⟩⟩
theorem mul_round {P Q L : List Nat} {m : Nat} (hm : m < Q.length) (hv : Dg.val 2 L = Dg.val 2 P * Dg.val 2 (Q.drop (m + 1))) :
    (Q.getD m 0 = 0 → Dg.val 2 ([0] ++ L) = Dg.val 2 P * Dg.val 2 (Q.drop m)) ∧ (Q.getD m 0 = 1 → Dg.val 2 ([0] ++ L) + Dg.val 2 P = Dg.val 2 P * Dg.val 2 (Q.drop m)) := by
  have e : Dg.val 2 ([0] ++ L) = 2 * Dg.val 2 L := by simp
  rw [e, hv, Dg.val_drop 2 hm]
  refine ⟨fun h => ?_, fun h => ?_⟩
  · rw [h, Nat.zero_add, ← Nat.mul_assoc, ← Nat.mul_assoc, Nat.mul_comm 2]
  · rw [h, Nat.mul_add, Nat.mul_one, ← Nat.mul_assoc, ← Nat.mul_assoc, Nat.mul_comm 2]
    omega

end Go.Proofs.YtmcfciifjgdgoaaDoor
end

section
/- Texts that are numerals, and what they stand for. No program is named here. -/
namespace Go.Proofs.YtmcfciifjgdgoaaDoor
namespace Lg
open Dg
/-- The value of decimal digits, the highest first. -/
def dv (l : List Nat) : Nat := val 10 l.reverse
theorem dv_nil : dv [] = 0 := rfl
theorem dv_snoc (l : List Nat) (x : Nat) : dv (l ++ [x]) = 10 * dv l + x := by simp [dv]; omega
theorem dv_lt {l : List Nat} (h : Low 10 l) : dv l < 10 ^ l.length := by
  have := val_lt (B := 10) (xs := l.reverse) (fun x hx => h x (List.mem_reverse.1 hx))
  rwa [List.length_reverse] at this
theorem dv_pos {l : List Nat} (h0 : l.head? ≠ some 0) (hne : l ≠ []) : 0 < dv l := by
  refine val_pos (by decide) ?_ (by simpa using hne)
  simpa [Top] using h0
/-- A text's bytes. -/
def bytes (t : ByteArray) : List Nat := t.data.toList.map fun b => b.toNat
theorem bytes_len (t : ByteArray) : (bytes t).length = t.size := by rw [bytes, List.length_map, Array.length_toList]; rfl
theorem bytes_at (t : ByteArray) (k : Nat) (h : k < t.size) : (t[k]'h).toNat = (bytes t).getD k 0 := by
  have h' : k < t.data.size := h
  rw [bytes, List.getD_eq_getElem?_getD, List.getElem?_map, Array.getElem?_toList, Array.getElem?_eq_getElem h']
  rfl
theorem bytes_lt (t : ByteArray) : Low 256 (bytes t) := by
  intro x hx
  obtain ⟨b, _, rfl⟩ := List.mem_map.1 hx
  exact b.toNat_lt
def isDigit (x : Nat) : Bool := decide (48 ≤ x) && decide (x ≤ 57)
/-- Is what stands behind the sign as it must be? -/
def formOk (neg : Bool) (l : List Nat) : Bool := decide (1 ≤ l.length) && decide (l.length ≤ 700) && !(decide (1 < l.length) && decide (l.getD 0 0 = 48)) && !(neg && decide (l = [48])) && l.all isDigit
/-- The sign, and what stands behind it. -/
def signOf (l : List Nat) : Bool := decide (0 < l.length) && decide (l.getD 0 0 = 45)
def restOf (l : List Nat) : List Nat := if signOf l = true then l.drop 1 else l
def numOf (l : List Nat) : Int := sgn (signOf l) (dv ((restOf l).map (· - 48)))
/-- What comes of reading a text as a number. -/
structure ParseOut (l : List Nat) (neg : Bool) (xs : List Nat) (k : Nat) : Prop where
  no : formOk (signOf l) (restOf l) = false → k = 2 ∧ neg = false ∧ xs = []
  yes : formOk (signOf l) (restOf l) = true → Out (numOf l) neg xs k
theorem ParseOut.inj {l : List Nat} {n m : Bool} {xs ys : List Nat} {k j : Nat} (h : ParseOut l n xs k) (g : ParseOut l m ys j) : n = m ∧ xs = ys ∧ k = j := by
  cases hf : formOk (signOf l) (restOf l)
  · have h1 := h.no hf
    have g1 := g.no hf
    exact ⟨h1.2.1.trans g1.2.1.symm, h1.2.2.trans g1.2.2.symm, h1.1.trans g1.1.symm⟩
  · exact (h.yes hf).inj (g.yes hf)

/-- One decimal digit halved. -/
theorem half_round {D H : List Nat} {m c t : Nat} (hm : m < D.length) (hv : 2 * dv H + c = dv (D.take m)) (ht : t = 10 * c + D.getD m 0) :
    (2 * dv (H ++ [t / 2]) + t % 2 = dv (D.take (m + 1))) ∧ (H = [] → t / 2 = 0 → 2 * dv H + t % 2 = dv (D.take (m + 1))) := by
  have e := Dg.take_succ hm
  rw [e]
  simp only [dv_snoc]
  refine ⟨?_, fun h1 h2 => ?_⟩
  · omega
  · subst h1
    rw [dv_nil] at hv ⊢
    omega
theorem pow_le2 (b k m n : Nat) (hb : 0 < b) (h : n ≤ k * m) : b ^ n ≤ (b ^ k) ^ m := by
  rw [← Nat.pow_mul]
  exact Nat.pow_le_pow_right hb h
theorem pow_ge2 (b k m n : Nat) (hb : 0 < b) (h : k * m ≤ n) : (b ^ k) ^ m ≤ b ^ n := by
  rw [← Nat.pow_mul]
  exact Nat.pow_le_pow_right hb h
theorem dv_700 {l : List Nat} (h : Low 10 l) (hl : l.length ≤ 700) : dv l < (10 ^ 7) ^ 100 := by
  exact Nat.lt_of_lt_of_le (dv_lt h) (pow_le2 10 7 100 _ (by decide) (by omega))
/-- So many bits are enough. -/
theorem bits_bound {B : List Nat} {n N : Nat} (h : val 2 B + 2 ^ B.length * n = N) (hN : N < (10 ^ 7) ^ 100) (hn : 0 < n) : B.length < 2400 := by
  rcases Nat.lt_or_ge B.length 2400 with h1 | h1
  · exact h1
  · exfalso
    have h4 : ((10 : Nat) ^ 7) ^ 100 < (2 ^ 24) ^ 100 := Nat.pow_lt_pow_left (by decide) (by decide)
    have h2 : ((2 : Nat) ^ 24) ^ 100 ≤ 2 ^ B.length := pow_ge2 2 24 100 _ (by decide) (by omega)
    have h3 : 2 ^ B.length * 1 ≤ 2 ^ B.length * n := Nat.mul_le_mul_left _ hn
    generalize ((2 : Nat) ^ 24) ^ 100 = X at *
    generalize ((10 : Nat) ^ 7) ^ 100 = Y at *
    omega
end Lg
end Go.Proofs.YtmcfciifjgdgoaaDoor
end
