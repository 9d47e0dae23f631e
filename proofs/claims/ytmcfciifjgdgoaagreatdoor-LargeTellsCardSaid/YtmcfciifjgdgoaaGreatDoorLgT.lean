/- Numerals: decimal digits of a number, and as bytes. No program is named here. -/
import Derived.Test.YtmcfciifjgdgoaaGreatDoorLgP
import Derived.Laws.BytesArg
namespace Go.Proofs.YtmcfciifjgdgoaaGreatDoor
namespace Lg
open Dg
/-- The decimal digits of 'n', the lowest first; of 0 just one. -/
structure Dec (D : List Nat) (n : Nat) : Prop where
  low : Low 10 D
  val : val 10 D = n
  top : D = [0] ∨ (Top D ∧ D ≠ [])
theorem Dec.inj {D E : List Nat} {n : Nat} (h : Dec D n) (k : Dec E n) : D = E := by
  rcases h.top with rfl | ⟨t1, n1⟩ <;> rcases k.top with rfl | ⟨t2, n2⟩
  · rfl
  · have h1 := val_pos (B := 10) (by decide) t2 n2
    have h2 := h.val
    simp at h2
    have := k.val
    omega
  · have h1 := val_pos (B := 10) (by decide) t1 n1
    have h2 := k.val
    simp at h2
    have := h.val
    omega
  · exact val_inj (by decide) h.low k.low t1 t2 (h.val.trans k.val.symm)
theorem Dec.ne {D : List Nat} {n : Nat} (h : Dec D n) : D ≠ [] := by
  rcases h.top with rfl | h1
  · simp
  · exact h1.2
theorem Dec.zero : Dec [0] 0 := ⟨Low.cons (by decide) (Low.nil _), rfl, .inl rfl⟩
def strN (O : List Nat) : ByteArray := strOfNums (O.map fun x : Nat => (x : Int))
/-- A numeral's bytes. -/
def numeral (neg : Bool) (D : List Nat) : List Nat := (if neg = true then [45] else []) ++ D.reverse.map (48 + ·)
structure TextOut (ok neg : Bool) (n : Nat) (s : ByteArray) (k : Nat) : Prop where
  no : ok = false → k = 1 ∧ s = ByteArray.empty
  yes : ok = true → k = 0 ∧ ∃ D, Dec D n ∧ s = strN (numeral neg D)
theorem TextOut.inj {ok neg : Bool} {n : Nat} {s t : ByteArray} {k l : Nat} (h : TextOut ok neg n s k) (g : TextOut ok neg n t l) : s = t ∧ k = l := by
  cases ok
  · have h1 := h.no rfl
    have g1 := g.no rfl
    exact ⟨h1.2.trans g1.2.symm, h1.1.trans g1.1.symm⟩
  · obtain ⟨h1, D, h2, h3⟩ := h.yes rfl
    obtain ⟨g1, E, g2, g3⟩ := g.yes rfl
    exact ⟨by rw [h3, g3, h2.inj g2], h1.trans g1.symm⟩

theorem take_set {D : List Nat} {m v : Nat} (h : m < D.length) : (D.set m v).take (m + 1) = D.take m ++ [v] := by
  have hl : m < (D.set m v).length := by rw [List.length_set]; exact h
  rw [take_succ hl]
  congr 1
  · rw [List.take_set_of_le (Nat.le_refl _)]
  · simp [List.getD_eq_getElem?_getD, h]
/-- One digit doubled. -/
theorem dbl_round {D D' : List Nat} {m cy x t : Nat} (hm : m < D.length) (hl : D'.length = D.length) (hv : Dg.val 10 (D'.take m) + 10 ^ m * cy = x + 2 * Dg.val 10 (D.take m)) (hd : D'.drop m = D.drop m) (ht : t = cy + 2 * D.getD m 0) :
    Dg.val 10 ((D'.set m (t % 10)).take (m + 1)) + 10 ^ (m + 1) * (t / 10) = x + 2 * Dg.val 10 (D.take (m + 1)) ∧ (D'.set m (t % 10)).drop (m + 1) = D.drop (m + 1) := by
  refine ⟨?_, ?_⟩
  · rw [take_set (by omega), val_snoc, List.length_take, Nat.min_eq_left (by omega), Dg.val_take_succ 10 hm, Nat.pow_succ, Nat.mul_assoc, Nat.add_assoc, ← Nat.mul_add]
    have e : t % 10 + 10 * (t / 10) = t := by omega
    rw [e, ht, Nat.mul_add, Nat.mul_add, ← Nat.mul_assoc, Nat.mul_comm (10 ^ m) 2, Nat.mul_assoc]
    omega
  · have h1 := Dg.drop_at (xs := D') (k := m) (by omega)
    have h2 := Dg.drop_at (xs := D) (k := m) hm
    rw [h1, h2] at hd
    rw [List.drop_set_of_lt (by omega)]
    exact (List.cons.inj hd).2
/-- All digits doubled, with a bit. -/
theorem dbl_done {D D' : List Nat} {cy x n : Nat} (h : Dec D n) (hl : D'.length = D.length) (ll : Low 10 D') (hc : cy ≤ 1) (hx : x ≤ 1) (hv : Dg.val 10 D' + 10 ^ D.length * cy = x + 2 * n) :
    (cy = 0 → Dec D' (x + 2 * n)) ∧ (0 < cy → Dec (D' ++ [cy]) (x + 2 * n)) := by
  have hne : D' ≠ [] := by
    intro e
    rw [e] at hl
    exact h.ne (List.eq_nil_of_length_eq_zero hl.symm)
  refine ⟨fun h0 => ?_, fun h0 => ⟨ll.snoc (by omega), by rw [val_snoc, hl]; exact hv, .inr ⟨Top.snoc (by omega), by simp⟩⟩⟩
  subst h0
  rw [Nat.mul_zero, Nat.add_zero] at hv
  refine ⟨ll, hv, ?_⟩
  rcases List.eq_nil_or_concat D' with e | ⟨r, y, e⟩
  · exact absurd e hne
  · rw [List.concat_eq_append] at e
    subst e
    by_cases hy : y = 0
    · subst hy
      rw [val_snoc, Nat.mul_zero, Nat.add_zero] at hv
      have h1 := val_lt (B := 10) (xs := r) (fun z hz => ll z (List.mem_append_left _ hz))
      rcases h.top with rfl | ⟨t1, n1⟩
      · have : r = [] := List.eq_nil_of_length_eq_zero (by simpa using hl)
        subst this
        exact .inl rfl
      · exfalso
        have h2 := val_ge (B := 10) t1 n1
        rw [h.val, ← hl] at h2
        simp only [List.length_append, List.length_cons, List.length_nil, Nat.zero_add, Nat.add_sub_cancel] at h2
        omega
    · exact .inr ⟨Top.snoc hy, by simp⟩
end Lg
end Go.Proofs.YtmcfciifjgdgoaaGreatDoor
