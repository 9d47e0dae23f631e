/- The walks of the document's own large numbers, part 5: whole numbers. -/
import Derived.Test.YtmcfciifjgdgoaaDoorRf4
import Derived.Test.YtmcfciifjgdgoaaDoorRets
namespace Go.Proofs.YtmcfciifjgdgoaaDoor
open Go.RowKit

theorem of_round {L : List Nat} {v N : Nat} (hv : Dg.val 2 L + 2 ^ L.length * v = N) : Dg.val 2 (L ++ [v % 2]) + 2 ^ (L ++ [v % 2]).length * (v / 2) = N := by
  rw [Dg.val_snoc, List.length_append, List.length_cons, List.length_nil, Nat.zero_add, Nat.pow_succ, Nat.mul_assoc, Nat.add_assoc, ← Nat.mul_add]
  have : v % 2 + 2 * (v / 2) = v := by omega
  rw [this, hv]
theorem of_len {L : List Nat} {v N : Nat} (hv : Dg.val 2 L + 2 ^ L.length * v = N) (hN : N < 2 ^ 64) (h0 : 0 < v) : L.length < 64 := by
  rcases Nat.lt_or_ge L.length 64 with h | h
  · exact h
  · exfalso
    have h1 : (2 : Nat) ^ 64 ≤ 2 ^ L.length := Nat.pow_le_pow_right (by decide) h
    have h2 : 2 ^ L.length * 1 ≤ 2 ^ L.length * v := Nat.mul_le_mul_left _ h0
    omega
theorem u64_abs (n : Int) (h : -9223372036854775808 ≤ n) (h2 : n < 0) : IntKind.u64.wrap (IntKind.u64.wrap (-(n + 1)) + 1) = ((n.natAbs : Nat) : Int) := by
  rw [IntKind.wrap_u64, IntKind.wrap_u64]; omega

/-! ### Back to a whole number -/
def intOk (neg : Bool) (xs : List Nat) : Bool := Lg.may neg xs && decide (-9223372036854775808 ≤ Lg.num neg xs) && decide (Lg.num neg xs ≤ 9223372036854775807)
def intVal (neg : Bool) (xs : List Nat) : Int := if intOk neg xs = true then Lg.num neg xs else 0
theorem intOk_no {neg : Bool} {xs : List Nat} (h : intOk neg xs = false) : intVal neg xs = 0 := by simp [intVal, h]
theorem intOk_yes {neg : Bool} {xs : List Nat} (h : intOk neg xs = true) : intVal neg xs = Lg.num neg xs := by simp [intVal, h]
theorem bits_of (xs : List Nat) (hx : Dg.Low 4294967296 xs) : Dg.Low 2 (Dg.cut (flat xs)) ∧ Dg.Top (Dg.cut (flat xs)) ∧ Dg.val 2 (Dg.cut (flat xs)) = Dg.val 4294967296 xs ∧ (Dg.cut (flat xs)).length ≤ 32 * xs.length :=
  ⟨Dg.cut_low (flat_low xs), Dg.cut_top _, by rw [Dg.cut_val, flat_val hx], by have := Dg.cut_len (flat xs); rw [flat_len] at this; exact this⟩
theorem val_long {bs : List Nat} (ht : Dg.Top bs) (h : 64 < bs.length) : 18446744073709551616 ≤ Dg.val 2 bs := by
  have h1 := Dg.val_ge (B := 2) ht (by rintro rfl; simp at h)
  have h2 : (2 : Nat) ^ 64 ≤ 2 ^ (bs.length - 1) := Nat.pow_le_pow_right (by decide) (by omega)
  exact Nat.le_trans h2 h1
theorem val_short {bs : List Nat} (hl : Dg.Low 2 bs) (h : bs.length ≤ 64) : Dg.val 2 bs < 18446744073709551616 :=
  Nat.lt_of_lt_of_le (Dg.val_lt hl) (Nat.pow_le_pow_right (by decide) h)

end Go.Proofs.YtmcfciifjgdgoaaDoor
