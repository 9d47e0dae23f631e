/- The walks of the document's own large numbers, part 2: bits added, taken off, compared. -/
import Derived.Test.YtmcfciifjgdgoaaDoorRf1
namespace Go.Proofs.YtmcfciifjgdgoaaDoor
open Go.RowKit

theorem plus_round {xs ys L : List Nat} {k cy t : Nat} (hl : L.length = k) (hv : Dg.val 2 L + 2 ^ k * cy = Dg.val 2 (xs.take k) + Dg.val 2 (ys.take k)) (ht : t = cy + xs.getD k 0 + ys.getD k 0) :
    Dg.val 2 (L ++ [t % 2]) + 2 ^ (k + 1) * (t / 2) = Dg.val 2 (xs.take (k + 1)) + Dg.val 2 (ys.take (k + 1)) := by
  rw [Dg.val_snoc, hl, Dg.val_take_any, Dg.val_take_any, Nat.pow_succ, Nat.mul_assoc, Nat.add_assoc, ← Nat.mul_add]
  have e : t % 2 + 2 * (t / 2) = t := by omega
  rw [e, ht, Nat.mul_add, Nat.mul_add]
  omega

/-! ### Taking off -/
theorem minus_round {xs ys L : List Nat} {k lack off : Nat} (hl : L.length = k) (hv : Dg.val 2 L + Dg.val 2 (ys.take k) = Dg.val 2 (xs.take k) + 2 ^ k * lack) (ho : off = ys.getD k 0 + lack) (hx : xs.getD k 0 < 2) (hy : ys.getD k 0 < 2) (hlack : lack ≤ 1) :
    Dg.val 2 (L ++ [(xs.getD k 0 + 2 * (if xs.getD k 0 < off then 1 else 0) - off) % 2]) + Dg.val 2 (ys.take (k + 1)) = Dg.val 2 (xs.take (k + 1)) + 2 ^ (k + 1) * (if xs.getD k 0 < off then 1 else 0) := by
  rw [Dg.val_snoc, hl, Dg.val_take_any, Dg.val_take_any, Nat.pow_succ, Nat.mul_assoc]
  generalize xs.getD k 0 = x at *
  generalize ys.getD k 0 = y at *
  subst ho
  have key : (x + 2 * (if x < y + lack then 1 else 0) - (y + lack)) % 2 + y + lack = x + 2 * (if x < y + lack then 1 else 0) := by
    split <;> omega
  generalize (if x < y + lack then 1 else 0) = n at *
  generalize (x + 2 * n - (y + lack)) % 2 = r at *
  have e : 2 ^ k * r + 2 ^ k * y + 2 ^ k * lack = 2 ^ k * x + 2 ^ k * (2 * n) := by
    rw [← Nat.mul_add, ← Nat.mul_add, ← Nat.mul_add, key]
  omega

/-! ### Which is more -/
theorem more_at {xs ys : List Nat} {k : Nat} (lx : Dg.Low 2 xs) (ly : Dg.Low 2 ys) (hl : xs.length = ys.length) (hk : k < xs.length) (h : xs.drop (k + 1) = ys.drop (k + 1)) (hne : ys.getD k 0 < xs.getD k 0) : Dg.val 2 ys < Dg.val 2 xs := by
  have e1 : xs = xs.take k ++ xs.getD k 0 :: xs.drop (k + 1) := by rw [← Dg.drop_at hk, List.take_append_drop]
  have e2 : ys = ys.take k ++ ys.getD k 0 :: ys.drop (k + 1) := by rw [← Dg.drop_at (by omega), List.take_append_drop]
  have h1 := Dg.val_lt (lx.take k)
  have h2 := Dg.val_lt (ly.take k)
  have l1 : (xs.take k).length = k := by rw [List.length_take]; omega
  have l2 : (ys.take k).length = k := by rw [List.length_take]; omega
  rw [l1] at h1
  rw [l2] at h2
  have v1 : Dg.val 2 xs = Dg.val 2 (xs.take k) + 2 ^ k * (xs.getD k 0 + 2 * Dg.val 2 (xs.drop (k + 1))) := by
    conv => lhs; rw [e1]
    rw [Dg.val_append, l1, Dg.val_cons]
  have v2 : Dg.val 2 ys = Dg.val 2 (ys.take k) + 2 ^ k * (ys.getD k 0 + 2 * Dg.val 2 (ys.drop (k + 1))) := by
    conv => lhs; rw [e2]
    rw [Dg.val_append, l2, Dg.val_cons]
  rw [v1, v2, ← h]
  generalize Dg.val 2 (xs.drop (k + 1)) = v at *
  have h3 : 2 ^ k * (ys.getD k 0 + 2 * v + 1) ≤ 2 ^ k * (xs.getD k 0 + 2 * v) := Nat.mul_le_mul_left _ (by omega)
  rw [Nat.mul_add (2 ^ k) (ys.getD k 0 + 2 * v) 1] at h3
  omega
theorem more_len {xs ys : List Nat} (lx : Dg.Low 2 xs) (ty : Dg.Top ys) (h : xs.length < ys.length) : Dg.val 2 xs < Dg.val 2 ys := by
  rcases Nat.lt_or_ge (Dg.val 2 xs) (Dg.val 2 ys) with h1 | h1
  · exact h1
  · exact absurd (Dg.len_le (by decide) lx ty h1) (by omega)

end Go.Proofs.YtmcfciifjgdgoaaDoor
