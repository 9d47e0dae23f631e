/- Texts of this claim in one: Rf2 Rf3. -/
import Derived.Test.YtmcfciifjgdgoaaDoorMg6
import Derived.BigRegion
section
/- The walks of the document's own large numbers, part 2: bits added, taken off, compared. -/
namespace Go.Proofs.YtmcfciifjgdgoaaDoor
open Go.RowKit

theorem plus_round {xs ys L : List Nat} {k cy t : Nat} (hl : L.length = k) (hv : Dg.val 2 L + 2 ^ k * cy = Dg.val 2 (xs.take k) + Dg.val 2 (ys.take k)) (ht : t = cy + xs.getD k 0 + ys.getD k 0) :
    Dg.val 2 (L ++ [t % 2]) + 2 ^ (k + 1) * (t / 2) = Dg.val 2 (xs.take (k + 1)) + Dg.val 2 (ys.take (k + 1)) := by
  rw [Dg.val_snoc, hl, Dg.val_take_any, Dg.val_take_any, Nat.pow_succ, Nat.mul_assoc, Nat.add_assoc, ← Nat.mul_add]
  have e : t % 2 + 2 * (t / 2) = t := by omega
  rw [e, ht, Nat.mul_add, Nat.mul_add]
  omega

/-! ### Taking off -/
theorem minus_round {xs ys L : List Nat} {k lack off : Nat} (hl : L.length = k) (hv : Dg.val 2 L + Dg.val 2 (ys.take k) = Dg.val 2 (xs.take k) + 2 ^ k * lack) (ho : off = ys.getD k 0 + lack) (hx : xs.getD k 0 < 2) (hy : ys.getD k 0 < 2) (hlack : lack ≤ 1) :
    Dg.val 2 (L ++ [(xs.getD k 0 + 2 * (if xs.getD k 0 < off then 1 else 0) - off) % 2]) + Dg.val 2 (ys.take (k + 1)) = Dg.val 2 (xs.take (k + 1)) + 2 ^ (k + 1) * (if xs.getD k 0 < off then 1 else 0) := by
  rw [Dg.val_snoc, hl, Dg.val_take_any, Dg.val_take_any, Nat.pow_succ, Nat.mul_assoc]
  generalize xs.getD k 0 = x at *
  generalize ys.getD k 0 = y at *
  subst ho
  have key : (x + 2 * (if x < y + lack then 1 else 0) - (y + lack)) % 2 + y + lack = x + 2 * (if x < y + lack then 1 else 0) := by
    split <;> omega
  generalize (if x < y + lack then 1 else 0) = n at *
  generalize (x + 2 * n - (y + lack)) % 2 = r at *
  have e : 2 ^ k * r + 2 ^ k * y + 2 ^ k * lack = 2 ^ k * x + 2 ^ k * (2 * n) := by
    rw [← Nat.mul_add, ← Nat.mul_add, ← Nat.mul_add, key]
  omega

/-! ### Which is more -/
theorem more_at {xs ys : List Nat} {k : Nat} (lx : Dg.Low 2 xs) (ly : Dg.Low 2 ys) (hl : xs.length = ys.length) (hk : k < xs.length) (h : xs.drop (k + 1) = ys.drop (k + 1)) (hne : ys.getD k 0 < xs.getD k 0) : Dg.val 2 ys < Dg.val 2 xs := by
  have e1 : xs = xs.take k ++ xs.getD k 0 :: xs.drop (k + 1) := by rw [← Dg.drop_at hk, List.take_append_drop]
  have e2 : ys = ys.take k ++ ys.getD k 0 :: ys.drop (k + 1) := by rw [← Dg.drop_at (by omega), List.take_append_drop]
  have h1 := Dg.val_lt (lx.take k)
  have h2 := Dg.val_lt (ly.take k)
  have l1 : (xs.take k).length = k := by rw [List.length_take]; omega
  have l2 : (ys.take k).length = k := by rw [List.length_take]; omega
  rw [l1] at h1
  rw [l2] at h2
  have v1 : Dg.val 2 xs = Dg.val 2 (xs.take k) + 2 ^ k * (xs.getD k 0 + 2 * Dg.val 2 (xs.drop (k + 1))) := by
    conv => lhs; rw [e1]
    rw [Dg.val_append, l1, Dg.val_cons]
  have v2 : Dg.val 2 ys = Dg.val 2 (ys.take k) + 2 ^ k * (ys.getD k 0 + 2 * Dg.val 2 (ys.drop (k + 1))) := by
    conv => lhs; rw [e2]
    rw [Dg.val_append, l2, Dg.val_cons]
  rw [v1, v2, ← h]
  generalize Dg.val 2 (xs.drop (k + 1)) = v at *
  have h3 : 2 ^ k * (ys.getD k 0 + 2 * v + 1) ≤ 2 ^ k * (xs.getD k 0 + 2 * v) := Nat.mul_le_mul_left _ (by omega)
  rw [Nat.mul_add (2 ^ k) (ys.getD k 0 + 2 * v) 1] at h3
  omega
theorem more_len {xs ys : List Nat} (lx : Dg.Low 2 xs) (ty : Dg.Top ys) (h : xs.length < ys.length) : Dg.val 2 xs < Dg.val 2 ys := by
  rcases Nat.lt_or_ge (Dg.val 2 xs) (Dg.val 2 ys) with h1 | h1
  · exact h1
  · exact absurd (Dg.len_le (by decide) lx ty h1) (by omega)

end Go.Proofs.YtmcfciifjgdgoaaDoor
end

section
/- The walks of the document's own large numbers, part 3: words of bits, numbers made of them. -/
namespace Go.Proofs.YtmcfciifjgdgoaaDoor
open Go.RowKit

theorem pow_parts (k : Nat) : (4294967296 : Nat) ^ (k / 32) * 2 ^ (k % 32) = 2 ^ k := by
  rw [show (4294967296 : Nat) = 2 ^ 32 from rfl, ← Nat.pow_mul, ← Nat.pow_add, Nat.div_add_mod]
theorem val_set (B : Nat) : ∀ (xs : List Nat) (j x : Nat), j < xs.length → Dg.val B (xs.set j (xs.getD j 0 + x)) = Dg.val B xs + B ^ j * x
  | [], j, _, h => by simp at h
  | y :: r, 0, x, _ => by simp; omega
  | y :: r, j + 1, x, h => by
    have := val_set B r j x (by simpa using h)
    simp only [List.set_cons_succ, Dg.val_cons, List.getD_cons_succ, this, Nat.pow_succ]
    rw [Nat.mul_add, ← Nat.mul_assoc, Nat.mul_comm B (B ^ j)]
    omega
theorem val_ge_at (B : Nat) : ∀ (xs : List Nat) (j : Nat), j < xs.length → B ^ j * xs.getD j 0 ≤ Dg.val B xs
  | [], j, h => by simp at h
  | y :: r, 0, _ => by simp
  | y :: r, j + 1, h => by
    have := Nat.mul_le_mul_left B (val_ge_at B r j (by simpa using h))
    rw [← Nat.mul_assoc] at this
    simp only [Dg.val_cons, List.getD_cons_succ, Nat.pow_succ]
    rw [Nat.mul_comm (B ^ j) B]
    omega
/-- The word in which the next bit goes still has room for it. -/
theorem word_room {L bs : List Nat} {k : Nat} (hl : k / 32 < L.length) (hv : Dg.val 4294967296 L = Dg.val 2 (bs.take k)) (lb : Dg.Low 2 bs) : L.getD (k / 32) 0 < 2 ^ (k % 32) := by
  have h1 := val_ge_at 4294967296 L (k / 32) hl
  have h2 := Dg.val_lt (lb.take k)
  have h3 : (2 : Nat) ^ (bs.take k).length ≤ 2 ^ k := Nat.pow_le_pow_right (by decide) (by rw [List.length_take]; omega)
  rw [hv] at h1
  have h4 : 4294967296 ^ (k / 32) * L.getD (k / 32) 0 < 4294967296 ^ (k / 32) * 2 ^ (k % 32) := by
    rw [pow_parts]; omega
  exact Nat.lt_of_mul_lt_mul_left h4
theorem word_round {L bs : List Nat} {k : Nat} (hk : k < bs.length) (hl : k / 32 < L.length) (hv : Dg.val 4294967296 L = Dg.val 2 (bs.take k)) :
    Dg.val 4294967296 (L.set (k / 32) (L.getD (k / 32) 0 + bs.getD k 0 * 2 ^ (k % 32))) = Dg.val 2 (bs.take (k + 1)) := by
  rw [val_set _ _ _ _ hl, Dg.val_take_succ 2 hk, hv, ← pow_parts k, Nat.mul_assoc, Nat.mul_comm (bs.getD k 0)]
theorem words_top {L bs : List Nat} (ll : Dg.Low 4294967296 L) (hl : L.length = (bs.length + 31) / 32) (hv : Dg.val 4294967296 L = Dg.val 2 bs) (tb : Dg.Top bs) : Dg.Top L := by
  rcases List.eq_nil_or_concat L with rfl | ⟨r, x, rfl⟩
  · exact Dg.Top.nil
  · rw [List.concat_eq_append] at *
    refine Dg.Top.snoc ?_
    rintro rfl
    have h1 := Dg.val_lt (xs := r) (B := 4294967296) (fun y hy => ll y (List.mem_append_left _ hy))
    rw [Dg.val_snoc, Nat.mul_zero, Nat.add_zero] at hv
    simp only [List.length_append, List.length_cons, List.length_nil, Nat.zero_add] at hl
    have hne : bs ≠ [] := by rintro rfl; simp at hl
    have h2 := Dg.val_ge (B := 2) tb hne
    have h3 : (4294967296 : Nat) ^ r.length = 2 ^ (32 * r.length) := by rw [show (4294967296 : Nat) = 2 ^ 32 from rfl, ← Nat.pow_mul]
    have h4 : (2 : Nat) ^ (32 * r.length) ≤ 2 ^ (bs.length - 1) := Nat.pow_le_pow_right (by decide) (by omega)
    rw [hv, h3] at h1
    exact absurd (Nat.le_trans h4 h2) (Nat.not_le_of_lt h1)

theorem word_sum {v x k : Nat} (hv : v < 2 ^ (k % 32)) (hx : x < 2) : v + x * 2 ^ (k % 32) < 4294967296 := by
  have h1 : (2 : Nat) ^ (k % 32) ≤ 2 ^ 31 := Nat.pow_le_pow_right (by decide) (by omega)
  have h2 : x * 2 ^ (k % 32) ≤ 1 * 2 ^ (k % 32) := Nat.mul_le_mul_right _ (by omega)
  omega
theorem word_cell {v x k : Nat} (hv : v < 2 ^ (k % 32)) (hx : x < 2) : Value.int .u32 ((((v : Nat) : Int) + ((x : Nat) : Int) * 2 ^ (k % 32) % 4294967296) % 4294967296) = .int .u32 ((v + x * 2 ^ (k % 32) : Nat) : Int) := by
  have h := word_sum hv hx
  have e : ((x : Nat) : Int) * 2 ^ (k % 32) = ((x * 2 ^ (k % 32) : Nat) : Int) := by push_cast; rfl
  rw [e]
  generalize x * 2 ^ (k % 32) = z at *
  congr 1
  omega
theorem word_cell2 {v x k : Nat} (hv : v < 2 ^ (k % 32)) (hx : x < 2) : Value.int .u32 ((((v : Nat) : Int) + ((x : Nat) : Int) * 2 ^ (k % 32)) % 4294967296) = .int .u32 ((v + x * 2 ^ (k % 32) : Nat) : Int) := by
  have h := word_sum hv hx
  have e : ((x : Nat) : Int) * 2 ^ (k % 32) = ((x * 2 ^ (k % 32) : Nat) : Int) := by push_cast; rfl
  rw [e]
  generalize x * 2 ^ (k % 32) = z at *
  congr 1
  omega

end Go.Proofs.YtmcfciifjgdgoaaDoor
end
