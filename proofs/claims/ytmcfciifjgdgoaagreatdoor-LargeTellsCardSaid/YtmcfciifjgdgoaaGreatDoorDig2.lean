/- More on digits: one digit set behind those that stand, sums and differences digit by digit. No program is named here. -/
import Derived.Test.YtmcfciifjgdgoaaGreatDoorDig
namespace Go.Proofs.YtmcfciifjgdgoaaGreatDoor
namespace Dg
theorem set_take {L : List Nat} {k v : Nat} (h : k < L.length) : (L.set k v).take (k + 1) = L.take k ++ [v] := by
  have hl : k < (L.set k v).length := by rw [List.length_set]; exact h
  rw [take_succ hl, List.take_set_of_le (Nat.le_refl k)]
  simp [List.getD_eq_getElem?_getD, h]
theorem val_set_take (B : Nat) {L : List Nat} {k v : Nat} (h : k < L.length) : val B ((L.set k v).take (k + 1)) = val B (L.take k) + B ^ k * v := by
  rw [set_take h, val_snoc, List.length_take, Nat.min_eq_left (by omega)]
theorem add_round {B : Nat} {xs ys L : List Nat} {k cy t : Nat} (hk : k < L.length) (hv : val B (L.take k) + B ^ k * cy = val B (xs.take k) + val B (ys.take k)) (ht : t = xs.getD k 0 + ys.getD k 0 + cy) :
    val B ((L.set k (t % B)).take (k + 1)) + B ^ (k + 1) * (t / B) = val B (xs.take (k + 1)) + val B (ys.take (k + 1)) := by
  rw [val_set_take B hk, val_take_any, val_take_any, Nat.pow_succ, Nat.mul_assoc, Nat.add_assoc, ← Nat.mul_add]
  have e : t % B + B * (t / B) = t := Nat.mod_add_div t B
  rw [e, ht, Nat.mul_add, Nat.mul_add]
  omega
theorem add_end {B : Nat} {xs ys L : List Nat} {N cy : Nat} (hB : 1 < B) (lx : Low B xs) (ly : Low B ys) (hx : xs.length < N) (hy : ys.length < N) (hl : L.length = N)
    (hv : val B (L.take N) + B ^ N * cy = val B (xs.take N) + val B (ys.take N)) : val B L = val B xs + val B ys := by
  rw [List.take_of_length_le (by omega), List.take_of_length_le (by omega), List.take_of_length_le (by omega)] at hv
  have h1 := val_lt lx
  have h2 := val_lt ly
  have h3 : B ^ xs.length ≤ B ^ (N - 1) := Nat.pow_le_pow_right (by omega) (by omega)
  have h4 : B ^ ys.length ≤ B ^ (N - 1) := Nat.pow_le_pow_right (by omega) (by omega)
  have h5 : B ^ N = B ^ (N - 1) * B := by rw [← Nat.pow_succ]; congr 1; omega
  have h6 : B ^ (N - 1) * 2 ≤ B ^ N := by rw [h5]; exact Nat.mul_le_mul_left _ hB
  rcases Nat.eq_zero_or_pos cy with h0 | h0
  · rw [h0, Nat.mul_zero, Nat.add_zero] at hv
    exact hv
  · exfalso
    have : B ^ N * 1 ≤ B ^ N * cy := Nat.mul_le_mul_left _ h0
    omega
theorem sub_round {B : Nat} {xs ys L : List Nat} {k bw bw' d : Nat} (hk : k < L.length) (hv : val B (L.take k) + val B (ys.take k) = val B (xs.take k) + B ^ k * bw) (hd : d + ys.getD k 0 + bw = xs.getD k 0 + B * bw') :
    val B ((L.set k d).take (k + 1)) + val B (ys.take (k + 1)) = val B (xs.take (k + 1)) + B ^ (k + 1) * bw' := by
  rw [val_set_take B hk, val_take_any, val_take_any, Nat.pow_succ, Nat.mul_assoc]
  have e : B ^ k * d + B ^ k * ys.getD k 0 + B ^ k * bw = B ^ k * xs.getD k 0 + B ^ k * (B * bw') := by
    rw [← Nat.mul_add, ← Nat.mul_add, ← Nat.mul_add, hd]
  omega
theorem sub_word {x y b : Nat} (hx : x < 4294967296) (hy : y < 4294967296) (hb : b ≤ 1) : (x + 8589934592 - y - b) % 4294967296 + y + b = x + 4294967296 * (if x < y + b then 1 else 0) := by
  by_cases h : x < y + b
  · rw [if_pos h]; omega
  · rw [if_neg h]; omega
theorem sub_end {B : Nat} {xs ys L : List Nat} {bw : Nat} (ll : Low B L) (hl : L.length = xs.length) (hy : ys.length ≤ xs.length) (hle : val B ys ≤ val B xs)
    (hv : val B (L.take xs.length) + val B (ys.take xs.length) = val B (xs.take xs.length) + B ^ xs.length * bw) : val B L + val B ys = val B xs := by
  rw [List.take_of_length_le (by omega), List.take_of_length_le (by omega), List.take_of_length_le (by omega)] at hv
  have h1 := val_lt ll
  rw [hl] at h1
  rcases Nat.eq_zero_or_pos bw with h0 | h0
  · rw [h0, Nat.mul_zero, Nat.add_zero] at hv
    exact hv
  · exfalso
    have : B ^ xs.length * 1 ≤ B ^ xs.length * bw := Nat.mul_le_mul_left _ h0
    omega
theorem val_zeros (B : Nat) : ∀ n : Nat, val B (List.replicate n 0) = 0
  | 0 => rfl
  | n + 1 => by rw [List.replicate_succ, val_cons, val_zeros B n]; simp
theorem getD_set_ne {P : List Nat} {a k v : Nat} (h : a ≠ k) : (P.set a v).getD k 0 = P.getD k 0 := by
  rw [List.getD_eq_getElem?_getD, List.getD_eq_getElem?_getD, List.getElem?_set_ne h]
theorem low_zeros (B n : Nat) (hB : 0 < B) : Low B (List.replicate n 0) := fun x hx => by rw [List.eq_of_mem_replicate hx]; exact hB
theorem split_at (B : Nat) {xs : List Nat} {i : Nat} (h : i < xs.length) : val B xs = val B (xs.take i) + B ^ i * (xs.getD i 0 + B * val B (xs.drop (i + 1))) := by
  have e := val_append B (xs.take i) (xs.drop i)
  rw [List.take_append_drop, List.length_take, Nat.min_eq_left (by omega), val_drop B h] at e
  exact e
theorem cmp_at {B : Nat} {xs ys : List Nat} {i : Nat} (lx : Low B xs) (hl : xs.length = ys.length) (hi : i < xs.length) (he : ∀ j, i < j → j < xs.length → xs.getD j 0 = ys.getD j 0) (h : xs.getD i 0 < ys.getD i 0) : val B xs < val B ys := by
  have hd : xs.drop (i + 1) = ys.drop (i + 1) := by
    refine List.ext_getElem (by simp [hl]) fun k h1 h2 => ?_
    have h3 : i + 1 + k < xs.length := by simp at h1; omega
    have := he (i + 1 + k) (by omega) h3
    rw [List.getElem_drop, List.getElem_drop]
    rwa [List.getD_eq_getElem?_getD, List.getD_eq_getElem?_getD, List.getElem?_eq_getElem h3, List.getElem?_eq_getElem (by omega), Option.getD_some, Option.getD_some] at this
  rw [split_at B hi, split_at B (xs := ys) (i := i) (by omega), hd]
  have h1 := val_lt (lx.take i)
  rw [List.length_take, Nat.min_eq_left (by omega)] at h1
  have h2 : B ^ i * (xs.getD i 0 + B * val B (ys.drop (i + 1)) + 1) ≤ B ^ i * (ys.getD i 0 + B * val B (ys.drop (i + 1))) := Nat.mul_le_mul_left _ (by omega)
  rw [Nat.mul_add, Nat.mul_one] at h2
  omega
theorem cmp_len {B : Nat} {xs ys : List Nat} (hB : 1 < B) (lx : Low B xs) (ty : Top ys) (h : xs.length < ys.length) : val B xs < val B ys := by
  rcases Nat.lt_or_ge (val B xs) (val B ys) with h1 | h1
  · exact h1
  · have := len_le hB lx ty h1
    omega
theorem eq_of_all {xs ys : List Nat} (hl : xs.length = ys.length) (h : ∀ j, j < xs.length → xs.getD j 0 = ys.getD j 0) : xs = ys := by
  refine List.ext_getElem hl fun i h1 h2 => ?_
  have := h i h1
  rwa [List.getD_eq_getElem?_getD, List.getD_eq_getElem?_getD, List.getElem?_eq_getElem h1, List.getElem?_eq_getElem h2] at this
theorem mul_round {B : Nat} {P P0 ys : List Nat} {i j w c t v : Nat} (hk : i + j < P.length) (hv : val B (P.take (i + j)) + B ^ (i + j) * c = val B (P0.take (i + j)) + B ^ i * (w * val B (ys.take j))) (hy : v = ys.getD j 0) (ht : t = c + (w * v + P0.getD (i + j) 0)) :
    val B ((P.set (i + j) (t % B)).take (i + (j + 1))) + B ^ (i + (j + 1)) * (t / B) = val B (P0.take (i + (j + 1))) + B ^ i * (w * val B (ys.take (j + 1))) := by
  rw [← Nat.add_assoc, val_set_take B hk, val_take_any B P0, val_take_any B ys, Nat.pow_succ, Nat.mul_assoc, Nat.add_assoc, ← Nat.mul_add]
  have e : t % B + B * (t / B) = t := Nat.mod_add_div t B
  rw [e, ht, ← hy, Nat.mul_add, Nat.mul_add, Nat.mul_add, Nat.mul_add]
  have e2 : B ^ i * (w * (B ^ j * v)) = B ^ (i + j) * (w * v) := by
    rw [Nat.pow_add, Nat.mul_assoc]
    congr 1
    rw [← Nat.mul_assoc, Nat.mul_comm w, Nat.mul_assoc]
  omega
theorem mul_carry {w v c p : Nat} (hw : w < 4294967296) (hv : v < 4294967296) (hc : c < 4294967296) (hp : p < 4294967296) : c + (w * v + p) < 18446744073709551616 := by
  have : w * v ≤ 4294967295 * 4294967295 := Nat.mul_le_mul (by omega) (by omega)
  omega
theorem mul_next {B : Nat} {P P0 xs ys : List Nat} {i w c : Nat} (hk : i + ys.length < P.length) (hw : w = xs.getD i 0) (h0 : val B (P0.take (i + ys.length)) = val B (xs.take i) * val B ys) (hv : val B (P.take (i + ys.length)) + B ^ (i + ys.length) * c = val B (P0.take (i + ys.length)) + B ^ i * (w * val B (ys.take ys.length))) :
    val B ((P.set (i + ys.length) c).take (i + 1 + ys.length)) = val B (xs.take (i + 1)) * val B ys := by
  rw [show i + 1 + ys.length = i + ys.length + 1 by omega, val_set_take B hk, hv, h0, List.take_length, val_take_any B xs, ← hw, Nat.add_mul, Nat.mul_assoc]
end Dg
end Go.Proofs.YtmcfciifjgdgoaaGreatDoor
