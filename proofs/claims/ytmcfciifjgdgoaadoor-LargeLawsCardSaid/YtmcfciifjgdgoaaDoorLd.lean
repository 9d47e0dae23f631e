/- Plain mathematics of the long division: the guess of a digit, what is taken away, and one round. No program is named here. -/
import Derived.Test.YtmcfciifjgdgoaaDoorDig2
namespace Go.Proofs.YtmcfciifjgdgoaaDoor
namespace Dg

/-- The guess from the three and the two highest words is the digit, or one more. -/
theorem guess_num {B p U Al y Yl : Nat} (hAl : Al < p) (hYl : Yl < p) (hy : B ≤ y) (hlt : Al + p * U < B * (Yl + p * y)) :
    (Al + p * U) / (Yl + p * y) ≤ min (U / y) (B - 1) ∧ min (U / y) (B - 1) ≤ (Al + p * U) / (Yl + p * y) + 1 := by
  have hp : 0 < p := by omega
  have hB : 0 < B := by
    rcases Nat.eq_zero_or_pos B with h | h
    · subst h; simp at hlt
    · exact h
  have hY : 0 < Yl + p * y := by
    have := Nat.mul_pos hp (show 0 < y by omega)
    omega
  constructor
  · refine Nat.le_min.2 ⟨?_, ?_⟩
    · rw [Nat.le_div_iff_mul_le (by omega)]
      have h1 := Nat.div_mul_le_self (Al + p * U) (Yl + p * y)
      generalize (Al + p * U) / (Yl + p * y) = Q at *
      have h2 : Q * (p * y) ≤ Q * (Yl + p * y) := Nat.mul_le_mul_left _ (Nat.le_add_left _ _)
      have h3 : p * (Q * y) < p * (U + 1) := by
        rw [Nat.mul_left_comm, Nat.mul_add, Nat.mul_one]
        omega
      have := Nat.lt_of_mul_lt_mul_left h3
      omega
    · have : (Al + p * U) / (Yl + p * y) < B := (Nat.div_lt_iff_lt_mul hY).2 hlt
      omega
  · have h1 : min (U / y) (B - 1) * y ≤ U := by
      rw [← Nat.le_div_iff_mul_le (by omega)]
      exact Nat.min_le_left _ _
    have h2 : min (U / y) (B - 1) ≤ B - 1 := Nat.min_le_right _ _
    generalize min (U / y) (B - 1) = g at *
    rcases Nat.eq_zero_or_pos g with h0 | h0
    · rw [h0]; exact Nat.zero_le _
    obtain ⟨k, rfl⟩ : ∃ k, g = k + 1 := ⟨g - 1, by omega⟩
    refine Nat.succ_le_succ ?_
    rw [Nat.le_div_iff_mul_le hY]
    have h3 : k * (Yl + p * y) ≤ k * (p + p * y) := Nat.mul_le_mul_left _ (by omega)
    have h4 : k * (p + p * y) = p * (k + k * y) := by rw [Nat.mul_add, Nat.mul_add, Nat.mul_comm k p, Nat.mul_left_comm]
    have h5 : k + k * y ≤ U := by
      rw [Nat.add_mul, Nat.one_mul] at h1
      omega
    have h6 : p * (k + k * y) ≤ p * U := Nat.mul_le_mul_left _ h5
    omega

/-- The two highest of words. -/
theorem split_two {B : Nat} {ys : List Nat} {n : Nat} (hn : ys.length = n + 2) : val B ys = val B (ys.take n) + B ^ n * (ys.getD (n + 1) 0 * B + ys.getD n 0) := by
  have h1 := val_take_succ B (xs := ys) (k := n) (by omega)
  have h2 := val_take_succ B (xs := ys) (k := n + 1) (by omega)
  rw [List.take_of_length_le (by omega)] at h2
  rw [h2, h1, Nat.pow_succ, Nat.mul_add, Nat.add_assoc, Nat.add_comm (B ^ n * ys.getD n 0), Nat.mul_assoc, Nat.mul_comm B]
/-- The three highest of words. -/
theorem split_three {B : Nat} {ys : List Nat} {n : Nat} (hn : ys.length = n + 3) : val B ys = val B (ys.take n) + B ^ n * (ys.getD (n + 2) 0 * (B * B) + (ys.getD (n + 1) 0 * B + ys.getD n 0)) := by
  have h2 := val_take_succ B (xs := ys) (k := n + 2) (by omega)
  rw [List.take_of_length_le (by omega)] at h2
  have h1 := split_two (B := B) (ys := ys.take (n + 2)) (n := n) (by simp; omega)
  rw [List.take_take, Nat.min_eq_left (by omega)] at h1
  have e1 : (ys.take (n + 2)).getD (n + 1) 0 = ys.getD (n + 1) 0 := by simp [List.getD_eq_getElem?_getD]
  have e2 : (ys.take (n + 2)).getD n 0 = ys.getD n 0 := by simp [List.getD_eq_getElem?_getD]
  rw [e1, e2] at h1
  rw [h2, h1, Nat.pow_add, Nat.pow_two]
  rw [Nat.mul_assoc (B ^ n), Nat.mul_comm (B * B), Nat.add_assoc, ← Nat.mul_add, Nat.add_comm (ys.getD (n + 1) 0 * B + ys.getD n 0)]
/-- The guess, of lists of words. -/
theorem guess {B : Nat} {P Y : List Nat} {n : Nat} (hP : P.length = n + 3) (hY : Y.length = n + 2) (lP : Low B P) (lY : Low B Y) (hB : 1 < B) (ht : Y.getD (n + 1) 0 ≠ 0) (hlt : val B P < B * val B Y) :
    val B P / val B Y ≤ min ((P.getD (n + 2) 0 * (B * B) + (P.getD (n + 1) 0 * B + P.getD n 0)) / (Y.getD (n + 1) 0 * B + Y.getD n 0)) (B - 1) ∧
      min ((P.getD (n + 2) 0 * (B * B) + (P.getD (n + 1) 0 * B + P.getD n 0)) / (Y.getD (n + 1) 0 * B + Y.getD n 0)) (B - 1) ≤ val B P / val B Y + 1 ∧ P.getD (n + 2) 0 < Y.getD (n + 1) 0 * B + Y.getD n 0 := by
  have h1 := val_lt (lP.take n)
  have h2 := val_lt (lY.take n)
  rw [List.length_take, Nat.min_eq_left (by omega)] at h1 h2
  have hy : B ≤ Y.getD (n + 1) 0 * B + Y.getD n 0 := by
    have : 1 * B ≤ Y.getD (n + 1) 0 * B := Nat.mul_le_mul_right _ (by omega)
    omega
  have h3 := lP.getD (by omega) (n + 2)
  rw [split_three hP, split_two hY] at hlt ⊢
  have := guess_num h1 h2 hy hlt
  exact ⟨this.1, this.2, by omega⟩

/-- What stands from the part on is the part, where it is below the divisor times the base. -/
theorem part_val {B N : Nat} {L : List Nat} {Y : Nat} (hB : 0 < B) (hY : Y < B ^ N) (h : val B L < B * Y) : val B (L.take (N + 1)) = val B L ∧ val B (L.drop (N + 1)) = 0 := by
  have e : val B L = val B (L.take (N + 1)) + B ^ (L.take (N + 1)).length * val B (L.drop (N + 1)) := by
    rw [← val_append, List.take_append_drop]
  rcases Nat.lt_or_ge (N + 1) L.length with hl | hl
  · rw [List.length_take, Nat.min_eq_left (by omega)] at e
    have h1 : B * Y < B ^ (N + 1) := by rw [Nat.pow_succ, Nat.mul_comm]; exact Nat.mul_lt_mul_of_pos_right hY hB
    have h2 : val B (L.drop (N + 1)) = 0 := by
      rcases Nat.eq_zero_or_pos (val B (L.drop (N + 1))) with h3 | h3
      · exact h3
      · have h4 : B ^ (N + 1) * 1 ≤ B ^ (N + 1) * val B (L.drop (N + 1)) := Nat.mul_le_mul_left _ h3
        omega
    rw [h2] at e
    exact ⟨by omega, h2⟩
  · rw [List.take_of_length_le hl, List.drop_of_length_le hl]
    exact ⟨rfl, rfl⟩
/-- What stands behind the digits that are done. -/
def LdInv (B : Nat) (xs Q L : List Nat) (Y i : Nat) : Prop := val B (xs.drop i) = val B (Q.drop i) * Y + val B (L.drop i) ∧ val B (L.drop i) < Y ∧ L.take i = xs.take i
theorem LdInv.part {B : Nat} {xs Q L : List Nat} {Y N i : Nat} (h : LdInv B xs Q L Y (i + 1)) (lL : Low B L) (hB : 0 < B) (hi : i < L.length) (hY : Y < B ^ N) : val B ((L.drop i).take (N + 1)) = val B (L.drop i) ∧ val B (L.drop i) < B * Y ∧ val B ((L.drop i).drop (N + 1)) = 0 := by
  have h1 : val B (L.drop i) < B * Y := by
    rw [val_drop B hi]
    have h2 := lL.getD hB i
    have h3 : B * (val B (L.drop (i + 1)) + 1) ≤ B * Y := Nat.mul_le_mul_left _ h.2.1
    rw [Nat.mul_add, Nat.mul_one] at h3
    omega
  have := part_val hB hY h1
  exact ⟨this.1, h1, this.2⟩
/-- One round. -/
theorem LdInv.step {B : Nat} {xs Q L P' : List Nat} {Y N i : Nat} (h : LdInv B xs Q L Y (i + 1)) (lL : Low B L) (hB : 0 < B) (hl : L.length = xs.length) (hi : i + (N + 1) ≤ L.length) (hq : i < Q.length) (hY0 : 0 < Y) (hY : Y < B ^ N)
    (hP : P'.length = N + 1) (hv : val B P' = val B ((L.drop i).take (N + 1)) % Y) :
    LdInv B xs (Q.set i (val B ((L.drop i).take (N + 1)) / Y)) (L.take i ++ (P' ++ L.drop (i + (N + 1)))) Y i := by
  obtain ⟨p1, p2, p3⟩ := h.part (N := N) lL hB (by omega) hY
  obtain ⟨h1, h2, h3⟩ := h
  rw [p1] at hv ⊢
  have hd : (L.take i ++ (P' ++ L.drop (i + (N + 1)))).drop i = P' ++ L.drop (i + (N + 1)) := List.drop_left' (by simp; omega)
  have hv2 : val B (P' ++ L.drop (i + (N + 1))) = val B (L.drop i) % Y := by
    rw [List.drop_drop] at p3
    rw [val_append, p3, Nat.mul_zero, Nat.add_zero, hv]
  have hx : xs.getD i 0 = L.getD i 0 := by
    have e1 : (L.take (i + 1)).getD i 0 = L.getD i 0 := by simp [List.getD_eq_getElem?_getD]
    have e2 : (xs.take (i + 1)).getD i 0 = xs.getD i 0 := by simp [List.getD_eq_getElem?_getD]
    rw [← e1, ← e2, h3]
  refine ⟨?_, ?_, ?_⟩
  · rw [hd, hv2]
    have hq2 : i < (Q.set i (val B (L.drop i) / Y)).length := by rw [List.length_set]; exact hq
    rw [val_drop B hq2, List.drop_set_of_lt (by omega)]
    rw [val_drop B (by omega : i < xs.length), h1, hx]
    have e3 : (Q.set i (val B (L.drop i) / Y)).getD i 0 = val B (L.drop i) / Y := by simp [List.getD_eq_getElem?_getD, hq]
    rw [e3, Nat.add_mul, Nat.add_right_comm, Nat.mul_comm (val B (L.drop i) / Y) Y, Nat.div_add_mod, val_drop B (by omega : i < L.length)]
    rw [Nat.mul_add, Nat.mul_assoc]
    omega
  · rw [hd, hv2]
    exact Nat.mod_lt _ hY0
  · rw [List.take_left' (by simp; omega)]
    have e4 : (L.take (i + 1)).take i = L.take i := by rw [List.take_take, Nat.min_eq_left (by omega)]
    have e5 : (xs.take (i + 1)).take i = xs.take i := by rw [List.take_take, Nat.min_eq_left (by omega)]
    rw [← e4, h3, e5]
/-- As it begins. -/
theorem LdInv.start {B : Nat} {xs Q : List Nat} {Y N m : Nat} (lx : Low B xs) (hl : xs.length + 1 = m + N) (hm : Q.length = m) (hY : B ^ (N - 1) ≤ Y) (hN : 1 ≤ N) : LdInv B (xs ++ [0]) Q (xs ++ [0]) Y m := by
  refine ⟨by rw [List.drop_of_length_le (by omega : Q.length ≤ m)]; simp, ?_, rfl⟩
  rw [List.drop_append_of_le_length (by omega), val_snoc, Nat.mul_zero, Nat.add_zero]
  have h1 := val_lt (lx.drop m)
  rw [List.length_drop, show xs.length - m = N - 1 by omega] at h1
  omega
theorem LdInv.done {B : Nat} {xs Q L : List Nat} {Y : Nat} (h : LdInv B (xs ++ [0]) Q L Y 0) : val B Q * Y + val B L = val B xs ∧ val B L < Y := by
  obtain ⟨h1, h2, _⟩ := h
  rw [List.drop_zero, List.drop_zero, List.drop_zero, val_snoc, Nat.mul_zero, Nat.add_zero] at h1
  rw [List.drop_zero] at h2
  exact ⟨h1.symm, h2⟩
/-- A guess that was too high by one: what was taken away too much comes back. -/
theorem take_back {B N g P Y P1 bw : Nat} (hg : P / Y ≤ g) (hg1 : g ≤ P / Y + 1) (hY0 : 0 < Y) (hP1 : P1 < B ^ N) (h : P1 + g * Y = P + B ^ N * bw) (hb : bw ≤ 1) :
    (bw = 0 → g = P / Y ∧ P1 = P % Y) ∧ (bw ≠ 0 → g = P / Y + 1 ∧ P1 + Y = B ^ N + P % Y) := by
  have e := Nat.div_add_mod P Y
  have hr := Nat.mod_lt P hY0
  rcases (show g = P / Y ∨ g = P / Y + 1 by omega) with rfl | rfl
  · rw [Nat.mul_comm] at h
    constructor
    · intro h0
      subst h0
      omega
    · intro h0
      have : bw = 1 := by omega
      subst this
      omega
  · rw [Nat.add_mul, Nat.one_mul, Nat.mul_comm (P / Y)] at h
    constructor
    · intro h0
      subst h0
      omega
    · intro h0
      have : bw = 1 := by omega
      subst this
      omega
theorem back_take {B : Nat} {S : List Nat} {N r : Nat} (lS : Low B S) (hl : N ≤ S.length) (h : val B S = B ^ N + r) (hr : r < B ^ N) : val B (S.take N) = r := by
  have e : val B S = val B (S.take N) + B ^ N * val B (S.drop N) := by
    have e1 : (S.take N).length = N := by simp; omega
    conv => lhs; rw [← List.take_append_drop N S, val_append, e1]
  have h1 := val_lt (lS.take N)
  rw [List.length_take, Nat.min_eq_left hl] at h1
  have h2 : val B (S.take N) % B ^ N = r := by
    have h3 : (val B (S.take N) + B ^ N * val B (S.drop N)) % B ^ N = (B ^ N + r) % B ^ N := by rw [← e, h]
    rw [Nat.add_mul_mod_self_left, Nat.add_mod_left] at h3
    rw [h3]
    exact Nat.mod_eq_of_lt hr
  rw [← h2]
  exact (Nat.mod_eq_of_lt h1).symm
end Dg
end Go.Proofs.YtmcfciifjgdgoaaDoor
