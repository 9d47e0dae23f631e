/- Digits: lists of numbers, the lowest first, as numbers to a base. No program is named here. -/
import Derived.WalkKit
namespace Go.Proofs.YtmcfciifjgdgoaaGreatDoor
namespace Dg
/-- The value of digits to the base 'B', the lowest first. -/
def val (B : Nat) : List Nat → Nat
  | [] => 0
  | x :: r => x + B * val B r
@[simp] theorem val_nil (B : Nat) : val B [] = 0 := rfl
@[simp] theorem val_cons (B x : Nat) (r : List Nat) : val B (x :: r) = x + B * val B r := rfl
theorem val_append (B : Nat) : ∀ xs ys : List Nat, val B (xs ++ ys) = val B xs + B ^ xs.length * val B ys
  | [], ys => by simp
  | x :: r, ys => by
    rw [List.cons_append, val_cons, val_append B r ys, val_cons, List.length_cons, Nat.pow_succ, Nat.mul_add, ← Nat.mul_assoc, Nat.mul_comm (B ^ r.length) B, Nat.add_assoc]
theorem val_snoc (B : Nat) (xs : List Nat) (x : Nat) : val B (xs ++ [x]) = val B xs + B ^ xs.length * x := by simp [val_append]
/-- All digits are less than the base. -/
def Low (B : Nat) (xs : List Nat) : Prop := ∀ x ∈ xs, x < B
theorem Low.nil (B : Nat) : Low B [] := by intro x hx; cases hx
theorem Low.cons {B x : Nat} {r : List Nat} (hx : x < B) (hr : Low B r) : Low B (x :: r) := by
  intro y hy
  rcases List.mem_cons.1 hy with rfl | h
  · exact hx
  · exact hr y h
theorem Low.append {B : Nat} {xs ys : List Nat} (h : Low B xs) (k : Low B ys) : Low B (xs ++ ys) := by
  intro y hy
  rcases List.mem_append.1 hy with h' | h'
  · exact h y h'
  · exact k y h'
theorem Low.snoc {B x : Nat} {xs : List Nat} (h : Low B xs) (hx : x < B) : Low B (xs ++ [x]) := h.append (Low.cons hx (Low.nil B))
theorem Low.tail {B x : Nat} {r : List Nat} (h : Low B (x :: r)) : Low B r := fun y hy => h y (List.mem_cons_of_mem _ hy)
theorem Low.head {B x : Nat} {r : List Nat} (h : Low B (x :: r)) : x < B := h x List.mem_cons_self
theorem Low.take {B : Nat} {xs : List Nat} (h : Low B xs) (n : Nat) : Low B (xs.take n) := fun y hy => h y (List.mem_of_mem_take hy)
theorem Low.drop {B : Nat} {xs : List Nat} (h : Low B xs) (n : Nat) : Low B (xs.drop n) := fun y hy => h y (List.mem_of_mem_drop hy)
theorem Low.getD {B : Nat} {xs : List Nat} (hB : 0 < B) (h : Low B xs) (j : Nat) : xs.getD j 0 < B := by
  rw [List.getD_eq_getElem?_getD]
  by_cases hj : j < xs.length
  · rw [List.getElem?_eq_getElem hj]; exact h _ (List.getElem_mem hj)
  · rw [List.getElem?_eq_none (by omega)]; exact hB
theorem Low.set {B x : Nat} {xs : List Nat} (h : Low B xs) (hx : x < B) (j : Nat) : Low B (xs.set j x) := by
  intro y hy
  rcases List.mem_or_eq_of_mem_set hy with h' | h'
  · exact h y h'
  · omega
theorem val_lt {B : Nat} : ∀ {xs : List Nat}, Low B xs → val B xs < B ^ xs.length
  | [], _ => by simp
  | x :: r, h => by
    have hx := h.head
    have hr := val_lt h.tail
    simp only [val_cons, List.length_cons, Nat.pow_succ]
    have := Nat.mul_le_mul_left B (Nat.succ_le_of_lt hr)
    rw [Nat.mul_comm (B ^ r.length) B]
    rw [Nat.succ_eq_add_one, Nat.mul_add, Nat.mul_one] at this
    omega
/-- No nought at the end. -/
def Top (xs : List Nat) : Prop := xs.getLast? ≠ some 0
theorem Top.nil : Top [] := by simp [Top]
theorem Top.snoc {xs : List Nat} {x : Nat} (h : x ≠ 0) : Top (xs ++ [x]) := by simp [Top, h]
theorem Top.tail {x : Nat} {r : List Nat} (h : Top (x :: r)) : Top r := by
  cases r with
  | nil => exact Top.nil
  | cons y s => simpa [Top] using h
theorem val_pos {B : Nat} (hB : 0 < B) : ∀ {xs : List Nat}, Top xs → xs ≠ [] → 0 < val B xs
  | [], _, h => absurd rfl h
  | [x], h, _ => by
    have : x ≠ 0 := by simpa [Top] using h
    simp; omega
  | x :: y :: r, h, _ => by
    have := val_pos hB (xs := y :: r) h.tail (by simp)
    have := Nat.mul_pos hB this
    rw [val_cons]
    omega
theorem val_ge {B : Nat} {xs : List Nat} (h : Top xs) (hne : xs ≠ []) : B ^ (xs.length - 1) ≤ val B xs := by
  rcases List.eq_nil_or_concat xs with rfl | ⟨r, x, rfl⟩
  · exact absurd rfl hne
  · have hx : x ≠ 0 := by simpa [Top] using h
    rw [List.concat_eq_append, val_snoc]
    simp only [List.length_append, List.length_cons, List.length_nil, Nat.zero_add, Nat.add_sub_cancel]
    have : B ^ r.length * 1 ≤ B ^ r.length * x := Nat.mul_le_mul_left _ (by omega)
    omega
/-- Digits without a nought at the end are told by their value. -/
theorem val_inj {B : Nat} (hB : 0 < B) : ∀ {xs ys : List Nat}, Low B xs → Low B ys → Top xs → Top ys → val B xs = val B ys → xs = ys
  | [], [], _, _, _, _, _ => rfl
  | [], y :: s, _, _, _, h, e => by
    have := val_pos hB h (by simp)
    rw [← e] at this
    simp at this
  | x :: r, [], _, _, h, _, e => by
    have := val_pos hB h (by simp)
    rw [e] at this
    simp at this
  | x :: r, y :: s, h1, h2, h3, h4, e => by
    simp only [val_cons] at e
    have hx := h1.head
    have hy := h2.head
    have e1 : x = y := by
      have := congrArg (· % B) e
      simp only [Nat.add_mul_mod_self_left] at this
      rwa [Nat.mod_eq_of_lt hx, Nat.mod_eq_of_lt hy] at this
    subst e1
    have e2 : val B r = val B s := Nat.eq_of_mul_eq_mul_left hB (by omega)
    rw [val_inj hB h1.tail h2.tail h3.tail h4.tail e2]
/-- Without the noughts at the end. -/
def cut : List Nat → List Nat
  | [] => []
  | x :: r => if cut r = [] ∧ x = 0 then [] else x :: cut r
theorem cut_top : ∀ xs : List Nat, Top (cut xs)
  | [] => Top.nil
  | x :: r => by
    unfold cut
    split
    · exact Top.nil
    · rename_i h
      have := cut_top r
      cases hc : cut r with
      | nil =>
        have : x ≠ 0 := fun h0 => h ⟨hc, h0⟩
        simp [Top, this]
      | cons y s => rw [hc] at this; simpa [Top] using this
theorem cut_val (B : Nat) : ∀ xs : List Nat, val B (cut xs) = val B xs
  | [] => rfl
  | x :: r => by
    have := cut_val B r
    unfold cut
    split
    · rename_i h
      rw [h.1] at this
      simp only [val_nil, val_cons] at this ⊢
      rw [← this, h.2]; simp
    · simp [this]
theorem cut_low {B : Nat} : ∀ {xs : List Nat}, Low B xs → Low B (cut xs)
  | [], _ => Low.nil B
  | x :: r, h => by
    unfold cut
    split
    · exact Low.nil B
    · exact Low.cons h.head (cut_low h.tail)
theorem cut_len : ∀ xs : List Nat, (cut xs).length ≤ xs.length
  | [] => Nat.le_refl _
  | x :: r => by
    have := cut_len r
    unfold cut
    split <;> simp <;> omega
theorem cut_take : ∀ xs : List Nat, cut xs = xs.take (cut xs).length
  | [] => rfl
  | x :: r => by
    have := cut_take r
    unfold cut
    split
    · simp
    · simp [← this]
theorem cut_of_top : ∀ {xs : List Nat}, Top xs → cut xs = xs
  | [], _ => rfl
  | x :: r, h => by
    unfold cut
    rw [cut_of_top h.tail]
    split
    · rename_i hc
      obtain ⟨rfl, rfl⟩ := hc
      simp [Top] at h
    · rfl
theorem cut_snoc_zero : ∀ xs : List Nat, cut (xs ++ [0]) = cut xs
  | [] => by simp [cut]
  | x :: r => by
    show cut (x :: (r ++ [0])) = _
    unfold cut
    rw [cut_snoc_zero r]
theorem top_of_last {xs : List Nat} (h : xs = [] ∨ xs.getD (xs.length - 1) 0 ≠ 0) : Top xs := by
  rcases List.eq_nil_or_concat xs with rfl | ⟨r, x, rfl⟩
  · exact Top.nil
  · rw [List.concat_eq_append] at h ⊢
    rcases h with h | h
    · simp at h
    · refine Top.snoc ?_
      simpa [List.getD_eq_getElem?_getD] using h
theorem take_succ {xs : List Nat} {k : Nat} (h : k < xs.length) : xs.take (k + 1) = xs.take k ++ [xs.getD k 0] := by
  rw [List.take_succ_eq_append_getElem h, List.getD_eq_getElem?_getD, List.getElem?_eq_getElem h]
  rfl
theorem drop_at {xs : List Nat} {k : Nat} (h : k < xs.length) : xs.drop k = xs.getD k 0 :: xs.drop (k + 1) := by
  rw [List.drop_eq_getElem_cons h, List.getD_eq_getElem?_getD, List.getElem?_eq_getElem h]
  rfl
theorem val_take_succ (B : Nat) {xs : List Nat} {k : Nat} (h : k < xs.length) : val B (xs.take (k + 1)) = val B (xs.take k) + B ^ k * xs.getD k 0 := by
  rw [take_succ h, val_snoc, List.length_take, Nat.min_eq_left (by omega)]
theorem getD_past {xs : List Nat} {k : Nat} (h : xs.length ≤ k) : xs.getD k 0 = 0 := by
  rw [List.getD_eq_getElem?_getD, List.getElem?_eq_none h]; rfl
/-- Whether there is such a digit or not. -/
theorem val_take_any (B : Nat) (xs : List Nat) (k : Nat) : val B (xs.take (k + 1)) = val B (xs.take k) + B ^ k * xs.getD k 0 := by
  by_cases h : k < xs.length
  · exact val_take_succ B h
  · rw [getD_past (by omega), List.take_of_length_le (by omega), List.take_of_length_le (by omega), Nat.mul_zero, Nat.add_zero]
theorem val_drop (B : Nat) {xs : List Nat} {k : Nat} (h : k < xs.length) : val B (xs.drop k) = xs.getD k 0 + B * val B (xs.drop (k + 1)) := by
  rw [drop_at h, val_cons]
/-- The greater number has as many digits, or more. -/
theorem len_le {B : Nat} (hB : 1 < B) {xs ys : List Nat} (hx : Low B xs) (hy : Top ys) (h : val B ys ≤ val B xs) : ys.length ≤ xs.length := by
  rcases Nat.lt_or_ge xs.length ys.length with hlt | hge
  · exfalso
    have hne : ys ≠ [] := by intro e; subst e; simp at hlt
    have h1 := val_lt hx
    have h2 := val_ge (B := B) hy hne
    have h3 : B ^ xs.length ≤ B ^ (ys.length - 1) := Nat.pow_le_pow_right (by omega) (by omega)
    exact absurd (Nat.le_trans h3 (Nat.le_trans h2 h)) (Nat.not_le_of_lt h1)
  · exact hge
end Dg
end Go.Proofs.YtmcfciifjgdgoaaGreatDoor
