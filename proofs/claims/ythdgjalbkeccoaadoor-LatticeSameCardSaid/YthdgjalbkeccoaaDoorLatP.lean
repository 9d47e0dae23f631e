/- Levels as plain lists of numbers: what the functions of package lattice come to. No program is named here. -/
import Derived.Lib.BitFns
namespace Go.Proofs.YthdgjalbkeccoaaDoor.La

def low (up : List Nat) (a b : Nat) : Bool := (up.getD a 0).testBit b
def rowOk (up : List Nat) (a b : Nat) : Bool := a == b || !low up a b || (!low up b a && ((up.getD b 0 &&& (255 - up.getD a 0)) == 0))
def headOk (up : List Nat) (a : Nat) : Bool := (up.getD a 0 / 2 ^ up.length == 0) && low up a a
def isOrder (up : List Nat) : Bool := (List.range up.length).all fun a => headOk up a && (List.range up.length).all (rowOk up a)
/-- The first place at which 'p' holds, from 'k' on. -/
def findFrom (p : Nat → Bool) : List Nat → Nat → Int
  | [], _ => -1
  | x :: xs, k => if p x then (k : Int) else findFrom p xs (k + 1)
def find (p : Nat → Bool) (up : List Nat) : Int := findFrom p up 0
def join (up : List Nat) (a b : Nat) : Int := find (fun x => x == (up.getD a 0 &&& up.getD b 0)) up
def bottom (up : List Nat) : Int := find (fun x => Lib.onesCount x == up.length) up
def hasJoins (up : List Nat) : Bool := (List.range up.length).all fun a => (List.range a).all fun b => decide (0 ≤ join up a b)
def valid (up : List Nat) : Bool := decide (1 ≤ up.length) && decide (up.length ≤ 8) && isOrder up && decide (0 ≤ bottom up) && hasJoins up
def flipRow (up : List Nat) (a : Nat) : Nat → Nat
  | 0 => 0
  | b + 1 => if low up b a then flipRow up a b ||| 2 ^ b else flipRow up a b
def flip (up : List Nat) : List Nat := (List.range up.length).map fun a => flipRow up a up.length
def isLevel (up : List Nat) (a : Int) : Bool := decide (0 ≤ a) && decide (a < up.length)
def can (up : List Nat) (a b : Int) : Bool := isLevel up a && isLevel up b && valid up

theorem findFrom_none {p : Nat → Bool} {l : List Nat} (h : ∀ x ∈ l, p x = false) : ∀ k, findFrom p l k = -1 := by
  induction l with
  | nil => intro k; rfl
  | cons x xs ih =>
    intro k
    rw [findFrom, h x (by simp), if_neg (by simp)]
    exact ih (fun y hy => h y (by simp [hy])) _
theorem all_range {n : Nat} {p : Nat → Bool} (h : ∀ a, a < n → p a = true) : (List.range n).all p = true := by
  rw [List.all_eq_true]
  intro x hx
  exact h x (List.mem_range.1 hx)
theorem all_range_no {n a : Nat} {p : Nat → Bool} (ha : a < n) (h : p a = false) : (List.range n).all p = false := by
  rw [List.all_eq_false]
  exact ⟨a, List.mem_range.2 ha, by simp [h]⟩
theorem of_all_range {n : Nat} {p : Nat → Bool} (h : (List.range n).all p = true) (a : Nat) (ha : a < n) : p a = true := List.all_eq_true.1 h a (List.mem_range.2 ha)

theorem hasJoins_yes {up : List Nat} (h : ∀ a, a < up.length → ∀ b, b < a → 0 ≤ join up a b) : hasJoins up = true :=
  all_range fun a ha => all_range fun b hb => decide_eq_true (h a ha b hb)
theorem hasJoins_no {up : List Nat} {a b : Nat} (ha : a < up.length) (hb : b < a) (h : join up a b < 0) : hasJoins up = false :=
  all_range_no ha (all_range_no hb (decide_eq_false (by omega)))
theorem isOrder_yes {up : List Nat} (h : ∀ a, a < up.length → headOk up a = true ∧ ∀ b, b < up.length → rowOk up a b = true) : isOrder up = true :=
  all_range fun a ha => by rw [(h a ha).1, all_range (h a ha).2]; rfl
theorem isOrder_no_head {up : List Nat} {a : Nat} (ha : a < up.length) (h : headOk up a = false) : isOrder up = false :=
  all_range_no ha (by rw [h]; rfl)
theorem isOrder_no_row {up : List Nat} {a b : Nat} (ha : a < up.length) (hb : b < up.length) (h : rowOk up a b = false) : isOrder up = false :=
  all_range_no ha (by rw [all_range_no hb h]; simp)

/-! ### flip, step by step -/
def flipAt (up : List Nat) (k m : Nat) : List Nat := (List.range up.length).map fun j => if j < k then flipRow up j up.length else if j = k then flipRow up j m else 0
theorem flipAt_length (up : List Nat) (k m : Nat) : (flipAt up k m).length = up.length := by simp [flipAt]
theorem flip_length (up : List Nat) : (flip up).length = up.length := by simp [flip]
theorem flipAt_getD (up : List Nat) (k m : Nat) (hk : k < up.length) : (flipAt up k m).getD k 0 = flipRow up k m := by
  simp [flipAt, List.getD_eq_getElem?_getD, hk]
theorem flipAt_set (up : List Nat) (k m m' : Nat) : (flipAt up k m).set k (flipRow up k m') = flipAt up k m' := by
  apply List.ext_getElem
  · simp [flipAt]
  · intro i h1 h2
    rw [List.getElem_set]
    by_cases hik : k = i
    · subst hik; simp [flipAt]
    · rw [if_neg hik]
      simp [flipAt, Ne.symm hik]
theorem flipAt_next (up : List Nat) (k : Nat) : flipAt up k up.length = flipAt up (k + 1) 0 := by
  unfold flipAt
  apply List.map_congr_left
  intro j _
  by_cases h1 : j < k
  · rw [if_pos h1, if_pos (by omega)]
  · by_cases h2 : j = k
    · subst h2; simp
    · rw [if_neg h1, if_neg h2, if_neg (by omega)]
      split
      · rfl
      · rfl
theorem flipAt_end (up : List Nat) : flipAt up up.length 0 = flip up := by
  unfold flipAt flip
  apply List.map_congr_left
  intro j hj
  rw [if_pos (List.mem_range.1 hj)]
theorem flipAt_start (up : List Nat) : flipAt up 0 0 = List.replicate up.length 0 := by
  apply List.ext_getElem
  · simp [flipAt]
  · intro i h1 h2
    simp [flipAt, flipRow]
theorem flipRow_lt (up : List Nat) (a : Nat) : ∀ m, flipRow up a m < 2 ^ m
  | 0 => by simp [flipRow]
  | m + 1 => by
    have ih := flipRow_lt up a m
    have h2 : 2 ^ (m + 1) = 2 ^ m * 2 := Nat.pow_succ _ _
    rw [flipRow]
    split
    · exact Nat.or_lt_two_pow (by omega) (by omega)
    · omega
theorem flip_lt (up : List Nat) (hn : up.length ≤ 8) : ∀ x ∈ flip up, x < 256 := by
  intro x hx
  obtain ⟨a, _, rfl⟩ := List.mem_map.1 hx
  exact Nat.lt_of_lt_of_le (flipRow_lt up a _) (Nat.pow_le_pow_right (by decide) hn : _ ≤ 2 ^ 8)

/-! ### the exported functions -/
def leq (up : List Nat) (a b : Int) : Bool := can up a b && low up a.toNat b.toNat
def joinOf (up : List Nat) (a b : Int) : Int := if can up a b then join up a.toNat b.toNat else 0
def meetOf (up : List Nat) (a b : Int) : Int := if can up a b then join (flip up) a.toNat b.toNat else 0
theorem valid_spec {up : List Nat} (h : valid up = true) : 1 ≤ up.length ∧ up.length ≤ 8 := by
  simp only [valid, Bool.and_eq_true, decide_eq_true_eq] at h
  exact ⟨h.1.1.1.1, h.1.1.1.2⟩
theorem can_spec {up : List Nat} {a b : Int} (h : can up a b = true) : 0 ≤ a ∧ a < up.length ∧ 0 ≤ b ∧ b < up.length ∧ up.length ≤ 8 := by
  simp only [can, isLevel, Bool.and_eq_true, decide_eq_true_eq] at h
  exact ⟨h.1.1.1, h.1.1.2, h.1.2.1, h.1.2.2, (valid_spec h.2).2⟩

/-! ### chains -/
def chainRow (a : Nat) : Nat → Nat
  | 0 => 0
  | m + 1 => if a ≤ m then chainRow a m ||| 2 ^ m else chainRow a m
def chain (n : Nat) : List Nat := (List.range n).map fun a => chainRow a n
def rowsAt (f : Nat → Nat → Nat) (n k m : Nat) : List Nat := (List.range n).map fun j => if j < k then f j n else if j = k then f j m else 0
theorem rowsAt_length (f : Nat → Nat → Nat) (n k m : Nat) : (rowsAt f n k m).length = n := by simp [rowsAt]
theorem rowsAt_getD (f : Nat → Nat → Nat) (n k m : Nat) (hk : k < n) : (rowsAt f n k m).getD k 0 = f k m := by
  simp [rowsAt, List.getD_eq_getElem?_getD, hk]
theorem rowsAt_set (f : Nat → Nat → Nat) (n k m m' : Nat) : (rowsAt f n k m).set k (f k m') = rowsAt f n k m' := by
  apply List.ext_getElem
  · simp [rowsAt]
  · intro i h1 h2
    rw [List.getElem_set]
    by_cases hik : k = i
    · subst hik; simp [rowsAt]
    · rw [if_neg hik]
      simp [rowsAt, Ne.symm hik]
theorem rowsAt_next (f : Nat → Nat → Nat) (n k m : Nat) (h0 : f (k + 1) m = 0) : rowsAt f n k n = rowsAt f n (k + 1) m := by
  unfold rowsAt
  apply List.map_congr_left
  intro j _
  by_cases h1 : j < k
  · rw [if_pos h1, if_pos (by omega)]
  · by_cases h2 : j = k
    · subst h2; simp
    · rw [if_neg h1, if_neg h2, if_neg (by omega)]
      split
      · rename_i h3; rw [h3, h0]
      · rfl
theorem rowsAt_end (f : Nat → Nat → Nat) (n m : Nat) : rowsAt f n n m = (List.range n).map fun a => f a n := by
  unfold rowsAt
  apply List.map_congr_left
  intro j hj
  rw [if_pos (List.mem_range.1 hj)]
theorem rowsAt_start (f : Nat → Nat → Nat) (n : Nat) (h0 : f 0 0 = 0) : rowsAt f n 0 0 = List.replicate n 0 := by
  apply List.ext_getElem
  · simp [rowsAt]
  · intro i h1 h2
    by_cases hi : i = 0
    · subst hi; simp [rowsAt, h0]
    · simp [rowsAt, hi]
theorem chainRow_self (a : Nat) : ∀ m, m ≤ a → chainRow a m = 0
  | 0, _ => rfl
  | m + 1, h => by rw [chainRow, if_neg (by omega), chainRow_self a m (by omega)]
theorem chainRow_lt (a : Nat) : ∀ m, chainRow a m < 2 ^ m
  | 0 => by simp [chainRow]
  | m + 1 => by
    have ih := chainRow_lt a m
    have h2 : 2 ^ (m + 1) = 2 ^ m * 2 := Nat.pow_succ _ _
    rw [chainRow]
    split
    · exact Nat.or_lt_two_pow (by omega) (by omega)
    · omega
theorem chain_length (n : Nat) : (chain n).length = n := by simp [chain]
theorem chain_lt (n : Nat) (hn : n ≤ 8) : ∀ x ∈ chain n, x < 256 := by
  intro x hx
  obtain ⟨a, _, rfl⟩ := List.mem_map.1 hx
  exact Nat.lt_of_lt_of_le (chainRow_lt a _) (Nat.pow_le_pow_right (by decide) hn : _ ≤ 2 ^ 8)
end Go.Proofs.YthdgjalbkeccoaaDoor.La
