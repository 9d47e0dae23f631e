/- Parts of elder texts that this layer needs, joined: XLatP XLatMath XLatMath2. -/
import Derived.Lib.BitFns
namespace Go.Proofs.YtidnaednldcdfaaGreatDoor.La

def low (up : List Nat) (a b : Nat) : Bool := (up.getD a 0).testBit b
def rowOk (up : List Nat) (a b : Nat) : Bool := a == b || !low up a b || (!low up b a && ((up.getD b 0 &&& (255 - up.getD a 0)) == 0))
def headOk (up : List Nat) (a : Nat) : Bool := (up.getD a 0 / 2 ^ up.length == 0) && low up a a
def isOrder (up : List Nat) : Bool := (List.range up.length).all fun a => headOk up a && (List.range up.length).all (rowOk up a)
/-- The first place at which 'p' holds, from 'k' on. -/
def findFrom (p : Nat → Bool) : List Nat → Nat → Int
  | [], _ => -1
  | x :: xs, k => if p x then (k : Int) else findFrom p xs (k + 1)
def find (p : Nat → Bool) (up : List Nat) : Int := findFrom p up 0
def join (up : List Nat) (a b : Nat) : Int := find (fun x => x == (up.getD a 0 &&& up.getD b 0)) up
def bottom (up : List Nat) : Int := find (fun x => Lib.onesCount x == up.length) up
def hasJoins (up : List Nat) : Bool := (List.range up.length).all fun a => (List.range a).all fun b => decide (0 ≤ join up a b)
def valid (up : List Nat) : Bool := decide (1 ≤ up.length) && decide (up.length ≤ 8) && isOrder up && decide (0 ≤ bottom up) && hasJoins up
def flipRow (up : List Nat) (a : Nat) : Nat → Nat
  | 0 => 0
  | b + 1 => if low up b a then flipRow up a b ||| 2 ^ b else flipRow up a b
def flip (up : List Nat) : List Nat := (List.range up.length).map fun a => flipRow up a up.length
def isLevel (up : List Nat) (a : Int) : Bool := decide (0 ≤ a) && decide (a < up.length)
def can (up : List Nat) (a b : Int) : Bool := isLevel up a && isLevel up b && valid up

theorem findFrom_none {p : Nat → Bool} {l : List Nat} (h : ∀ x ∈ l, p x = false) : ∀ k, findFrom p l k = -1 := by
  induction l with
  | nil => intro k; rfl
  | cons x xs ih =>
    intro k
    rw [findFrom, h x (by simp), if_neg (by simp)]
    exact ih (fun y hy => h y (by simp [hy])) _
theorem all_range {n : Nat} {p : Nat → Bool} (h : ∀ a, a < n → p a = true) : (List.range n).all p = true := by
  rw [List.all_eq_true]
  intro x hx
  exact h x (List.mem_range.1 hx)
theorem all_range_no {n a : Nat} {p : Nat → Bool} (ha : a < n) (h : p a = false) : (List.range n).all p = false := by
  rw [List.all_eq_false]
  exact ⟨a, List.mem_range.2 ha, by simp [h]⟩
theorem of_all_range {n : Nat} {p : Nat → Bool} (h : (List.range n).all p = true) (a : Nat) (ha : a < n) : p a = true := List.all_eq_true.1 h a (List.mem_range.2 ha)

theorem hasJoins_yes {up : List Nat} (h : ∀ a, a < up.length → ∀ b, b < a → 0 ≤ join up a b) : hasJoins up = true :=
  all_range fun a ha => all_range fun b hb => decide_eq_true (h a ha b hb)
theorem hasJoins_no {up : List Nat} {a b : Nat} (ha : a < up.length) (hb : b < a) (h : join up a b < 0) : hasJoins up = false :=
  all_range_no ha (all_range_no hb (decide_eq_false (by omega)))
theorem isOrder_yes {up : List Nat} (h : ∀ a, a < up.length → headOk up a = true ∧ ∀ b, b < up.length → rowOk up a b = true) : isOrder up = true :=
  all_range fun a ha => by rw [(h a ha).1, all_range (h a ha).2]; rfl
theorem isOrder_no_head {up : List Nat} {a : Nat} (ha : a < up.length) (h : headOk up a = false) : isOrder up = false :=
  all_range_no ha (by rw [h]; rfl)
theorem isOrder_no_row {up : List Nat} {a b : Nat} (ha : a < up.length) (hb : b < up.length) (h : rowOk up a b = false) : isOrder up = false :=
  all_range_no ha (by rw [all_range_no hb h]; simp)

def flipAt (up : List Nat) (k m : Nat) : List Nat := (List.range up.length).map fun j => if j < k then flipRow up j up.length else if j = k then flipRow up j m else 0
theorem flipAt_length (up : List Nat) (k m : Nat) : (flipAt up k m).length = up.length := by simp [flipAt]
theorem flip_length (up : List Nat) : (flip up).length = up.length := by simp [flip]
theorem flipAt_getD (up : List Nat) (k m : Nat) (hk : k < up.length) : (flipAt up k m).getD k 0 = flipRow up k m := by
  simp [flipAt, List.getD_eq_getElem?_getD, hk]
theorem flipAt_set (up : List Nat) (k m m' : Nat) : (flipAt up k m).set k (flipRow up k m') = flipAt up k m' := by
  apply List.ext_getElem
  · simp [flipAt]
  · intro i h1 h2
    rw [List.getElem_set]
    by_cases hik : k = i
    · subst hik; simp [flipAt]
    · rw [if_neg hik]
      simp [flipAt, Ne.symm hik]
theorem flipAt_next (up : List Nat) (k : Nat) : flipAt up k up.length = flipAt up (k + 1) 0 := by
  unfold flipAt
  apply List.map_congr_left
  intro j _
  by_cases h1 : j < k
  · rw [if_pos h1, if_pos (by omega)]
  · by_cases h2 : j = k
    · subst h2; simp
    · rw [if_neg h1, if_neg h2, if_neg (by omega)]
      split
      · rfl
      · rfl
theorem flipAt_end (up : List Nat) : flipAt up up.length 0 = flip up := by
  unfold flipAt flip
  apply List.map_congr_left
  intro j hj
  rw [if_pos (List.mem_range.1 hj)]
theorem flipAt_start (up : List Nat) : flipAt up 0 0 = List.replicate up.length 0 := by
  apply List.ext_getElem
  · simp [flipAt]
  · intro i h1 h2
    simp [flipAt, flipRow]
theorem flipRow_lt (up : List Nat) (a : Nat) : ∀ m, flipRow up a m < 2 ^ m
  | 0 => by simp [flipRow]
  | m + 1 => by
    have ih := flipRow_lt up a m
    have h2 : 2 ^ (m + 1) = 2 ^ m * 2 := Nat.pow_succ _ _
    rw [flipRow]
    split
    · exact Nat.or_lt_two_pow (by omega) (by omega)
    · omega
theorem flip_lt (up : List Nat) (hn : up.length ≤ 8) : ∀ x ∈ flip up, x < 256 := by
  intro x hx
  obtain ⟨a, _, rfl⟩ := List.mem_map.1 hx
  exact Nat.lt_of_lt_of_le (flipRow_lt up a _) (Nat.pow_le_pow_right (by decide) hn : _ ≤ 2 ^ 8)

def leq (up : List Nat) (a b : Int) : Bool := can up a b && low up a.toNat b.toNat
def joinOf (up : List Nat) (a b : Int) : Int := if can up a b then join up a.toNat b.toNat else 0
def meetOf (up : List Nat) (a b : Int) : Int := if can up a b then join (flip up) a.toNat b.toNat else 0
theorem valid_spec {up : List Nat} (h : valid up = true) : 1 ≤ up.length ∧ up.length ≤ 8 := by
  simp only [valid, Bool.and_eq_true, decide_eq_true_eq] at h
  exact ⟨h.1.1.1.1, h.1.1.1.2⟩
theorem can_spec {up : List Nat} {a b : Int} (h : can up a b = true) : 0 ≤ a ∧ a < up.length ∧ 0 ≤ b ∧ b < up.length ∧ up.length ≤ 8 := by
  simp only [can, isLevel, Bool.and_eq_true, decide_eq_true_eq] at h
  exact ⟨h.1.1.1, h.1.1.2, h.1.2.1, h.1.2.2, (valid_spec h.2).2⟩

def chainRow (a : Nat) : Nat → Nat
  | 0 => 0
  | m + 1 => if a ≤ m then chainRow a m ||| 2 ^ m else chainRow a m
def chain (n : Nat) : List Nat := (List.range n).map fun a => chainRow a n
def rowsAt (f : Nat → Nat → Nat) (n k m : Nat) : List Nat := (List.range n).map fun j => if j < k then f j n else if j = k then f j m else 0
theorem rowsAt_length (f : Nat → Nat → Nat) (n k m : Nat) : (rowsAt f n k m).length = n := by simp [rowsAt]
theorem rowsAt_getD (f : Nat → Nat → Nat) (n k m : Nat) (hk : k < n) : (rowsAt f n k m).getD k 0 = f k m := by
  simp [rowsAt, List.getD_eq_getElem?_getD, hk]
theorem rowsAt_set (f : Nat → Nat → Nat) (n k m m' : Nat) : (rowsAt f n k m).set k (f k m') = rowsAt f n k m' := by
  apply List.ext_getElem
  · simp [rowsAt]
  · intro i h1 h2
    rw [List.getElem_set]
    by_cases hik : k = i
    · subst hik; simp [rowsAt]
    · rw [if_neg hik]
      simp [rowsAt, Ne.symm hik]
theorem rowsAt_next (f : Nat → Nat → Nat) (n k m : Nat) (h0 : f (k + 1) m = 0) : rowsAt f n k n = rowsAt f n (k + 1) m := by
  unfold rowsAt
  apply List.map_congr_left
  intro j _
  by_cases h1 : j < k
  · rw [if_pos h1, if_pos (by omega)]
  · by_cases h2 : j = k
    · subst h2; simp
    · rw [if_neg h1, if_neg h2, if_neg (by omega)]
      split
      · rename_i h3; rw [h3, h0]
      · rfl
theorem rowsAt_end (f : Nat → Nat → Nat) (n m : Nat) : rowsAt f n n m = (List.range n).map fun a => f a n := by
  unfold rowsAt
  apply List.map_congr_left
  intro j hj
  rw [if_pos (List.mem_range.1 hj)]
theorem rowsAt_start (f : Nat → Nat → Nat) (n : Nat) (h0 : f 0 0 = 0) : rowsAt f n 0 0 = List.replicate n 0 := by
  apply List.ext_getElem
  · simp [rowsAt]
  · intro i h1 h2
    by_cases hi : i = 0
    · subst hi; simp [rowsAt, h0]
    · simp [rowsAt, hi]
theorem chainRow_self (a : Nat) : ∀ m, m ≤ a → chainRow a m = 0
  | 0, _ => rfl
  | m + 1, h => by rw [chainRow, if_neg (by omega), chainRow_self a m (by omega)]
theorem chainRow_lt (a : Nat) : ∀ m, chainRow a m < 2 ^ m
  | 0 => by simp [chainRow]
  | m + 1 => by
    have ih := chainRow_lt a m
    have h2 : 2 ^ (m + 1) = 2 ^ m * 2 := Nat.pow_succ _ _
    rw [chainRow]
    split
    · exact Nat.or_lt_two_pow (by omega) (by omega)
    · omega
theorem chain_length (n : Nat) : (chain n).length = n := by simp [chain]
theorem chain_lt (n : Nat) (hn : n ≤ 8) : ∀ x ∈ chain n, x < 256 := by
  intro x hx
  obtain ⟨a, _, rfl⟩ := List.mem_map.1 hx
  exact Nat.lt_of_lt_of_le (chainRow_lt a _) (Nat.pow_le_pow_right (by decide) hn : _ ≤ 2 ^ 8)
end Go.Proofs.YtidnaednldcdfaaGreatDoor.La
namespace Go.Proofs.YtidnaednldcdfaaGreatDoor.La

theorem find_spec (p : Nat → Bool) (up : List Nat) : (find p up = -1 ∧ ∀ i, i < up.length → p (up.getD i 0) = false) ∨ ∃ j, j < up.length ∧ find p up = (j : Int) ∧ p (up.getD j 0) = true := by
  have main : ∀ (l : List Nat) (k : Nat), (findFrom p l k = -1 ∧ ∀ i, i < l.length → p (l.getD i 0) = false) ∨ ∃ j, j < l.length ∧ findFrom p l k = ((k + j : Nat) : Int) ∧ p (l.getD j 0) = true := by
    intro l
    induction l with
    | nil => intro k; exact .inl ⟨rfl, fun i hi => by simp at hi⟩
    | cons x xs ih =>
      intro k
      cases hx : p x
      · rcases ih (k + 1) with ⟨h1, h2⟩ | ⟨j, h1, h2, h3⟩
        · refine .inl ⟨by simp [findFrom, hx, h1], fun i hi => ?_⟩
          cases i with
          | zero => simpa using hx
          | succ i => simpa using h2 i (by simpa using hi)
        · refine .inr ⟨j + 1, by simpa using h1, ?_, by simpa using h3⟩
          simp [findFrom, hx, h2]; omega
      · exact .inr ⟨0, by simp, by simp [findFrom, hx], by simpa using hx⟩
  rcases main up 0 with h | ⟨j, h1, h2, h3⟩
  · exact .inl h
  · exact .inr ⟨j, h1, by simpa [find] using h2, h3⟩

/-- An order, as its rows of bits. -/
structure Ord (up : List Nat) : Prop where
  small : up.length ≤ 8
  pos : 0 < up.length
  rows : ∀ a, a < up.length → ∀ d, (up.getD a 0).testBit d = true → d < up.length
  refl : ∀ a, a < up.length → low up a a = true
  anti : ∀ a b, a < up.length → b < up.length → low up a b = true → low up b a = true → a = b
  trans : ∀ a b c, a < up.length → b < up.length → c < up.length → low up a b = true → low up b c = true → low up a c = true

theorem Ord.inj {up : List Nat} (h : Ord up) {a b : Nat} (ha : a < up.length) (hb : b < up.length) (e : ∀ d, d < up.length → low up a d = low up b d) : a = b :=
  h.anti a b ha hb (by rw [e b hb]; exact h.refl b hb) (by rw [← e a ha]; exact h.refl a ha)

/-- 'j' is the join of two. -/
def IsJoin (up : List Nat) (a b j : Nat) : Prop := j < up.length ∧ ∀ d, d < up.length → low up j d = (low up a d && low up b d)
theorem IsJoin.eq {up : List Nat} (h : Ord up) {a b j k : Nat} (hj : IsJoin up a b j) (hk : IsJoin up a b k) : j = k :=
  h.inj hj.1 hk.1 fun d hd => (hj.2 d hd).trans (hk.2 d hd).symm

theorem and_of_join {up : List Nat} (h : Ord up) {a b j : Nat} (ha : a < up.length) (hj : IsJoin up a b j) : up.getD j 0 = (up.getD a 0 &&& up.getD b 0) := by
  apply Nat.eq_of_testBit_eq
  intro d
  rw [Nat.testBit_and]
  by_cases hd : d < up.length
  · exact hj.2 d hd
  · have h1 : (up.getD j 0).testBit d = false := by
      cases hq : (up.getD j 0).testBit d
      · rfl
      · exact absurd (h.rows j hj.1 d hq) hd
    have h2 : (up.getD a 0).testBit d = false := by
      cases hq : (up.getD a 0).testBit d
      · rfl
      · exact absurd (h.rows a ha d hq) hd
    rw [h1, h2]; rfl
theorem join_eq {up : List Nat} (h : Ord up) {a b j : Nat} (ha : a < up.length) (hj : IsJoin up a b j) : join up a b = (j : Int) := by
  unfold join
  rcases find_spec (fun x => x == (up.getD a 0 &&& up.getD b 0)) up with ⟨_, h2⟩ | ⟨k, h1, h2, h3⟩
  · have := h2 j hj.1
    rw [and_of_join h ha hj] at this
    simp at this
  · rw [h2]
    have h3' : up.getD k 0 = (up.getD a 0 &&& up.getD b 0) := by simpa using h3
    have : k = j := h.inj h1 hj.1 fun d _ => by unfold low; rw [h3', and_of_join h ha hj]
    rw [this]
theorem isJoin_of {up : List Nat} {a b : Nat} (h0 : 0 ≤ join up a b) : ∃ j : Nat, join up a b = (j : Int) ∧ IsJoin up a b j := by
  unfold join at h0 ⊢
  rcases find_spec (fun x => x == (up.getD a 0 &&& up.getD b 0)) up with ⟨h1, _⟩ | ⟨k, h1, h2, h3⟩
  · rw [h1] at h0; exact absurd h0 (by decide)
  · have h3' : up.getD k 0 = (up.getD a 0 &&& up.getD b 0) := by simpa using h3
    exact ⟨k, h2, h1, fun d _ => by unfold low; rw [h3', Nat.testBit_and]⟩

/-- A lattice: an order with a bottom and all joins. -/
structure Lattice (up : List Nat) : Prop extends Ord up where
  bot : ∃ z, z < up.length ∧ ∀ d, d < up.length → low up z d = true
  joins : ∀ a b, a < up.length → b < up.length → ∃ j, IsJoin up a b j

theorem ones_all : ∀ x : Fin 256, ∀ n : Fin 9, x.val < 2 ^ n.val → Lib.onesCount x.val = n.val → ∀ d : Fin 9, d.val < n.val → x.val.testBit d.val = true := by decide +kernel
theorem all_ones : ∀ n : Fin 9, Lib.onesCount (2 ^ n.val - 1) = n.val := by decide +kernel

theorem row_lt {up : List Nat} (h : Ord up) {a : Nat} (ha : a < up.length) : up.getD a 0 < 2 ^ up.length :=
  Nat.lt_pow_two_of_testBit _ fun i hi => by
    cases hq : (up.getD a 0).testBit i
    · rfl
    · exact absurd (h.rows a ha i hq) (by omega)
theorem ones_iff {up : List Nat} (h : Ord up) {a : Nat} (ha : a < up.length) : (Lib.onesCount (up.getD a 0) == up.length) = true ↔ ∀ d, d < up.length → low up a d = true := by
  have hl := row_lt h ha
  have h8 := h.small
  constructor
  · intro e d hd
    have hp : up.getD a 0 < 256 := Nat.lt_of_lt_of_le hl (Nat.pow_le_pow_right (by decide) h8 : _ ≤ 2 ^ 8)
    exact ones_all ⟨up.getD a 0, hp⟩ ⟨up.length, by omega⟩ hl (by simpa using e) ⟨d, by omega⟩ hd
  · intro e
    have e2 : up.getD a 0 = 2 ^ up.length - 1 := by
      apply Nat.eq_of_testBit_eq
      intro i
      rw [Nat.testBit_two_pow_sub_one]
      by_cases hi : i < up.length
      · rw [decide_eq_true hi]; exact e i hi
      · rw [decide_eq_false hi]
        cases hq : (up.getD a 0).testBit i
        · rfl
        · exact absurd (h.rows a ha i hq) hi
    rw [e2, all_ones ⟨up.length, by omega⟩]
    simp
theorem bottom_eq {up : List Nat} (h : Ord up) {z : Nat} (hz : z < up.length) (hb : ∀ d, d < up.length → low up z d = true) : bottom up = (z : Int) := by
  unfold bottom
  rcases find_spec (fun x => Lib.onesCount x == up.length) up with ⟨_, h2⟩ | ⟨k, h1, h2, h3⟩
  · have := h2 z hz
    rw [(ones_iff h hz).2 hb] at this
    cases this
  · rw [h2]
    have hk := (ones_iff h h1).1 h3
    rw [h.anti k z h1 hz (hk z hz) (hb k h1)]

theorem and_not_zero {x y : Nat} (hy : y < 256) (h : y &&& (255 - x) = 0) (hx : x < 256) (d : Nat) (hd : y.testBit d = true) : x.testBit d = true := by
  have h1 := congrArg (fun n => Nat.testBit n d) h
  simp only [Nat.testBit_and, hd, Bool.true_and, Nat.zero_testBit] at h1
  have hd8 : d < 8 := by
    rcases Nat.lt_or_ge d 8 with h | h
    · exact h
    · rw [Nat.testBit_lt_two_pow (Nat.lt_of_lt_of_le hy (Nat.pow_le_pow_right (by decide) h : 2 ^ 8 ≤ _))] at hd
      cases hd
  have h2 : (255 - x) = 2 ^ 8 - (x + 1) := by omega
  rw [h2, Nat.testBit_two_pow_sub_succ (by omega), decide_eq_true hd8, Bool.true_and] at h1
  simpa using h1

theorem lattice_of_valid {up : List Nat} (h256 : ∀ x ∈ up, x < 256) (h : valid up = true) : Lattice up := by
  have hs := valid_spec h
  simp only [valid, Bool.and_eq_true, decide_eq_true_eq] at h
  obtain ⟨⟨⟨_, ho⟩, hb⟩, hj⟩ := h
  have hlt : ∀ a, up.getD a 0 < 256 := by
    intro a
    rcases Nat.lt_or_ge a up.length with ha | ha
    · rw [List.getD_eq_getElem?_getD, List.getElem?_eq_getElem ha]; exact h256 _ (List.getElem_mem ha)
    · rw [List.getD_eq_getElem?_getD, List.getElem?_eq_none ha]; decide
  have hrow : ∀ a, a < up.length → headOk up a = true ∧ ∀ b, b < up.length → rowOk up a b = true := by
    intro a ha
    have := of_all_range ho a ha
    rw [Bool.and_eq_true] at this
    exact ⟨this.1, fun b hb => of_all_range this.2 b hb⟩
  have O : Ord up := by
    refine ⟨hs.2, by omega, ?_, ?_, ?_, ?_⟩
    · intro a ha d hd
      have h1 := (hrow a ha).1
      rw [headOk, Bool.and_eq_true, beq_iff_eq] at h1
      have h2 : up.getD a 0 < 2 ^ up.length := (Nat.div_eq_zero_iff_lt (Nat.two_pow_pos _)).1 h1.1
      rcases Nat.lt_or_ge d up.length with hl | hl
      · exact hl
      · rw [Nat.testBit_lt_two_pow (Nat.lt_of_lt_of_le h2 (Nat.pow_le_pow_right (by decide) hl))] at hd
        cases hd
    · intro a ha
      have h1 := (hrow a ha).1
      rw [headOk, Bool.and_eq_true] at h1
      exact h1.2
    · intro a b ha hb hab hba
      have h1 := (hrow a ha).2 b hb
      rw [rowOk, hab, hba] at h1
      simpa using h1
    · intro a b c ha hb hc hab hbc
      have h1 := (hrow a ha).2 b hb
      rw [rowOk, hab] at h1
      by_cases e : a = b
      · subst e; exact hbc
      · have e2 : (a == b) = false := by simpa using e
        rw [e2] at h1
        simp only [Bool.false_or, Bool.not_true, Bool.and_eq_true, beq_iff_eq] at h1
        exact and_not_zero (hlt b) h1.2 (hlt a) c hbc
  refine { toOrd := O, bot := ?_, joins := ?_ }
  · unfold bottom at hb
    rcases find_spec (fun x => Lib.onesCount x == up.length) up with ⟨h1, _⟩ | ⟨k, h1, h2, h3⟩
    · rw [h1] at hb; exact absurd hb (by decide)
    · exact ⟨k, h1, (ones_iff O h1).1 h3⟩
  · intro a b ha hb'
    rcases Nat.lt_trichotomy a b with hab | hab | hab
    · have := of_all_range (of_all_range hj b hb') a hab
      obtain ⟨j, _, hj⟩ := isJoin_of (of_decide_eq_true this)
      exact ⟨j, hj.1, fun d hd => by rw [hj.2 d hd, Bool.and_comm]⟩
    · subst hab
      exact ⟨a, ha, fun d _ => by rw [Bool.and_self]⟩
    · have := of_all_range (of_all_range hj a ha) b hab
      obtain ⟨j, _, hj⟩ := isJoin_of (of_decide_eq_true this)
      exact ⟨j, hj⟩

theorem low_flipRow (up : List Nat) (a : Nat) : ∀ m d, (flipRow up a m).testBit d = (decide (d < m) && low up d a)
  | 0, d => by simp [flipRow]
  | m + 1, d => by
    have ih := low_flipRow up a m d
    rw [flipRow]
    by_cases hd : d = m
    · subst hd
      have hz : (flipRow up a d).testBit d = false := Nat.testBit_lt_two_pow (flipRow_lt up a d)
      cases hq : low up d a
      · rw [if_neg (by simp), hz]; simp
      · rw [if_pos rfl, Nat.testBit_or, hz, Nat.testBit_two_pow_self]; simp
    · have h1 : decide (d < m + 1) = decide (d < m) := by
        rw [decide_eq_decide]; omega
      rw [h1, ← ih]
      split
      · rw [Nat.testBit_or, Nat.testBit_two_pow_of_ne (Ne.symm hd), Bool.or_false]
      · rfl
theorem flip_getD (up : List Nat) (a : Nat) (ha : a < up.length) : (flip up).getD a 0 = flipRow up a up.length := by
  simp [flip, List.getD_eq_getElem?_getD, ha]
theorem low_flip {up : List Nat} {a d : Nat} (ha : a < up.length) (hd : d < up.length) : low (flip up) a d = low up d a := by
  rw [low, flip_getD up a ha, low_flipRow, decide_eq_true hd, Bool.true_and]
theorem ord_flip {up : List Nat} (h : Ord up) : Ord (flip up) := by
  have e := flip_length up
  refine ⟨by rw [e]; exact h.small, by rw [e]; exact h.pos, ?_, ?_, ?_, ?_⟩
  · intro a ha d hd
    rw [e] at ha ⊢
    rw [flip_getD up a ha, low_flipRow, Bool.and_eq_true] at hd
    exact of_decide_eq_true hd.1
  · intro a ha
    rw [e] at ha
    rw [low_flip ha ha]; exact h.refl a ha
  · intro a b ha hb
    rw [e] at ha hb
    rw [low_flip ha hb, low_flip hb ha]
    exact fun h1 h2 => h.anti a b ha hb h2 h1
  · intro a b c ha hb hc
    rw [e] at ha hb hc
    rw [low_flip ha hb, low_flip hb hc, low_flip ha hc]
    exact fun h1 h2 => h.trans c b a hc hb ha h2 h1

theorem join_le {up : List Nat} {a b j d : Nat} (hj : IsJoin up a b j) (hd : d < up.length) (h1 : low up a d = true) (h2 : low up b d = true) : low up j d = true := by
  rw [hj.2 d hd, h1, h2]; rfl
theorem le_join {up : List Nat} (h : Ord up) {a b j : Nat} (hj : IsJoin up a b j) : low up a j = true ∧ low up b j = true := by
  have := hj.2 j hj.1
  rw [h.refl j hj.1] at this
  simpa using this.symm

/-- The greatest of all that have some property that joins keep. -/
theorem greatest {up : List Nat} (h : Lattice up) (p : Nat → Prop) (hb : ∀ z, z < up.length → (∀ d, d < up.length → low up z d = true) → p z)
    (hp : ∀ a b j, a < up.length → b < up.length → p a → p b → IsJoin up a b j → p j) (dec : ∀ k, p k ∨ ¬ p k) :
    ∀ k, k ≤ up.length → ∃ m, m < up.length ∧ p m ∧ ∀ d, d < k → p d → low up d m = true := by
  intro k
  induction k with
  | zero =>
    intro _
    obtain ⟨z, hz, hbz⟩ := h.bot
    exact ⟨z, hz, hb z hz hbz, fun d hd => by omega⟩
  | succ k ih =>
    intro hk
    obtain ⟨m, hm, hpm, hall⟩ := ih (by omega)
    rcases dec k with hpk | hpk
    · obtain ⟨j, hj⟩ := h.joins m k hm (by omega)
      have hle := le_join h.toOrd hj
      refine ⟨j, hj.1, hp m k j hm (by omega) hpm hpk hj, fun d hd hpd => ?_⟩
      by_cases e : d = k
      · subst e; exact hle.2
      · exact h.trans d m j (by omega) hm hj.1 (hall d (by omega) hpd) hle.1
    · refine ⟨m, hm, hpm, fun d hd hpd => ?_⟩
      by_cases e : d = k
      · subst e; exact absurd hpd hpk
      · exact hall d (by omega) hpd

theorem meets {up : List Nat} (h : Lattice up) (a b : Nat) (ha : a < up.length) (hb : b < up.length) : ∃ m, IsJoin (flip up) a b m := by
  obtain ⟨m, hm, ⟨h1, h2⟩, hall⟩ := greatest h (fun d => low up d a = true ∧ low up d b = true) (fun z hz hbz => ⟨hbz a ha, hbz b hb⟩)
    (fun x y j hx hy h1 h2 hj => ⟨join_le hj ha h1.1 h2.1, join_le hj hb h1.2 h2.2⟩) (fun k => Decidable.em _) up.length (Nat.le_refl _)
  refine ⟨m, by rw [flip_length]; exact hm, fun d hd => ?_⟩
  rw [flip_length] at hd
  rw [low_flip hm hd, low_flip ha hd, low_flip hb hd, Bool.eq_iff_iff, Bool.and_eq_true]
  exact ⟨fun hdm => ⟨h.trans d m a hd hm ha hdm h1, h.trans d m b hd hm hb hdm h2⟩, fun hh => hall d hd hh⟩
theorem top_is {up : List Nat} (h : Lattice up) : ∃ t, t < up.length ∧ ∀ d, d < up.length → low up d t = true := by
  obtain ⟨m, hm, _, hall⟩ := greatest h (fun _ => True) (fun _ _ _ => trivial) (fun _ _ _ _ _ _ _ _ => trivial) (fun _ => .inl trivial) up.length (Nat.le_refl _)
  exact ⟨m, hm, fun d hd => hall d hd trivial⟩
end Go.Proofs.YtidnaednldcdfaaGreatDoor.La
namespace Go.Proofs.YtidnaednldcdfaaGreatDoor.La

theorem level_nat {up : List Nat} {a : Nat} (ha : a < up.length) : isLevel up (a : Int) = true := by
  rw [isLevel, decide_eq_true (by omega), decide_eq_true (by omega)]; rfl
theorem leq_nat {up : List Nat} (hv : valid up = true) {a b : Nat} (ha : a < up.length) (hb : b < up.length) : leq up (a : Int) (b : Int) = low up a b := by
  rw [leq, can, level_nat ha, level_nat hb, hv, Int.toNat_natCast, Int.toNat_natCast]; rfl
theorem leq_past {up : List Nat} (a : Int) : leq up a (up.length : Int) = false := by
  have : isLevel up (up.length : Int) = false := by rw [isLevel, decide_eq_false (p := (up.length : Int) < up.length) (by omega), Bool.and_false]
  rw [leq, can, this]; simp
theorem leq_below {up : List Nat} (b : Int) : leq up (-1) b = false := by
  have : isLevel up (-1) = false := by rw [isLevel]; rfl
  rw [leq, can, this]; simp
theorem joinOf_nat {up : List Nat} (hv : valid up = true) {a b : Nat} (ha : a < up.length) (hb : b < up.length) : joinOf up (a : Int) (b : Int) = join up a b := by
  rw [joinOf, can, level_nat ha, level_nat hb, hv, Int.toNat_natCast, Int.toNat_natCast]; rfl
theorem meetOf_nat {up : List Nat} (hv : valid up = true) {a b : Nat} (ha : a < up.length) (hb : b < up.length) : meetOf up (a : Int) (b : Int) = join (flip up) a b := by
  rw [meetOf, can, level_nat ha, level_nat hb, hv, Int.toNat_natCast, Int.toNat_natCast]; rfl
theorem mod_nat (x n : Nat) (hn : 0 < n) : ∃ a : Nat, a < n ∧ ((x : Int) % (n : Int)) = (a : Int) := ⟨x % n, Nat.mod_lt _ hn, by push_cast; rfl⟩
theorem meet_iff {up : List Nat} {a b m d : Nat} (hml : m < up.length) (ha : a < up.length) (hb : b < up.length) (hd : d < up.length) (hm : IsJoin (flip up) a b m) : low up d m = (low up d a && low up d b) := by
  have := hm.2 d (by rw [flip_length]; exact hd)
  rwa [low_flip hml hd, low_flip ha hd, low_flip hb hd] at this
end Go.Proofs.YtidnaednldcdfaaGreatDoor.La
