/- Plain mathematics of selectors. No program is named here. -/
import Derived.Test.YtjdgcgpidhljpaaGreatDoorYBase
namespace Go.Proofs.YtjdgcgpidhljpaaGreatDoor.Mt
open Go.RowKit

def small (x : Nat) : Bool := decide (97 ≤ x) && decide (x ≤ 122)
def capital (x : Nat) : Bool := decide (65 ≤ x) && decide (x ≤ 90)
def digit (x : Nat) : Bool := decide (48 ≤ x) && decide (x ≤ 57)
def letter (x : Nat) : Bool := small x || capital x || digit x
/-- The characters of a binary selector. -/
def signs : List Nat := [43, 45, 42, 47, 92, 60, 62, 61, 126, 44]
def sign (x : Nat) : Bool := signs.contains x
def isName (l : List Nat) : Bool := match l with
  | [] => false
  | x :: r => small x && (x :: r).all letter
def isBin (l : List Nat) : Bool := decide (1 ≤ l.length) && decide (l.length ≤ 2) && l.all sign
/-- What stands between the colons. -/
def split : List Nat → List (List Nat)
  | [] => [[]]
  | x :: r => if x = 58 then [] :: split r else match split r with
    | [] => [[x]]
    | a :: t => (x :: a) :: t
def keys (l : List Nat) : Option Nat := if (split l).length ≤ 8 ∧ (split l).all isName = true then some (split l).length else none
/-- How many arguments a selector takes. -/
def arity (l : List Nat) : Option Nat :=
  if 64 < l.length then none
  else if l.getLast? = some 58 then keys l.dropLast
  else if isBin l then some 1
  else if isName l then some 0 else none

theorem split_ne (l : List Nat) : split l ≠ [] := by
  cases l with
  | nil => simp [split]
  | cons x r =>
    unfold split
    split
    · simp
    · split <;> simp
theorem letter_colon : letter 58 = false := by decide
theorem sign_colon : sign 58 = false := by decide
theorem small_letter {x : Nat} (h : small x = true) : letter x = true := by simp [letter, h]
theorem isName_all {l : List Nat} (h : isName l = true) : l.all letter = true ∧ l ≠ [] := by
  cases l with
  | nil => cases h
  | cons x r =>
    simp only [isName, Bool.and_eq_true] at h
    exact ⟨h.2, by simp⟩
theorem no_colon {l : List Nat} (h : l.all letter = true) : 58 ∉ l := fun hm => by
  have := List.all_eq_true.1 h 58 hm
  rw [letter_colon] at this
  cases this
theorem split_one {l : List Nat} (h : 58 ∉ l) : split l = [l] := by
  induction l with
  | nil => rfl
  | cons x r ih =>
    simp only [List.mem_cons, not_or] at h
    unfold split
    rw [if_neg (fun e => h.1 e.symm), ih h.2]
theorem split_two {a b : List Nat} (h : 58 ∉ a) : split (a ++ 58 :: b) = a :: split b := by
  induction a with
  | nil => simp [split]
  | cons x r ih =>
    simp only [List.mem_cons, not_or] at h
    rw [List.cons_append]
    show (if x = 58 then [] :: split (r ++ 58 :: b) else match split (r ++ 58 :: b) with
    | [] => [[x]]
    | a :: t => (x :: a) :: t) = _
    rw [if_neg (fun e => h.1 e.symm), ih h.2]
theorem arity_some {l : List Nat} {n : Nat} (h : arity l = some n) : l.length ≤ 64 ∧ n ≤ 8 := by
  unfold arity at h
  split at h
  · cases h
  · refine ⟨by omega, ?_⟩
    split at h
    · unfold keys at h
      split at h
      · rename_i hk; cases h; exact hk.1
      · cases h
    · split at h
      · cases h; decide
      · split at h
        · cases h; decide
        · cases h
/-- What takes no argument is a name. -/
theorem arity_zero {l : List Nat} (h : arity l = some 0) : isName l = true ∧ l.length ≤ 64 := by
  refine ⟨?_, (arity_some h).1⟩
  unfold arity at h
  split at h
  · cases h
  · split at h
    · unfold keys at h
      split at h
      · simp only [Option.some.injEq] at h
        exact absurd (List.length_eq_zero_iff.1 h) (split_ne _)
      · cases h
    · split at h
      · cases h
      · split at h
        · assumption
        · cases h
theorem arity_one {l : List Nat} (h : isName l = true) : arity (l ++ [58]) = if l.length < 64 then some 1 else none := by
  have h1 := isName_all h
  unfold arity
  rw [List.length_append, List.length_singleton, List.getLast?_concat, List.dropLast_concat]
  by_cases hl : l.length < 64
  · rw [if_neg (by omega), if_pos rfl, if_pos hl]
    unfold keys
    rw [split_one (no_colon h1.1)]
    simp [h]
  · rw [if_pos (by omega), if_neg hl]
theorem arity_two {s t : List Nat} (h : isName s = true) (g : isName t = true) : arity (s ++ [58] ++ t ++ [58]) = if s.length + t.length < 63 then some 2 else none := by
  have h1 := isName_all h
  have g1 := isName_all g
  unfold arity
  rw [List.getLast?_concat, List.dropLast_concat]
  have hl : (s ++ [58] ++ t ++ [58]).length = s.length + t.length + 2 := by simp; omega
  rw [hl]
  by_cases hl : s.length + t.length < 63
  · rw [if_neg (by omega), if_pos rfl, if_pos hl]
    unfold keys
    rw [List.append_assoc, List.singleton_append, split_two (no_colon h1.1), split_one (no_colon g1.1)]
    simp [h, g]
  · rw [if_pos (by omega), if_neg hl]
theorem arity_none {s t : List Nat} (_h : isName s = true) (g : isName t = true) : arity (s ++ [58] ++ t) = none := by
  have g1 := isName_all g
  unfold arity
  split
  · rfl
  · have hl : (s ++ [58] ++ t).getLast? ≠ some 58 := by
      intro e
      rw [List.getLast?_append] at e
      cases hg : t.getLast? with
      | none => exact g1.2 (List.getLast?_eq_none_iff.1 hg)
      | some y =>
        rw [hg] at e
        have e2 : y = 58 := Option.some.inj e
        subst e2
        exact no_colon g1.1 (List.mem_of_getLast? hg)
    rw [if_neg hl]
    have h58 : (58 : Nat) ∈ s ++ [58] ++ t := by simp
    have hb : isBin (s ++ [58] ++ t) = false := by
      cases hb : isBin (s ++ [58] ++ t)
      · rfl
      · simp only [isBin, Bool.and_eq_true] at hb
        have := List.all_eq_true.1 hb.2 58 h58
        rw [sign_colon] at this
        cases this
    have hn : isName (s ++ [58] ++ t) = false := by
      cases hn : isName (s ++ [58] ++ t)
      · rfl
      · exact absurd h58 (no_colon (isName_all hn).1)
    rw [hb, hn]
    rfl
end Go.Proofs.YtjdgcgpidhljpaaGreatDoor.Mt
