/- Plain mathematics of selectors, character by character. No program is named here. -/
import Derived.Test.YtjdgcgpidhljpaaGreatDoorMtP
namespace Go.Proofs.YtjdgcgpidhljpaaGreatDoor.Mt
open Go.RowKit

/-- Character by character: how many colons, and whether a name begins here. -/
def scan : List Nat → Nat → Bool → Option (Nat × Bool)
  | [], n, f => some (n, f)
  | c :: r, n, true => if small c then scan r n false else none
  | c :: r, n, false => if c = 58 then scan r (n + 1) true else if letter c then scan r n false else none
theorem colon_cut : ∀ l : List Nat, 58 ∉ l ∨ ∃ a b, l = a ++ 58 :: b ∧ 58 ∉ a
  | [] => .inl (by simp)
  | x :: l => by
    by_cases h : x = 58
    · subst h
      exact .inr ⟨[], l, rfl, by simp⟩
    · rcases colon_cut l with h1 | ⟨a, b, h1, h2⟩
      · exact .inl (by simp [h1, Ne.symm h])
      · exact .inr ⟨x :: a, b, by rw [h1]; rfl, by simp [h2, Ne.symm h]⟩
theorem scan_letters : ∀ (p : List Nat) (n : Nat), 58 ∉ p → scan p n false = if p.all letter = true then some (n, false) else none
  | [], n, _ => rfl
  | x :: p, n, h => by
    have hx : x ≠ 58 := fun e => h (by simp [e])
    have hp : 58 ∉ p := fun e => h (by simp [e])
    rw [scan, if_neg hx, List.all_cons]
    cases hl : letter x
    · simp
    · rw [if_pos rfl, scan_letters p n hp, Bool.true_and]
theorem scan_letters_colon (r : List Nat) : ∀ (p : List Nat) (n : Nat), 58 ∉ p → scan (p ++ 58 :: r) n false = if p.all letter = true then scan r (n + 1) true else none
  | [], n, _ => by rw [List.nil_append, scan, if_pos rfl]; rfl
  | x :: p, n, h => by
    have hx : x ≠ 58 := fun e => h (by simp [e])
    have hp : 58 ∉ p := fun e => h (by simp [e])
    rw [List.cons_append, scan, if_neg hx, List.all_cons]
    cases hl : letter x
    · simp
    · rw [if_pos rfl, scan_letters_colon r p n hp, Bool.true_and]
theorem isName_cons (x : Nat) (r : List Nat) : isName (x :: r) = (small x && r.all letter) := by
  show (small x && (x :: r).all letter) = _
  rw [List.all_cons]
  cases h : small x
  · rfl
  · rw [small_letter h]; simp
theorem scan_first (p : List Nat) (n : Nat) (h : 58 ∉ p) : scan p n true = if p = [] then some (n, true) else if isName p = true then some (n, false) else none := by
  cases p with
  | nil => rfl
  | cons x r =>
    have hr : 58 ∉ r := fun e => h (by simp [e])
    rw [scan, show (if x :: r = [] then some (n, true) else if isName (x :: r) = true then some (n, false) else none) = (if isName (x :: r) = true then some (n, false) else none) from if_neg (List.cons_ne_nil x r), isName_cons, scan_letters r n hr]
    cases small x <;> simp
theorem scan_first_colon (p r : List Nat) (n : Nat) (h : 58 ∉ p) : scan (p ++ 58 :: r) n true = if isName p = true then scan r (n + 1) true else none := by
  cases p with
  | nil => rfl
  | cons x q =>
    have hq : 58 ∉ q := fun e => h (by simp [e])
    rw [List.cons_append, scan, isName_cons, scan_letters_colon r q n hq]
    cases small x <;> simp
theorem scan_all : ∀ (k : Nat) (l : List Nat) (n : Nat), l.length ≤ k → scan l n true = if l = [] then some (n, true) else if l.getLast? = some 58 then (if (split l.dropLast).all isName = true then some (n + (split l.dropLast).length, true) else none) else (if (split l).all isName = true then some (n + (split l).length - 1, false) else none)
  | k, l, n, hk => by
    rcases colon_cut l with h | ⟨a, b, rfl, h⟩
    · rw [scan_first l n h]
      by_cases h0 : l = []
      · rw [if_pos h0, if_pos h0]
      · have hl : l.getLast? ≠ some 58 := fun e => h (List.mem_of_getLast? e)
        rw [if_neg h0, if_neg h0, if_neg hl, split_one h]
        simp
    · have hne : a ++ 58 :: b ≠ [] := by simp
      rw [scan_first_colon a b n h, if_neg hne]
      match k, hk with
      | 0, hk => rw [List.length_append, List.length_cons] at hk; omega
      | k + 1, hk =>
        have hb := scan_all k b (n + 1) (by rw [List.length_append, List.length_cons] at hk; omega)
        by_cases h0 : b = []
        · subst h0
          have e1 : (a ++ [58]).getLast? = some 58 := by simp
          have e3 : (a ++ [58]).dropLast = a := by simp
          rw [if_pos e1, e3, split_one h, List.all_cons, List.all_nil, Bool.and_true]
          cases isName a <;> rfl
        · rw [if_neg h0] at hb
          have e1 : (a ++ 58 :: b).getLast? = b.getLast? := by
            rw [List.getLast?_append]
            cases b with
            | nil => exact absurd rfl h0
            | cons x t => rw [List.getLast?_cons_cons]; cases hx : (x :: t).getLast? with
              | none => simp at hx
              | some y => rfl
          have e2 : (a ++ 58 :: b).dropLast = a ++ 58 :: b.dropLast := by
            rw [List.dropLast_append_of_ne_nil (by simp)]
            cases b with
            | nil => exact absurd rfl h0
            | cons x t => rfl
          rw [e1, e2, split_two h, split_two h, hb]
          have hp1 : 1 ≤ (split b).length := by
            cases hs : split b with
            | nil => exact absurd hs (split_ne b)
            | cons x y => simp
          rw [List.all_cons, List.all_cons, List.length_cons, List.length_cons]
          generalize (split b.dropLast).all isName = q1
          generalize (split b).all isName = q2
          generalize (split b.dropLast).length = m1
          generalize (split b).length = m2 at *
          generalize isName a = q
          rw [show n + 1 + m1 = n + (m1 + 1) by omega, show n + 1 + m2 - 1 = n + (m2 + 1) - 1 by omega]
          cases q
          · simp
          · simp
theorem split_len_pos (l : List Nat) : 1 ≤ (split l).length := by
  have := split_ne l
  cases h : split l with
  | nil => exact absurd h this
  | cons a b => simp
theorem sign_small {x : Nat} (h : sign x = true) : small x = false := by
  unfold sign signs at h
  simp only [List.contains_cons, List.contains_nil, Bool.or_false, Bool.or_eq_true, beq_iff_eq] at h
  rcases h with h | h | h | h | h | h | h | h | h | h <;> subst h <;> rfl
/-- The head of the first piece. -/
theorem split_head {c : Nat} (r : List Nat) (h : c ≠ 58) : ∃ a t, split (c :: r) = (c :: a) :: t := by
  unfold split
  rw [if_neg h]
  split
  · exact ⟨[], [], rfl⟩
  · exact ⟨_, _, rfl⟩
theorem arity_sign {c : Nat} {r : List Nat} (h : sign c = true) (hl : (c :: r).length ≤ 64) : arity (c :: r) = if isBin (c :: r) = true then some 1 else none := by
  have hc : c ≠ 58 := fun e => by subst e; rw [sign_colon] at h; cases h
  have hs := sign_small h
  unfold arity
  rw [if_neg (by omega)]
  by_cases hlast : (c :: r).getLast? = some 58
  · rw [if_pos hlast]
    have hb : isBin (c :: r) = false := by
      cases hb : isBin (c :: r)
      · rfl
      · unfold isBin at hb
        rw [Bool.and_eq_true] at hb
        have := List.all_eq_true.1 hb.2 58 (List.mem_of_getLast? hlast)
        rw [sign_colon] at this; cases this
    rw [hb, if_neg (by decide)]
    cases r with
    | nil => simp at hlast; exact absurd hlast hc
    | cons y t =>
      rw [List.dropLast_cons_of_ne_nil (by simp)]
      obtain ⟨a, u, e⟩ := split_head (y :: t).dropLast hc
      unfold keys
      rw [e, List.all_cons, isName_cons, hs]
      simp
  · rw [if_neg hlast]
    split
    · rfl
    · rw [isName_cons, hs]
      simp
/-- What the scan tells. -/
def told : Option (Nat × Bool) → Option Nat
  | some (0, _) => some 0
  | some (n + 1, true) => if n + 1 ≤ 8 then some (n + 1) else none
  | _ => none
theorem arity_scan {c : Nat} {r : List Nat} (h : sign c = false) (hl : (c :: r).length ≤ 64) : arity (c :: r) = told (scan (c :: r) 0 true) := by
  rw [scan_all _ (c :: r) 0 (Nat.le_refl _), if_neg (by simp)]
  unfold arity
  rw [if_neg (by omega)]
  by_cases hlast : (c :: r).getLast? = some 58
  · rw [if_pos hlast, if_pos hlast]
    unfold keys
    have hp := split_len_pos (c :: r).dropLast
    generalize split (c :: r).dropLast = S at *
    obtain ⟨n, hn⟩ : ∃ n, S.length = n + 1 := ⟨S.length - 1, by omega⟩
    rw [hn, Nat.zero_add]
    by_cases ha : S.all isName = true
    · rw [if_pos ha]
      show _ = if n + 1 ≤ 8 then some (n + 1) else none
      by_cases h8 : n + 1 ≤ 8
      · rw [if_pos ⟨h8, ha⟩, if_pos h8]
      · rw [if_neg (fun e => h8 e.1), if_neg h8]
    · rw [if_neg ha, if_neg (fun e => ha e.2)]
      rfl
  · rw [if_neg hlast, if_neg hlast]
    have hb : isBin (c :: r) = false := by
      unfold isBin
      rw [List.all_cons, h]
      simp
    rw [hb, if_neg (by decide)]
    rcases colon_cut (c :: r) with hno | ⟨a, b, e, hno⟩
    · rw [split_one hno]
      cases hn : isName (c :: r)
      · simp [hn, told]
      · simp [hn, told]
    · have hn : isName (c :: r) = false := by
        cases hn : isName (c :: r)
        · rfl
        · have := no_colon (isName_all hn).1
          rw [e] at this
          exact absurd (by simp) this
      rw [hn, if_neg (by decide), e, split_two hno]
      have hp := split_len_pos b
      obtain ⟨n, hn⟩ : ∃ n, (split b).length = n + 1 := ⟨(split b).length - 1, by omega⟩
      rw [List.length_cons, hn, show 0 + (n + 1 + 1) - 1 = n + 1 by omega]
      split <;> rfl
end Go.Proofs.YtjdgcgpidhljpaaGreatDoor.Mt
