/- Quotients that are rounded down, with signs. No program is named here. -/
import Derived.Test.YtmcfciifjgdgoaaGreatDoorLgP
namespace Go.Proofs.YtmcfciifjgdgoaaGreatDoor
namespace Lg
open Dg
theorem small_mult {b k : Int} (h : (b * k).natAbs < b.natAbs) : k = 0 := by
  rw [Int.natAbs_mul] at h
  have : k.natAbs = 0 := by
    rcases Nat.eq_zero_or_pos k.natAbs with h1 | h1
    · exact h1
    · exfalso
      have := Nat.le_mul_of_pos_right b.natAbs h1
      omega
  omega
theorem fmod_neg_bd (a : Int) {b : Int} (hb : b < 0) : b < a.fmod b ∧ a.fmod b ≤ 0 := by
  have e := Int.neg_fmod_neg (-a) (-b)
  have h1 := Int.fmod_nonneg_of_pos (-a) (b := -b) (by omega)
  have h2 := Int.fmod_lt_of_pos (-a) (b := -b) (by omega)
  rw [Int.neg_neg, Int.neg_neg] at e
  omega
/-- The quotient that is rounded down is told by what is left. -/
theorem fdiv_unique {a b q r : Int} (h0 : b ≠ 0) (h : q * b + r = a) (hp : 0 < b → 0 ≤ r ∧ r < b) (hn : b < 0 → b < r ∧ r ≤ 0) : a.fdiv b = q ∧ a.fmod b = r := by
  have h1 := Int.mul_fdiv_add_fmod a b
  have e : b * (a.fdiv b - q) = r - a.fmod b := by
    rw [Int.mul_sub, Int.mul_comm b q]; omega
  have : a.fdiv b - q = 0 := by
    refine small_mult (b := b) ?_
    rw [e]
    rcases Int.lt_or_gt_of_ne h0 with hb | hb
    · have h2 := fmod_neg_bd a hb
      have hr := hn hb
      omega
    · have h2 := Int.fmod_nonneg_of_pos a hb
      have h3 := Int.fmod_lt_of_pos a hb
      have hr := hp hb
      omega
  have hq : a.fdiv b = q := by omega
  rw [this, Int.mul_zero] at e
  exact ⟨hq, by omega⟩
/-- The signs' part of a quotient that is rounded down. -/
theorem div_signs {na nb : Bool} {x y n r : Nat} (h : x = n * y + r) (hr : r < y) :
    (na = nb → (sgn na x).fdiv (sgn nb y) = sgn false n ∧ (sgn na x).fmod (sgn nb y) = sgn nb r) ∧
    (na ≠ nb → r = 0 → (sgn na x).fdiv (sgn nb y) = sgn true n ∧ (sgn na x).fmod (sgn nb y) = sgn nb 0) ∧
    (na ≠ nb → 0 < r → (sgn na x).fdiv (sgn nb y) = sgn true (n + 1) ∧ (sgn na x).fmod (sgn nb y) = sgn nb (y - r)) := by
  have hx : (x : Int) = (n : Int) * (y : Int) + (r : Int) := by rw [h]; push_cast; rfl
  have hy : 0 < y := by omega
  have hsub : ∀ k : Nat, k ≤ y → ((y - k : Nat) : Int) = (y : Int) - (k : Int) := fun k hk => by omega
  refine ⟨fun e => ?_, fun e hz => ?_, fun e hp => ?_⟩
  · subst e
    cases na
    · refine fdiv_unique (by simp [sgn]; omega) (by simp [sgn]; omega) (fun _ => by simp [sgn]; omega) (fun hb => by simp [sgn] at hb; omega)
    · refine fdiv_unique (by simp [sgn]; omega) (by simp [sgn, Int.mul_neg]; omega) (fun hb => by simp [sgn] at hb; omega) (fun _ => by simp [sgn]; omega)
  · subst hz
    cases na <;> cases nb
    · exact absurd rfl e
    · refine fdiv_unique (by simp [sgn]; omega) (by simp [sgn, Int.neg_mul, Int.mul_neg]; omega) (fun hb => by simp [sgn] at hb; omega) (fun _ => by simp [sgn]; omega)
    · refine fdiv_unique (by simp [sgn]; omega) (by simp [sgn, Int.neg_mul]; omega) (fun _ => by simp [sgn]; omega) (fun hb => by simp [sgn] at hb; omega)
    · exact absurd rfl e
  · have hs := hsub r (by omega)
    cases na <;> cases nb
    · exact absurd rfl e
    · refine fdiv_unique (by simp [sgn]; omega) ?_ (fun hb => by simp [sgn] at hb; omega) (fun _ => by simp [sgn]; omega)
      simp only [sgn, if_true, Bool.false_eq_true, if_false, hs, Int.neg_mul_neg]
      push_cast
      rw [Int.add_mul]
      omega
    · refine fdiv_unique (by simp [sgn]; omega) ?_ (fun _ => by simp [sgn]; omega) (fun hb => by simp [sgn] at hb; omega)
      simp only [sgn, if_true, Bool.false_eq_true, if_false, hs, Int.neg_mul]
      push_cast
      rw [Int.add_mul]
      omega
    · exact absurd rfl e
end Lg
end Go.Proofs.YtmcfciifjgdgoaaGreatDoor
