/- Chains: what joins, meets, bottom and top of a chain are. No program is named here. -/
import Derived.Test.YthdgjalbkeccoaaDoorLatMath2
namespace Go.Proofs.YthdgjalbkeccoaaDoor.La

theorem chain_valid9 : ∀ n : Fin 9, 0 < n.val → valid (chain n.val) = true := by decide +kernel
theorem chain_low9 : ∀ n a b : Fin 9, a.val < n.val → b.val < n.val → low (chain n.val) a.val b.val = decide (a.val ≤ b.val) := by decide +kernel
theorem chain_join9 : ∀ n a b : Fin 9, a.val < n.val → b.val < n.val → join (chain n.val) a.val b.val = ((max a.val b.val : Nat) : Int) := by decide +kernel
theorem chain_meet9 : ∀ n a b : Fin 9, a.val < n.val → b.val < n.val → join (flip (chain n.val)) a.val b.val = ((min a.val b.val : Nat) : Int) := by decide +kernel
theorem chain_bottom9 : ∀ n : Fin 9, 0 < n.val → bottom (chain n.val) = 0 := by decide +kernel
theorem chain_top9 : ∀ n : Fin 9, 0 < n.val → bottom (flip (chain n.val)) = (n.val : Int) - 1 := by decide +kernel

theorem chain_valid {n : Nat} (h1 : 1 ≤ n) (h8 : n ≤ 8) : valid (chain n) = true := chain_valid9 ⟨n, by omega⟩ h1
theorem chain_leq {n : Nat} (h1 : 1 ≤ n) (h8 : n ≤ 8) (a b : Int) : leq (chain n) a b = (decide (0 ≤ a) && decide (a < n) && decide (0 ≤ b) && decide (b < n) && decide (a ≤ b)) := by
  have hl := chain_length n
  by_cases ha : 0 ≤ a ∧ a < n
  · by_cases hb : 0 ≤ b ∧ b < n
    · obtain ⟨a, rfl⟩ := Int.eq_ofNat_of_zero_le ha.1
      obtain ⟨b, rfl⟩ := Int.eq_ofNat_of_zero_le hb.1
      rw [leq_nat (chain_valid h1 h8) (by omega) (by omega), decide_eq_true ha.1, decide_eq_true ha.2, decide_eq_true hb.1, decide_eq_true hb.2]
      have := chain_low9 ⟨n, by omega⟩ ⟨a, by omega⟩ ⟨b, by omega⟩ (by show a < n; omega) (by show b < n; omega)
      rw [this, Bool.true_and, Bool.true_and, Bool.true_and, Bool.true_and, decide_eq_decide]
      show a ≤ b ↔ _
      omega
    · have : isLevel (chain n) b = false := by
        rw [isLevel, hl, ← Bool.decide_and, decide_eq_false hb]
      rw [leq, can, this]
      have h2 : (decide (0 ≤ b) && decide (b < n)) = false := by rw [← Bool.decide_and, decide_eq_false hb]
      rw [Bool.and_assoc (decide (0 ≤ a) && decide (a < ↑n)), h2]
      simp
  · have : isLevel (chain n) a = false := by
      rw [isLevel, hl, ← Bool.decide_and, decide_eq_false ha]
    rw [leq, can, this]
    have h2 : (decide (0 ≤ a) && decide (a < n)) = false := by rw [← Bool.decide_and, decide_eq_false ha]
    rw [h2]; simp
theorem chain_join {n : Nat} (h1 : 1 ≤ n) (h8 : n ≤ 8) {a b : Nat} (ha : a < n) (hb : b < n) : joinOf (chain n) (a : Int) (b : Int) = ((max a b : Nat) : Int) := by
  have hl := chain_length n
  rw [joinOf_nat (chain_valid h1 h8) (by omega) (by omega)]
  exact chain_join9 ⟨n, by omega⟩ ⟨a, by omega⟩ ⟨b, by omega⟩ ha hb
theorem chain_meet {n : Nat} (h1 : 1 ≤ n) (h8 : n ≤ 8) {a b : Nat} (ha : a < n) (hb : b < n) : meetOf (chain n) (a : Int) (b : Int) = ((min a b : Nat) : Int) := by
  have hl := chain_length n
  rw [meetOf_nat (chain_valid h1 h8) (by omega) (by omega)]
  exact chain_meet9 ⟨n, by omega⟩ ⟨a, by omega⟩ ⟨b, by omega⟩ ha hb
end Go.Proofs.YthdgjalbkeccoaaDoor.La
