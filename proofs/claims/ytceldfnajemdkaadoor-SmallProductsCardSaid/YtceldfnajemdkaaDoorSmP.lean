/- Numbers of 62 bits as plain mathematics: what fits, sums, differences, products, quotients rounded down, words. No program is named here. -/
import Derived.WalkKit
namespace Go.Proofs.YtceldfnajemdkaaDoor
namespace Sm
def fits (n : Int) : Bool := decide (-2305843009213693952 ≤ n) && decide (n ≤ 2305843009213693951)
theorem fits_iff {n : Int} : fits n = true ↔ -2305843009213693952 ≤ n ∧ n ≤ 2305843009213693951 := by simp [fits]
theorem fits_no {n : Int} : fits n = false ↔ ¬ (-2305843009213693952 ≤ n ∧ n ≤ 2305843009213693951) := by
  rw [← fits_iff]; simp
/-- Three numbers fit. -/
def ok3 (a b n : Int) : Bool := fits a && fits b && fits n
theorem ok3_iff {a b n : Int} : ok3 a b n = true ↔ fits a = true ∧ fits b = true ∧ fits n = true := by simp [ok3, and_assoc]
/-- 'n' if all three fit, else 0. -/
def val3 (a b n : Int) : Int := if ok3 a b n = true then n else 0
theorem val3_yes {a b n : Int} (h : ok3 a b n = true) : val3 a b n = n := by simp [val3, h]
theorem val3_no {a b n : Int} (h : ok3 a b n = false) : val3 a b n = 0 := by simp [val3, h]

/-- The number of Div's error, or 0. -/
def divE (a b : Int) : Nat := if ¬ (fits a = true ∧ fits b = true) then 3 else if b = 0 then 10 else if fits (a.fdiv b) = true then 0 else 3
def divQ (a b : Int) : Int := if divE a b = 0 then a.fdiv b else 0
def divR (a b : Int) : Int := if divE a b = 0 then a.fmod b else 0
theorem divE_zero {a b : Int} (h : divE a b = 0) : fits a = true ∧ fits b = true ∧ b ≠ 0 ∧ fits (a.fdiv b) = true := by
  unfold divE at h
  split at h
  · cases h
  · rename_i h1
    split at h
    · cases h
    · rename_i h2
      split at h
      · rename_i h3
        have h1' : fits a = true ∧ fits b = true := Decidable.not_not.1 h1
        exact ⟨h1'.1, h1'.2, h2, h3⟩
      · cases h
theorem divE_of {a b : Int} (ha : fits a = true) (hb : fits b = true) (h0 : b ≠ 0) (hq : fits (a.fdiv b) = true) : divE a b = 0 := by
  simp [divE, ha, hb, h0, hq]

/-- A number's word, and the number of Tag's error. -/
def tagE (n : Int) : Nat := if fits n = true then 0 else 3
def tagW (n : Int) : Int := if fits n = true then (4 * n + 1) % 18446744073709551616 else 0
/-- A word's number, and the number of Of's error. -/
def ofE (w : Int) : Nat := if w % 4 = 1 then 0 else 2
def ofN (w : Int) : Int := if w % 4 = 1 then (if w < 9223372036854775808 then w / 4 else w / 4 - 4611686018427387904) else 0

/-! ### Quotients -/
theorem fmod_neg_bd (a : Int) {b : Int} (hb : b < 0) : b < a.fmod b ∧ a.fmod b ≤ 0 := by
  have e := Int.neg_fmod_neg (-a) (-b)
  have h1 := Int.fmod_nonneg_of_pos (-a) (b := -b) (by omega)
  have h2 := Int.fmod_lt_of_pos (-a) (b := -b) (by omega)
  rw [Int.neg_neg, Int.neg_neg] at e
  omega
theorem small_mult {b k : Int} (h : (b * k).natAbs < b.natAbs) : k = 0 := by
  rw [Int.natAbs_mul] at h
  have : k.natAbs = 0 := by
    rcases Nat.eq_zero_or_pos k.natAbs with h1 | h1
    · exact h1
    · exfalso
      have := Nat.le_mul_of_pos_right b.natAbs h1
      omega
  omega
/-- From Go's quotient and what it leaves to the one that is rounded down. -/
theorem fdiv_of_tdiv {a b : Int} (h0 : b ≠ 0) :
    a.fdiv b = (if a.tmod b ≠ 0 ∧ (decide (a.tmod b < 0) ≠ decide (b < 0)) then a.tdiv b - 1 else a.tdiv b) ∧
    a.fmod b = (if a.tmod b ≠ 0 ∧ (decide (a.tmod b < 0) ≠ decide (b < 0)) then a.tmod b + b else a.tmod b) := by
  have key : ∀ q r : Int, q * b + r = a → (0 < b → 0 ≤ r ∧ r < b) → (b < 0 → b < r ∧ r ≤ 0) → a.fdiv b = q ∧ a.fmod b = r := by
    intro q r h hp hn
    have h1 := Int.mul_fdiv_add_fmod a b
    have e : b * (a.fdiv b - q) = r - a.fmod b := by
      rw [Int.mul_sub, Int.mul_comm b q]; omega
    have : a.fdiv b - q = 0 := by
      refine small_mult (b := b) ?_
      rw [e]
      rcases Int.lt_or_gt_of_ne h0 with hb | hb
      · have h2 := fmod_neg_bd a hb
        have hr := hn hb
        omega
      · have h2 := Int.fmod_nonneg_of_pos a hb
        have h3 := Int.fmod_lt_of_pos a hb
        have hr := hp hb
        omega
    have hq : a.fdiv b = q := by omega
    rw [this, Int.mul_zero] at e
    exact ⟨hq, by omega⟩
  have ht := Int.mul_tdiv_add_tmod a b
  have hm := Int.mul_comm b (a.tdiv b)
  have hl : b ≠ 0 := h0
  have hlt : (a.tmod b).natAbs < b.natAbs := by
    rw [Int.natAbs_tmod]
    exact Nat.mod_lt _ (by omega)
  by_cases hc : a.tmod b ≠ 0 ∧ (decide (a.tmod b < 0) ≠ decide (b < 0))
  · rw [if_pos hc, if_pos hc]
    refine key _ _ ?_ ?_ ?_
    · rw [Int.sub_mul, Int.one_mul]; omega
    · intro hb
      have : a.tmod b < 0 := by
        rcases hc with ⟨_, h2⟩
        have : ¬ b < 0 := by omega
        simpa [this] using h2
      omega
    · intro hb
      have : ¬ a.tmod b < 0 := by
        rcases hc with ⟨_, h2⟩
        simpa [hb] using h2
      omega
  · rw [if_neg hc, if_neg hc]
    refine key _ _ (by omega) ?_ ?_
    · intro hb
      have : ¬ b < 0 := by omega
      simp only [this, decide_false, ne_eq, decide_eq_false_iff_not, not_and, Decidable.not_not] at hc
      by_cases h : a.tmod b = 0
      · omega
      · have := hc h; omega
    · intro hb
      simp only [hb, decide_true, ne_eq, decide_eq_true_eq, not_and, Decidable.not_not] at hc
      by_cases h : a.tmod b = 0
      · omega
      · have := hc h; omega

/-- The document's way to what is left, and to the quotient. -/
theorem ref_fmod {a b : Int} (h0 : b ≠ 0) : (a.tmod b + b).tmod b = a.fmod b ∧ (a - a.fmod b).tdiv b = a.fdiv b := by
  have hl : (a.tmod b).natAbs < b.natAbs := by
    rw [Int.natAbs_tmod]
    exact Nat.mod_lt _ (by omega)
  have hf := (fdiv_of_tdiv (a := a) h0).2
  have h1 := Int.mul_fdiv_add_fmod a b
  refine ⟨?_, ?_⟩
  · rw [hf]
    rcases Int.lt_or_gt_of_ne h0 with hb | hb
    · by_cases hz : a.tmod b = 0
      · rw [hz]; simp
      · by_cases hr : a.tmod b < 0
        · rw [if_neg (by simp [hr, hb])]
          have : a.tmod b + b = a.tmod b + 1 * b := by omega
          rw [show (a.tmod b + b).tmod b = -((-(a.tmod b) + -b).tmod b) from by rw [← Int.neg_tmod]; congr 1; omega]
          rw [show ((-(a.tmod b) + -b).tmod b) = ((-(a.tmod b) + -b).tmod (-b)) from by rw [Int.tmod_neg]]
          rw [Int.tmod_eq_emod_of_nonneg (by omega), Int.add_emod_right, Int.emod_eq_of_lt (by omega) (by omega)]
          omega
        · rw [if_pos (by simp [hr, hb, hz])]
          rw [show (a.tmod b + b).tmod b = -((-(a.tmod b) + -b).tmod b) from by rw [← Int.neg_tmod]; congr 1; omega]
          rw [show ((-(a.tmod b) + -b).tmod b) = ((-(a.tmod b) + -b).tmod (-b)) from by rw [Int.tmod_neg]]
          rw [Int.tmod_eq_emod_of_nonneg (by omega), Int.emod_eq_of_lt (by omega) (by omega)]
          omega
    · have hnb : ¬ b < 0 := by omega
      by_cases hr : a.tmod b < 0
      · rw [if_pos (by simp [hr, hnb]; omega)]
        rw [Int.tmod_eq_emod_of_nonneg (by omega), Int.emod_eq_of_lt (by omega) (by omega)]
      · rw [if_neg (by simp [hr, hnb])]
        rw [Int.tmod_eq_emod_of_nonneg (by omega), Int.add_emod_right, Int.emod_eq_of_lt (by omega) (by omega)]
  · have : a - a.fmod b = a.fdiv b * b := by rw [Int.mul_comm]; omega
    rw [this, Int.mul_tdiv_cancel _ h0]
theorem tmod_bd {a b : Int} (h0 : b ≠ 0) : (a.tmod b).natAbs < b.natAbs := by
  rw [Int.natAbs_tmod]
  exact Nat.mod_lt _ (by omega)
theorem tdiv_bd {a : Int} (b : Int) (h : -2305843009213693952 ≤ a ∧ a ≤ 2305843009213693951) : -2305843009213693952 ≤ a.tdiv b ∧ a.tdiv b ≤ 2305843009213693952 := by
  have : (a.tdiv b).natAbs ≤ a.natAbs := by
    rw [Int.natAbs_tdiv]
    exact Nat.div_le_self _ _
  omega
theorem fmod_bd {a b : Int} (h0 : b ≠ 0) : (a.fmod b).natAbs < b.natAbs ∧ (a.fmod b = 0 ∨ (decide (a.fmod b < 0) = decide (b < 0))) := by
  rcases Int.lt_or_gt_of_ne h0 with hb | hb
  · have h2 := fmod_neg_bd a hb
    refine ⟨by omega, ?_⟩
    by_cases h : a.fmod b = 0
    · exact .inl h
    · exact .inr (by rw [decide_eq_true hb, decide_eq_true (by omega)])
  · have h2 := Int.fmod_nonneg_of_pos a hb
    have h3 := Int.fmod_lt_of_pos a hb
    exact ⟨by omega, .inr (by rw [decide_eq_false (by omega), decide_eq_false (by omega)])⟩

/-! ### Products -/
/-- A product that a number of 64 bits does not hold is found out by a division. -/
theorem mul_wrapped {a b n : Int} (k : Int) (hn : n = a * b - k * 18446744073709551616) (hb : fits b = true) (hd : n.tdiv b = a) (h0 : b ≠ 0) : n = a * b := by
  have hb' := fits_iff.1 hb
  have hm := Int.mul_tdiv_add_tmod n b
  have hl := tmod_bd (a := n) h0
  rw [hd, Int.mul_comm b a] at hm
  have : k = 0 := by omega
  subst this
  omega

/-! ### Products by doubling -/
/-- What the doubling has come to, with the bits from 'k' on. -/
def dn (a b : Int) (k : Nat) : Int := a * (b / 2 ^ k)
def bit (b : Int) (k : Nat) : Bool := (b / 2 ^ k).tmod 2 == 1
theorem dn_zero (a b : Int) : dn a b 0 = a * b := by simp [dn]
theorem div_pow_succ (b : Int) (k : Nat) : b / 2 ^ (k + 1) = b / 2 ^ k / 2 := by
  rw [Int.pow_succ, Int.ediv_ediv_of_nonneg (by exact Int.le_of_lt (Int.pow_pos (by decide)))]
theorem dn_step (a b : Int) (k : Nat) (h : 0 ≤ b ∨ a = 0) : dn a b k = 2 * dn a b (k + 1) + if bit b k = true then a else 0 := by
  unfold dn bit
  rw [div_pow_succ]
  rcases h with h | rfl
  · have h2 : 0 ≤ b / 2 ^ k := Int.ediv_nonneg h (Int.le_of_lt (Int.pow_pos (by decide)))
    rw [Int.tmod_eq_emod_of_nonneg h2]
    generalize b / 2 ^ k = q at *
    by_cases hq : q % 2 = 1
    · rw [if_pos (by simpa using hq)]
      have e : q = 2 * (q / 2) + 1 := by omega
      calc a * q = a * (2 * (q / 2) + 1) := by rw [← e]
        _ = 2 * (a * (q / 2)) + a := by rw [Int.mul_add, Int.mul_one, ← Int.mul_assoc, Int.mul_comm a 2, Int.mul_assoc]
    · rw [if_neg (by simpa using hq)]
      have e : q = 2 * (q / 2) := by omega
      calc a * q = a * (2 * (q / 2)) := by rw [← e]
        _ = 2 * (a * (q / 2)) + 0 := by rw [Int.add_zero, ← Int.mul_assoc, Int.mul_comm a 2, Int.mul_assoc]
  · simp
theorem dn_nonneg (a b : Int) (k : Nat) (ha : 0 ≤ a) (h : 0 ≤ b ∨ a = 0) : 0 ≤ dn a b k := by
  unfold dn
  rcases h with h | rfl
  · exact Int.mul_nonneg ha (Int.ediv_nonneg h (Int.le_of_lt (Int.pow_pos (by decide))))
  · simp
theorem dn_le (a b : Int) (ha : 0 ≤ a) (h : 0 ≤ b ∨ a = 0) : ∀ k : Nat, dn a b k ≤ a * b
  | 0 => by rw [dn_zero]; exact Int.le_refl _
  | k + 1 => by
    have h1 := dn_le a b ha h k
    have h2 := dn_step a b k h
    have h3 := dn_nonneg a b (k + 1) ha h
    split at h2 <;> omega
theorem dn_top (a b : Int) (hb : b ≤ 2305843009213693952) (h : 0 ≤ b ∨ a = 0) : dn a b 62 = 0 := by
  unfold dn
  rcases h with h | rfl
  · rw [Int.ediv_eq_zero_of_lt h (by omega), Int.mul_zero]
  · simp

/-! ### Words -/
theorem ofN_fits {w : Int} (h0 : 0 ≤ w) (h1 : w < 18446744073709551616) : fits (ofN w) = true := by
  rw [fits_iff]; unfold ofN; split
  · split <;> omega
  · omega
theorem of_tag {n : Int} (h : fits n = true) : tagW n % 4 = 1 ∧ ofN (tagW n) = n ∧ 0 ≤ tagW n ∧ tagW n < 18446744073709551616 := by
  have hb := fits_iff.1 h
  unfold ofN tagW
  rw [if_pos h]
  have : (4 * n + 1) % 18446744073709551616 % 4 = 1 := by omega
  rw [if_pos this]
  refine ⟨this, ?_, by omega, by omega⟩
  split <;> omega
theorem tag_of {w : Int} (h0 : 0 ≤ w) (h1 : w < 18446744073709551616) (h : w % 4 = 1) : tagW (ofN w) = w := by
  unfold tagW
  rw [if_pos (ofN_fits h0 h1)]
  unfold ofN
  rw [if_pos h]
  split <;> omega
end Sm
end Go.Proofs.YtceldfnajemdkaaDoor
