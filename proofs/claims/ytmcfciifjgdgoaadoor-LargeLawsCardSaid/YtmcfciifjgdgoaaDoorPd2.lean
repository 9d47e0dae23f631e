/- math/bits.Div64: any two words by one that is greater than the high one. -/
import Derived.Test.YtmcfciifjgdgoaaDoorPd1
namespace Go.Proofs.YtmcfciifjgdgoaaDoor
open Go.RowKit

theorem bitLen_span : ∀ (f x : Nat), x < 2 ^ f → f ≤ 64 → 0 < x → 1 ≤ Lib.bitLen x ∧ Lib.bitLen x ≤ 64 ∧ 2 ^ (Lib.bitLen x - 1) ≤ x ∧ x < 2 ^ Lib.bitLen x
  | 0, x, h, _, h0 => by simp at h; omega
  | f + 1, x, h, hf, h0 => by
    have h64 : x < 2 ^ 64 := Nat.lt_of_lt_of_le h (Nat.pow_le_pow_right (by decide) hf)
    have hb := Lib.bitLen_half x (by omega) h64
    rw [Nat.pow_succ] at h
    rcases Nat.eq_zero_or_pos (x / 2) with hz | hz
    · have hx : x = 1 := by omega
      subst hx
      exact ⟨by decide, by decide, by decide, by decide⟩
    · obtain ⟨i1, i2, i3, i4⟩ := bitLen_span f (x / 2) (by omega) (by omega) hz
      rw [hb]
      generalize Lib.bitLen (x / 2) = L at *
      obtain ⟨k, rfl⟩ : ∃ k, L = k + 1 := ⟨L - 1, by omega⟩
      rw [Nat.add_sub_cancel] at i3
      have e1 : 1 + (k + 1) - 1 = k + 1 := by omega
      have e2 : 1 + (k + 1) = k + 1 + 1 := by omega
      rw [e1, e2]
      rw [Nat.pow_succ] at i4
      refine ⟨by omega, ?_, ?_, ?_⟩
      · rcases Nat.lt_or_ge (k + 1) 64 with h5 | h5
        · omega
        · exfalso
          have h6 : (2 : Nat) ^ 64 ≤ 2 ^ (k + 1) := Nat.pow_le_pow_right (by decide) h5
          rw [Nat.pow_succ] at h6
          omega
      · rw [Nat.pow_succ]; omega
      · rw [Nat.pow_succ, Nat.pow_succ]; omega
theorem shift_of {y : Nat} (h0 : 0 < y) (h1 : y < 18446744073709551616) : ∃ s : Nat, s < 64 ∧ (64 - (Lib.bitLen y : Int)) = (s : Int) ∧ 9223372036854775808 ≤ y * 2 ^ s ∧ y * 2 ^ s < 18446744073709551616 := by
  obtain ⟨b1, b2, b3, b4⟩ := bitLen_span 64 y h1 (Nat.le_refl _) h0
  refine ⟨64 - Lib.bitLen y, by omega, by omega, ?_, ?_⟩
  · have h2 : 2 ^ (Lib.bitLen y - 1) * 2 ^ (64 - Lib.bitLen y) ≤ y * 2 ^ (64 - Lib.bitLen y) := Nat.mul_le_mul_right _ b3
    rw [← Nat.pow_add, show Lib.bitLen y - 1 + (64 - Lib.bitLen y) = 63 by omega] at h2
    exact h2
  · have h2 : y * 2 ^ (64 - Lib.bitLen y) < 2 ^ Lib.bitLen y * 2 ^ (64 - Lib.bitLen y) := Nat.mul_lt_mul_of_pos_right b4 (Nat.pow_pos (by decide))
    rw [← Nat.pow_add, show Lib.bitLen y + (64 - Lib.bitLen y) = 64 by omega] at h2
    exact h2

set_option maxRecDepth 100000 in
set_option maxHeartbeats 1000000 in
theorem div64_c (hi lo y : Nat) (w : World) (h1 : hi < y) (h2 : y < 18446744073709551616) (h3 : lo < 18446744073709551616) :
    Calls Tryd.prog 85 #[.int .u64 ((hi : Nat) : Int), .int .u64 ((lo : Nat) : Int), .int .u64 ((y : Nat) : Int)] w fun e w' => e = .returned (.tuple #[.int .u64 (((hi * 18446744073709551616 + lo) / y : Nat) : Int), .int .u64 (((hi * 18446744073709551616 + lo) % y : Nat) : Int)]) ∧ Grew w w' := by
  rcases Nat.eq_zero_or_pos hi with h0 | h0
  · subst h0
    rw [Nat.zero_mul, Nat.zero_add]
    have e1 : ((y : Int) == 0) = false := by rw [beq_eq_false_iff_ne]; omega
    have e2 : ¬ (y : Int) ≤ 0 := by omega
    have e3 : (y : Int) ≠ 0 := by omega
    have H2 := hid h2
    have H3 := hid h3
    clear h1 h2 h3
    rw [show (((0 : Nat) : Nat) : Int) = 0 from rfl]
    go_enter Tryd.func85, Tryd.ntmps85
    go_wp2_with fail
    go_quiet (fail)
    go_wp2_with fail
    go_ret2
    have q1 : lo / y < 18446744073709551616 := Nat.lt_of_le_of_lt (Nat.div_le_self _ _) H3
    refine ⟨?_, Grew.mk (below_drewN (Below.refl _ _) _)⟩
    have q2 : IntKind.u64.wrap ((lo : Int) / (y : Int)) = ((lo / y : Nat) : Int) := by
      rw [← Int.natCast_ediv]
      exact wrap_nat q1
    first
      | (rw [q2]; rfl)
      | (simp only [q2]; rfl)
  · obtain ⟨s, s1, s2, s3, s4⟩ := shift_of (by omega) h2
    exact (div64_high hi lo y s w h0 h1 h2 h3 s1 s2 s3 s4).mono fun e w' ⟨he, hw⟩ => ⟨he, by rw [hw]; exact Grew.refl _⟩
end Go.Proofs.YtmcfciifjgdgoaaDoor
