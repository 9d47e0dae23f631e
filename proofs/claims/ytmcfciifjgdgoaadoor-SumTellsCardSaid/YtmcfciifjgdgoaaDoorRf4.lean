/- The walks of the document's own large numbers, part 4: numbers made of bits, whether there may be one, whole numbers. -/
import Derived.Test.YtmcfciifjgdgoaaDoorRf3
import Derived.Test.YtmcfciifjgdgoaaDoorLgP
namespace Go.Proofs.YtmcfciifjgdgoaaDoor
open Go.RowKit

theorem made_rep (neg : Bool) (bs L : List Nat) (ll : Dg.Low 4294967296 L) (hv : Dg.val 4294967296 L = Dg.val 2 bs) (ht : Dg.Top L) : Lg.Rep (neg && decide (0 < L.length)) L (Lg.sgn neg (Dg.val 2 bs)) := by
  refine ⟨ll, ht, by rw [Lg.sgn_abs, hv], ?_⟩
  rw [← Lg.sgn_neg]
  congr 1
  rw [decide_eq_decide, ← hv]
  constructor
  · intro h
    have := Dg.val_pos (B := 4294967296) (by decide) ht (by rintro rfl; simp at h)
    omega
  · intro h
    rcases Nat.eq_zero_or_pos L.length with h0 | h0
    · exact absurd (by rw [List.eq_nil_of_length_eq_zero h0]; rfl) h
    · exact h0

/-! ### May there be one? -/
end Go.Proofs.YtmcfciifjgdgoaaDoor
