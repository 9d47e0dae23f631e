/- The walks of the document's own large numbers, part 7: which is less, products. -/
import Derived.Test.YtmcfciifjgdgoaaDoorRf6
namespace Go.Proofs.YtmcfciifjgdgoaaDoor
open Go.RowKit

theorem sgnOf_long {na nb : Bool} {xs ys : List Nat} (lx : Dg.Low 4294967296 xs) (ly : Dg.Low 4294967296 ys) (ha : Lg.may na xs = true) (hb : Lg.may nb ys = true) (h : ¬ Lg.small (Lg.num na xs + flip true (Lg.num nb ys))) : sgnOf (Lg.num na xs + flip true (Lg.num nb ys)) = if na = true then -1 else 1 := by
  have ra := Lg.Rep.of_may lx ha
  have rb := Lg.Rep.of_may ly hb
  have sa := ra.len.1 (Lg.may_iff.1 ha).1
  have sb := rb.len.1 (Lg.may_iff.1 hb).1
  have na' := ra.neg
  generalize Lg.num na xs = x at *
  generalize Lg.num nb ys = y at *
  unfold Lg.small at *
  simp only [flip, if_true] at *
  generalize (4294967296 : Nat) ^ 64 = M at *
  unfold sgnOf
  by_cases hx : x < 0
  · rw [decide_eq_true hx] at na'
    rw [na', if_pos (show x + -y < 0 by omega), if_pos rfl]
  · rw [decide_eq_false hx] at na'
    have h1 : ¬ x + -y < 0 := by omega
    have h2 : ¬ x + -y = 0 := by omega
    rw [na', if_neg h1, if_neg h2]
    rfl

end Go.Proofs.YtmcfciifjgdgoaaDoor
