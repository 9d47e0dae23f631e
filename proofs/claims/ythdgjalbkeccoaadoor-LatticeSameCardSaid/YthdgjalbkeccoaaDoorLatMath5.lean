/- When two lattices are the same. No program is named here. -/
import Derived.Test.YthdgjalbkeccoaaDoorLatMath2
namespace Go.Proofs.YthdgjalbkeccoaaDoor.La

def agreeRow (up vp : List Nat) (a m : Nat) : Bool := (List.range m).all fun b => low up a b == low vp a b
def agree (up vp : List Nat) (k m : Nat) : Bool := (up.length == vp.length) && ((List.range k).all fun a => agreeRow up vp a up.length) && agreeRow up vp k m
theorem agree_zero (up vp : List Nat) : agree up vp 0 0 = (up.length == vp.length) := by simp [agree, agreeRow]
theorem agree_step (up vp : List Nat) (k m : Nat) : agree up vp k (m + 1) = (agree up vp k m && (low up k m == low vp k m)) := by
  simp [agree, agreeRow, List.range_succ, Bool.and_assoc]
theorem agree_next (up vp : List Nat) (k : Nat) : agree up vp k up.length = agree up vp (k + 1) 0 := by
  simp [agree, List.range_succ, agreeRow, Bool.and_assoc]
theorem agree_length {up vp : List Nat} {k m : Nat} (h : agree up vp k m = true) : up.length = vp.length := by
  simp only [agree, Bool.and_eq_true, beq_iff_eq] at h
  exact h.1.1
theorem agree_self (up : List Nat) (k m : Nat) : agree up up k m = true := by
  simp [agree, agreeRow]
theorem agree_no {up vp : List Nat} {k m : Nat} (h : agree up vp k m = false) : (up == vp) = false := by
  rw [beq_eq_false_iff_ne]
  rintro rfl
  rw [agree_self] at h
  cases h
theorem agree_end {up vp : List Nat} (hu : Ord up) (hv : Ord vp) : agree up vp up.length 0 = (up == vp) := by
  cases h : agree up vp up.length 0
  · exact (agree_no h).symm
  · have hl := agree_length h
    symm
    rw [beq_iff_eq]
    apply List.ext_getElem hl
    intro a h1 h2
    have e : up.getD a 0 = vp.getD a 0 := by
      apply Nat.eq_of_testBit_eq
      intro d
      by_cases hd : d < up.length
      · simp only [agree, Bool.and_eq_true] at h
        have := of_all_range (of_all_range h.1.2 a h1) d hd
        exact eq_of_beq this
      · have e1 : (up.getD a 0).testBit d = false := by
          cases hq : (up.getD a 0).testBit d
          · rfl
          · exact absurd (hu.rows a h1 d hq) hd
        have e2 : (vp.getD a 0).testBit d = false := by
          cases hq : (vp.getD a 0).testBit d
          · rfl
          · exact absurd (hv.rows a h2 d hq) (by omega)
        rw [e1, e2]
    simpa [List.getD_eq_getElem?_getD, List.getElem?_eq_getElem h1, List.getElem?_eq_getElem h2] using e
end Go.Proofs.YthdgjalbkeccoaaDoor.La
