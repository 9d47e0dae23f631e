/- The walks of the document's own large numbers, part 11: numerals read. -/
import Derived.Test.YtmcfciifjgdgoaaGreatDoorRf8
import Derived.Test.YtmcfciifjgdgoaaGreatDoorLgU
import Derived.Test.YtmcfciifjgdgoaaGreatDoorOwn2
import Derived.Laws.Strings
namespace Go.Proofs.YtmcfciifjgdgoaaGreatDoor
open Go.RowKit

/-- A number and an error's number come back; of the number, and of it all, this holds. -/
def NumPost (P : Bool → List Nat → Nat → Prop) (w : World) (T : TypeId) (e : Ending) (w' : World) : Prop := ∃ A' c' ng L k, e = .returned (.tuple #[.agg #[.bool ng, .slice A' (List.length L) c'], .int .i64 ((k : Nat) : Int)]) ∧ OwnNums .u32 w w' T A' c' L ∧ P ng L k ∧ Grew w w'
/-- The test ahead of all digits. -/
def badForm (neg : Bool) (l : List Nat) : Bool := !(decide (1 ≤ l.length) && decide (l.length ≤ 700) && !(decide (1 < l.length) && decide (l.getD 0 0 = 48)) && !(neg && decide (l = [48])))
theorem formOk_bad {neg : Bool} {l : List Nat} (h : badForm neg l = true) : Lg.formOk neg l = false := by
  unfold badForm at h
  unfold Lg.formOk
  simp only [Bool.not_eq_true'] at h
  rw [h, Bool.false_and]
theorem formOk_rest {neg : Bool} {l : List Nat} (h : badForm neg l = false) : Lg.formOk neg l = l.all Lg.isDigit ∧ 1 ≤ l.length ∧ l.length ≤ 700 ∧ (1 < l.length → l.getD 0 0 ≠ 48) := by
  unfold badForm at h
  rw [Bool.not_eq_false'] at h
  refine ⟨by unfold Lg.formOk; rw [h, Bool.true_and], ?_⟩
  simp only [Bool.and_eq_true, decide_eq_true_eq, Bool.not_eq_true', Bool.and_eq_false_iff, decide_eq_false_iff_not] at h
  obtain ⟨⟨⟨h1, h2⟩, h3⟩, _⟩ := h
  exact ⟨h1, h2, fun h4 => by rcases h3 with h3 | h3; exact absurd h4 h3; exact h3⟩
theorem zero_text (t : ByteArray) : (t.toList == [48]) = decide (Lg.bytes t = [48]) := by
  rw [ByteArray.toList_eq, Lg.bytes]
  generalize t.data.toList = l
  rw [Bool.eq_iff_iff, beq_iff_eq, decide_eq_true_iff]
  constructor
  · rintro rfl; rfl
  · intro h
    cases l with
    | nil => simp at h
    | cons a r =>
      cases r with
      | nil =>
        simp only [List.map_cons, List.map_nil, List.cons.injEq, and_true] at h
        have : a = 48 := UInt8.toNat_inj.1 h
        rw [this]
      | cons b q => simp at h
theorem digits_low {l : List Nat} (h : ∀ j, j < l.length → Lg.isDigit (l.getD j 0) = true) : Dg.Low 10 (l.map (· - 48)) := by
  intro y hy
  obtain ⟨x, hx, rfl⟩ := List.mem_map.1 hy
  obtain ⟨j, hj, rfl⟩ := List.mem_iff_getElem.1 hx
  have := h j hj
  rw [List.getD_eq_getElem?_getD, List.getElem?_eq_getElem hj] at this
  simp [Lg.isDigit] at this
  omega
theorem digits_head {l : List Nat} (h1 : 1 ≤ l.length) (h : ∀ j, j < l.length → Lg.isDigit (l.getD j 0) = true) (h48 : 1 < l.length → l.getD 0 0 ≠ 48) : (l.map (· - 48)).head? ≠ some 0 ∨ l.map (· - 48) = [0] := by
  cases l with
  | nil => simp at h1
  | cons a r =>
    have ha := h 0 (by simp)
    simp [Lg.isDigit] at ha
    by_cases h0 : a = 48
    · subst h0
      cases r with
      | nil => exact .inr rfl
      | cons b q => exact absurd rfl (h48 (by simp))
    · refine .inl ?_
      simp
      omega
theorem bit_round {B : List Nat} {n q cy N : Nat} (h : Dg.val 2 B + 2 ^ B.length * n = N) (hn : 2 * q + cy = n) : Dg.val 2 (B ++ [cy]) + 2 ^ (B ++ [cy]).length * q = N := by
  rw [Dg.val_snoc, List.length_append, List.length_cons, List.length_nil, Nat.zero_add, Nat.pow_succ, Nat.mul_assoc, Nat.add_assoc, ← Nat.mul_add]
  rw [show cy + 2 * q = n by omega]
  exact h
theorem all_false {l : List Nat} {k : Nat} (hk : k < l.length) (h : Lg.isDigit (l.getD k 0) = false) : l.all Lg.isDigit = false := by
  rw [List.all_eq_false]
  refine ⟨l.getD k 0, ?_, by simpa using h⟩
  rw [List.getD_eq_getElem?_getD, List.getElem?_eq_getElem hk]
  exact List.getElem_mem hk
theorem all_true {l : List Nat} (h : ∀ j, j < l.length → Lg.isDigit (l.getD j 0) = true) : l.all Lg.isDigit = true := by
  rw [List.all_eq_true]
  intro x hx
  obtain ⟨j, hj, rfl⟩ := List.mem_iff_getElem.1 hx
  have := h j hj
  rwa [List.getD_eq_getElem?_getD, List.getElem?_eq_getElem hj] at this
theorem bytes_tail (s : ByteArray) : Lg.bytes (s.extract 1 s.size) = (Lg.bytes s).drop 1 := by
  have e : (s.extract 1 s.size).data = s.data.extract 1 s.data.size := by
    rw [ByteArray.data_extract]; rfl
  rw [Lg.bytes, e, Array.toList_extract, Lg.bytes, ← List.map_drop]
  congr 1
  rw [List.extract_eq_take_drop, List.take_of_length_le (by simp)]

end Go.Proofs.YtmcfciifjgdgoaaGreatDoor
