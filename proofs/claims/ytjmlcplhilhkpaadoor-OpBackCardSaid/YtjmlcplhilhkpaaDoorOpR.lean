/- Plain mathematics of the instructions: operands read byte by byte. No program is named here. -/
import Derived.Test.YtjmlcplhilhkpaaDoorOpQ
namespace Go.Proofs.YtjmlcplhilhkpaaDoor.Op7
open Go.RowKit

theorem un_snoc {l : List Nat} (c : Nat) (h : l.length ≤ 1) : un (l ++ [c]) = 256 * un l + c := by
  match l, h with
  | [], _ => simp [un]
  | [x], _ => simp [un]
theorem un_lt {l : List Nat} (h : l.length ≤ 2) (hb : ∀ x ∈ l, x < 256) : un l < 65536 := by
  match l, h with
  | [], _ => simp [un]
  | [x], _ => have := hb x (by simp); simp only [un]; omega
  | [x, y], _ =>
    have h1 := hb x (by simp)
    have h2 := hb y (by simp)
    simp only [un]; omega
/-- The operands of 'x' widths as far as 'm' bytes of 'r' tell. -/
def partA (x m : Nat) (r : List Nat) : Nat := un ((r.take m).take x)
def partB (x m : Nat) (r : List Nat) : Nat := un ((r.take m).drop x)
theorem part_0 (x : Nat) (r : List Nat) : partA x 0 r = 0 ∧ partB x 0 r = 0 := by simp [partA, partB, un]
theorem part_lo {x m c : Nat} {r : List Nat} (hx : x ≤ 2) (hm : m < x) (hc : r[m]? = some c) : partA x (m + 1) r = 256 * partA x m r + c ∧ partB x (m + 1) r = partB x m r := by
  have hl : m < r.length := (List.getElem?_eq_some_iff.1 hc).1
  have e : r.take (m + 1) = r.take m ++ [c] := by rw [List.take_add_one, hc]; rfl
  have l1 : (r.take m).length = m := by rw [List.length_take]; omega
  have l2 : (r.take (m + 1)).length = m + 1 := by rw [List.length_take]; omega
  unfold partA partB
  rw [List.take_of_length_le (by omega : (r.take (m + 1)).length ≤ x), List.take_of_length_le (by omega : (r.take m).length ≤ x), List.drop_eq_nil_of_le (by omega : (r.take (m + 1)).length ≤ x), List.drop_eq_nil_of_le (by omega : (r.take m).length ≤ x), e, un_snoc c (by omega)]
  exact ⟨rfl, rfl⟩
theorem part_hi {x y m c : Nat} {r : List Nat} (hy : y ≤ 2) (hm : x ≤ m) (hm2 : m < x + y) (hc : r[m]? = some c) : partA x (m + 1) r = partA x m r ∧ partB x (m + 1) r = 256 * partB x m r + c := by
  have hl : m < r.length := (List.getElem?_eq_some_iff.1 hc).1
  have e : r.take (m + 1) = r.take m ++ [c] := by rw [List.take_add_one, hc]; rfl
  have l1 : (r.take m).length = m := by rw [List.length_take]; omega
  unfold partA partB
  rw [e, List.take_append_of_le_length (by omega), List.drop_append_of_le_length (by omega), un_snoc c (by rw [List.length_drop]; omega)]
  exact ⟨rfl, rfl⟩
theorem part_all (x y : Nat) (r : List Nat) : partA x (x + y) r = un (r.take x) ∧ partB x (x + y) r = un ((r.drop x).take y) := by
  unfold partA partB
  rw [List.take_take, show min x (x + y) = x by omega, List.drop_take, show x + y - x = y by omega]
  exact ⟨rfl, rfl⟩
theorem part_lt {x y m : Nat} {r : List Nat} (hx : x ≤ 2) (hy : y ≤ 2) (hm : m ≤ x + y) (hb : ∀ z ∈ r, z < 256) : partA x m r < 65536 ∧ partB x m r < 65536 :=
  ⟨un_lt (by rw [List.length_take]; omega) (fun z hz => hb z (List.mem_of_mem_take (List.mem_of_mem_take hz))), un_lt (by rw [List.length_drop, List.length_take]; omega) (fun z hz => hb z (List.mem_of_mem_take (List.mem_of_mem_drop hz)))⟩
end Go.Proofs.YtjmlcplhilhkpaaDoor.Op7
