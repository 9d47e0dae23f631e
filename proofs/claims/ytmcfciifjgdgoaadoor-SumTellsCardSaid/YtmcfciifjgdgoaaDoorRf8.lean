/- The walks of the document's own large numbers, part 8: products. -/
import Derived.Test.YtmcfciifjgdgoaaDoorRf7
namespace Go.Proofs.YtmcfciifjgdgoaaDoor
open Go.RowKit

theorem OwnNums.made1 (k : IntKind) (w0 w : World) (e : TypeId) (x : Nat) (hg : Grew w0 w) : OwnNums k w0 (w.alloc (.cells #[.int k ((x : Nat) : Int)] e)) e (some ⟨w.heap.size, 0, none⟩) 1 [x] := by
  refine ⟨by simp [numCells], .inr ⟨w.heap.size, 1, #[.int k ((x : Nat) : Int)], rfl, hg.below.size, heap_alloc_new w _, Nat.le_refl _, by decide, rfl, by simp [numCells]⟩⟩
theorem mul_round {P Q L : List Nat} {m : Nat} (hm : m < Q.length) (hv : Dg.val 2 L = Dg.val 2 P * Dg.val 2 (Q.drop (m + 1))) :
    (Q.getD m 0 = 0 → Dg.val 2 ([0] ++ L) = Dg.val 2 P * Dg.val 2 (Q.drop m)) ∧ (Q.getD m 0 = 1 → Dg.val 2 ([0] ++ L) + Dg.val 2 P = Dg.val 2 P * Dg.val 2 (Q.drop m)) := by
  have e : Dg.val 2 ([0] ++ L) = 2 * Dg.val 2 L := by simp
  rw [e, hv, Dg.val_drop 2 hm]
  refine ⟨fun h => ?_, fun h => ?_⟩
  · rw [h, Nat.zero_add, ← Nat.mul_assoc, ← Nat.mul_assoc, Nat.mul_comm 2]
  · rw [h, Nat.mul_add, Nat.mul_one, ← Nat.mul_assoc, ← Nat.mul_assoc, Nat.mul_comm 2]
    omega

end Go.Proofs.YtmcfciifjgdgoaaDoor
