/- Arguments opened: a slice of ints. -/
import Derived.Test.YtlidjdlamnkfmabDoorList04
import Derived.Test.YtlidjdlamnkfmabDoorFrame
namespace Go.Proofs.YtlidjdlamnkfmabDoor
open Go.ChangeShapes Go.WideShapes Go.ChangeAt Go.RowKit
section
variable {H : Type} {enc : TypeId × Value → H} {P : Program} {w : World} {base : Nat} {spare : Nat → Bool} {held : Bool}
theorem open_intslice {t e : TypeId} {r : Reach} {b0 : Nat} {v : Value} {d : DataW H} {ps : List MemPlace} (ht : P.underlying t = some (.slice e)) (he : P.underlying e = some (.int .i64)) (hc : P.cellsOf e = 1)
    (hval : Value.okWide P w r b0 t v) (h : DataW.Trod enc P w base spare held t v d ps) (hsp : ∀ b, spare b = true) :
    ∃ (A : Option Addr) (c : Nat) (l : List Int), v = .slice A l.length c ∧ IntsAt w w.heap.size A l ∧ l.length ≤ 9223372036854775807 := by
  obtain ⟨A, len, cap, rfl⟩ := okWide_slice ht hval
  obtain ⟨fuel, hf⟩ := h
  rcases open_ints ht he hc hf with ⟨hcs, _⟩ | ⟨x, l, c, zs, hcs, _, hl, hmx, hz, hx, hcell, hwz⟩
  · simp [Value.cells] at hcs
    obtain ⟨rfl, rfl, rfl⟩ := hcs
    exact ⟨none, 0, [], rfl, ⟨by simp, fun h => absurd h (by simp)⟩, by simp⟩
  · simp [Value.cells] at hcs
    obtain ⟨rfl, rfl, rfl⟩ := hcs
    rw [hsp, if_pos rfl] at hz
    have hlen : (zs.take len).length = len := by simp [hz]; omega
    have hget : ∀ j, j < len → (zs.take len).getD j 0 = zs.getD j 0 := by
      intro j hj
      have h1 : j < zs.length := by omega
      simp [List.getD_eq_getElem?_getD, hj]
    refine ⟨some x, cap, zs.take len, by rw [hlen], ⟨?_, fun hpos => ⟨x, rfl, ?_, ?_⟩⟩, ?_⟩
    · intro y hy
      exact i64_bounds (hwz y (List.mem_of_mem_take hy))
    · rw [hlen] at hpos
      have := World.block_lt_of_cell? w _ (hcell 0 (by omega))
      rwa [block_add] at this
    · intro j hj
      rw [hlen] at hj
      rw [hcell j (by omega), hget j hj]
    · rw [hlen]; simp only [maxLen] at hmx; omega
end
end Go.Proofs.YtlidjdlamnkfmabDoor
