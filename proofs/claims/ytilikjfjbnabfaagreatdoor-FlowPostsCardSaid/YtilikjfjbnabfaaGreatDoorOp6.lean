/- Stage 7: the program's own exists, Form, Name: the table of the instructions, read. -/
import Derived.Test.YtilikjfjbnabfaaGreatDoorOp5
namespace Go.Proofs.YtilikjfjbnabfaaGreatDoor
open Go.RowKit

/-- The table of the instructions, as the program's start lays it. -/
def TabAt (w : World) : Prop := ∀ c, c < 21 → w.cell? ⟨1, c * 2, none⟩ = some (.string (nameB c)) ∧ w.cell? ⟨1, c * 2 + 1, none⟩ = some (.string (formB c))
theorem TabAt.grew {w w' : World} (h : TabAt w) (hg : Grew w w') : TabAt w' := fun c hc => by
  obtain ⟨h1, h2⟩ := h c hc
  have hb : 1 < w.heap.size := World.block_lt_of_cell? w _ h1
  exact ⟨(hg.below.cell (p := ⟨1, c * 2, none⟩) hb).trans h1, (hg.below.cell (p := ⟨1, c * 2 + 1, none⟩) hb).trans h2⟩

set_option maxRecDepth 100000 in
theorem exists_c (c : Nat) (w : World) (hm : c < 256) :
    Calls Tryz.prog 56 #[.int .u8 (c : Nat)] w (fun e w' => e = .returned (.bool (decide (c < 21))) ∧ Grew w w') := by
  go_enter Tryz.func56, Tryz.ntmps56
  go_wp2_with fail
  go_ret
  exact ⟨ret_bool (by first | rfl | (rw [decide_eq_decide]; omega)), Grew.refl _⟩

end Go.Proofs.YtilikjfjbnabfaaGreatDoor
