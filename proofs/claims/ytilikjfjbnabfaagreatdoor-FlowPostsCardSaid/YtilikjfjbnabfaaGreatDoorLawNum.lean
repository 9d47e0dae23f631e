/- The law's own 'num' at nil and at an api.Errno. -/
import Derived.Test.YtilikjfjbnabfaaGreatDoorNum
namespace Go.Proofs.YtilikjfjbnabfaaGreatDoor
open Go.RowKit

set_option maxHeartbeats 1000000 in
theorem num_c (k : Nat) (w : World) (hg : HandleAt w) : Calls Tryz.prog 8 #[errVal k] w fun e w' => e = .returned (.int .i64 k) ∧ Grew w w' := by
  unfold errVal
  by_cases hk : k = 0
  · subst hk
    rw [if_pos rfl]
    go_enter Tryz.func8, Tryz.ntmps8
    go_wp2_with fail
    go_ret
    exact ⟨rfl, (Grew.refl _).alloc _⟩
  · rw [if_neg hk]
    have h1 := hid (as_hit k w.heap.size (.int .i64 0) (w.alloc (.cells #[.int .i64 0] 45)) (hg.grew ((Grew.refl _).alloc _)) (by simp) (by simp))
    go_enter Tryz.func8, Tryz.ntmps8
    go_wp2_with fail
    refine h1.out.mono ?_
    rintro e w' ⟨rfl, hw⟩
    have hgr : Grew w w' := by
      rw [hw]
      exact ((((((Grew.refl w).alloc _).alloc _).alloc _).alloc _).alloc _).setCell (Nat.le_refl _) _
    have hc : w'.cell? ⟨w.heap.size, 0, none⟩ = some (.int .i64 k) := by
      rw [hw]
      refine World.cell?_setCell_same _ _ _ (u := .int .i64 0) ?_
      rw [World.cell?_alloc_lt _ _ _ (by simp <;> omega), World.cell?_alloc_lt _ _ _ (by simp <;> omega), World.cell?_alloc_lt _ _ _ (by simp <;> omega), World.cell?_alloc_lt _ _ _ (by simp)]
      simp
    clear hw
    go_wp2_with fail
    go_ret
    exact ⟨rfl, hgr⟩
end Go.Proofs.YtilikjfjbnabfaaGreatDoor
