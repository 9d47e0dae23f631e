/- Stage 7: the program's own exists, Form, Name: the table of the instructions, read. -/
import Derived.Test.YtjmlcplhilhkpaaDoorOp5
namespace Go.Proofs.YtjmlcplhilhkpaaDoor
open Go.RowKit

/-- The table of the instructions, as the program's start lays it. -/
def TabAt (w : World) : Prop := ∀ c, c < 21 → w.cell? ⟨0, c * 2, none⟩ = some (.string (nameB c)) ∧ w.cell? ⟨0, c * 2 + 1, none⟩ = some (.string (formB c))
theorem TabAt.grew {w w' : World} (h : TabAt w) (hg : Grew w w') : TabAt w' := fun c hc => by
  obtain ⟨h1, h2⟩ := h c hc
  have hb : 0 < w.heap.size := World.block_lt_of_cell? w _ h1
  exact ⟨(hg.below.cell (p := ⟨0, c * 2, none⟩) hb).trans h1, (hg.below.cell (p := ⟨0, c * 2 + 1, none⟩) hb).trans h2⟩

set_option maxRecDepth 100000 in
theorem exists_c (c : Nat) (w : World) (hm : c < 256) :
    Calls Tryd.prog 27 #[.int .u8 (c : Nat)] w (fun e w' => e = .returned (.bool (decide (c < 21))) ∧ Grew w w') := by
  go_enter Tryd.func27, Tryd.ntmps27
  go_wp2_with fail
  go_ret
  exact ⟨ret_bool (by first | rfl | (rw [decide_eq_decide]; omega)), Grew.refl _⟩

set_option maxRecDepth 100000 in
theorem oform_c (c : Nat) (w : World) (hm : c < 256) (hT : TabAt w) :
    Calls Tryd.prog 13 #[.int .u8 (c : Nat)] w (fun e w' => e = .returned (.tuple #[.string (if c < 21 then formB c else ⟨#[]⟩), .bool (decide (c < 21))]) ∧ Grew w w') := by
  have HX := hid (exists_c c w hm)
  have HT := hid hT
  clear hT
  by_cases h : c < 21
  · rw [if_pos h, decide_eq_true h]
    rw [decide_eq_true h] at HX
    go_enter Tryd.func13, Tryd.ntmps13
    go_wp2_with fail
    refine HX.out.mono ?_
    rintro e w1 ⟨rfl, hg1⟩
    obtain ⟨q1, q2⟩ := (HT.out.grew hg1) c h
    go_wp2_with fail
    go_ret2
    exact ⟨rfl, hg1⟩
  · rw [if_neg h, decide_eq_false h]
    rw [decide_eq_false h] at HX
    go_enter Tryd.func13, Tryd.ntmps13
    go_wp2_with fail
    refine HX.out.mono ?_
    rintro e w1 ⟨rfl, hg1⟩
    go_wp2_with fail
    go_ret2
    exact ⟨rfl, hg1⟩
set_option maxRecDepth 100000 in
theorem oname_c (c : Nat) (w : World) (hm : c < 256) (hT : TabAt w) :
    Calls Tryd.prog 18 #[.int .u8 (c : Nat)] w (fun e w' => e = .returned (.string (nameB c)) ∧ Grew w w') := by
  have HX := hid (exists_c c w hm)
  have HT := hid hT
  clear hT
  by_cases h : c < 21
  · rw [decide_eq_true h] at HX
    go_enter Tryd.func18, Tryd.ntmps18
    go_wp2_with fail
    refine HX.out.mono ?_
    rintro e w1 ⟨rfl, hg1⟩
    obtain ⟨q1, q2⟩ := (HT.out.grew hg1) c h
    go_wp2_with fail
    go_ret
    exact ⟨rfl, hg1⟩
  · have HN : Hid (nameB c = ⟨#[]⟩) := hid (by
      unfold nameB
      rw [List.getD_eq_getElem?_getD, List.getElem?_eq_none (by simpa [nameBs] using h)]
      rfl)
    rw [decide_eq_false h] at HX
    go_enter Tryd.func18, Tryd.ntmps18
    go_wp2_with fail
    refine HX.out.mono ?_
    rintro e w1 ⟨rfl, hg1⟩
    go_wp2_with fail
    go_ret
    exact ⟨by rw [HN.out]; rfl, hg1⟩
end Go.Proofs.YtjmlcplhilhkpaaDoor
