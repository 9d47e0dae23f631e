/- What the row's list of variables gives a walk of law 07: the table of the instructions. -/
import Derived.Test.YtilikjfjbnabfaaGreatDoorFrame
import Derived.Test.YtilikjfjbnabfaaGreatDoorOp6
namespace Go.Proofs.YtilikjfjbnabfaaGreatDoor
open Go.ChangeShapes Go.WideShapes Go.ChangeAt Go.RowKit

theorem Tryz.gi : Tryz.prog.globalNamed "colloquy/op.instructions" = some 1 := by kernel_rfl
theorem Tryz.giType : (Tryz.prog.globals[1]?).map (·.type) = some 139 := by kernel_rfl
theorem tab_data : Rows.laid_colloquy_op_instructions (H := Unit) = .agg ((List.range 21).map fun i => .agg [.lit (.string (nameB i).data.toList), .lit (.string (formB i).data.toList)]) := by kernel_rfl
theorem bytes_eq {s t : ByteArray} (h : s.data.toList = t.data.toList) : s = t := by
  cases s; cases t
  have := Array.toList_inj.1 h
  simp only at this
  rw [this]
/-- The table's cells. -/
theorem tab_cells {w : World} {sp : Nat → Bool} {held : Bool} {fuel : Nat} {cs : List Value} {p : List MemPlace}
    (h : DataW.trod (fun _ => ()) Tryz.prog w 0 sp held fuel 139 cs = some (Rows.laid_colloquy_op_instructions, p)) (i : Nat) (hi : i < 21) :
    cs[i * 2]? = some (.string (nameB i)) ∧ cs[i * 2 + 1]? = some (.string (formB i)) := by
  obtain ⟨xs, m, _, hx, hl, hlen, hall⟩ := DataW.trod_array Tryz.underlying139 h
  rw [show Tryz.prog.cellsOf 139 = 42 by kernel_rfl] at hl
  have hd := hall i hi
  rw [show Tryz.prog.cellsOf 138 = 2 by kernel_rfl] at hd
  have hxs : xs.map (·.1) = (List.range 21).map fun i => .agg [.lit (.string (nameB i).data.toList), .lit (.string (formB i).data.toList)] := by
    have := congrArg Prod.fst hx
    rw [tab_data] at this
    simpa using this.symm
  obtain ⟨y, hy⟩ : ∃ y, xs[i]? = some y := ⟨_, List.getElem?_eq_getElem (by omega)⟩
  have hy1 : y.1 = .agg [.lit (.string (nameB i).data.toList), .lit (.string (formB i).data.toList)] := by
    have h1 : (xs.map (·.1))[i]? = some y.1 := by simp [hy]
    rw [hxs] at h1
    simpa [hi] using h1.symm
  rw [hy] at hd
  obtain ⟨y0, y1, n, hyy, _, h0, h1⟩ := trod_struct2 Tryz.underlying138 hd
  rw [hyy] at hy1
  simp only [DataW.agg.injEq, List.cons.injEq, and_true] at hy1
  obtain ⟨e0, e1⟩ := hy1
  obtain ⟨s0, c0, z0, _⟩ := DataW.trod_string Tryz.underlying9 h0
  obtain ⟨s1, c1, z1, _⟩ := DataW.trod_string Tryz.underlying9 h1
  rw [z0] at e0
  rw [z1] at e1
  simp only [DataW.lit.injEq, Lit.string.injEq] at e0 e1
  rw [bytes_eq e0] at c0
  rw [bytes_eq e1] at c1
  rw [show Tryz.prog.cellsOf 9 = 1 by kernel_rfl] at c0 c1
  refine ⟨?_, ?_⟩
  · have := congrArg (·[0]?) c0
    simpa [List.getElem?_take, List.getElem?_drop] using this
  · have := congrArg (·[0]?) c1
    simpa [List.getElem?_take, List.getElem?_drop, Nat.add_comm] using this
theorem tab_of_met {W : World} {l : List (String × DataW Unit)} (hl : l = [("errors.errorType", Rows.laid_errors_errorType), ("colloquy/op.instructions", Rows.laid_colloquy_op_instructions)]) (h : laidMetH Tryz.prog l W) : TabAt W := by
  subst hl
  have h' : laidMet Tryz.prog [("colloquy/op.instructions", Rows.laid_colloquy_op_instructions)] W := by
    have h2 : laidMet Tryz.prog ([("errors.errorType", Rows.laid_errors_errorType), ("colloquy/op.instructions", Rows.laid_colloquy_op_instructions)].filter fun x => x.2.handleName?.isNone) W := by
      unfold laidMetH at h
      rw [show ([("errors.errorType", Rows.laid_errors_errorType), ("colloquy/op.instructions", Rows.laid_colloquy_op_instructions)] : List (String × DataW Unit)).filter (fun x => x.2.handleName?.isSome) = [("errors.errorType", Rows.laid_errors_errorType)] by kernel_rfl] at h
      exact h.1
    rwa [show ([("errors.errorType", Rows.laid_errors_errorType), ("colloquy/op.instructions", Rows.laid_colloquy_op_instructions)] : List (String × DataW Unit)).filter (fun x => x.2.handleName?.isNone) = [("colloquy/op.instructions", Rows.laid_colloquy_op_instructions)] by kernel_rfl] at h2
  obtain ⟨ps, ⟨g, t, cs, fuel, p, q, hg, ht, hvar, hd, _, _⟩, _⟩ := h'
  obtain rfl := Option.some.inj (Tryz.gi.symm.trans hg)
  obtain rfl := Option.some.inj (Tryz.giType.symm.trans ht)
  intro c hc
  obtain ⟨h1, h2⟩ := tab_cells hd c hc
  rw [Array.getElem?_toList] at h1 h2
  exact ⟨(World.var?_cell Tryz.gi hvar (c * 2)).trans h1, (World.var?_cell Tryz.gi hvar (c * 2 + 1)).trans h2⟩
/-- A world in which the handle and the table are laid: for the witness. -/
noncomputable def laidWorld7 (os : Os) : World :=
  let w0 := laidWorld os
  { w0 with heap := w0.heap.modify 1 fun
      | .cells _ t frozen => .cells ((List.range 21).flatMap fun i => [.string (nameB i), .string (formB i)]).toArray t frozen
      | o => o }
end Go.Proofs.YtilikjfjbnabfaaGreatDoor
/- Arguments opened: a slice of bytes, its capacity told. -/
namespace Go.Proofs.YtilikjfjbnabfaaGreatDoor
open Go.ChangeShapes Go.WideShapes Go.ChangeAt Go.RowKit
section
variable {H : Type} {enc : TypeId × Value → H} {P : Program} {w : World} {base : Nat} {spare : Nat → Bool} {held : Bool}
theorem open_bytes_cap {t e : TypeId} {r : Reach} {b0 : Nat} {v : Value} {d : DataW H} {ps : List MemPlace} (ht : P.underlying t = some (.slice e)) (he : P.underlying e = some (.int .u8)) (hc : P.cellsOf e = 1)
    (hval : Value.okWide P w r b0 t v) (h : DataW.Trod enc P w base spare held t v d ps) (hsp : ∀ b, spare b = true) :
    ∃ (A : Option Addr) (c : Nat) (up : List Nat), v = .slice A up.length c ∧ BytesAt w w.heap.size A up ∧ up.length ≤ c ∧ c ≤ 9223372036854775807 := by
  obtain ⟨A, len, cap, rfl⟩ := okWide_slice ht hval
  have h' := h
  obtain ⟨fuel, hf⟩ := h'
  rcases open_ints ht he hc hf with ⟨hcs, _⟩ | ⟨x, l, c, zs, hcs, _, hl, hmx, _⟩
  · simp [Value.cells] at hcs
    obtain ⟨rfl, rfl, rfl⟩ := hcs
    exact ⟨none, 0, [], rfl, BytesAt.nil _ _ _, Nat.le_refl _, by decide⟩
  · simp [Value.cells] at hcs
    obtain ⟨rfl, rfl, rfl⟩ := hcs
    obtain ⟨A', c', up, e1, hb, _⟩ := open_bytes ht he hc hval h hsp
    simp only [Value.slice.injEq] at e1
    obtain ⟨rfl, e2, rfl⟩ := e1
    refine ⟨some x, cap, up, by rw [e2], hb, by omega, ?_⟩
    simp only [maxLen] at hmx; omega
end
end Go.Proofs.YtilikjfjbnabfaaGreatDoor
