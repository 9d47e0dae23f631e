/- Arguments opened: a slice of the document's instructions; a byte. -/
import Derived.Test.YtjmlcplhilhkpaaDoorFrame
import Derived.Test.YtjmlcplhilhkpaaDoorOp4
import Derived.Deep.Slices
import Derived.Deep.Fields
import Derived.ChangeSame
namespace Go.Proofs.YtjmlcplhilhkpaaDoor
open Go.ChangeShapes Go.WideShapes Go.ChangeAt Go.RowKit Go.Deep
theorem u8_nat {n : Int} (h : (Lit.int .u8 n).wf = true) : ∃ y : Nat, n = ((y : Nat) : Int) ∧ y < 256 := by
  have := u8_bounds h
  exact ⟨n.toNat, by omega, by omega⟩
section
variable {H : Type} {enc : TypeId × Value → H} {P : Program} {w : World} {base : Nat} {spare : Nat → Bool} {held : Bool}
/-- One cell of a struct whose fields have one cell each. -/
theorem struct_cell {e : TypeId} {fs : Array Field} {n : Nat} {b : Addr} {cs : List Value} {D : DataW H} {Pl : List MemPlace} (he : P.underlying e = some (.struct fs)) (hone : oneCellFields P fs = true) (hC : P.cellsOf e = fs.size)
    (hc : w.cells? base b (P.cellsOf e) = some cs) (ht : DataW.trod enc P w base spare held n e cs = some (D, Pl)) (j : Nat) (f : Field) (hj : fs[j]? = some f) :
    ∃ (v : Value) (m : Nat) (y : DataW H × List MemPlace), w.cell? (b.add j) = some v ∧ DataW.trod enc P w base spare held m f.type [v] = some y := by
  obtain ⟨_, hlen, hcell⟩ := World.cells?_some hc
  obtain ⟨xs, m, _, _, _, hxl, hx⟩ := DataW.trod_struct he ht
  have hjl : j < fs.size := (Array.getElem?_eq_some_iff.1 hj).1
  obtain ⟨ho, hk⟩ := hone_of hone j f hj
  have h1 := hx j f hj
  rw [ho, hk, List.drop_eq_getElem_cons (by omega), List.getElem?_eq_getElem (by omega)] at h1
  refine ⟨cs[j]'(by omega), m, _, ?_, h1⟩
  rw [hcell j (by omega), List.getElem?_eq_getElem (by omega)]
/-- An instruction that came in. -/
theorem open_op {e ti : TypeId} {f0 f1 f2 : Field} {n : Nat} {b : Addr} {cs : List Value} {D : DataW H} {Pl : List MemPlace} (he : P.underlying e = some (.struct #[f0, f1, f2])) (hone : oneCellFields P #[f0, f1, f2] = true) (hC : P.cellsOf e = 3)
    (h0 : P.underlying f0.type = some (.int .u8)) (h1 : f1.type = ti) (h2 : f2.type = ti) (hti : P.underlying ti = some (.int .i64))
    (hc : w.cells? base b (P.cellsOf e) = some cs) (ht : DataW.trod enc P w base spare held n e cs = some (D, Pl)) :
    ∃ v : Op7.Ins, v.code < 256 ∧ ∀ j u, (opCells v)[j]? = some u → w.cell? (b.add j) = some u := by
  have hs : P.cellsOf e = (#[f0, f1, f2] : Array Field).size := hC
  obtain ⟨v0, m0, y0, c0, t0⟩ := struct_cell he hone hs hc ht 0 f0 rfl
  obtain ⟨v1, m1, y1, c1, t1⟩ := struct_cell he hone hs hc ht 1 f1 rfl
  obtain ⟨v2, m2, y2, c2, t2⟩ := struct_cell he hone hs hc ht 2 f2 rfl
  rw [h1] at t1
  rw [h2] at t2
  obtain ⟨x0, e0, _, w0⟩ := DataW.trod_int h0 t0
  obtain ⟨x1, e1, _, _⟩ := DataW.trod_int hti t1
  obtain ⟨x2, e2, _, _⟩ := DataW.trod_int hti t2
  simp only [List.cons.injEq, and_true] at e0 e1 e2
  subst e0 e1 e2
  have b0 := u8_bounds w0
  have hk : (((x0.toNat : Nat) : Nat) : Int) = x0 := by omega
  refine ⟨⟨x0.toNat, x1, x2⟩, by show x0.toNat < 256; omega, fun j u hu => ?_⟩
  unfold opCells at hu
  rcases j with _ | _ | _ | j
  · have e : Value.int .u8 ((x0.toNat : Nat) : Int) = u := by simpa using hu
    rw [← e, hk]; exact c0
  · have e : Value.int .i64 x1 = u := by simpa using hu
    rw [← e]; exact c1
  · have e : Value.int .i64 x2 = u := by simpa using hu
    rw [← e]; exact c2
  · simp at hu
/-- A slice of instructions that came in. -/
theorem open_ops {t e ti : TypeId} {f0 f1 f2 : Field} {r : Reach} {b0 : Nat} {v : Value} {d : DataW H} {ps : List MemPlace} (ht : P.underlying t = some (.slice e)) (he : P.underlying e = some (.struct #[f0, f1, f2])) (hone : oneCellFields P #[f0, f1, f2] = true) (hC : P.cellsOf e = 3)
    (h0 : P.underlying f0.type = some (.int .u8)) (h1 : f1.type = ti) (h2 : f2.type = ti) (hti : P.underlying ti = some (.int .i64))
    (hval : Value.okWide P w r b0 t v) (h : DataW.Trod enc P w base spare held t v d ps) (hsp : ∀ b, spare b = true) :
    ∃ (A : Option Addr) (c : Nat) (vs : List Op7.Ins), v = .slice A vs.length c ∧ OpsAt w w.heap.size A vs ∧ vs.length ≤ c ∧ c ≤ 9223372036854775807 := by
  obtain ⟨A, len, cap, rfl⟩ := okWide_slice ht hval
  obtain ⟨fuel, hf⟩ := h
  rcases open_slice ht hf with ⟨hcs, _⟩ | ⟨a, l, c, m, n, D, Pl, hcs, _, hl, hmx, hm, _, hi⟩
  · simp [Value.cells] at hcs
    obtain ⟨rfl, rfl, rfl⟩ := hcs
    exact ⟨none, 0, [], rfl, ⟨by simp, fun h => absurd h (by simp)⟩, by simp, by simp⟩
  · simp [Value.cells] at hcs
    obtain ⟨rfl, rfl, rfl⟩ := hcs
    rw [hsp, if_pos rfl] at hm
    simp only [maxLen] at hmx
    have hex : ∀ i, ∃ v : Op7.Ins, i < len → v.code < 256 ∧ ∀ j u, (opCells v)[j]? = some u → w.cell? ((a.add (i * 3)).add j) = some u := by
      intro i
      by_cases hil : i < len
      · obtain ⟨cs, hc, hct⟩ := hi i (by omega)
        rw [hC] at hc
        obtain ⟨v, k1, k2⟩ := open_op he hone hC h0 h1 h2 hti (by rw [hC]; exact hc) hct
        exact ⟨v, fun _ => ⟨k1, k2⟩⟩
      · exact ⟨⟨0, 0, 0⟩, fun h => absurd h hil⟩
    obtain ⟨V, hV⟩ := Classical.axiomOfChoice hex
    refine ⟨some a, cap, (List.range len).map V, by simp, ⟨fun v hv => ?_, fun hn => ⟨a, rfl, ?_, fun i v hv j u hu => ?_⟩⟩, by simp; omega, by omega⟩
    · obtain ⟨i, hi2, rfl⟩ := List.mem_map.1 hv
      exact (hV i (List.mem_range.1 hi2)).1
    · have hpos : 0 < len := by simpa using hn
      have := World.block_lt_of_cell? w _ ((hV 0 hpos).2 0 _ rfl)
      rwa [block_add, block_add] at this
    · obtain ⟨hil, rfl⟩ : i < len ∧ V i = v := by
        rw [List.getElem?_map] at hv
        obtain ⟨k, hk, rfl⟩ := Option.map_eq_some_iff.1 hv
        obtain ⟨h1, h2⟩ := List.getElem?_eq_some_iff.1 hk
        simp at h1 h2
        subst h2
        exact ⟨h1, rfl⟩
      rw [← add_add]
      exact (hV i hil).2 j u hu
end
end Go.Proofs.YtjmlcplhilhkpaaDoor
