/- Texts of this claim in one: Frame3 Open3. -/
import Derived.Test.YtmcfciifjgdgoaaDoorFrame
import Derived.Test.YtmcfciifjgdgoaaDoorOwn
import Derived.ProofKit
import Derived.OpenShut
import Derived.ChangeSame
import Derived.ChangeSlices
import Derived.WideShapes
import Derived.Lib.SmallJoins
import Derived.SizedLaws
section
/- A witness world for stage 3: the listed handle, and the two tables of unicode/utf8. -/
namespace Go.Proofs.YtmcfciifjgdgoaaDoor
open Go.RowKit

def litCells : Nat → DataW Unit → List Value
  | 0, _ => []
  | k + 1, .agg ds => ds.flatMap (litCells k)
  | _ + 1, .lit (.int k n) => [.int k n]
  | _ + 1, _ => []
noncomputable def laidWorld3 (os : Os) : World :=
  let w0 := laidWorld os
  { w0 with heap := (w0.heap.modify 4 fun
      | .cells _ t frozen => .cells (litCells 4 Rows.laid_unicode_utf8_acceptRanges).toArray t frozen
      | o => o).modify 3 fun
      | .cells _ t frozen => .cells (litCells 4 Rows.laid_unicode_utf8_first).toArray t frozen
      | o => o }
end Go.Proofs.YtmcfciifjgdgoaaDoor
end

section
/- Arguments opened: a struct of a sign and of words of 32 bits. No program is named here. -/
namespace Go.Proofs.YtmcfciifjgdgoaaDoor
open Go.ChangeShapes Go.WideShapes Go.ChangeAt Go.RowKit
section
variable {H : Type} {enc : TypeId × Value → H} {P : Program} {w : World} {base : Nat} {spare : Nat → Bool} {held : Bool}
theorem u32_bounds {n : Int} (h : (Lit.int .u32 n).wf = true) : 0 ≤ n ∧ n < 4294967296 := by
  simp [Lit.wf, IntKind.min, IntKind.max, IntKind.signed, IntKind.bits] at h
  omega
theorem okWide_struct {r : Reach} {b0 : Nat} {t : TypeId} {fs : Array Field} {v : Value} (ht : P.underlying t = some (.struct fs)) (h : Value.okWide P w r b0 t v) : ∃ cs, v = .agg cs ∧ cs.size = P.cellsOf t := by
  simp only [Value.okWide, ht] at h
  obtain ⟨cs, h1, h2, _⟩ := h
  exact ⟨cs, h1, h2⟩
/-- A sign and words of 32 bits that came in: what they are and where they lie. -/
theorem open_num {t e : TypeId} {f0 f1 : Field} {r : Reach} {b0 : Nat} {v : Value} {d : DataW H} {ps : List MemPlace} (ht : P.underlying t = some (.struct #[f0, f1])) (hb : P.underlying f0.type = some .bool) (hs : P.underlying f1.type = some (.slice e)) (he : P.underlying e = some (.int .u32)) (hc : P.cellsOf e = 1)
    (ho0 : f0.offset = 0) (ho1 : f1.offset = 1) (hc0 : P.cellsOf f0.type = 1) (hc1 : P.cellsOf f1.type = 1) (hct : P.cellsOf t = 2)
    (hval : Value.okWide P w r b0 t v) (h : DataW.Trod enc P w base spare held t v d ps) (hsp : ∀ b, spare b = true) :
    ∃ (ng : Bool) (A : Option Addr) (c : Nat) (xs : List Nat), v = .agg #[.bool ng, .slice A xs.length c] ∧ NumsAt .u32 w w.heap.size A xs ∧ (∀ x ∈ xs, x < 4294967296) ∧ (xs = [] ∨ ∃ b elems spare, d = .agg [b, .slice elems spare] ∧ elems.length = xs.length) := by
  obtain ⟨cs, rfl, hsz⟩ := okWide_struct ht hval
  rw [hct] at hsz
  obtain ⟨c0, c1, rfl⟩ := Joins.array2 hsz
  obtain ⟨fuel, hf⟩ := h
  obtain ⟨y0, y1, m, hx0, _, h0, h1⟩ := trod_struct2 ht (by simpa [Value.cells] using hf)
  rw [ho0, hc0] at h0
  rw [ho1, hc1] at h1
  obtain ⟨ng, e0, e0'⟩ := DataW.trod_bool hb h0
  simp at e0
  subst e0
  rcases open_ints hs he hc h1 with ⟨hcs, _⟩ | ⟨x, l, c, zs, hcs, _, hl, _, hz, hx, hcell, hwz⟩
  · simp at hcs
    subst hcs
    exact ⟨ng, none, 0, [], rfl, NumsAt.nil _ _ _ _, (by simp), .inl rfl⟩
  · simp at hcs
    subst hcs
    rw [hsp, if_pos rfl] at hz
    have hlen : ((zs.take l).map Int.toNat).length = l := by simp [hz]; omega
    have hget : ∀ j, j < l → (((zs.take l).map Int.toNat).getD j 0 : Nat) = (zs.getD j 0).toNat := by
      intro j hj
      have h1 : j < zs.length := by omega
      simp [List.getD_eq_getElem?_getD, hj, h1]
    refine ⟨ng, some x, c, (zs.take l).map Int.toNat, by rw [hlen], fun hpos => ⟨x, rfl, ?_, ?_⟩, ?_, ?_⟩
    · rw [hlen] at hpos
      have := World.block_lt_of_cell? w _ (hcell 0 (by omega))
      rwa [block_add] at this
    · intro j hj
      rw [hlen] at hj
      rw [hcell j (by omega), hget j hj]
      have hmem : zs.getD j 0 ∈ zs := by
        rw [List.getD_eq_getElem?_getD, List.getElem?_eq_getElem (by omega)]
        exact List.getElem_mem _
      have := u32_bounds (hwz _ hmem)
      rw [Int.toNat_of_nonneg this.1]
    · intro y hy
      obtain ⟨z, hz1, rfl⟩ := List.mem_map.1 hy
      have := u32_bounds (hwz z (List.mem_of_mem_take hz1))
      omega
    · subst hx
      simp only [Prod.mk.injEq] at hx0
      exact .inr ⟨_, _, _, hx0.1, by rw [hlen]; simp [lits, hz]; omega⟩
/-- How many words there may be, by the form's own reach. -/
theorem num_reach {ts : List TypeId} {ds : List (DataW H)} (hsz : (DataW.weightsEach P ts ds).all (· ≤ reachBytes) = true) {j : Nat} {t e : TypeId} {f0 f1 : Field} {d : DataW H} {xs : List Nat} (hj : ts[j]? = some t) (hd : ds[j]? = some d) (ht : P.underlying t = some (.struct #[f0, f1])) (hs : P.underlying f1.type = some (.slice e)) (hb : P.bytesOf e = 4)
    (h : xs = [] ∨ ∃ b elems spare, d = .agg [b, .slice elems spare] ∧ elems.length = xs.length) : xs.length ≤ 35184372088832 := by
  rcases h with rfl | ⟨b, elems, spare, rfl, hl⟩
  · simp
  · have := List.all_eq_true.1 hsz _ (DataW.weights_mem_each hj hd ((elems.length + spare.length) * P.bytesOf e) (by
      simp only [DataW.weights, ht]
      exact DataW.weights_mem_each (j := 1) rfl rfl _ (by simp [DataW.weights, hs])))
    have := of_decide_eq_true this
    rw [hb] at this
    simp only [reachBytes] at this
    omega
end
end Go.Proofs.YtmcfciifjgdgoaaDoor
end
