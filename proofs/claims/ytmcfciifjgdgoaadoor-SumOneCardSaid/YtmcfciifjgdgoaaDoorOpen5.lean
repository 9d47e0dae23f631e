/- Arguments opened: an array of three slices of bytes. -/
import Derived.Test.YtmcfciifjgdgoaaDoorFrame
import Derived.Test.YtmcfciifjgdgoaaDoorOpenB
import Derived.Laws.IdiomArrays
namespace Go.Proofs.YtmcfciifjgdgoaaDoor
open Go.ChangeShapes Go.WideShapes Go.ChangeAt Go.RowKit
section
variable {H : Type} {enc : TypeId × Value → H} {P : Program} {w : World} {base : Nat} {spare : Nat → Bool} {held : Bool}
theorem u16_bounds {n : Int} (h : (Lit.int .u16 n).wf = true) : 0 ≤ n ∧ n < 65536 := by
  simp [Lit.wf, IntKind.min, IntKind.max, IntKind.signed, IntKind.bits] at h
  omega
/-- One slice of bytes in a row of cells. -/
theorem cell_bytes {s e : TypeId} {fuel : Nat} {c0 : Value} {x : DataW H × List MemPlace} (hs : P.underlying s = some (.slice e)) (he : P.underlying e = some (.int .u8)) (hc : P.cellsOf e = 1) (hf : DataW.trod enc P w base spare held fuel s [c0] = some x) (hsp : ∀ b, spare b = true) :
    ∃ (A : Option Addr) (c : Nat) (up : List Nat), c0 = .slice A up.length c ∧ BytesAt w w.heap.size A up ∧ (up = [] ∨ ∃ elems spare, x.1 = .slice elems spare ∧ elems.length = up.length) := by
  rcases open_ints hs he hc hf with ⟨hcs, _⟩ | ⟨a, len, cap, zs, hcs, _, hl, _, hz, hx, hcell, hwz⟩
  · simp at hcs
    subst hcs
    exact ⟨none, 0, [], rfl, BytesAt.nil _ _ _, .inl rfl⟩
  · simp at hcs
    subst hcs
    rw [hsp, if_pos rfl] at hz
    have hlen : ((zs.take len).map Int.toNat).length = len := by simp [hz]; omega
    have hget : ∀ j, j < len → (((zs.take len).map Int.toNat).getD j 0 : Nat) = (zs.getD j 0).toNat := by
      intro j hj
      have h1 : j < zs.length := by omega
      simp [List.getD_eq_getElem?_getD, hj, h1]
    refine ⟨some a, cap, (zs.take len).map Int.toNat, by rw [hlen], ⟨?_, fun hpos => ⟨a, rfl, ?_, ?_⟩⟩, ?_⟩
    · intro y hy
      obtain ⟨z, hz1, rfl⟩ := List.mem_map.1 hy
      have := u8_bounds (hwz z (List.mem_of_mem_take hz1))
      omega
    · rw [hlen] at hpos
      have := World.block_lt_of_cell? w _ (hcell 0 (by omega))
      rwa [block_add] at this
    · intro j hj
      rw [hlen] at hj
      rw [hcell j (by omega), hget j hj]
      have hmem : zs.getD j 0 ∈ zs := by
        rw [List.getD_eq_getElem?_getD, List.getElem?_eq_getElem (by omega)]
        exact List.getElem_mem _
      have := u8_bounds (hwz _ hmem)
      rw [Int.toNat_of_nonneg this.1]
    · subst hx
      exact .inr ⟨_, _, rfl, by rw [hlen]; simp [lits, hz]; omega⟩
/-- Three slices of bytes that came in as an array. -/
theorem open_slices3 {t s e : TypeId} {r : Reach} {b0 : Nat} {v : Value} {d : DataW H} {ps : List MemPlace} (ht : P.underlying t = some (.array 3 s)) (hs : P.underlying s = some (.slice e)) (he : P.underlying e = some (.int .u8)) (hc : P.cellsOf e = 1) (hcs : P.cellsOf s = 1) (hct : P.cellsOf t = 3)
    (hval : Value.okWide P w r b0 t v) (h : DataW.Trod enc P w base spare held t v d ps) (hsp : ∀ b, spare b = true) :
    ∃ (A : Option Addr) (a : Nat) (xs : List Nat) (B : Option Addr) (b : Nat) (ys : List Nat) (C : Option Addr) (c : Nat) (zs : List Nat), v = .agg #[.slice A xs.length a, .slice B ys.length b, .slice C zs.length c] ∧ BytesAt w w.heap.size A xs ∧ BytesAt w w.heap.size B ys ∧ BytesAt w w.heap.size C zs ∧
      ∃ d0 d1 d2, d = .agg [d0, d1, d2] ∧ (xs = [] ∨ ∃ elems spare, d0 = .slice elems spare ∧ elems.length = xs.length) ∧ (ys = [] ∨ ∃ elems spare, d1 = .slice elems spare ∧ elems.length = ys.length) ∧ (zs = [] ∨ ∃ elems spare, d2 = .slice elems spare ∧ elems.length = zs.length) := by
  obtain ⟨cs, rfl, hsz⟩ := okWide_agg ht hval
  rw [hct] at hsz
  obtain ⟨c0, c1, c2, rfl⟩ := Joins.array3 hsz
  obtain ⟨fuel, hf⟩ := h
  obtain ⟨y0, y1, y2, m, hx, h0, h1, h2⟩ := trod_array3 ht hcs (by simpa [Value.cells] using hf)
  obtain ⟨A, a, xs, rfl, b1, s1⟩ := cell_bytes hs he hc h0 hsp
  obtain ⟨B, b, ys, rfl, b2, s2⟩ := cell_bytes hs he hc h1 hsp
  obtain ⟨C, c, zs, rfl, b3, s3⟩ := cell_bytes hs he hc h2 hsp
  simp only [Prod.mk.injEq] at hx
  exact ⟨A, a, xs, B, b, ys, C, c, zs, rfl, b1, b2, b3, _, _, _, hx.1, s1, s2, s3⟩
/-- How long each may be, by the form's own reach. -/
theorem slices3_reach {ts : List TypeId} {ds : List (DataW H)} (hsz : (DataW.weightsEach P ts ds).all (· ≤ reachBytes) = true) {j : Nat} {t s e : TypeId} {d d0 d1 d2 : DataW H} {xs ys zs : List Nat} (hj : ts[j]? = some t) (hd : ds[j]? = some d) (ht : P.underlying t = some (.array 3 s)) (hs : P.underlying s = some (.slice e)) (hb : P.bytesOf e = 1)
    (hdd : d = .agg [d0, d1, d2]) (h0 : xs = [] ∨ ∃ elems spare, d0 = .slice elems spare ∧ elems.length = xs.length) (h1 : ys = [] ∨ ∃ elems spare, d1 = .slice elems spare ∧ elems.length = ys.length) (h2 : zs = [] ∨ ∃ elems spare, d2 = .slice elems spare ∧ elems.length = zs.length) :
    xs.length ≤ 140737488351232 ∧ ys.length ≤ 140737488351232 ∧ zs.length ≤ 140737488351232 := by
  subst hdd
  have key : ∀ (i : Nat) (di : DataW H) (L : List Nat), [d0, d1, d2][i]? = some di → (L = [] ∨ ∃ elems spare, di = .slice elems spare ∧ elems.length = L.length) → L.length ≤ 140737488351232 := by
    intro i di L hi h
    rcases h with rfl | ⟨elems, spare, rfl, hl⟩
    · simp
    · have := List.all_eq_true.1 hsz _ (DataW.weights_mem_each hj hd ((elems.length + spare.length) * P.bytesOf e) (by
        simp only [DataW.weights, ht]
        rcases i with _ | _ | _ | i
        · obtain rfl : d0 = .slice elems spare := by simpa using hi
          simp [DataW.weightsAll, DataW.weights, hs]
        · obtain rfl : d1 = .slice elems spare := by simpa using hi
          simp [DataW.weightsAll, DataW.weights, hs]
        · obtain rfl : d2 = .slice elems spare := by simpa using hi
          simp [DataW.weightsAll, DataW.weights, hs]
        · simp at hi))
      have := of_decide_eq_true this
      rw [hb] at this
      simp only [reachBytes] at this
      omega
  exact ⟨key 0 d0 xs rfl h0, key 1 d1 ys rfl h1, key 2 d2 zs rfl h2⟩
end
end Go.Proofs.YtmcfciifjgdgoaaDoor
