/- Arguments opened: a slice of the document's fields. -/
import Derived.Test.YtglekjhbpdoofaaDoorFrame
import Derived.Test.YtglekjhbpdoofaaDoorPk9
import Derived.Deep.Slices
import Derived.Deep.Fields
import Derived.ChangeSame
namespace Go.Proofs.YtglekjhbpdoofaaDoor
open Go.ChangeShapes Go.WideShapes Go.ChangeAt Go.RowKit Go.Deep
theorem u16_nat {n : Int} (h : (Lit.int .u16 n).wf = true) : ∃ y : Nat, n = ((y : Nat) : Int) ∧ y < 65536 := by
  simp [Lit.wf, IntKind.min, IntKind.max, IntKind.signed, IntKind.bits] at h
  exact ⟨n.toNat, by omega, by omega⟩
section
variable {H : Type} {enc : TypeId × Value → H} {P : Program} {w : World} {base : Nat} {spare : Nat → Bool} {held : Bool}
/-- One cell of a struct whose fields have one cell each. -/
theorem struct_cell {e : TypeId} {fs : Array Field} {n : Nat} {b : Addr} {cs : List Value} {D : DataW H} {Pl : List MemPlace} (he : P.underlying e = some (.struct fs)) (hone : oneCellFields P fs = true) (hC : P.cellsOf e = fs.size)
    (hc : w.cells? base b (P.cellsOf e) = some cs) (ht : DataW.trod enc P w base spare held n e cs = some (D, Pl)) (j : Nat) (f : Field) (hj : fs[j]? = some f) :
    ∃ (v : Value) (m : Nat) (y : DataW H × List MemPlace), w.cell? (b.add j) = some v ∧ DataW.trod enc P w base spare held m f.type [v] = some y := by
  obtain ⟨_, hlen, hcell⟩ := World.cells?_some hc
  obtain ⟨xs, m, _, _, _, hxl, hx⟩ := DataW.trod_struct he ht
  have hjl : j < fs.size := (Array.getElem?_eq_some_iff.1 hj).1
  obtain ⟨ho, hk⟩ := hone_of hone j f hj
  have h1 := hx j f hj
  rw [ho, hk, List.drop_eq_getElem_cons (by omega), List.getElem?_eq_getElem (by omega)] at h1
  refine ⟨cs[j]'(by omega), m, _, ?_, h1⟩
  rw [hcell j (by omega), List.getElem?_eq_getElem (by omega)]
/-- A field that came in. -/
theorem open_field {e ti tl : TypeId} {f0 f1 f2 f3 f4 f5 f6 : Field} {n : Nat} {b : Addr} {cs : List Value} {D : DataW H} {Pl : List MemPlace} (he : P.underlying e = some (.struct #[f0, f1, f2, f3, f4, f5, f6])) (hone : oneCellFields P #[f0, f1, f2, f3, f4, f5, f6] = true) (hC : P.cellsOf e = 7)
    (h0 : P.underlying f0.type = some (.int .u8)) (h1 : f1.type = ti) (h2 : f2.type = tl) (h3 : P.underlying f3.type = some .string) (h4 : f4.type = ti) (h5 : f5.type = ti) (h6 : f6.type = ti) (hti : P.underlying ti = some (.int .i64)) (htl : P.underlying tl = some (.slice ti)) (hci : P.cellsOf ti = 1)
    (hc : w.cells? base b (P.cellsOf e) = some cs) (ht : DataW.trod enc P w base spare held n e cs = some (D, Pl)) (hsp : ∀ b, spare b = true) :
    ∃ v : FdV, FdOk w w.heap.size v ∧ ∀ j u, v.cells[j]? = some u → w.cell? (b.add j) = some u := by
  have hs : P.cellsOf e = (#[f0, f1, f2, f3, f4, f5, f6] : Array Field).size := hC
  obtain ⟨v0, m0, y0, c0, t0⟩ := struct_cell he hone hs hc ht 0 f0 rfl
  obtain ⟨v1, m1, y1, c1, t1⟩ := struct_cell he hone hs hc ht 1 f1 rfl
  obtain ⟨v2, m2, y2, c2, t2⟩ := struct_cell he hone hs hc ht 2 f2 rfl
  obtain ⟨v3, m3, y3, c3, t3⟩ := struct_cell he hone hs hc ht 3 f3 rfl
  obtain ⟨v4, m4, y4, c4, t4⟩ := struct_cell he hone hs hc ht 4 f4 rfl
  obtain ⟨v5, m5, y5, c5, t5⟩ := struct_cell he hone hs hc ht 5 f5 rfl
  obtain ⟨v6, m6, y6, c6, t6⟩ := struct_cell he hone hs hc ht 6 f6 rfl
  rw [h1] at t1
  rw [h2] at t2
  rw [h4] at t4
  rw [h5] at t5
  rw [h6] at t6
  obtain ⟨x0, e0, _, w0⟩ := DataW.trod_int h0 t0
  obtain ⟨x1, e1, _, w1⟩ := DataW.trod_int hti t1
  obtain ⟨x3, e3, _, _⟩ := DataW.trod_string h3 t3
  obtain ⟨x4, e4, _, w4⟩ := DataW.trod_int hti t4
  obtain ⟨x5, e5, _, w5⟩ := DataW.trod_int hti t5
  obtain ⟨x6, e6, _, w6⟩ := DataW.trod_int hti t6
  simp only [List.cons.injEq, and_true] at e0 e1 e3 e4 e5 e6
  subst e0 e1 e3 e4 e5 e6
  have b0 := u8_bounds w0
  have hk : (((x0.toNat : Nat) : Nat) : Int) = x0 := by omega
  have fin : ∀ (A : Option Addr) (c : Nat) (l : List Int), v2 = .slice A l.length c → IntsAt w w.heap.size A l → l.length ≤ c → c ≤ 9223372036854775807 → (∀ ad, A = some ad → 0 < l.length → ad.block < w.heap.size) →
      ∃ v : FdV, FdOk w w.heap.size v ∧ ∀ j u, v.cells[j]? = some u → w.cell? (b.add j) = some u := by
    intro A c l hv hl hlc hcm hlb
    refine ⟨⟨⟨x0.toNat, x1, l, x3, x4, x5, x6⟩, A, c⟩, ⟨by show x0.toNat < 256; omega, i64_bounds w1, hl, hlc, hcm, hlb⟩, fun j u hu => ?_⟩
    unfold FdV.cells at hu
    rcases j with _ | _ | _ | _ | _ | _ | _ | j
    · have e : Value.int .u8 ((x0.toNat : Nat) : Int) = u := by simpa using hu
      rw [← e, hk]; exact c0
    · have e : Value.int .i64 x1 = u := by simpa using hu
      rw [← e]; exact c1
    · have e : Value.slice A l.length c = u := by simpa using hu
      rw [← e, ← hv]; exact c2
    · have e : Value.string x3 = u := by simpa using hu
      rw [← e]; exact c3
    · have e : Value.int .i64 x4 = u := by simpa using hu
      rw [← e]; exact c4
    · have e : Value.int .i64 x5 = u := by simpa using hu
      rw [← e]; exact c5
    · have e : Value.int .i64 x6 = u := by simpa using hu
      rw [← e]; exact c6
    · simp at hu
  rcases open_ints htl hti hci t2 with ⟨hcs, _⟩ | ⟨x, l, c, zs, hcs, _, hl, hmx, hz, _, hcell, hwz⟩
  · simp only [List.cons.injEq, and_true] at hcs
    exact fin none 0 [] hcs ⟨by simp, fun h => absurd h (by simp)⟩ (by simp) (by decide) (fun ad h => by cases h)
  · simp only [List.cons.injEq, and_true] at hcs
    rw [hsp, if_pos rfl] at hz
    simp only [maxLen] at hmx
    have hlen : (zs.take l).length = l := by rw [List.length_take]; omega
    have hget : ∀ j, j < l → (zs.take l).getD j 0 = zs.getD j 0 := by
      intro j hj
      have h1 : j < zs.length := by omega
      simp [List.getD_eq_getElem?_getD, hj]
    have hblk : 0 < l → x.block < w.heap.size := fun h => by
      have := World.block_lt_of_cell? w _ (hcell 0 (by omega))
      rwa [block_add] at this
    refine fin (some x) c (zs.take l) (by rw [hlen]; exact hcs) ⟨fun y hy => i64_bounds (hwz y (List.mem_of_mem_take hy)), fun hpos => ⟨x, rfl, hblk (by omega), fun j hj => ?_⟩⟩ (by omega) (by omega) (fun ad h h0 => by cases h; exact hblk (by omega))
    rw [hlen] at hj
    rw [hcell j (by omega), hget j hj]
/-- A slice of fields that came in. -/
theorem open_fields {t e ti tl : TypeId} {f0 f1 f2 f3 f4 f5 f6 : Field} {r : Reach} {b0 : Nat} {v : Value} {d : DataW H} {ps : List MemPlace} (ht : P.underlying t = some (.slice e)) (he : P.underlying e = some (.struct #[f0, f1, f2, f3, f4, f5, f6])) (hone : oneCellFields P #[f0, f1, f2, f3, f4, f5, f6] = true) (hC : P.cellsOf e = 7)
    (h0 : P.underlying f0.type = some (.int .u8)) (h1 : f1.type = ti) (h2 : f2.type = tl) (h3 : P.underlying f3.type = some .string) (h4 : f4.type = ti) (h5 : f5.type = ti) (h6 : f6.type = ti) (hti : P.underlying ti = some (.int .i64)) (htl : P.underlying tl = some (.slice ti)) (hci : P.cellsOf ti = 1)
    (hval : Value.okWide P w r b0 t v) (h : DataW.Trod enc P w base spare held t v d ps) (hsp : ∀ b, spare b = true) :
    ∃ (A : Option Addr) (c : Nat) (vs : List FdV), v = .slice A vs.length c ∧ FdsAt w w.heap.size A vs ∧ vs.length ≤ 9223372036854775807 := by
  obtain ⟨A, len, cap, rfl⟩ := okWide_slice ht hval
  obtain ⟨fuel, hf⟩ := h
  rcases open_slice ht hf with ⟨hcs, _⟩ | ⟨a, l, c, m, n, D, Pl, hcs, _, hl, hmx, hm, _, hi⟩
  · simp [Value.cells] at hcs
    obtain ⟨rfl, rfl, rfl⟩ := hcs
    exact ⟨none, 0, [], rfl, ⟨by simp, fun h => absurd h (by simp)⟩, by simp⟩
  · simp [Value.cells] at hcs
    obtain ⟨rfl, rfl, rfl⟩ := hcs
    rw [hsp, if_pos rfl] at hm
    simp only [maxLen] at hmx
    have hex : ∀ i, ∃ v : FdV, i < len → FdOk w w.heap.size v ∧ ∀ j u, v.cells[j]? = some u → w.cell? ((a.add (i * 7)).add j) = some u := by
      intro i
      by_cases hil : i < len
      · obtain ⟨cs, hc, hct⟩ := hi i (by omega)
        rw [hC] at hc
        obtain ⟨v, k1, k2⟩ := open_field he hone hC h0 h1 h2 h3 h4 h5 h6 hti htl hci (by rw [hC]; exact hc) hct hsp
        exact ⟨v, fun _ => ⟨k1, k2⟩⟩
      · exact ⟨default, fun h => absurd h hil⟩
    obtain ⟨V, hV⟩ := Classical.axiomOfChoice hex
    refine ⟨some a, cap, (List.range len).map V, by simp, ⟨fun v hv => ?_, fun hn => ⟨a, rfl, ?_, fun i v hv j u hu => ?_⟩⟩, by simp; omega⟩
    · obtain ⟨i, hi2, rfl⟩ := List.mem_map.1 hv
      exact (hV i (List.mem_range.1 hi2)).1
    · have hpos : 0 < len := by simpa using hn
      have := World.block_lt_of_cell? w _ ((hV 0 hpos).2 0 _ rfl)
      rwa [block_add, block_add] at this
    · obtain ⟨hil, rfl⟩ : i < len ∧ V i = v := by
        rw [List.getElem?_map] at hv
        obtain ⟨k, hk, rfl⟩ := Option.map_eq_some_iff.1 hv
        obtain ⟨h1, h2⟩ := List.getElem?_eq_some_iff.1 hk
        simp at h1 h2
        subst h2
        exact ⟨h1, rfl⟩
      rw [← add_add]
      exact (hV i hil).2 j u hu
end
end Go.Proofs.YtglekjhbpdoofaaDoor
