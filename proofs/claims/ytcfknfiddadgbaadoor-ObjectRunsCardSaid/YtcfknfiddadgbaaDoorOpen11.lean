/- Arguments opened: objects in a slice, what is done with them. -/
import Derived.Test.YtcfknfiddadgbaaDoorZFr
import Derived.Test.YtcfknfiddadgbaaDoorOcJ
import Derived.Deep.Slices
import Derived.Deep.Fields
import Derived.ChangeSame
namespace Go.Proofs.YtcfknfiddadgbaaDoor
open Go.ChangeShapes Go.WideShapes Go.ChangeAt Go.RowKit Go.Deep
section
variable {H : Type} {enc : TypeId × Value → H} {P : Program} {w : World} {base : Nat} {spare : Nat → Bool} {held : Bool}
theorem okWide_struct {r : Reach} {b0 : Nat} {t : TypeId} {fs : Array Field} {v : Value} (ht : P.underlying t = some (.struct fs)) (h : Value.okWide P w r b0 t v) : ∃ cs, v = .agg cs ∧ cs.size = P.cellsOf t := by
  simp only [Value.okWide, ht] at h
  obtain ⟨cs, h1, h2, _⟩ := h
  exact ⟨cs, h1, h2⟩
theorem row_cell {e : TypeId} {fs : Array Field} {n : Nat} {cs : List Value} {D : DataW H} {Pl : List MemPlace} (he : P.underlying e = some (.struct fs)) (hone : oneCellFields P fs = true) (hC : P.cellsOf e = fs.size)
    (ht : DataW.trod enc P w base spare held n e cs = some (D, Pl)) (j : Nat) (f : Field) (hj : fs[j]? = some f) :
    ∃ (v : Value) (m : Nat) (y : DataW H × List MemPlace), cs[j]? = some v ∧ DataW.trod enc P w base spare held m f.type [v] = some y := by
  obtain ⟨xs, m, _, _, hlen, hxl, hx⟩ := DataW.trod_struct he ht
  have hjl : j < fs.size := (Array.getElem?_eq_some_iff.1 hj).1
  obtain ⟨ho, hk⟩ := hone_of hone j f hj
  have h1 := hx j f hj
  rw [ho, hk, List.drop_eq_getElem_cons (by omega), List.getElem?_eq_getElem (by omega)] at h1
  exact ⟨cs[j]'(by omega), m, _, List.getElem?_eq_getElem (by omega), h1⟩
/-- A slice of structs that came in, with its capacity. -/
theorem open_listc {α : Type} (k : Nat) (cells : α → Array Value) (Ok : α → Prop) (z : α) (hz : ∀ x, 0 < (cells x).size) {t e : TypeId} {fuel : Nat} {c0 : Value} {y : DataW H × List MemPlace} (ht : P.underlying t = some (.slice e)) (hC : P.cellsOf e = k)
    (el : ∀ n b cs D Pl, w.cells? base b (P.cellsOf e) = some cs → DataW.trod enc P w base spare held n e cs = some (D, Pl) → ∃ v : α, Ok v ∧ ∀ j u, (cells v)[j]? = some u → w.cell? (b.add j) = some u)
    (hf : DataW.trod enc P w base spare held fuel t [c0] = some y) (hsp : ∀ b, spare b = true) :
    ∃ (A : Option Addr) (c : Nat) (vs : List α), c0 = .slice A vs.length c ∧ vs.length ≤ c ∧ (∀ v ∈ vs, Ok v) ∧ (0 < vs.length → ∃ ad, A = some ad ∧ ad.block < w.heap.size ∧ ∀ i v, vs[i]? = some v → ∀ j u, (cells v)[j]? = some u → w.cell? (ad.add (i * k + j)) = some u) := by
  rcases open_slice ht hf with ⟨hcs, _⟩ | ⟨a, len, cap, m, n, D, Pl, hcs, _, hl, hmx, hm, _, hi⟩
  · simp only [List.cons.injEq, and_true] at hcs
    exact ⟨none, 0, [], hcs, by simp, (by simp), fun h => absurd h (by simp)⟩
  · simp only [List.cons.injEq, and_true] at hcs
    rw [hsp, if_pos rfl] at hm
    have hex : ∀ i, ∃ v : α, i < len → Ok v ∧ ∀ j u, (cells v)[j]? = some u → w.cell? ((a.add (i * k)).add j) = some u := by
      intro i
      by_cases hil : i < len
      · obtain ⟨cs, hc, hct⟩ := hi i (by omega)
        rw [hC] at hc
        obtain ⟨v, k1, k2⟩ := el _ _ _ _ _ (by rw [hC]; exact hc) hct
        exact ⟨v, fun _ => ⟨k1, k2⟩⟩
      · exact ⟨z, fun h => absurd h hil⟩
    obtain ⟨V, hV⟩ := Classical.axiomOfChoice hex
    refine ⟨some a, cap, (List.range len).map V, by simpa using hcs, by simp; omega, fun v hv => ?_, fun hn => ⟨a, rfl, ?_, fun i v hv j u hu => ?_⟩⟩
    · obtain ⟨i, hi2, rfl⟩ := List.mem_map.1 hv
      exact (hV i (List.mem_range.1 hi2)).1
    · have hpos : 0 < len := by simpa using hn
      have := World.block_lt_of_cell? w _ ((hV 0 hpos).2 0 _ (Array.getElem?_eq_getElem (hz _)))
      rwa [block_add, block_add] at this
    · obtain ⟨hil, rfl⟩ : i < len ∧ V i = v := by
        rw [List.getElem?_map] at hv
        obtain ⟨k, hk, rfl⟩ := Option.map_eq_some_iff.1 hv
        obtain ⟨h1, h2⟩ := List.getElem?_eq_some_iff.1 hk
        simp at h1 h2
        subst h2
        exact ⟨h1, rfl⟩
      rw [← add_add]
      exact (hV i hil).2 j u hu
/-- A value that came in. -/
theorem trod_val {e : TypeId} {f0 f1 f2 : Field} {n : Nat} {cs : List Value} {D : DataW H} {Pl : List MemPlace} (he : P.underlying e = some (.struct #[f0, f1, f2])) (hone : oneCellFields P #[f0, f1, f2] = true) (hC : P.cellsOf e = 3)
    (h0 : P.underlying f0.type = some (.int .u8)) (h1 : P.underlying f1.type = some (.int .i64)) (h2 : P.underlying f2.type = some (.int .i64)) (ht : DataW.trod enc P w base spare held n e cs = some (D, Pl)) :
    ∃ v : Ob.Val, ValOk v ∧ cs = valF v := by
  have hs : P.cellsOf e = (#[f0, f1, f2] : Array Field).size := hC
  obtain ⟨_, _, _, _, hlen, _, _⟩ := DataW.trod_struct he ht
  rw [hC] at hlen
  obtain ⟨v0, m0, y0, c0, t0⟩ := row_cell he hone hs ht 0 f0 rfl
  obtain ⟨v1, m1, y1, c1, t1⟩ := row_cell he hone hs ht 1 f1 rfl
  obtain ⟨v2, m2, y2, c2, t2⟩ := row_cell he hone hs ht 2 f2 rfl
  obtain ⟨x0, e0, _, w0⟩ := DataW.trod_int h0 t0
  obtain ⟨x1, e1, _, w1⟩ := DataW.trod_int h1 t1
  obtain ⟨x2, e2, _, w2⟩ := DataW.trod_int h2 t2
  simp only [List.cons.injEq, and_true] at e0 e1 e2
  subst e0 e1 e2
  have b0 := u8_bounds w0
  obtain ⟨k, rfl⟩ : ∃ k : Nat, x0 = (k : Int) := ⟨x0.toNat, by omega⟩
  refine ⟨⟨k, x1, x2⟩, ⟨by simp only; omega, i64_bounds w1, i64_bounds w2⟩, ?_⟩
  match cs, hlen with
  | [a, b, c], _ =>
    simp only [List.getElem?_cons_zero, List.getElem?_cons_succ, Option.some.injEq] at c0 c1 c2
    subst c0 c1 c2
    rfl
/-- A slice of values in a cell. -/
theorem open_cellV {s e : TypeId} {f0 f1 f2 : Field} {fuel : Nat} {c0 : Value} {x : DataW H × List MemPlace} (hs : P.underlying s = some (.slice e)) (he : P.underlying e = some (.struct #[f0, f1, f2])) (hone : oneCellFields P #[f0, f1, f2] = true) (hC : P.cellsOf e = 3)
    (h0 : P.underlying f0.type = some (.int .u8)) (h1 : P.underlying f1.type = some (.int .i64)) (h2 : P.underlying f2.type = some (.int .i64)) (hf : DataW.trod enc P w base spare held fuel s [c0] = some x) (hsp : ∀ b, spare b = true) :
    ∃ (A : Option Addr) (c : Nat) (l : List Ob.Val), c0 = .slice A l.length c ∧ ValsAt w A l ∧ l.length ≤ c := by
  obtain ⟨A, c, vs, k1, k2, k3, k4⟩ := open_listc (α := Ob.Val) 3 (fun v => (valF v).toArray) ValOk ⟨0, 0, 0⟩ (fun x => (by decide : 0 < 3)) hs hC (fun n b cs D Pl hc ht => by
    obtain ⟨v, hv, rfl⟩ := trod_val he hone hC h0 h1 h2 ht
    obtain ⟨_, hlen, hcell⟩ := World.cells?_some hc
    refine ⟨v, hv, fun j u hu => ?_⟩
    rw [List.getElem?_toArray] at hu
    have hj := (List.getElem?_eq_some_iff.1 hu).1
    rw [hcell j (by rw [hC]; exact hj)]
    exact hu) hf hsp
  refine ⟨A, c, vs, k1, ⟨k3, fun hn => ?_⟩, k2⟩
  obtain ⟨ad, q1, q2, q3⟩ := k4 hn
  exact ⟨ad, q1, q2, fun i v hi j u hu => q3 i v hi j u (by rw [List.getElem?_toArray]; exact hu)⟩
/-- An object that came in. -/
theorem trod_obj {e s ev : TypeId} {g0 g1 g2 g3 f0 f1 f2 : Field} {n : Nat} {cs : List Value} {D : DataW H} {Pl : List MemPlace} (he : P.underlying e = some (.struct #[g0, g1, g2, g3])) (hone : oneCellFields P #[g0, g1, g2, g3] = true) (hC : P.cellsOf e = 4)
    (h0 : P.underlying g0.type = some (.int .i64)) (h1 : P.underlying g1.type = some (.int .i64)) (h2 : g2.type = s) (h3 : P.underlying g3.type = some .string)
    (hs : P.underlying s = some (.slice ev)) (hv : P.underlying ev = some (.struct #[f0, f1, f2])) (hov : oneCellFields P #[f0, f1, f2] = true) (hCv : P.cellsOf ev = 3) (k0 : P.underlying f0.type = some (.int .u8)) (k1 : P.underlying f1.type = some (.int .i64)) (k2 : P.underlying f2.type = some (.int .i64))
    (ht : DataW.trod enc P w base spare held n e cs = some (D, Pl)) (hsp : ∀ b, spare b = true) : ∃ v : OV, OvOk w v ∧ cs = ovF v := by
  have hsz : P.cellsOf e = (#[g0, g1, g2, g3] : Array Field).size := hC
  obtain ⟨_, _, _, _, hlen, _, _⟩ := DataW.trod_struct he ht
  rw [hC] at hlen
  obtain ⟨v0, m0, y0, c0, t0⟩ := row_cell he hone hsz ht 0 g0 rfl
  obtain ⟨v1, m1, y1, c1, t1⟩ := row_cell he hone hsz ht 1 g1 rfl
  obtain ⟨v2, m2, y2, c2, t2⟩ := row_cell he hone hsz ht 2 g2 rfl
  obtain ⟨v3, m3, y3, c3, t3⟩ := row_cell he hone hsz ht 3 g3 rfl
  rw [h2] at t2
  obtain ⟨x0, e0, _, w0⟩ := DataW.trod_int h0 t0
  obtain ⟨x1, e1, _, w1⟩ := DataW.trod_int h1 t1
  obtain ⟨A, c, l, e2, a2, b2⟩ := open_cellV hs hv hov hCv k0 k1 k2 t2 hsp
  obtain ⟨x3, e3, _, _⟩ := DataW.trod_string h3 t3
  simp only [List.cons.injEq, and_true] at e0 e1 e3
  subst e0 e1 e2 e3
  refine ⟨⟨⟨x0, x1, l, x3⟩, A, c⟩, ⟨a2, i64_bounds w0, i64_bounds w1, b2⟩, ?_⟩
  match cs, hlen with
  | [a, b, c', d], _ =>
    simp only [List.getElem?_cons_zero, List.getElem?_cons_succ, Option.some.injEq] at c0 c1 c2 c3
    subst c0 c1 c2 c3
    rfl
/-- Objects that came in. -/
theorem open_objs {so e s ev : TypeId} {g0 g1 g2 g3 f0 f1 f2 : Field} {r : Reach} {b0 : Nat} {v : Value} {d : DataW H} {ps : List MemPlace} (hso : P.underlying so = some (.slice e)) (he : P.underlying e = some (.struct #[g0, g1, g2, g3])) (hone : oneCellFields P #[g0, g1, g2, g3] = true) (hC : P.cellsOf e = 4)
    (h0 : P.underlying g0.type = some (.int .i64)) (h1 : P.underlying g1.type = some (.int .i64)) (h2 : g2.type = s) (h3 : P.underlying g3.type = some .string)
    (hs : P.underlying s = some (.slice ev)) (hv : P.underlying ev = some (.struct #[f0, f1, f2])) (hov : oneCellFields P #[f0, f1, f2] = true) (hCv : P.cellsOf ev = 3) (k0 : P.underlying f0.type = some (.int .u8)) (k1 : P.underlying f1.type = some (.int .i64)) (k2 : P.underlying f2.type = some (.int .i64))
    (hval : Value.okWide P w r b0 so v) (h : DataW.Trod enc P w base spare held so v d ps) (hsp : ∀ b, spare b = true) :
    ∃ (A : Option Addr) (c : Nat) (l : List OV), v = .slice A l.length c ∧ ObjsAt w A l ∧ l.length ≤ c := by
  obtain ⟨A, len, cap, rfl⟩ := okWide_slice hso hval
  obtain ⟨fuel, hf⟩ := h
  obtain ⟨A', c', vs, q1, q2, q3, q4⟩ := open_listc (α := OV) 4 (fun v => (ovF v).toArray) (OvOk w) ⟨⟨0, 0, [], ⟨#[]⟩⟩, none, 0⟩ (fun x => (by decide : 0 < 4)) hso hC (fun n b cs D Pl hc ht => by
    obtain ⟨v, hv, rfl⟩ := trod_obj he hone hC h0 h1 h2 h3 hs hv hov hCv k0 k1 k2 ht hsp
    obtain ⟨_, hlen, hcell⟩ := World.cells?_some hc
    refine ⟨v, hv, fun j u hu => ?_⟩
    rw [List.getElem?_toArray] at hu
    have hj := (List.getElem?_eq_some_iff.1 hu).1
    rw [hcell j (by rw [hC]; exact hj)]
    exact hu) (by simpa [Value.cells] using hf) hsp
  refine ⟨A', c', vs, q1, ⟨q3, fun hn => ?_⟩, q2⟩
  obtain ⟨ad, p1, p2, p3⟩ := q4 hn
  exact ⟨ad, p1, p2, fun i v hi j u hu => p3 i v hi j u (by rw [List.getElem?_toArray]; exact hu)⟩
end
end Go.Proofs.YtcfknfiddadgbaaDoor
