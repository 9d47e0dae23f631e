/- Parts of elder texts that this layer needs, joined: XOpen13. -/
import Derived.Test.YtidnaednldcdfaaGreatDoorZFr
import Derived.Test.YtidnaednldcdfaaGreatDoorGdA
import Derived.Deep.Slices
import Derived.Deep.Fields
import Derived.ChangeSame
namespace Go.Proofs.YtidnaednldcdfaaGreatDoor
open Go.ChangeShapes Go.WideShapes Go.ChangeAt Go.RowKit Go.Deep
section
variable {H : Type} {enc : TypeId × Value → H} {P : Program} {w : World} {base : Nat} {spare : Nat → Bool} {held : Bool}
theorem okWide_struct {r : Reach} {b0 : Nat} {t : TypeId} {fs : Array Field} {v : Value} (ht : P.underlying t = some (.struct fs)) (h : Value.okWide P w r b0 t v) : ∃ cs, v = .agg cs ∧ cs.size = P.cellsOf t := by
  simp only [Value.okWide, ht] at h
  obtain ⟨cs, h1, h2, _⟩ := h
  exact ⟨cs, h1, h2⟩
theorem row_cell {e : TypeId} {fs : Array Field} {n : Nat} {cs : List Value} {D : DataW H} {Pl : List MemPlace} (he : P.underlying e = some (.struct fs)) (hone : oneCellFields P fs = true) (hC : P.cellsOf e = fs.size)
    (ht : DataW.trod enc P w base spare held n e cs = some (D, Pl)) (j : Nat) (f : Field) (hj : fs[j]? = some f) :
    ∃ (v : Value) (m : Nat) (y : DataW H × List MemPlace), cs[j]? = some v ∧ DataW.trod enc P w base spare held m f.type [v] = some y := by
  obtain ⟨xs, m, _, _, hlen, hxl, hx⟩ := DataW.trod_struct he ht
  have hjl : j < fs.size := (Array.getElem?_eq_some_iff.1 hj).1
  obtain ⟨ho, hk⟩ := hone_of hone j f hj
  have h1 := hx j f hj
  rw [ho, hk, List.drop_eq_getElem_cons (by omega), List.getElem?_eq_getElem (by omega)] at h1
  exact ⟨cs[j]'(by omega), m, _, List.getElem?_eq_getElem (by omega), h1⟩
/-- A slice of structs that came in, with its capacity. -/
theorem open_listc {α : Type} (k : Nat) (cells : α → Array Value) (Ok : α → Prop) (z : α) (hz : ∀ x, 0 < (cells x).size) {t e : TypeId} {fuel : Nat} {c0 : Value} {y : DataW H × List MemPlace} (ht : P.underlying t = some (.slice e)) (hC : P.cellsOf e = k)
    (el : ∀ n b cs D Pl, w.cells? base b (P.cellsOf e) = some cs → DataW.trod enc P w base spare held n e cs = some (D, Pl) → ∃ v : α, Ok v ∧ ∀ j u, (cells v)[j]? = some u → w.cell? (b.add j) = some u)
    (hf : DataW.trod enc P w base spare held fuel t [c0] = some y) (hsp : ∀ b, spare b = true) :
    ∃ (A : Option Addr) (c : Nat) (vs : List α), c0 = .slice A vs.length c ∧ vs.length ≤ c ∧ (∀ v ∈ vs, Ok v) ∧ (0 < vs.length → ∃ ad, A = some ad ∧ ad.block < w.heap.size ∧ ∀ i v, vs[i]? = some v → ∀ j u, (cells v)[j]? = some u → w.cell? (ad.add (i * k + j)) = some u) := by
  rcases open_slice ht hf with ⟨hcs, _⟩ | ⟨a, len, cap, m, n, D, Pl, hcs, _, hl, hmx, hm, _, hi⟩
  · simp only [List.cons.injEq, and_true] at hcs
    exact ⟨none, 0, [], hcs, by simp, (by simp), fun h => absurd h (by simp)⟩
  · simp only [List.cons.injEq, and_true] at hcs
    rw [hsp, if_pos rfl] at hm
    have hex : ∀ i, ∃ v : α, i < len → Ok v ∧ ∀ j u, (cells v)[j]? = some u → w.cell? ((a.add (i * k)).add j) = some u := by
      intro i
      by_cases hil : i < len
      · obtain ⟨cs, hc, hct⟩ := hi i (by omega)
        rw [hC] at hc
        obtain ⟨v, k1, k2⟩ := el _ _ _ _ _ (by rw [hC]; exact hc) hct
        exact ⟨v, fun _ => ⟨k1, k2⟩⟩
      · exact ⟨z, fun h => absurd h hil⟩
    obtain ⟨V, hV⟩ := Classical.axiomOfChoice hex
    refine ⟨some a, cap, (List.range len).map V, by simpa using hcs, by simp; omega, fun v hv => ?_, fun hn => ⟨a, rfl, ?_, fun i v hv j u hu => ?_⟩⟩
    · obtain ⟨i, hi2, rfl⟩ := List.mem_map.1 hv
      exact (hV i (List.mem_range.1 hi2)).1
    · have hpos : 0 < len := by simpa using hn
      have := World.block_lt_of_cell? w _ ((hV 0 hpos).2 0 _ (Array.getElem?_eq_getElem (hz _)))
      rwa [block_add, block_add] at this
    · obtain ⟨hil, rfl⟩ : i < len ∧ V i = v := by
        rw [List.getElem?_map] at hv
        obtain ⟨k, hk, rfl⟩ := Option.map_eq_some_iff.1 hv
        obtain ⟨h1, h2⟩ := List.getElem?_eq_some_iff.1 hk
        simp at h1 h2
        subst h2
        exact ⟨h1, rfl⟩
      rw [← add_add]
      exact (hV i hil).2 j u hu
/-- A value that came in. -/
theorem trod_val {e : TypeId} {f0 f1 f2 : Field} {n : Nat} {cs : List Value} {D : DataW H} {Pl : List MemPlace} (he : P.underlying e = some (.struct #[f0, f1, f2])) (hone : oneCellFields P #[f0, f1, f2] = true) (hC : P.cellsOf e = 3)
    (h0 : P.underlying f0.type = some (.int .u8)) (h1 : P.underlying f1.type = some (.int .i64)) (h2 : P.underlying f2.type = some (.int .i64)) (ht : DataW.trod enc P w base spare held n e cs = some (D, Pl)) :
    ∃ v : Ob.Val, ValOk v ∧ cs = valF v := by
  have hs : P.cellsOf e = (#[f0, f1, f2] : Array Field).size := hC
  obtain ⟨_, _, _, _, hlen, _, _⟩ := DataW.trod_struct he ht
  rw [hC] at hlen
  obtain ⟨v0, m0, y0, c0, t0⟩ := row_cell he hone hs ht 0 f0 rfl
  obtain ⟨v1, m1, y1, c1, t1⟩ := row_cell he hone hs ht 1 f1 rfl
  obtain ⟨v2, m2, y2, c2, t2⟩ := row_cell he hone hs ht 2 f2 rfl
  obtain ⟨x0, e0, _, w0⟩ := DataW.trod_int h0 t0
  obtain ⟨x1, e1, _, w1⟩ := DataW.trod_int h1 t1
  obtain ⟨x2, e2, _, w2⟩ := DataW.trod_int h2 t2
  simp only [List.cons.injEq, and_true] at e0 e1 e2
  subst e0 e1 e2
  have b0 := u8_bounds w0
  obtain ⟨k, rfl⟩ : ∃ k : Nat, x0 = (k : Int) := ⟨x0.toNat, by omega⟩
  refine ⟨⟨k, x1, x2⟩, ⟨by simp only; omega, i64_bounds w1, i64_bounds w2⟩, ?_⟩
  match cs, hlen with
  | [a, b, c], _ =>
    simp only [List.getElem?_cons_zero, List.getElem?_cons_succ, Option.some.injEq] at c0 c1 c2
    subst c0 c1 c2
    rfl
/-- A slice of values in a cell. -/
theorem open_cellV {s e : TypeId} {f0 f1 f2 : Field} {fuel : Nat} {c0 : Value} {x : DataW H × List MemPlace} (hs : P.underlying s = some (.slice e)) (he : P.underlying e = some (.struct #[f0, f1, f2])) (hone : oneCellFields P #[f0, f1, f2] = true) (hC : P.cellsOf e = 3)
    (h0 : P.underlying f0.type = some (.int .u8)) (h1 : P.underlying f1.type = some (.int .i64)) (h2 : P.underlying f2.type = some (.int .i64)) (hf : DataW.trod enc P w base spare held fuel s [c0] = some x) (hsp : ∀ b, spare b = true) :
    ∃ (A : Option Addr) (c : Nat) (l : List Ob.Val), c0 = .slice A l.length c ∧ ValsAt w A l ∧ l.length ≤ c := by
  obtain ⟨A, c, vs, k1, k2, k3, k4⟩ := open_listc (α := Ob.Val) 3 (fun v => (valF v).toArray) ValOk ⟨0, 0, 0⟩ (fun x => (by decide : 0 < 3)) hs hC (fun n b cs D Pl hc ht => by
    obtain ⟨v, hv, rfl⟩ := trod_val he hone hC h0 h1 h2 ht
    obtain ⟨_, hlen, hcell⟩ := World.cells?_some hc
    refine ⟨v, hv, fun j u hu => ?_⟩
    rw [List.getElem?_toArray] at hu
    have hj := (List.getElem?_eq_some_iff.1 hu).1
    rw [hcell j (by rw [hC]; exact hj)]
    exact hu) hf hsp
  refine ⟨A, c, vs, k1, ⟨k3, fun hn => ?_⟩, k2⟩
  obtain ⟨ad, q1, q2, q3⟩ := k4 hn
  exact ⟨ad, q1, q2, fun i v hi j u hu => q3 i v hi j u (by rw [List.getElem?_toArray]; exact hu)⟩
/-- An object that came in. -/
theorem trod_obj {e s ev : TypeId} {g0 g1 g2 g3 f0 f1 f2 : Field} {n : Nat} {cs : List Value} {D : DataW H} {Pl : List MemPlace} (he : P.underlying e = some (.struct #[g0, g1, g2, g3])) (hone : oneCellFields P #[g0, g1, g2, g3] = true) (hC : P.cellsOf e = 4)
    (h0 : P.underlying g0.type = some (.int .i64)) (h1 : P.underlying g1.type = some (.int .i64)) (h2 : g2.type = s) (h3 : P.underlying g3.type = some .string)
    (hs : P.underlying s = some (.slice ev)) (hv : P.underlying ev = some (.struct #[f0, f1, f2])) (hov : oneCellFields P #[f0, f1, f2] = true) (hCv : P.cellsOf ev = 3) (k0 : P.underlying f0.type = some (.int .u8)) (k1 : P.underlying f1.type = some (.int .i64)) (k2 : P.underlying f2.type = some (.int .i64))
    (ht : DataW.trod enc P w base spare held n e cs = some (D, Pl)) (hsp : ∀ b, spare b = true) : ∃ v : OV, OvOk w v ∧ cs = ovF v := by
  have hsz : P.cellsOf e = (#[g0, g1, g2, g3] : Array Field).size := hC
  obtain ⟨_, _, _, _, hlen, _, _⟩ := DataW.trod_struct he ht
  rw [hC] at hlen
  obtain ⟨v0, m0, y0, c0, t0⟩ := row_cell he hone hsz ht 0 g0 rfl
  obtain ⟨v1, m1, y1, c1, t1⟩ := row_cell he hone hsz ht 1 g1 rfl
  obtain ⟨v2, m2, y2, c2, t2⟩ := row_cell he hone hsz ht 2 g2 rfl
  obtain ⟨v3, m3, y3, c3, t3⟩ := row_cell he hone hsz ht 3 g3 rfl
  rw [h2] at t2
  obtain ⟨x0, e0, _, w0⟩ := DataW.trod_int h0 t0
  obtain ⟨x1, e1, _, w1⟩ := DataW.trod_int h1 t1
  obtain ⟨A, c, l, e2, a2, b2⟩ := open_cellV hs hv hov hCv k0 k1 k2 t2 hsp
  obtain ⟨x3, e3, _, _⟩ := DataW.trod_string h3 t3
  simp only [List.cons.injEq, and_true] at e0 e1 e3
  subst e0 e1 e2 e3
  refine ⟨⟨⟨x0, x1, l, x3⟩, A, c⟩, ⟨a2, i64_bounds w0, i64_bounds w1, b2⟩, ?_⟩
  match cs, hlen with
  | [a, b, c', d], _ =>
    simp only [List.getElem?_cons_zero, List.getElem?_cons_succ, Option.some.injEq] at c0 c1 c2 c3
    subst c0 c1 c2 c3
    rfl
/-- Objects that came in. -/
theorem open_objs {so e s ev : TypeId} {g0 g1 g2 g3 f0 f1 f2 : Field} {r : Reach} {b0 : Nat} {v : Value} {d : DataW H} {ps : List MemPlace} (hso : P.underlying so = some (.slice e)) (he : P.underlying e = some (.struct #[g0, g1, g2, g3])) (hone : oneCellFields P #[g0, g1, g2, g3] = true) (hC : P.cellsOf e = 4)
    (h0 : P.underlying g0.type = some (.int .i64)) (h1 : P.underlying g1.type = some (.int .i64)) (h2 : g2.type = s) (h3 : P.underlying g3.type = some .string)
    (hs : P.underlying s = some (.slice ev)) (hv : P.underlying ev = some (.struct #[f0, f1, f2])) (hov : oneCellFields P #[f0, f1, f2] = true) (hCv : P.cellsOf ev = 3) (k0 : P.underlying f0.type = some (.int .u8)) (k1 : P.underlying f1.type = some (.int .i64)) (k2 : P.underlying f2.type = some (.int .i64))
    (hval : Value.okWide P w r b0 so v) (h : DataW.Trod enc P w base spare held so v d ps) (hsp : ∀ b, spare b = true) :
    ∃ (A : Option Addr) (c : Nat) (l : List OV), v = .slice A l.length c ∧ ObjsAt w A l ∧ l.length ≤ c := by
  obtain ⟨A, len, cap, rfl⟩ := okWide_slice hso hval
  obtain ⟨fuel, hf⟩ := h
  obtain ⟨A', c', vs, q1, q2, q3, q4⟩ := open_listc (α := OV) 4 (fun v => (ovF v).toArray) (OvOk w) ⟨⟨0, 0, [], ⟨#[]⟩⟩, none, 0⟩ (fun x => (by decide : 0 < 4)) hso hC (fun n b cs D Pl hc ht => by
    obtain ⟨v, hv, rfl⟩ := trod_obj he hone hC h0 h1 h2 h3 hs hv hov hCv k0 k1 k2 ht hsp
    obtain ⟨_, hlen, hcell⟩ := World.cells?_some hc
    refine ⟨v, hv, fun j u hu => ?_⟩
    rw [List.getElem?_toArray] at hu
    have hj := (List.getElem?_eq_some_iff.1 hu).1
    rw [hcell j (by rw [hC]; exact hj)]
    exact hu) (by simpa [Value.cells] using hf) hsp
  refine ⟨A', c', vs, q1, ⟨q3, fun hn => ?_⟩, q2⟩
  obtain ⟨ad, p1, p2, p3⟩ := q4 hn
  exact ⟨ad, p1, p2, fun i v hi j u hu => p3 i v hi j u (by rw [List.getElem?_toArray]; exact hu)⟩
theorem struct_parts {a : TypeId} {fs : Array Field} {os : Array (Nat × Nat)} {n : Nat} {cs : List Value} {D : DataW H} {Pl : List MemPlace} (ha : P.underlying a = some (.struct fs)) (hoff : fs.map (fun f => (f.offset, P.cellsOf f.type)) = os) (ht : DataW.trod enc P w base spare held n a cs = some (D, Pl)) :
    cs.length = P.cellsOf a ∧ ∃ m, ∀ (i : Nat) (f : Field) (o k : Nat), fs[i]? = some f → os[i]? = some (o, k) → ∃ y, DataW.trod enc P w base spare held m f.type ((cs.drop o).take k) = some y := by
  obtain ⟨xs, m, _, _, hlen, hxl, hx⟩ := DataW.trod_struct ha ht
  refine ⟨hlen, m, fun i f o k h1 h2 => ?_⟩
  have h3 : (fs.map (fun f => (f.offset, P.cellsOf f.type)))[i]? = os[i]? := by rw [hoff]
  rw [Array.getElem?_map, h1, h2] at h3
  have h4 : (f.offset, P.cellsOf f.type) = (o, k) := Option.some.inj h3
  have h5 : f.offset = o := congrArg Prod.fst h4
  have h6 : P.cellsOf f.type = k := congrArg Prod.snd h4
  have h7 := hx i f h1
  rw [h5, h6] at h7
  have hi : i < xs.length := by
    have := (Array.getElem?_eq_some_iff.1 h1).1
    rw [hxl]; exact this
  rw [List.getElem?_eq_getElem hi] at h7
  exact ⟨_, h7⟩
/-- Lists of values in a cell. -/
theorem open_cellL {sl s ev : TypeId} {f0 f1 f2 : Field} {fuel : Nat} {c0 : Value} {x : DataW H × List MemPlace} (hsl : P.underlying sl = some (.slice s)) (hCs : P.cellsOf s = 1)
    (hs : P.underlying s = some (.slice ev)) (hv : P.underlying ev = some (.struct #[f0, f1, f2])) (hov : oneCellFields P #[f0, f1, f2] = true) (hCv : P.cellsOf ev = 3) (k0 : P.underlying f0.type = some (.int .u8)) (k1 : P.underlying f1.type = some (.int .i64)) (k2 : P.underlying f2.type = some (.int .i64))
    (hf : DataW.trod enc P w base spare held fuel sl [c0] = some x) (hsp : ∀ b, spare b = true) :
    ∃ (A : Option Addr) (c : Nat) (l : List LV), c0 = .slice A l.length c ∧ ListsAt w A l ∧ l.length ≤ c := by
  obtain ⟨A, c, vs, q1, q2, q3, q4⟩ := open_listc (α := LV) 1 (fun v => (lvF v).toArray) (fun v => ValsAt w v.A v.l) ⟨none, 0, []⟩ (fun x => (by decide : 0 < 1)) hsl hCs (fun n b cs D Pl hc ht => by
    obtain ⟨_, hlen, hcell⟩ := World.cells?_some hc
    rw [hCs] at hlen
    match cs, hlen with
    | [z], _ =>
      obtain ⟨A', c', l, rfl, hv2, _⟩ := open_cellV hs hv hov hCv k0 k1 k2 ht hsp
      refine ⟨⟨A', c', l⟩, hv2, fun j u hu => ?_⟩
      rw [List.getElem?_toArray] at hu
      have hj := (List.getElem?_eq_some_iff.1 hu).1
      rw [hcell j (by rw [hCs]; exact hj)]
      exact hu) hf hsp
  refine ⟨A, c, vs, q1, ⟨q3, fun hn => ?_⟩, q2⟩
  obtain ⟨ad, p1, p2, p3⟩ := q4 hn
  exact ⟨ad, p1, p2, fun i v hi j u hu => p3 i v hi j u (by rw [List.getElem?_toArray]; exact hu)⟩
theorem open_lists {sl s ev : TypeId} {f0 f1 f2 : Field} {r : Reach} {b0 : Nat} {v : Value} {d : DataW H} {ps : List MemPlace} (hsl : P.underlying sl = some (.slice s)) (hCs : P.cellsOf s = 1)
    (hs : P.underlying s = some (.slice ev)) (hv : P.underlying ev = some (.struct #[f0, f1, f2])) (hov : oneCellFields P #[f0, f1, f2] = true) (hCv : P.cellsOf ev = 3) (k0 : P.underlying f0.type = some (.int .u8)) (k1 : P.underlying f1.type = some (.int .i64)) (k2 : P.underlying f2.type = some (.int .i64))
    (hval : Value.okWide P w r b0 sl v) (h : DataW.Trod enc P w base spare held sl v d ps) (hsp : ∀ b, spare b = true) :
    ∃ (A : Option Addr) (c : Nat) (l : List LV), v = .slice A l.length c ∧ ListsAt w A l ∧ l.length ≤ c := by
  obtain ⟨A, len, cap, rfl⟩ := okWide_slice hsl hval
  obtain ⟨fuel, hf⟩ := h
  exact open_cellL hsl hCs hs hv hov hCv k0 k1 k2 (by simpa [Value.cells] using hf) hsp
/-- An act that came in. -/
theorem trod_act12 {a : TypeId} {e s ev : TypeId} {u0 u1 u2 u3 u4 u5 u6 g0 g1 g2 g3 f0 f1 f2 : Field} {n : Nat} {cs : List Value} {D : DataW H} {Pl : List MemPlace} (ha : P.underlying a = some (.struct #[u0, u1, u2, u3, u4, u5, u6])) (hoff : (#[u0, u1, u2, u3, u4, u5, u6] : Array Field).map (fun f => (f.offset, P.cellsOf f.type)) = #[(0, 1), (1, 4), (5, 1), (6, 1), (7, 1), (8, 3), (11, 1)]) (hCa : P.cellsOf a = 12)
    (y0 : P.underlying u0.type = some (.int .u8)) (y1 : u1.type = e) (y2 : P.underlying u2.type = some (.int .i64)) (y3 : P.underlying u3.type = some (.int .i64)) (y4 : P.underlying u4.type = some (.int .i64)) (y5 : u5.type = ev) (y6 : P.underlying u6.type = some (.slice s))
    (hCs : P.cellsOf s = 1)
    (he : P.underlying e = some (.struct #[g0, g1, g2, g3])) (hone : oneCellFields P #[g0, g1, g2, g3] = true) (hC : P.cellsOf e = 4)
    (h0 : P.underlying g0.type = some (.int .i64)) (h1 : P.underlying g1.type = some (.int .i64)) (h2 : g2.type = s) (h3 : P.underlying g3.type = some .string)
    (hs : P.underlying s = some (.slice ev)) (hv : P.underlying ev = some (.struct #[f0, f1, f2])) (hov : oneCellFields P #[f0, f1, f2] = true) (hCv : P.cellsOf ev = 3) (k0 : P.underlying f0.type = some (.int .u8)) (k1 : P.underlying f1.type = some (.int .i64)) (k2 : P.underlying f2.type = some (.int .i64))
    (ht : DataW.trod enc P w base spare held n a cs = some (D, Pl)) (hsp : ∀ b, spare b = true) : ∃ v : A12, A12Ok w v ∧ cs = a12F v := by
  obtain ⟨hlen, m, hp⟩ := struct_parts ha hoff ht
  rw [hCa] at hlen
  obtain ⟨q0, t0⟩ := hp 0 u0 0 1 rfl rfl
  obtain ⟨q1, t1⟩ := hp 1 u1 1 4 rfl rfl
  obtain ⟨q2, t2⟩ := hp 2 u2 5 1 rfl rfl
  obtain ⟨q3, t3⟩ := hp 3 u3 6 1 rfl rfl
  obtain ⟨q4, t4⟩ := hp 4 u4 7 1 rfl rfl
  obtain ⟨q5, t5⟩ := hp 5 u5 8 3 rfl rfl
  obtain ⟨q6, t6⟩ := hp 6 u6 11 1 rfl rfl
  clear hp ht
  rw [y1] at t1
  rw [y5] at t5
  obtain ⟨x0, e0, _, w0⟩ := DataW.trod_int y0 t0
  have b0 := u8_bounds w0
  obtain ⟨kd, rfl⟩ : ∃ k : Nat, x0 = (k : Int) := ⟨x0.toNat, by omega⟩
  obtain ⟨o, ho, e1⟩ := trod_obj he hone hC h0 h1 h2 h3 hs hv hov hCv k0 k1 k2 (D := q1.1) (Pl := q1.2) t1 hsp
  obtain ⟨x2, e2, _, w2⟩ := DataW.trod_int y2 t2
  obtain ⟨x3, e3, _, w3⟩ := DataW.trod_int y3 t3
  obtain ⟨x4, e4, _, w4⟩ := DataW.trod_int y4 t4
  obtain ⟨v, hv2, e5⟩ := trod_val hv hov hCv k0 k1 k2 (D := q5.1) (Pl := q5.2) t5
  match cs, hlen with
  | [c0, c1, c2, c3, c4, c5, c6, c7, c8, c9, c10, c11], _ =>
    simp only [List.drop_zero, List.drop_succ_cons, List.take_succ_cons, List.take_zero, List.cons.injEq, and_true, valF, ovF] at e0 e1 e2 e3 e4 e5 t6
    obtain ⟨e10, e11, e12, e13⟩ := e1
    obtain ⟨e50, e51, e52⟩ := e5
    obtain ⟨A, c, l, rfl, hl, _⟩ := open_cellL y6 hCs hs hv hov hCv k0 k1 k2 t6 hsp
    subst e0 e10 e11 e12 e13 e2 e3 e4 e50 e51 e52
    exact ⟨⟨kd, o, x2, x3, x4, v, A, c, l⟩, ⟨ho, by simp only; omega, hv2, i64_bounds w2, i64_bounds w3, i64_bounds w4, hl⟩, rfl⟩
theorem open_acts12 {sa a e s ev : TypeId} {u0 u1 u2 u3 u4 u5 u6 g0 g1 g2 g3 f0 f1 f2 : Field} {r : Reach} {b0 : Nat} {v : Value} {d : DataW H} {ps : List MemPlace} (hsa : P.underlying sa = some (.slice a)) (ha : P.underlying a = some (.struct #[u0, u1, u2, u3, u4, u5, u6])) (hoff : (#[u0, u1, u2, u3, u4, u5, u6] : Array Field).map (fun f => (f.offset, P.cellsOf f.type)) = #[(0, 1), (1, 4), (5, 1), (6, 1), (7, 1), (8, 3), (11, 1)]) (hCa : P.cellsOf a = 12)
    (y0 : P.underlying u0.type = some (.int .u8)) (y1 : u1.type = e) (y2 : P.underlying u2.type = some (.int .i64)) (y3 : P.underlying u3.type = some (.int .i64)) (y4 : P.underlying u4.type = some (.int .i64)) (y5 : u5.type = ev) (y6 : P.underlying u6.type = some (.slice s))
    (hCs : P.cellsOf s = 1)
    (he : P.underlying e = some (.struct #[g0, g1, g2, g3])) (hone : oneCellFields P #[g0, g1, g2, g3] = true) (hC : P.cellsOf e = 4)
    (h0 : P.underlying g0.type = some (.int .i64)) (h1 : P.underlying g1.type = some (.int .i64)) (h2 : g2.type = s) (h3 : P.underlying g3.type = some .string)
    (hs : P.underlying s = some (.slice ev)) (hv : P.underlying ev = some (.struct #[f0, f1, f2])) (hov : oneCellFields P #[f0, f1, f2] = true) (hCv : P.cellsOf ev = 3) (k0 : P.underlying f0.type = some (.int .u8)) (k1 : P.underlying f1.type = some (.int .i64)) (k2 : P.underlying f2.type = some (.int .i64))
    (hval : Value.okWide P w r b0 sa v) (h : DataW.Trod enc P w base spare held sa v d ps) (hsp : ∀ b, spare b = true) :
    ∃ (A : Option Addr) (c : Nat) (l : List A12), v = .slice A l.length c ∧ Acts12 w A l ∧ l.length ≤ c := by
  obtain ⟨A, len, cap, rfl⟩ := okWide_slice hsa hval
  obtain ⟨fuel, hf⟩ := h
  obtain ⟨A', c', vs, q1, q2, q3, q4⟩ := open_listc (α := A12) 12 (fun v => (a12F v).toArray) (A12Ok w) ⟨0, ⟨⟨0, 0, [], ⟨#[]⟩⟩, none, 0⟩, 0, 0, 0, ⟨0, 0, 0⟩, none, 0, []⟩ (fun x => (by decide : 0 < 12)) hsa hCa (fun n b cs D Pl hc ht => by
    obtain ⟨v, hv2, rfl⟩ := trod_act12 ha hoff hCa y0 y1 y2 y3 y4 y5 y6 hCs he hone hC h0 h1 h2 h3 hs hv hov hCv k0 k1 k2 ht hsp
    obtain ⟨_, hlen, hcell⟩ := World.cells?_some hc
    refine ⟨v, hv2, fun j u hu => ?_⟩
    rw [List.getElem?_toArray] at hu
    have hj := (List.getElem?_eq_some_iff.1 hu).1
    rw [hcell j (by rw [hCa]; exact hj)]
    exact hu) (by simpa [Value.cells] using hf) hsp
  refine ⟨A', c', vs, q1, ⟨q3, fun hn => ?_⟩, q2⟩
  obtain ⟨ad, p1, p2, p3⟩ := q4 hn
  exact ⟨ad, p1, p2, fun i v hi j u hu => p3 i v hi j u (by rw [List.getElem?_toArray]; exact hu)⟩
/-- Bytes in a cell; numbers in a cell. -/
theorem open_cellB {s e : TypeId} {fuel : Nat} {c0 : Value} {x : DataW H × List MemPlace} (hs : P.underlying s = some (.slice e)) (he : P.underlying e = some (.int .u8)) (hC : P.cellsOf e = 1) (hf : DataW.trod enc P w base spare held fuel s [c0] = some x) (hsp : ∀ b, spare b = true) :
    ∃ (A : Option Addr) (c : Nat) (l : List Nat), c0 = .slice A l.length c ∧ BytesAt w w.heap.size A l ∧ l.length ≤ c := by
  obtain ⟨A, c, vs, q1, q2, q3, q4⟩ := open_listc (α := Nat) 1 (fun x => #[.int .u8 ((x : Nat) : Int)]) (fun x => x < 256) 0 (fun x => (by decide : 0 < 1)) hs hC (fun n b cs D Pl hc ht => by
    obtain ⟨x0, e0, _, w0⟩ := DataW.trod_int he ht
    have b0 := u8_bounds w0
    obtain ⟨k, rfl⟩ : ∃ k : Nat, x0 = (k : Int) := ⟨x0.toNat, by omega⟩
    subst e0
    obtain ⟨_, hlen, hcell⟩ := World.cells?_some hc
    refine ⟨k, by omega, fun j u hu => ?_⟩
    rw [List.getElem?_toArray] at hu
    have hj := (List.getElem?_eq_some_iff.1 hu).1
    rw [hcell j (by rw [hC]; exact hj)]
    exact hu) hf hsp
  refine ⟨A, c, vs, q1, ⟨q3, fun hn => ?_⟩, q2⟩
  obtain ⟨ad, p1, p2, p3⟩ := q4 hn
  refine ⟨ad, p1, p2, fun j hj => ?_⟩
  have h := p3 j _ (List.getElem?_eq_getElem hj) 0 _ rfl
  rw [Nat.mul_one, Nat.add_zero] at h
  rw [h, List.getD_eq_getElem?_getD, List.getElem?_eq_getElem hj]
  rfl
theorem open_cellI {s e : TypeId} {fuel : Nat} {c0 : Value} {x : DataW H × List MemPlace} (hs : P.underlying s = some (.slice e)) (he : P.underlying e = some (.int .i64)) (hC : P.cellsOf e = 1) (hf : DataW.trod enc P w base spare held fuel s [c0] = some x) (hsp : ∀ b, spare b = true) :
    ∃ (A : Option Addr) (c : Nat) (l : List Int), c0 = .slice A l.length c ∧ IntsAt w A l ∧ l.length ≤ c ∧ ∀ x ∈ l, N64 x := by
  obtain ⟨A, c, vs, q1, q2, q3, q4⟩ := open_listc (α := Int) 1 (fun x => (intF x).toArray) N64 0 (fun x => (by decide : 0 < 1)) hs hC (fun n b cs D Pl hc ht => by
    obtain ⟨x0, e0, _, w0⟩ := DataW.trod_int he ht
    subst e0
    obtain ⟨_, hlen, hcell⟩ := World.cells?_some hc
    refine ⟨x0, i64_bounds w0, fun j u hu => ?_⟩
    rw [List.getElem?_toArray] at hu
    have hj := (List.getElem?_eq_some_iff.1 hu).1
    rw [hcell j (by rw [hC]; exact hj)]
    exact hu) hf hsp
  refine ⟨A, c, vs, q1, fun hn => ?_, q2, q3⟩
  obtain ⟨ad, p1, p2, p3⟩ := q4 hn
  exact ⟨ad, p1, p2, fun i v hi j u hu => p3 i v hi j u (by rw [List.getElem?_toArray]; exact hu)⟩
theorem open_ints12 {s e : TypeId} {r : Reach} {b0 : Nat} {v : Value} {d : DataW H} {ps : List MemPlace} (hs : P.underlying s = some (.slice e)) (he : P.underlying e = some (.int .i64)) (hC : P.cellsOf e = 1) (hval : Value.okWide P w r b0 s v) (h : DataW.Trod enc P w base spare held s v d ps) (hsp : ∀ b, spare b = true) :
    ∃ (A : Option Addr) (c : Nat) (l : List Int), v = .slice A l.length c ∧ IntsAt w A l ∧ l.length ≤ c ∧ ∀ x ∈ l, N64 x := by
  obtain ⟨A, len, cap, rfl⟩ := okWide_slice hs hval
  obtain ⟨fuel, hf⟩ := h
  exact open_cellI hs he hC (by simpa [Value.cells] using hf) hsp
/-- A setup that came in. -/
theorem open_setup {a eb ei : TypeId} {u0 u1 u2 : Field} {r : Reach} {b0 : Nat} {v : Value} {d : DataW H} {ps : List MemPlace} (ha : P.underlying a = some (.struct #[u0, u1, u2])) (hoff : (#[u0, u1, u2] : Array Field).map (fun f => (f.offset, P.cellsOf f.type)) = #[(0, 1), (1, 1), (2, 1)]) (hCa : P.cellsOf a = 3)
    (y0 : P.underlying u0.type = some (.slice eb)) (y1 : P.underlying u1.type = some (.int .i64)) (y2 : P.underlying u2.type = some (.slice ei)) (hb : P.underlying eb = some (.int .u8)) (hCb : P.cellsOf eb = 1) (hi : P.underlying ei = some (.int .i64)) (hCi : P.cellsOf ei = 1)
    (hval : Value.okWide P w r b0 a v) (h : DataW.Trod enc P w base spare held a v d ps) (hsp : ∀ b, spare b = true) :
    ∃ (U : Option Addr) (cu : Nat) (up : List Nat) (room : Int) (Q : Option Addr) (cq : Nat) (quota : List Int), v = .agg #[.slice U up.length cu, .int .i64 room, .slice Q quota.length cq] ∧ BytesAt w w.heap.size U up ∧ N64 room ∧ IntsAt w Q quota ∧ ∀ x ∈ quota, N64 x := by
  obtain ⟨cs, rfl, _⟩ := okWide_struct ha hval
  obtain ⟨fuel, hf⟩ := h
  have hf' : DataW.trod enc P w base spare held fuel a cs.toList = some (d, ps) := by simpa [Value.cells] using hf
  obtain ⟨hlen, m, hp⟩ := struct_parts ha hoff hf'
  rw [hCa] at hlen
  obtain ⟨q0, t0⟩ := hp 0 u0 0 1 rfl rfl
  obtain ⟨q1, t1⟩ := hp 1 u1 1 1 rfl rfl
  obtain ⟨q2, t2⟩ := hp 2 u2 2 1 rfl rfl
  clear hp hf hf' hval
  obtain ⟨xs, rfl⟩ : ∃ xs : List Value, cs = xs.toArray := ⟨cs.toList, by simp⟩
  match xs, hlen with
  | [c0, c1, c2], _ =>
    simp only [List.drop_zero, List.drop_succ_cons, List.take_succ_cons, List.take_zero] at t0 t1 t2
    obtain ⟨U, cu, up, rfl, hU, _⟩ := open_cellB y0 hb hCb t0 hsp
    obtain ⟨x1, e1, _, w1⟩ := DataW.trod_int y1 t1
    obtain ⟨Q, cq, quota, rfl, hQ, _, hN⟩ := open_cellI y2 hi hCi t2 hsp
    simp only [List.cons.injEq, and_true] at e1
    subst e1
    exact ⟨U, cu, up, x1, Q, cq, quota, rfl, hU, i64_bounds w1, hQ, hN⟩
/-- Items that came in. -/
theorem trod_item {a e s ev : TypeId} {u0 u1 u2 g0 g1 g2 g3 f0 f1 f2 : Field} {n : Nat} {cs : List Value} {D : DataW H} {Pl : List MemPlace} (ha : P.underlying a = some (.struct #[u0, u1, u2])) (hoff : (#[u0, u1, u2] : Array Field).map (fun f => (f.offset, P.cellsOf f.type)) = #[(0, 1), (1, 1), (2, 4)]) (hCa : P.cellsOf a = 6)
    (y0 : P.underlying u0.type = some (.int .i64)) (y1 : P.underlying u1.type = some (.int .i64)) (y2 : u2.type = e)
    (he : P.underlying e = some (.struct #[g0, g1, g2, g3])) (hone : oneCellFields P #[g0, g1, g2, g3] = true) (hC : P.cellsOf e = 4)
    (h0 : P.underlying g0.type = some (.int .i64)) (h1 : P.underlying g1.type = some (.int .i64)) (h2 : g2.type = s) (h3 : P.underlying g3.type = some .string)
    (hs : P.underlying s = some (.slice ev)) (hv : P.underlying ev = some (.struct #[f0, f1, f2])) (hov : oneCellFields P #[f0, f1, f2] = true) (hCv : P.cellsOf ev = 3) (k0 : P.underlying f0.type = some (.int .u8)) (k1 : P.underlying f1.type = some (.int .i64)) (k2 : P.underlying f2.type = some (.int .i64))
    (ht : DataW.trod enc P w base spare held n a cs = some (D, Pl)) (hsp : ∀ b, spare b = true) : ∃ v : IV, (OvOk w ⟨v.o, v.A, v.c⟩ ∧ N64 v.i ∧ N64 v.h) ∧ cs = ivF v := by
  obtain ⟨hlen, m, hp⟩ := struct_parts ha hoff ht
  rw [hCa] at hlen
  obtain ⟨q0, t0⟩ := hp 0 u0 0 1 rfl rfl
  obtain ⟨q1, t1⟩ := hp 1 u1 1 1 rfl rfl
  obtain ⟨q2, t2⟩ := hp 2 u2 2 4 rfl rfl
  clear hp ht
  rw [y2] at t2
  obtain ⟨x0, e0, _, w0⟩ := DataW.trod_int y0 t0
  obtain ⟨x1, e1, _, w1⟩ := DataW.trod_int y1 t1
  obtain ⟨o, ho, e2⟩ := trod_obj he hone hC h0 h1 h2 h3 hs hv hov hCv k0 k1 k2 (D := q2.1) (Pl := q2.2) t2 hsp
  refine ⟨⟨x0, x1, o.o, o.A, o.c⟩, ⟨ho, i64_bounds w0, i64_bounds w1⟩, ?_⟩
  match cs, hlen with
  | [c0, c1, c2, c3, c4, c5], _ =>
    simp only [List.drop_zero, List.drop_succ_cons, List.take_succ_cons, List.take_zero, List.cons.injEq, and_true, ovF] at e0 e1 e2
    obtain ⟨e20, e21, e22, e23⟩ := e2
    subst e0 e1 e20 e21 e22 e23
    rfl
theorem open_items {sa a e s ev : TypeId} {u0 u1 u2 g0 g1 g2 g3 f0 f1 f2 : Field} {r : Reach} {b0 : Nat} {v : Value} {d : DataW H} {ps : List MemPlace} (hsa : P.underlying sa = some (.slice a)) (ha : P.underlying a = some (.struct #[u0, u1, u2])) (hoff : (#[u0, u1, u2] : Array Field).map (fun f => (f.offset, P.cellsOf f.type)) = #[(0, 1), (1, 1), (2, 4)]) (hCa : P.cellsOf a = 6)
    (y0 : P.underlying u0.type = some (.int .i64)) (y1 : P.underlying u1.type = some (.int .i64)) (y2 : u2.type = e)
    (he : P.underlying e = some (.struct #[g0, g1, g2, g3])) (hone : oneCellFields P #[g0, g1, g2, g3] = true) (hC : P.cellsOf e = 4)
    (h0 : P.underlying g0.type = some (.int .i64)) (h1 : P.underlying g1.type = some (.int .i64)) (h2 : g2.type = s) (h3 : P.underlying g3.type = some .string)
    (hs : P.underlying s = some (.slice ev)) (hv : P.underlying ev = some (.struct #[f0, f1, f2])) (hov : oneCellFields P #[f0, f1, f2] = true) (hCv : P.cellsOf ev = 3) (k0 : P.underlying f0.type = some (.int .u8)) (k1 : P.underlying f1.type = some (.int .i64)) (k2 : P.underlying f2.type = some (.int .i64))
    (hval : Value.okWide P w r b0 sa v) (h : DataW.Trod enc P w base spare held sa v d ps) (hsp : ∀ b, spare b = true) :
    ∃ (A : Option Addr) (c : Nat) (l : List IV), v = .slice A l.length c ∧ ItemsAt w A l ∧ l.length ≤ c := by
  obtain ⟨A, len, cap, rfl⟩ := okWide_slice hsa hval
  obtain ⟨fuel, hf⟩ := h
  obtain ⟨A', c', vs, q1, q2, q3, q4⟩ := open_listc (α := IV) 6 (fun v => (ivF v).toArray) (fun v => OvOk w ⟨v.o, v.A, v.c⟩ ∧ N64 v.i ∧ N64 v.h) ⟨0, 0, ⟨0, 0, [], ⟨#[]⟩⟩, none, 0⟩ (fun x => (by decide : 0 < 6)) hsa hCa (fun n b cs D Pl hc ht => by
    obtain ⟨v, hv2, rfl⟩ := trod_item ha hoff hCa y0 y1 y2 he hone hC h0 h1 h2 h3 hs hv hov hCv k0 k1 k2 ht hsp
    obtain ⟨_, hlen, hcell⟩ := World.cells?_some hc
    refine ⟨v, hv2, fun j u hu => ?_⟩
    rw [List.getElem?_toArray] at hu
    have hj := (List.getElem?_eq_some_iff.1 hu).1
    rw [hcell j (by rw [hCa]; exact hj)]
    exact hu) (by simpa [Value.cells] using hf) hsp
  refine ⟨A', c', vs, q1, ⟨q3, fun hn => ?_⟩, q2⟩
  obtain ⟨ad, p1, p2, p3⟩ := q4 hn
  exact ⟨ad, p1, p2, fun i v hi j u hu => p3 i v hi j u (by rw [List.getElem?_toArray]; exact hu)⟩
end
end Go.Proofs.YtidnaednldcdfaaGreatDoor
