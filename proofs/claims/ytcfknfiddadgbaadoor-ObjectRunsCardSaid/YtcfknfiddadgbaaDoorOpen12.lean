/- Arguments opened: acts. -/
import Derived.Test.YtcfknfiddadgbaaDoorOpen11
import Derived.Test.YtcfknfiddadgbaaDoorOcL
namespace Go.Proofs.YtcfknfiddadgbaaDoor
open Go.ChangeShapes Go.WideShapes Go.ChangeAt Go.RowKit Go.Deep
section
variable {H : Type} {enc : TypeId × Value → H} {P : Program} {w : World} {base : Nat} {spare : Nat → Bool} {held : Bool}
/-- An act that came in. -/
theorem trod_act {a e s ev : TypeId} {u0 u1 u2 u3 u4 u5 g0 g1 g2 g3 f0 f1 f2 : Field} {n : Nat} {cs : List Value} {D : DataW H} {Pl : List MemPlace} (ha : P.underlying a = some (.struct #[u0, u1, u2, u3, u4, u5])) (hoff : (#[u0, u1, u2, u3, u4, u5] : Array Field).map (fun f => (f.offset, P.cellsOf f.type)) = #[(0, 1), (1, 4), (5, 1), (6, 1), (7, 1), (8, 3)]) (hCa : P.cellsOf a = 11)
    (y0 : P.underlying u0.type = some .bool) (y1 : u1.type = e) (y2 : P.underlying u2.type = some (.int .i64)) (y3 : P.underlying u3.type = some (.int .i64)) (y4 : P.underlying u4.type = some (.int .i64)) (y5 : u5.type = ev)
    (he : P.underlying e = some (.struct #[g0, g1, g2, g3])) (hone : oneCellFields P #[g0, g1, g2, g3] = true) (hC : P.cellsOf e = 4)
    (h0 : P.underlying g0.type = some (.int .i64)) (h1 : P.underlying g1.type = some (.int .i64)) (h2 : g2.type = s) (h3 : P.underlying g3.type = some .string)
    (hs : P.underlying s = some (.slice ev)) (hv : P.underlying ev = some (.struct #[f0, f1, f2])) (hov : oneCellFields P #[f0, f1, f2] = true) (hCv : P.cellsOf ev = 3) (k0 : P.underlying f0.type = some (.int .u8)) (k1 : P.underlying f1.type = some (.int .i64)) (k2 : P.underlying f2.type = some (.int .i64))
    (ht : DataW.trod enc P w base spare held n a cs = some (D, Pl)) (hsp : ∀ b, spare b = true) : ∃ v : AV, AvOk w v ∧ cs = avF v := by
  obtain ⟨xs, m, _, _, hlen, hxl, hx⟩ := DataW.trod_struct ha ht
  rw [hCa] at hlen
  have hxl6 : xs.length = 6 := hxl
  have hoffs : ∀ i : Nat, ((#[u0, u1, u2, u3, u4, u5] : Array Field).map (fun f => (f.offset, P.cellsOf f.type)))[i]? = (#[(0, 1), (1, 4), (5, 1), (6, 1), (7, 1), (8, 3)] : Array (Nat × Nat))[i]? := fun i => by rw [hoff]
  have hp : ∀ (i : Nat) (f : Field) (o k : Nat), (#[u0, u1, u2, u3, u4, u5] : Array Field)[i]? = some f → (#[(0, 1), (1, 4), (5, 1), (6, 1), (7, 1), (8, 3)] : Array (Nat × Nat))[i]? = some (o, k) → ∃ y, DataW.trod enc P w base spare held m f.type ((cs.drop o).take k) = some y := by
    intro i f o k h1 h2
    have h3 := hoffs i
    rw [Array.getElem?_map, h1, h2] at h3
    have h4 : (f.offset, P.cellsOf f.type) = (o, k) := Option.some.inj h3
    have h5 : f.offset = o := congrArg Prod.fst h4
    have h6 : P.cellsOf f.type = k := congrArg Prod.snd h4
    have h7 := hx i f h1
    rw [h5, h6] at h7
    have hi : i < xs.length := by
      have := (Array.getElem?_eq_some_iff.1 h1).1
      rw [hxl6]; exact this
    rw [List.getElem?_eq_getElem hi] at h7
    exact ⟨_, h7⟩
  obtain ⟨q0, t0⟩ := hp 0 u0 0 1 rfl rfl
  obtain ⟨q1, t1⟩ := hp 1 u1 1 4 rfl rfl
  obtain ⟨q2, t2⟩ := hp 2 u2 5 1 rfl rfl
  obtain ⟨q3, t3⟩ := hp 3 u3 6 1 rfl rfl
  obtain ⟨q4, t4⟩ := hp 4 u4 7 1 rfl rfl
  obtain ⟨q5, t5⟩ := hp 5 u5 8 3 rfl rfl
  clear hp hoffs hx ht hxl
  rw [y1] at t1
  rw [y5] at t5
  obtain ⟨x0, e0, _⟩ := DataW.trod_bool y0 t0
  obtain ⟨o, ho, e1⟩ := trod_obj he hone hC h0 h1 h2 h3 hs hv hov hCv k0 k1 k2 (D := q1.1) (Pl := q1.2) t1 hsp
  obtain ⟨x2, e2, _, w2⟩ := DataW.trod_int y2 t2
  obtain ⟨x3, e3, _, w3⟩ := DataW.trod_int y3 t3
  obtain ⟨x4, e4, _, w4⟩ := DataW.trod_int y4 t4
  obtain ⟨v, hv2, e5⟩ := trod_val hv hov hCv k0 k1 k2 (D := q5.1) (Pl := q5.2) t5
  refine ⟨⟨x0, o, x2, x3, x4, v⟩, ⟨ho, i64_bounds w2, i64_bounds w3, i64_bounds w4, hv2⟩, ?_⟩
  match cs, hlen with
  | [c0, c1, c2, c3, c4, c5, c6, c7, c8, c9, c10], _ =>
    simp only [List.drop_zero, List.drop_succ_cons, List.take_succ_cons, List.take_zero, List.cons.injEq, and_true, valF, ovF] at e0 e1 e2 e3 e4 e5
    obtain ⟨e10, e11, e12, e13⟩ := e1
    obtain ⟨e50, e51, e52⟩ := e5
    subst e0 e10 e11 e12 e13 e2 e3 e4 e50 e51 e52
    rfl
theorem open_act {a e s ev : TypeId} {u0 u1 u2 u3 u4 u5 g0 g1 g2 g3 f0 f1 f2 : Field} {r : Reach} {b0 : Nat} {v : Value} {d : DataW H} {ps : List MemPlace} (ha : P.underlying a = some (.struct #[u0, u1, u2, u3, u4, u5])) (hoff : (#[u0, u1, u2, u3, u4, u5] : Array Field).map (fun f => (f.offset, P.cellsOf f.type)) = #[(0, 1), (1, 4), (5, 1), (6, 1), (7, 1), (8, 3)]) (hCa : P.cellsOf a = 11)
    (y0 : P.underlying u0.type = some .bool) (y1 : u1.type = e) (y2 : P.underlying u2.type = some (.int .i64)) (y3 : P.underlying u3.type = some (.int .i64)) (y4 : P.underlying u4.type = some (.int .i64)) (y5 : u5.type = ev)
    (he : P.underlying e = some (.struct #[g0, g1, g2, g3])) (hone : oneCellFields P #[g0, g1, g2, g3] = true) (hC : P.cellsOf e = 4)
    (h0 : P.underlying g0.type = some (.int .i64)) (h1 : P.underlying g1.type = some (.int .i64)) (h2 : g2.type = s) (h3 : P.underlying g3.type = some .string)
    (hs : P.underlying s = some (.slice ev)) (hv : P.underlying ev = some (.struct #[f0, f1, f2])) (hov : oneCellFields P #[f0, f1, f2] = true) (hCv : P.cellsOf ev = 3) (k0 : P.underlying f0.type = some (.int .u8)) (k1 : P.underlying f1.type = some (.int .i64)) (k2 : P.underlying f2.type = some (.int .i64))
    (hval : Value.okWide P w r b0 a v) (h : DataW.Trod enc P w base spare held a v d ps) (hsp : ∀ b, spare b = true) :
    ∃ x : AV, v = .agg #[.bool x.put, .int .i64 x.o.o.cls, .int .i64 x.o.o.lev, .slice x.o.A x.o.o.f.length x.o.c, .string x.o.o.b, .int .i64 x.i, .int .i64 x.k, .int .i64 x.u, .int .u8 ((x.v.k : Nat) : Int), .int .i64 x.v.n, .int .i64 x.v.l] ∧ AvOk w x := by
  obtain ⟨cs, rfl, _⟩ := okWide_struct ha hval
  obtain ⟨fuel, hf⟩ := h
  have hf' : DataW.trod enc P w base spare held fuel a cs.toList = some (d, ps) := by simpa [Value.cells] using hf
  obtain ⟨x, hx, e⟩ := trod_act ha hoff hCa y0 y1 y2 y3 y4 y5 he hone hC h0 h1 h2 h3 hs hv hov hCv k0 k1 k2 hf' hsp
  refine ⟨x, ?_, hx⟩
  congr 1
  apply Array.toList_inj.1
  rw [e]
  rfl
theorem open_acts {sa : TypeId} {a e s ev : TypeId} {u0 u1 u2 u3 u4 u5 g0 g1 g2 g3 f0 f1 f2 : Field} {r : Reach} {b0 : Nat} {v : Value} {d : DataW H} {ps : List MemPlace} (hsa : P.underlying sa = some (.slice a)) (ha : P.underlying a = some (.struct #[u0, u1, u2, u3, u4, u5])) (hoff : (#[u0, u1, u2, u3, u4, u5] : Array Field).map (fun f => (f.offset, P.cellsOf f.type)) = #[(0, 1), (1, 4), (5, 1), (6, 1), (7, 1), (8, 3)]) (hCa : P.cellsOf a = 11)
    (y0 : P.underlying u0.type = some .bool) (y1 : u1.type = e) (y2 : P.underlying u2.type = some (.int .i64)) (y3 : P.underlying u3.type = some (.int .i64)) (y4 : P.underlying u4.type = some (.int .i64)) (y5 : u5.type = ev)
    (he : P.underlying e = some (.struct #[g0, g1, g2, g3])) (hone : oneCellFields P #[g0, g1, g2, g3] = true) (hC : P.cellsOf e = 4)
    (h0 : P.underlying g0.type = some (.int .i64)) (h1 : P.underlying g1.type = some (.int .i64)) (h2 : g2.type = s) (h3 : P.underlying g3.type = some .string)
    (hs : P.underlying s = some (.slice ev)) (hv : P.underlying ev = some (.struct #[f0, f1, f2])) (hov : oneCellFields P #[f0, f1, f2] = true) (hCv : P.cellsOf ev = 3) (k0 : P.underlying f0.type = some (.int .u8)) (k1 : P.underlying f1.type = some (.int .i64)) (k2 : P.underlying f2.type = some (.int .i64))
    (hval : Value.okWide P w r b0 sa v) (h : DataW.Trod enc P w base spare held sa v d ps) (hsp : ∀ b, spare b = true) :
    ∃ (A : Option Addr) (c : Nat) (l : List AV), v = .slice A l.length c ∧ ActsAt w A l ∧ l.length ≤ c := by
  obtain ⟨A, len, cap, rfl⟩ := okWide_slice hsa hval
  obtain ⟨fuel, hf⟩ := h
  obtain ⟨A', c', vs, q1, q2, q3, q4⟩ := open_listc (α := AV) 11 (fun v => (avF v).toArray) (AvOk w) ⟨false, ⟨⟨0, 0, [], ⟨#[]⟩⟩, none, 0⟩, 0, 0, 0, ⟨0, 0, 0⟩⟩ (fun x => (by decide : 0 < 11)) hsa hCa (fun n b cs D Pl hc ht => by
    obtain ⟨v, hv2, rfl⟩ := trod_act ha hoff hCa y0 y1 y2 y3 y4 y5 he hone hC h0 h1 h2 h3 hs hv hov hCv k0 k1 k2 ht hsp
    obtain ⟨_, hlen, hcell⟩ := World.cells?_some hc
    refine ⟨v, hv2, fun j u hu => ?_⟩
    rw [List.getElem?_toArray] at hu
    have hj := (List.getElem?_eq_some_iff.1 hu).1
    rw [hcell j (by rw [hCa]; exact hj)]
    exact hu) (by simpa [Value.cells] using hf) hsp
  refine ⟨A', c', vs, q1, ⟨q3, fun hn => ?_⟩, q2⟩
  obtain ⟨ad, p1, p2, p3⟩ := q4 hn
  exact ⟨ad, p1, p2, fun i v hi j u hu => p3 i v hi j u (by rw [List.getElem?_toArray]; exact hu)⟩
end
end Go.Proofs.YtcfknfiddadgbaaDoor
