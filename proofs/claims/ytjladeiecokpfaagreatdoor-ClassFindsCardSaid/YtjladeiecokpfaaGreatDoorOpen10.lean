/- Arguments opened: classes, methods in a slice, what is asked of them. -/
import Derived.Test.YtjladeiecokpfaaGreatDoorZF9
import Derived.Test.YtjladeiecokpfaaGreatDoorCsV
namespace Go.Proofs.YtjladeiecokpfaaGreatDoor
open Go.ChangeShapes Go.WideShapes Go.ChangeAt Go.RowKit Go.Deep
section
variable {H : Type} {enc : TypeId × Value → H} {P : Program} {w : World} {base : Nat} {spare : Nat → Bool} {held : Bool}
/-- A slice of structs that came in, with its capacity. -/
theorem open_listc {α : Type} (k : Nat) (cells : α → Array Value) (Ok : α → Prop) (z : α) (hz : ∀ x, 0 < (cells x).size) {t e : TypeId} {fuel : Nat} {c0 : Value} {y : DataW H × List MemPlace} (ht : P.underlying t = some (.slice e)) (hC : P.cellsOf e = k)
    (el : ∀ n b cs D Pl, w.cells? base b (P.cellsOf e) = some cs → DataW.trod enc P w base spare held n e cs = some (D, Pl) → ∃ v : α, Ok v ∧ ∀ j u, (cells v)[j]? = some u → w.cell? (b.add j) = some u)
    (hf : DataW.trod enc P w base spare held fuel t [c0] = some y) (hsp : ∀ b, spare b = true) :
    ∃ (A : Option Addr) (c : Nat) (vs : List α), c0 = .slice A vs.length c ∧ vs.length ≤ c ∧ (∀ v ∈ vs, Ok v) ∧ (0 < vs.length → ∃ ad, A = some ad ∧ ad.block < w.heap.size ∧ ∀ i v, vs[i]? = some v → ∀ j u, (cells v)[j]? = some u → w.cell? (ad.add (i * k + j)) = some u) := by
  rcases open_slice ht hf with ⟨hcs, _⟩ | ⟨a, len, cap, m, n, D, Pl, hcs, _, hl, hmx, hm, _, hi⟩
  · simp only [List.cons.injEq, and_true] at hcs
    exact ⟨none, 0, [], hcs, by simp, (by simp), fun h => absurd h (by simp)⟩
  · simp only [List.cons.injEq, and_true] at hcs
    rw [hsp, if_pos rfl] at hm
    have hex : ∀ i, ∃ v : α, i < len → Ok v ∧ ∀ j u, (cells v)[j]? = some u → w.cell? ((a.add (i * k)).add j) = some u := by
      intro i
      by_cases hil : i < len
      · obtain ⟨cs, hc, hct⟩ := hi i (by omega)
        rw [hC] at hc
        obtain ⟨v, k1, k2⟩ := el _ _ _ _ _ (by rw [hC]; exact hc) hct
        exact ⟨v, fun _ => ⟨k1, k2⟩⟩
      · exact ⟨z, fun h => absurd h hil⟩
    obtain ⟨V, hV⟩ := Classical.axiomOfChoice hex
    refine ⟨some a, cap, (List.range len).map V, by simpa using hcs, by simp; omega, fun v hv => ?_, fun hn => ⟨a, rfl, ?_, fun i v hv j u hu => ?_⟩⟩
    · obtain ⟨i, hi2, rfl⟩ := List.mem_map.1 hv
      exact (hV i (List.mem_range.1 hi2)).1
    · have hpos : 0 < len := by simpa using hn
      have := World.block_lt_of_cell? w _ ((hV 0 hpos).2 0 _ (Array.getElem?_eq_getElem (hz _)))
      rwa [block_add, block_add] at this
    · obtain ⟨hil, rfl⟩ : i < len ∧ V i = v := by
        rw [List.getElem?_map] at hv
        obtain ⟨k, hk, rfl⟩ := Option.map_eq_some_iff.1 hv
        obtain ⟨h1, h2⟩ := List.getElem?_eq_some_iff.1 hk
        simp at h1 h2
        subst h2
        exact ⟨h1, rfl⟩
      rw [← add_add]
      exact (hV i hil).2 j u hu
/-- A slice of texts in a cell. -/
theorem open_cellS {s e : TypeId} {fuel : Nat} {c0 : Value} {x : DataW H × List MemPlace} (hs : P.underlying s = some (.slice e)) (he : P.underlying e = some .string) (hc : P.cellsOf e = 1) (hf : DataW.trod enc P w base spare held fuel s [c0] = some x) (hsp : ∀ b, spare b = true) :
    ∃ (A : Option Addr) (c : Nat) (l : List ByteArray), c0 = .slice A l.length c ∧ StrsAt w w.heap.size A l ∧ l.length ≤ c := by
  obtain ⟨A, c, vs, h1, h2, _, h4⟩ := open_listc (α := ByteArray) 1 (fun s => #[.string s]) (fun _ => True) ⟨#[]⟩ (fun x => (by decide : 0 < 1)) hs hc (fun n b cs D Pl hcs ht => by
    obtain ⟨_, hlen, hcell⟩ := World.cells?_some hcs
    obtain ⟨x0, e0, _, _⟩ := DataW.trod_string he ht
    refine ⟨x0, trivial, fun j u hu => ?_⟩
    rcases j with _ | j
    · have e : Value.string x0 = u := by simpa using hu
      rw [hcell 0 (by rw [hc]; decide), e0, ← e]; rfl
    · simp at hu) hf hsp
  refine ⟨A, c, vs, h1, fun hn => ?_, h2⟩
  obtain ⟨ad, k1, k2, k3⟩ := h4 hn
  exact ⟨ad, k1, k2, fun i s hi => by have := k3 i s hi 0 (.string s) rfl; simpa using this⟩
/-- A slice of ints in a cell. -/
theorem open_cellI {s e : TypeId} {fuel : Nat} {c0 : Value} {x : DataW H × List MemPlace} (hs : P.underlying s = some (.slice e)) (he : P.underlying e = some (.int .i64)) (hc : P.cellsOf e = 1) (hf : DataW.trod enc P w base spare held fuel s [c0] = some x) (hsp : ∀ b, spare b = true) :
    ∃ (A : Option Addr) (c : Nat) (l : List Int), c0 = .slice A l.length c ∧ IntsAt w w.heap.size A l ∧ l.length ≤ c := by
  rcases open_ints hs he hc hf with ⟨hcs, _⟩ | ⟨a, len, cap, zs, hcs, _, hl, hmx, hz, hx, hcell, hwz⟩
  · simp only [List.cons.injEq, and_true] at hcs
    exact ⟨none, 0, [], hcs, ⟨by simp, fun h => absurd h (by simp)⟩, by simp⟩
  · simp only [List.cons.injEq, and_true] at hcs
    rw [hsp, if_pos rfl] at hz
    have hlen : (zs.take len).length = len := by simp [hz]; omega
    have hget : ∀ j, j < len → (zs.take len).getD j 0 = zs.getD j 0 := by
      intro j hj
      have h1 : j < zs.length := by omega
      simp [List.getD_eq_getElem?_getD, hj]
    refine ⟨some a, cap, zs.take len, by rw [hlen]; exact hcs, ⟨?_, fun hpos => ⟨a, rfl, ?_, ?_⟩⟩, by omega⟩
    · intro y hy
      exact i64_bounds (hwz y (List.mem_of_mem_take hy))
    · rw [hlen] at hpos
      have := World.block_lt_of_cell? w _ (hcell 0 (by omega))
      rwa [block_add] at this
    · intro j hj
      rw [hlen] at hj
      rw [hcell j (by omega), hget j hj]
/-- A class that came in. -/
theorem open_cls10 {e s1 e1 s2 e2 : TypeId} {f0 f1 f2 f3 : Field} {n : Nat} {b : Addr} {cs : List Value} {D : DataW H} {Pl : List MemPlace} (he : P.underlying e = some (.struct #[f0, f1, f2, f3])) (hone : oneCellFields P #[f0, f1, f2, f3] = true) (hC : P.cellsOf e = 4)
    (h0 : P.underlying f0.type = some .string) (h1 : P.underlying f1.type = some (.int .i64)) (hf2 : f2.type = s1) (hf3 : f3.type = s2) (h2 : P.underlying s1 = some (.slice e1)) (k2 : P.underlying e1 = some .string) (l2 : P.cellsOf e1 = 1) (h3 : P.underlying s2 = some (.slice e2)) (k3 : P.underlying e2 = some (.int .i64)) (l3 : P.cellsOf e2 = 1)
    (hc : w.cells? base b (P.cellsOf e) = some cs) (ht : DataW.trod enc P w base spare held n e cs = some (D, Pl)) (hsp : ∀ b, spare b = true) :
    ∃ v : CV, CvOk w v ∧ ∀ j u, (cvCells v)[j]? = some u → w.cell? (b.add j) = some u := by
  obtain ⟨_, hlen, hcell⟩ := World.cells?_some hc
  have hs : P.cellsOf e = (#[f0, f1, f2, f3] : Array Field).size := hC
  obtain ⟨v0, m0, y0, c0, t0⟩ := row_cell he hone hs ht 0 f0 rfl
  obtain ⟨v1, m1, y1, c1, t1⟩ := row_cell he hone hs ht 1 f1 rfl
  obtain ⟨v2, m2, y2, c2, t2⟩ := row_cell he hone hs ht 2 f2 rfl
  obtain ⟨v3, m3, y3, c3, t3⟩ := row_cell he hone hs ht 3 f3 rfl
  rw [hf2] at t2
  rw [hf3] at t3
  obtain ⟨x0, e0, _, _⟩ := DataW.trod_string h0 t0
  obtain ⟨x1, e1, _, w1⟩ := DataW.trod_int h1 t1
  obtain ⟨A1, k1, ss, e2, a2, b2⟩ := open_cellS h2 k2 l2 t2 hsp
  obtain ⟨A2, k2, is, e3, a3, b3⟩ := open_cellI h3 k3 l3 t3 hsp
  simp only [List.cons.injEq, and_true] at e0 e1
  subst e0 e1 e2 e3
  refine ⟨⟨⟨x0, x1, ss, is⟩, A1, k1, A2, k2⟩, ⟨a2, a3, i64_bounds w1, b2, b3⟩, fun j u hu => ?_⟩
  unfold cvCells at hu
  rcases j with _ | _ | _ | _ | j
  · have e : Value.string x0 = u := by simpa using hu
    rw [← e, hcell 0 (by omega)]; exact c0
  · have e : Value.int .i64 x1 = u := by simpa using hu
    rw [← e, hcell 1 (by omega)]; exact c1
  · have e : Value.slice A1 ss.length k1 = u := by simpa using hu
    rw [← e, hcell 2 (by omega)]; exact c2
  · have e : Value.slice A2 is.length k2 = u := by simpa using hu
    rw [← e, hcell 3 (by omega)]; exact c3
  · simp at hu
/-- A method that came in, in a slice. -/
theorem open_methc {t tl tp el ep e8 : TypeId} {f0 f1 f2 g0 g1 h0 h1 h2 h3 : Field} {n : Nat} {b : Addr} {cs : List Value} {D : DataW H} {Pl : List MemPlace}
    (ht : P.underlying t = some (.struct #[f0, f1, f2])) (hone : oneCellFields P #[f0, f1, f2] = true) (hC : P.cellsOf t = 3) (hf0 : P.underlying f0.type = some .string) (hf1 : f1.type = tl) (hf2 : f2.type = tp)
    (hl : P.underlying tl = some (.slice el)) (hel : P.underlying el = some (.struct #[g0, g1])) (hol : oneCellFields P #[g0, g1] = true) (hCl : P.cellsOf el = 2) (hg0 : P.underlying g0.type = some (.int .u8)) (hg1 : P.underlying g1.type = some .string)
    (hp : P.underlying tp = some (.slice ep)) (hep : P.underlying ep = some (.struct #[h0, h1, h2, h3])) (hop : oneCellFields P #[h0, h1, h2, h3] = true) (hCp : P.cellsOf ep = 4) (hh0 : P.underlying h0.type = some (.int .i64)) (hh1 : P.underlying h1.type = some (.int .i64)) (hh2 : P.underlying h2.type = some (.int .i64)) (hh3 : P.underlying h3.type = some (.slice e8)) (h8 : P.underlying e8 = some (.int .u8)) (hc8 : P.cellsOf e8 = 1)
    (hc : w.cells? base b (P.cellsOf t) = some cs) (hf' : DataW.trod enc P w base spare held n t cs = some (D, Pl)) (hsp : ∀ b, spare b = true) :
    ∃ u : MV, MethArg w u ∧ ∀ j x, (mvCells u)[j]? = some x → w.cell? (b.add j) = some x := by
  obtain ⟨_, hlen, hcell⟩ := World.cells?_some hc
  obtain ⟨v0, m0, y0, c0, t0⟩ := row_cell ht hone hC hf' 0 f0 rfl
  obtain ⟨v1, m1, y1, c1, t1⟩ := row_cell ht hone hC hf' 1 f1 rfl
  obtain ⟨v2, m2, y2, c2, t2⟩ := row_cell ht hone hC hf' 2 f2 rfl
  rw [hf1] at t1
  rw [hf2] at t2
  obtain ⟨x0, e0, _, _⟩ := DataW.trod_string hf0 t0
  simp only [List.cons.injEq, and_true] at e0
  obtain ⟨A1, k1, ls, e1, o1, a1⟩ := open_list (α := Mt.Lit) 2 litCells2 (fun x => x.k < 256) ⟨0, ⟨#[]⟩⟩ (fun x => (by decide : 0 < 2)) hl hCl (fun n b cs D Pl hc ht => open_lit9 hel hol hCl hg0 hg1 hc ht) t1 hsp
  obtain ⟨A2, k2, vs, e2, o2, a2⟩ := open_list (α := PV) 4 pvCells (fun v => BytesAt w w.heap.size v.A v.p.code ∧ v.p.code.length ≤ v.c ∧ v.c ≤ 9223372036854775807) ⟨⟨0, 0, 0, []⟩, none, 0⟩ (fun x => (by decide : 0 < 4)) hp hCp (fun n b cs D Pl hc ht => open_part9 hep hop hCp hh0 hh1 hh2 hh3 h8 hc8 hc ht hsp) t2 hsp
  refine ⟨⟨x0, ls, A1, k1, vs, A2, k2⟩, ⟨⟨o1, a1⟩, ⟨o2, a2⟩⟩, fun j u hu => ?_⟩
  subst e0 e1 e2
  unfold mvCells at hu
  rcases j with _ | _ | _ | j
  · have e : Value.string x0 = u := by simpa using hu
    rw [← e, hcell 0 (by omega)]; exact c0
  · have e : Value.slice A1 ls.length k1 = u := by simpa using hu
    rw [← e, hcell 1 (by omega)]; exact c1
  · have e : Value.slice A2 vs.length k2 = u := by simpa using hu
    rw [← e, hcell 2 (by omega)]; exact c2
  · simp at hu
/-- Classes that came in. -/
theorem open_classes {s e s1 e1 s2 e2 : TypeId} {f0 f1 f2 f3 : Field} {r : Reach} {b0 : Nat} {v : Value} {d : DataW H} {ps : List MemPlace} (hs : P.underlying s = some (.slice e)) (he : P.underlying e = some (.struct #[f0, f1, f2, f3])) (hone : oneCellFields P #[f0, f1, f2, f3] = true) (hC : P.cellsOf e = 4)
    (h0 : P.underlying f0.type = some .string) (h1 : P.underlying f1.type = some (.int .i64)) (hf2 : f2.type = s1) (hf3 : f3.type = s2) (h2 : P.underlying s1 = some (.slice e1)) (k2 : P.underlying e1 = some .string) (l2 : P.cellsOf e1 = 1) (h3 : P.underlying s2 = some (.slice e2)) (k3 : P.underlying e2 = some (.int .i64)) (l3 : P.cellsOf e2 = 1)
    (hval : Value.okWide P w r b0 s v) (h : DataW.Trod enc P w base spare held s v d ps) (hsp : ∀ b, spare b = true) :
    ∃ (A : Option Addr) (c : Nat) (l : List CV), v = .slice A l.length c ∧ ClsArg w A l ∧ l.length ≤ c := by
  obtain ⟨A, len, cap, rfl⟩ := okWide_slice hs hval
  obtain ⟨fuel, hf⟩ := h
  obtain ⟨A', c', vs, k1, k2', k3', k4⟩ := open_listc (α := CV) 4 cvCells (CvOk w) ⟨⟨⟨#[]⟩, 0, [], []⟩, none, 0, none, 0⟩ (fun x => (by decide : 0 < 4)) hs hC (fun n b cs D Pl hc ht => open_cls10 he hone hC h0 h1 hf2 hf3 h2 k2 l2 h3 k3 l3 hc ht hsp) (by simpa [Value.cells] using hf) hsp
  exact ⟨A', c', vs, k1, ⟨k3', k4⟩, k2'⟩
/-- Methods that came in. -/
theorem open_meths {s t tl tp el ep e8 : TypeId} {f0 f1 f2 g0 g1 h0 h1 h2 h3 : Field} {r : Reach} {b0 : Nat} {v : Value} {d : DataW H} {ps : List MemPlace} (hs : P.underlying s = some (.slice t))
    (ht : P.underlying t = some (.struct #[f0, f1, f2])) (hone : oneCellFields P #[f0, f1, f2] = true) (hC : P.cellsOf t = 3) (hf0 : P.underlying f0.type = some .string) (hf1 : f1.type = tl) (hf2 : f2.type = tp)
    (hl : P.underlying tl = some (.slice el)) (hel : P.underlying el = some (.struct #[g0, g1])) (hol : oneCellFields P #[g0, g1] = true) (hCl : P.cellsOf el = 2) (hg0 : P.underlying g0.type = some (.int .u8)) (hg1 : P.underlying g1.type = some .string)
    (hp : P.underlying tp = some (.slice ep)) (hep : P.underlying ep = some (.struct #[h0, h1, h2, h3])) (hop : oneCellFields P #[h0, h1, h2, h3] = true) (hCp : P.cellsOf ep = 4) (hh0 : P.underlying h0.type = some (.int .i64)) (hh1 : P.underlying h1.type = some (.int .i64)) (hh2 : P.underlying h2.type = some (.int .i64)) (hh3 : P.underlying h3.type = some (.slice e8)) (h8 : P.underlying e8 = some (.int .u8)) (hc8 : P.cellsOf e8 = 1)
    (hval : Value.okWide P w r b0 s v) (h : DataW.Trod enc P w base spare held s v d ps) (hsp : ∀ b, spare b = true) :
    ∃ (A : Option Addr) (c : Nat) (l : List MV), v = .slice A l.length c ∧ MethsArg w A l ∧ l.length ≤ c := by
  obtain ⟨A, len, cap, rfl⟩ := okWide_slice hs hval
  obtain ⟨fuel, hf⟩ := h
  obtain ⟨A', c', vs, k1, k2', k3', k4⟩ := open_listc (α := MV) 3 mvCells (MethArg w) ⟨⟨#[]⟩, [], none, 0, [], none, 0⟩ (fun x => (by decide : 0 < 3)) hs hC (fun n b cs D Pl hc hd => open_methc ht hone hC hf0 hf1 hf2 hl hel hol hCl hg0 hg1 hp hep hop hCp hh0 hh1 hh2 hh3 h8 hc8 hc hd hsp) (by simpa [Value.cells] using hf) hsp
  exact ⟨A', c', vs, k1, ⟨k3', k4⟩, k2'⟩
/-- What is asked. -/
theorem open_ask10 {t : TypeId} {f0 f1 f2 f3 f4 : Field} {r : Reach} {b0 : Nat} {v : Value} {d : DataW H} {ps : List MemPlace}
    (ht : P.underlying t = some (.struct #[f0, f1, f2, f3, f4])) (hone : oneCellFields P #[f0, f1, f2, f3, f4] = true) (hC : P.cellsOf t = 5) (hf0 : P.underlying f0.type = some (.int .i64)) (hf1 : P.underlying f1.type = some (.int .i64)) (hf2 : P.underlying f2.type = some (.int .i64)) (hf3 : P.underlying f3.type = some .string) (hf4 : P.underlying f4.type = some .string)
    (hval : Value.okWide P w r b0 t v) (h : DataW.Trod enc P w base spare held t v d ps) :
    ∃ (x y z : Int) (s n : ByteArray), v = .agg #[.int .i64 x, .int .i64 y, .int .i64 z, .string s, .string n] ∧ Vi.I64 x ∧ Vi.I64 y ∧ Vi.I64 z := by
  obtain ⟨cs, rfl, hsz⟩ := okWide_struct ht hval
  rw [hC] at hsz
  obtain ⟨fuel, hf⟩ := h
  have hf' : DataW.trod enc P w base spare held fuel t cs.toList = some (d, ps) := by simpa [Value.cells] using hf
  obtain ⟨v0, m0, y0, c0, t0⟩ := row_cell ht hone hC hf' 0 f0 rfl
  obtain ⟨v1, m1, y1, c1, t1⟩ := row_cell ht hone hC hf' 1 f1 rfl
  obtain ⟨v2, m2, y2, c2, t2⟩ := row_cell ht hone hC hf' 2 f2 rfl
  obtain ⟨v3, m3, y3, c3, t3⟩ := row_cell ht hone hC hf' 3 f3 rfl
  obtain ⟨v4, m4, y4, c4, t4⟩ := row_cell ht hone hC hf' 4 f4 rfl
  obtain ⟨x0, e0, _, w0⟩ := DataW.trod_int hf0 t0
  obtain ⟨x1, e1, _, w1⟩ := DataW.trod_int hf1 t1
  obtain ⟨x2, e2, _, w2⟩ := DataW.trod_int hf2 t2
  obtain ⟨x3, e3, _, _⟩ := DataW.trod_string hf3 t3
  obtain ⟨x4, e4, _, _⟩ := DataW.trod_string hf4 t4
  simp only [List.cons.injEq, and_true] at e0 e1 e2 e3 e4
  refine ⟨x0, x1, x2, x3, x4, ?_, i64_bounds w0, i64_bounds w1, i64_bounds w2⟩
  subst e0 e1 e2 e3 e4
  rw [Array.getElem?_toList] at c0 c1 c2 c3 c4
  congr 1
  apply Array.ext (by rw [hsz]; rfl)
  intro i h1 h2
  rcases i with _ | _ | _ | _ | _ | i
  · exact (Array.getElem?_eq_some_iff.1 c0).2
  · exact (Array.getElem?_eq_some_iff.1 c1).2
  · exact (Array.getElem?_eq_some_iff.1 c2).2
  · exact (Array.getElem?_eq_some_iff.1 c3).2
  · exact (Array.getElem?_eq_some_iff.1 c4).2
  · simp at h2; omega
end
end Go.Proofs.YtjladeiecokpfaaGreatDoor
